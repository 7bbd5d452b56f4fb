import Derived.RangeFuncNested
import Derived.RangeFuncBound
import Derived.Test.YtgcmhaghebhjnaaGreatDoorPKaBase
import Derived.Shelf.RegionOpen
import Derived.Sort.LoopGhostIn
import Derived.OwnWalkIn
import Derived.LoopNIn
set_option linter.unusedVariables false
set_option maxHeartbeats 16000000
set_option maxRecDepth 100000
namespace Go.Proofs.YtgcmhaghebhjnaaGreatDoor
open Go.RowKit Tryz List
variable {B B0 N bk cap cs d g gs n off r0:Nat} {F:Fence} {K T:Nd} {P:Program} {Q:Exit->Act->World->Prop} {W0 w w' wr:World} {a:Act} {c:Code} {e:TypeId} {u v v':Value} {xs:List Value}
variable {G :Prop}
theorem aeR (h:G:=by
 rw[z7]at uD fH⊢;have hJ1:axc pre w1:=hJ _ _ _ Uf.o fH;have uC:∀u,pre.map key++(e.D.f 0,e.d)::iC (qy e (e.D.f 0) u R)=T.pre 0:=fun u=>by
  have:=IU.o.seq;rw[qw e R u (.slice none 0 0) HT.o,qx,avo h1]at this;exact this
 have Ep:=Z uD;have HME:Hid ((iC<|e::R).length=gk):=HK.o.symm;have N6:Hid (∀u,iC (e::R)=(e.D.f 0,e.d)::iC (qy e (e.D.f 0) u R)):=fun u=>by
  have:=qw e R u (.slice none 0 0) HT.o;rw[qx,avo h1]at this;exact this
 clear uD fH z7;have apw:=kk;exact aeW):G:=h
theorem aeS (h:G:=by
 gi_region_with_o ((refine⟨trivial,?_⟩;gi_at_call 44;refine(avT.2<|Lg _ _ _ _ _ _ _).mono ?_;rintro e' w' ⟨rfl,hb3⟩))
 all_goals exact⟨rfl,(avB _ _).drew.trans (by assumption)⟩):G:=h
theorem aeT (h:G:=by have hx:=hb2.o rfl;clear hb1 hb2;go_simp;gi_wp2;exact avr (results_none rfl _ _ _) rfl ⟨⟨_,rfl⟩,.inr ⟨_,trivial,hx⟩⟩):G:=h
theorem aeU (h:G:=by
 gi_region_with_o ((refine El.o.mono ?_;rintro e' W' ⟨b,rfl,hb1,hb2⟩))
 all_goals exact⟨_,rfl,by assumption,by assumption⟩):G:=h
theorem aeV (h:G:=by
 have hm:(e.D.f 0,e.d)∈T.pre 0:=by rw[<-Yf.o];simp
 have:=AP T 0 _ hm;simpa using this):G:=h
theorem aeW (h:G:=by
  obtain⟨ak,ck,hgg,k0,k1,k2,k3,YO,LU⟩:=H6 Ep.o HV.o;have hJ2:axc pre w1.drew:=hJ _ _ _ hJ1 (avB _ _).drew;have Yf:=Z<|uC<|.slice ak (e.D.f 0).q ck;have HKR:=Z YO;have HKF:=Z LU;obtain⟨fn,tmps,assign,bod,hy,hR⟩:=hY pre ⟨e.D.f 0,e.d,.slice ak (e.D.f 0).q ck⟩ w1.drew hJ2 ⟨⟨_,Yf.o⟩,YO,LU⟩;have hR2:=hR.mono (R':=fun e' W'=>∃b:Bool,e'=.returned (.bool b)/\Hid (b=true->axc (pre++[⟨e.D.f 0,e.d,.slice ak (e.D.f 0).q ck⟩]) W'/\KeptF (fun k=>mine k\/k=B+1) w1.drew W')/\Hid (b=false->Jx (pre++[⟨e.D.f 0,e.d,.slice ak (e.D.f 0).q ck⟩]) W'))
    (fun e' W' h=>by
      rcases h with⟨rfl,h,h'⟩|⟨rfl,h⟩
      · exact⟨true,rfl,(fun _=>⟨h,h'⟩),(fun h=>by cases h)⟩
      · exact⟨false,rfl,(fun h=>by cases h),(fun _=>h)⟩)
  simp only[CO,Nd.val]at hy;have o7:=Ep.o.l0;have LS:=Ep.o.l1;rw[HV.o]at o7;have El:=Z hR2;clear YO LU hR hR2 uC hJ2 hJ1;apply Jl (R:=fun b W'=>Hid (b=true->axc (pre++[⟨e.D.f 0,e.d,.slice ak (e.D.f 0).q ck⟩]) W'/\KeptF (fun k=>mine k\/k=B+1) w1.drew W')/\Hid (b=false->Jx (pre++[⟨e.D.f 0,e.d,.slice ak (e.D.f 0).q ck⟩]) W'))
  case h1=>
    exact aeU
  first
  | clear apv
    case h2=>
      rintro b W'⟨hb1,hb2⟩;cases b with
      | false=>
        exact aeT
      | true=>
        have apx:=kk;exact aeX
  | clear apw
    case h2=>
      rintro b W'⟨hb1,hb2⟩;cases b with
      | false=>
        exact aeT
      | true=>
        have apy:=kk;exact aeX):G:=h
theorem aeX (h:G:=by
 obtain⟨Ma,xS⟩:=hb1.o rfl;clear hb1 hb2;have Ti:=xS.size;have iV:∀k,k<w1.heap.size->(k<B0\/k=bk\/B+2<=k)->W'.heap[k]?=w1.heap[k]?:=fun k z hc=>xS.same k z (fun h=>h.elim (fun h=>by have:=hmine k h;omega) fun h=>by omega);have hN:=Ep.o.size;have hcg:∀o,W'.cell? ⟨g,o,none⟩=w1.cell? ⟨g,o,none⟩:=fun o=>avt (a:=⟨g,o,none⟩)<|iV g O O;rw[<-hcg]at k0 k1 k2 k3;have yw:=Z<|oH Ep.o Mc ju Ti iV;have o7:=yw.o.l0;have LS:=yw.o.l1;rw[HV.o]at o7;have hkfn:=yw.o.kf;have HJ':=Z Ma;clear Ep El hy xS iV hcg Ma;go_simp;gi_wp2;apply FM (R:=fun W2=>Hid<|Below W'.heap.size W' W2)
 case h1=>
  exact aeS
 first
 |clear apx
  case h2=>
   have apB:=kk;exact aeZ
 |clear apy
  case h2=>
   have apC:=kk;exact aeZ):G:=h
theorem aeY (h:G:=by
 rw[qy,avA hK]at Dy ba;have Y4:=Z Dy;have Nt:=Z ba;clear Dy ba;go_simp;gi_wp2_with((gi_at_builtin;refine wpListIn_append_own _ rfl _ _ 120 rfl (B+3) 119 i0 (.agg #[.slice none 0 0,.int .i64 0]) 2 32 underlying120 nB mT eu ed rfl J _ _ _ rfl (Ct.o.own.alloc _) ⟨W2.heap.size,0,none⟩ 1 1 [.slice ak (e.D.f 0).q ck,.int .i64<|(e.d:Int)+1] rfl rfl (EA _ _ _ _) (Ez _ _ _ _) (by unfold maxLen;first|omega|(simp;omega)) (by first|omega|(simp;omega)) (by first|omega|(simp;omega)) ?_;intro v'' w4 LH tf hnil''))
 first
 |clear apz
  have Hw:=Bc (T:=T) (pre:=pre++[⟨e.D.f 0,e.d,.slice ak (e.D.f 0).q ck⟩]) (d:=e.d+1) (oH Ct.o Mc ju M fun k z _=>avI W2 _ k z) Mc ju HKR.o HKF.o hK tf (fun k e=>by have:gv=k:=avq e;omega) LH aaM;have hJ4:=hJ _ _ _ HJ3.o (((avB _ W2).alloc O _).grown tf aah fun k e=>by have:gv=k:=avq e;omega);gi_roundg (iC<|⟨e.D.f 0,e.d+1,.slice ak (e.D.f 0).q ck⟩::(⟨qo e.D,e.d,.slice (some ⟨g,off+4,none⟩) (e.D.q-1)<|cap-1⟩::R)).length
  case measure=>rw[<-HME.o,Nt.o];simp
  case rel=>exact⟨_,_,rfl,Hw,hJ4⟩
 |clear apA
  have Hw:=Bc (T:=T) (pre:=pre++[⟨e.D.f 0,e.d,.slice ak (e.D.f 0).q ck⟩]) (d:=e.d+1) (oH Ct.o Mc ju M fun k z _=>avI W2 _ k z) Mc ju HKR.o HKF.o hK tf (fun k e=>by have:gs=k:=avq e;omega) LH aaM;have hJ4:=hJ _ _ _ HJ3.o (((avB _ W2).alloc O _).grown tf aah fun k e=>by have:gs=k:=avq e;omega);gi_roundg (iC<|⟨e.D.f 0,e.d+1,.slice ak (e.D.f 0).q ck⟩::R).length
  case measure=>rw[<-HME.o,Nt.o];simp
  case rel=>exact⟨_,_,rfl,Hw,hJ4⟩):G:=h
theorem aeZ (h:G:=by
 intro W2 hb3;have hb3:=hb3.o;have sP:=hb3.size;have hN2:=yw.o.size;have Ct:=Z<|oH yw.o Mc ju sP fun k z _=>hb3.block k z;have HJ3:=Z<|hJ _ _ _ HJ'.o<|hb3.mono O;have LS:=Ct.o.l1;have V1:e.d<T.size:=by
  exact aeV
 have Dy:=Yf.o;have ba:=N6.o<|.slice ak (e.D.f 0).q ck;clear yw HJ' hb3 k0 k1 k2 k3 o7 hkfn;by_cases hK:0<(e.D.f 0).q;first
 |clear apB
  ·have apz:=kk;exact aeY
  ·have apD:=kk;exact ae0
 |clear apC
  ·have apA:=kk;exact aeY
  ·have apE:=kk;exact ae0):G:=h
theorem ae0 (h:G:=by
 rw[qy,avo hK]at Dy ba;have Y4:=Z Dy;have Nt:=Z ba;clear Dy ba;go_simp;gi_wp2;have Hw:=Lj (T:=T) (pre:=pre++[⟨e.D.f 0,e.d,.slice ak (e.D.f 0).q ck⟩]) Ct.o aaM;first
 |clear apD
  gi_roundg (iC<|⟨qo e.D,e.d,.slice (some ⟨g,off+4,none⟩) (e.D.q-1)<|cap-1⟩::R).length
  case measure=>rw[<-HME.o,Nt.o];simp
  case rel=>exact⟨_,_,rfl,Hw,HJ3.o⟩
 |clear apE
  gi_roundg (iC R).length
  case measure=>rw[<-HME.o,Nt.o];simp
  case rel=>exact⟨_,_,rfl,Hw,HJ3.o⟩):G:=h
section
structure KeptF (mine:Nat->Prop)(A C:World):Prop where
 size:A.heap.size<=C.heap.size
 same:∀k,k<A.heap.size->¬mine k->C.heap[k]?=A.heap[k]?
theorem KeptF.trans {m:Nat->Prop}{A B C:World}(h:KeptF m A B)(g:KeptF m B C):KeptF m A C:=
 ⟨avK h.size g.size,fun k z hm=>(g.same k (awB z h.size) hm).trans<|h.same k z hm⟩
def postF {α:Type}(mine:Nat->Prop)(axb:List α->World->Prop)(Ix:Code->List α->World->Prop)(xs:List α)(W3:World):Exit->Act->World->Prop
 |.normal,_,W'=>KeepsOthers W3 W'/\KeptF mine W3 W'/\axb xs W'
 |.ret,_,W'=>KeepsOthers W3 W'/\Ix .ret xs W'
 |.exit id,_,W'=>KeepsOthers W3 W'/\Ix (.exit id) xs W'
 |.goto t,_,W'=>KeepsOthers W3 W'/\Ix (.goto t) xs W'
 |.panic _,_,_=>False
 |.outgrown,_,_=>False
def mR {β:Type}(B:Nat)(axb:β->World->Prop):Prop:=∀s A C,axb s A->Below B A C->axb s C
variable {F :Fence} {n:Nat} {P:Program}
theorem fV {α:Type}{g:Operand}{ps:Array Tmp}{assign body:Code}
    (hro:F.round=none) (h1:1<=n) {gf:Nat} {lb:Array Value} (hg:a.eval g=.func (.func gf) #[] lb) (hFg:F.fn gf) (eg:∀args w,(callFunc gf args).run P w=.ok (.enter gf args) w)
    {encs:α->Array Value} {S Sp:List α->Prop} {Came:List α->α->Prop} {mine:Nat->Prop}
    (uC:∀(l:Nat)(axc Jx:List α->World->Prop)(W:World),W.heap.size=w.heap.size+2->Below w.heap.size w W->
      mR (w.heap.size+2) axc->mR (w.heap.size+2) Jx->(∀pre A,axc pre A->w.heap.size+2<=A.heap.size)->
      (∀pre x W1,axc pre W1->Came pre x->YieldAt F (n-1-1) P l (encs x) W1 fun e W'=>
        (e=.returned (.bool true)/\axc (pre++[x]) W'/\KeptF (fun k=>mine k\/k=w.heap.size+1) W1 W')\/(e=.returned (.bool false)/\Jx (pre++[x]) W'))->
      axc [] W->CallsIn F (n-1) P gf (#[.func (.yield l) #[] #[]]++lb) W fun e W'=>(∃v,e=.returned v)/\((∃xs,S xs/\axc xs W')\/(∃pre,Sp pre/\Jx pre W')))
    (P6:∀x,(encs x).size=ps.size)
    (axb:List α->World->Prop) (Ix:Code->List α->World->Prop) (hI:mR w.heap.size axb) (Mb:∀c,mR w.heap.size<|Ix c) (h0:axb [] w) (a₁:α->World->Act) (box:α->World->World) (DN:∀x W,Below W.heap.size W<|box x W)
    (zl:∀(l:Nat)(pre:List α)(x:α)(W:World)(K:Act->World->Prop),Came pre x->K (a₁ x W) (box x W)->
      assign.wpIn (F.inRound l) (n-1-1) P (Exit.then K (fun _ _ _=>False)) {tmps:=(ps.zip (encs x)).foldl (fun t(p,v)=>t.setIfInBounds p v) a.tmps,defers:=[]} W)
    (L7:∀(l:Nat)(pre:List α)(x:α)(W1 W3:World)(r:Loop),axb pre W1->w.heap.size+2<=W1.heap.size->Came pre x->W3=(box x W1).putObj (w.heap.size+1) (.loop r)->axb pre W3->
      body.wpIn (F.inRound l) (n-1-1) P (postF mine axb Ix (pre++[x]) W3) (a₁ x W1) W3)
    (L3:∀(D:Nat)(xs:List α)(W:World),w.heap.size<=D->S xs->axb xs W->W.heap[D]?=some (.deferred<|some [])->Q .normal {a with defers:={target:=.collected D,args:=#[]}::a.defers} W)
    (o5:∀(D:Nat)(c:Code)(pre:List α)(W:World),w.heap.size<=D->Sp pre->Ix c pre W->W.heap[D]?=some (.deferred<|some [])->c.wpIn F n P Q {a with defers:={target:=.collected D,args:=#[]}::a.defers} W):
    (Code.rangeFunc g ps assign body).wpIn F n P Q a w:=by
  refine wpIn_rangeFunc ?_;intro fn Qf;rw[hro];obtain⟨rec,iQ⟩:∃rec:LoopState->Option Code->Loop,rec=fun st pe=>{state:=st,pending:=pe,fn,tmps:=a.tmps,params:=ps,assign,body,defers:=w.heap.size}:=⟨_,rfl⟩;obtain⟨W1,BA⟩:∃W1,(w.alloc<|.deferred<|some []).alloc (.loop<|rec .ready none)=W1:=⟨_,rfl⟩;have L9:W1.heap[w.heap.size+1]?=some (.loop<|rec .ready none):=by
    rw[<-BA];have:=World.alloc_heap_new (w.alloc<|.deferred<|some [])<|.loop<|rec .ready none;rwa[avs]at this
  have hK1:W1.heap[w.heap.size]?=some (.deferred<|some []):=by
    rw[<-BA];exact(avI _ _ _ M).trans<|World.alloc_heap_new w _
  have Ad:Below w.heap.size w W1:=by rw[<-BA];exact((avB _ w).alloc lr _).alloc M _
  have hI1:axb [] W1:=hI _ _ _ h0 Ad;have vZ:W1.heap.size=w.heap.size+2:=by rw[<-BA];simp
  refine⟨w.heap.size+1,[{target:=.collected w.heap.size,args:=#[]}],W1,{target:=.fn (.func gf) lb,args:=#[.func (.yield (w.heap.size+1)) #[] #[]]},W1,gf,
    #[.func (.yield (w.heap.size+1)) #[] #[]]++lb,W1,?_,?_,?_,?_,fun _=>h1,?_⟩
  · rw[<-BA,iQ];exact run_enterLoop_outer _ _ _ _ _
  · simp only[resolve,hg];simp[go_sem]
  · intro f' hf';simp[Target.leads]at hf';subst hf';exact hFg
  · simp[invoke,go_sem,eg]
  · have Da:∀{β:Type}{axb:β->World->Prop}{s:β}{A:World}(o:Obj),mR w.heap.size axb->axb s A->axb s (A.putObj (w.heap.size+1) o):=fun o hU hi=>
      hU _ _ _ hi ⟨rfl,rfl,rfl,M,fun k z=>World.putObj_heap_other O⟩
    refine(uC (w.heap.size+1)
      (fun pre W=>axb pre W/\W.heap[w.heap.size+1]?=some (.loop<|rec .ready none)/\W.heap[w.heap.size]?=some (.deferred<|some []))
      (fun pre W=>∃c,Ix c pre W/\W.heap[w.heap.size+1]?=some (.loop<|rec .done<|some c)/\W.heap[w.heap.size]?=some (.deferred<|some []))
      W1 vZ Ad
      (fun s A C hs I=>⟨hI s A C hs.1<|I.mono O,(I.block _ O).trans hs.2.1,(I.block _ O).trans hs.2.2⟩)
      (fun s A C hs I=>by
        obtain⟨c,hc,hl,z⟩:=hs
        exact⟨c,Mb c s A C hc (I.mono O),(I.block _ O).trans hl,(I.block _ O).trans z⟩)
      (fun pre A hs=>by have:=(avp.1 hs.2.1).1;omega)
      ?_ ⟨hI1,L9,hK1⟩).mono ?_
    ·
      rintro pre x W⟨hi,hl,z⟩gC;have cg:w.heap.size+2<=W.heap.size:=by have:=(avp.1 hl).1;omega
      have hy:=run_yield (P:=P) (args:=encs x) hl (by rw[iQ];exact P6 x);rw[iQ]at hy;have iY:=DN x W;have sP:=iY.size;have VQ:(box x W).heap[w.heap.size+1]?=some (.loop<|rec .ready none):=(iY.block _ O).trans hl;have VS:(box x W).heap[w.heap.size]?=some (.deferred<|some []):=(iY.block _ O).trans z;refine⟨fn,_,assign,body,hy,roundIn_of_wpIn Qf<|zl _ pre x W _ gC ⟨_,run_beginRound VQ (by rw[iQ]),?_⟩⟩;obtain⟨W3,nF⟩:∃W3,(box x W).putObj (w.heap.size+1) (.loop {rec .ready none with state:=.busy})=W3:=⟨_,rfl⟩;have LQ:W3.heap[w.heap.size+1]?=some (.loop {rec .ready none with state:=.busy}):=by rw[<-nF];exact World.putObj_heap_same O
      have iR:W3.heap[w.heap.size]?=some (.deferred<|some []):=by rw[<-nF];exact(World.putObj_heap_other O).trans VS
      have oW:axb pre W3:=by rw[<-nF];exact Da _ hI<|hI _ _ _ hi<|iY.mono O
      have dP:(box x W).heap.size<=W3.heap.size:=by rw[<-nF];simp
      have Kj:KeptF (fun k=>mine k\/k=w.heap.size+1) W W3:=⟨O,fun k be hm=>by
        have bY:k≠w.heap.size+1:=fun e=>hm<|.inr e
        rw[<-nF]
        exact(World.putObj_heap_other bY).trans (iY.block _ be)⟩
      rw[nF];refine wpIn_mono (L7 _ pre x W W3 _ hi cg gC nF.symm oW) ?_;have fin:∀(jump:Option Code)(W4:World),KeepsOthers W3 W4->
          (Instr.endRound (w.heap.size+1) jump).run P W4=.ok (.bool jump.isNone) (W4.putObj (w.heap.size+1)<|.loop<|rec (if jump.isNone then .ready else .done) jump)/\
          (W4.putObj (w.heap.size+1)<|.loop<|rec (if jump.isNone then .ready else .done) jump).heap[w.heap.size+1]?=some (.loop<|rec (if jump.isNone then .ready else .done) jump)/\
          (W4.putObj (w.heap.size+1)<|.loop<|rec (if jump.isNone then .ready else .done) jump).heap[w.heap.size]?=some (.deferred<|some []):=fun jump W4 oV=>by
        have LP:=oV.same _ _ LQ rfl;have:=run_endRound (P:=P) jump LP;rw[iQ]at this⊢;exact⟨this,World.putObj_heap_same (avp.1 LP).1,(World.putObj_heap_other O).trans<|oV.same _ _ iR rfl⟩
      rintro e a3 W4 y;cases e with
      | normal=>
        obtain⟨oV,EX,DL⟩:=y;obtain⟨hr,Aa,xT⟩:=fin none W4 oV;refine⟨_,_,hr,.inl ⟨rfl,⟨Da _ hI DL,Aa,xT⟩,Kj.trans ⟨?_,fun k be hm=>?_⟩⟩⟩
        · have:=EX.size;simp;omega
        · exact(World.putObj_heap_other fun e=>hm<|.inr e).trans<|EX.same k be fun h=>hm<|.inl h
      | ret=>
        obtain⟨oV,DL⟩:=y;obtain⟨hr,Aa,xT⟩:=fin (some .ret) W4 oV;exact⟨_,_,hr,.inr ⟨rfl,.ret,Da _ (Mb _) DL,Aa,xT⟩⟩
      | exit id=>
        obtain⟨oV,DL⟩:=y;obtain⟨hr,Aa,xT⟩:=fin (some<|.exit id) W4 oV;exact⟨_,_,hr,.inr ⟨rfl,.exit id,Da _ (Mb _) DL,Aa,xT⟩⟩
      | goto t=>
        obtain⟨oV,DL⟩:=y;obtain⟨hr,Aa,xT⟩:=fin (some<|.goto t) W4 oV;exact⟨_,_,hr,.inr ⟨rfl,.goto t,Da _ (Mb _) DL,Aa,xT⟩⟩
      | panic ch=>exact y.elim
      | outgrown=>exact y.elim
    ·
      rintro e W2⟨⟨v,rfl⟩,(⟨xs,hS,hi,hl,z⟩|⟨pre,hSp,c,hi,hl,z⟩)⟩
      · exact⟨none,_,by have:=run_endLoop (P:=P) hl (by rw[iQ];simp);rw[iQ]at this;exact this,L3 _ xs _ lr hS (Da _ hI hi)<|(World.putObj_heap_other O).trans z⟩
      · exact⟨some c,_,by have:=run_endLoop (P:=P) hl (by rw[iQ];simp);rw[iQ]at this;exact this,o5 _ c pre _ lr hSp (Da _ (Mb c) hi)<|(World.putObj_heap_other O).trans z⟩
end
section
open Go.RowKit Go.Shelf
attribute [local go_sem] aws
def AS (R:Act->World->Prop):Exit->Act->World->Prop
 |.normal,a,w=>R a w
 |_,_,_=>False
theorem Jl (A:Bool->Act)(R:Bool->World->Prop)
  (h1:c.wpIn F n P (AS fun a' W'=>∃b,a'=A b/\R b W') a w) (h2:∀b W',R b W'->Q .normal (A b) W'):c.wpIn F n P Q a w:=
 wpIn_mono h1 fun ex a' W' h=>by
  cases ex<;>first|exact h.elim|(obtain⟨b,rfl,hr⟩:=h;exact h2 b W' hr)
theorem FM (A:Act)(R:World->Prop)
  (h1:c.wpIn F n P (AS fun a' W'=>a'=A/\R W') a w) (h2:∀W',R W'->Q .normal A W'):c.wpIn F n P Q a w:=
 wpIn_mono h1 fun ex a' W' h=>by
  cases ex<;>first|exact h.elim|(obtain⟨rfl,hr⟩:=h;exact h2 W' hr)
def CO (x:jr):Array Value:=#[x.D.val x.v,.int .i64 (x.d:Int)]
def key (x:jr):Nd×Nat:=(x.D,x.d)
def FB (T:Nd)(B0:Nat)(W0:World)(pre:List jr)(x:jr):Prop:=(∃rest,pre.map key++key x::rest=T.pre 0)/\Row 0 B0 W0 x.D x.v/\x.D.R
def IG (T:Nd)(xs:List jr):Prop:=xs.map key=T.pre 0
def yx (B0 r0:Nat)(W0 wr:World)(e:jr):Prop:=
 ∃g off cap,e.v=.slice (some ⟨g,off,none⟩) e.D.q cap/\0<e.D.q/\e.D.q<=cap/\cap<=9223372036854775807/\(g<B0\/g=r0)/\∀i,i<e.D.q->
  ∃u,wr.cell? ⟨g,off+i*4,none⟩=some (.int .i64 (e.D.f i).y)/\wr.cell? ⟨g,off+i*4+1,none⟩=some (.int .i64 (e.D.f i).E)/\
   wr.cell? ⟨g,off+i*4+2,none⟩=some (.string (e.D.f i).z)/\wr.cell? ⟨g,off+i*4+3,none⟩=some u/\Row 0 B0 W0 (e.D.f i) u/\(e.D.f i).R
structure Cg (T:Nd)(B0 B bk:Nat)(W0:World)(pre S:List jr)(v:Value)(wr:World):Prop where
 seq:pre.map key++iC S=T.pre 0
 own:wr.ownsRow (B+3) 119 2 v S.length (nJ S)
 cg:∀e∈S,yx B0 (B+2) W0 wr e
 base:∀k,k<B0->wr.heap[k]?=W0.heap[k]?
 kf:wr.cell? ⟨bk,0,none⟩=some (.func (.func 44) #[] #[])
 size:B+3<=wr.heap.size
theorem FP {pre S:List jr}(h:Cg T B0 B bk W0 pre S v wr):S.length<=T.size:=by
 have h1:=UY S fun e he=>by obtain⟨_,_,_,_,h,_⟩:=h.cg e he;exact h
 have h2:=congrArg List.length h.seq;rw[sZ,avu]at h2;omega
theorem Vd {base:Nat}{size:Nat}(h:w.ownsRow base e size v n xs):∃a c,v=.slice a n c:=by
 rcases h.2 with⟨rfl,rfl⟩|⟨g,cap,cur,rfl,_⟩
 ·exact⟨none,0,rfl⟩
 ·exact⟨_,cap,rfl⟩
theorem KG {size:Nat}(h:w.ownsRow B e size v (n+1) xs):∃g cap,v=.slice (some ⟨g,0,none⟩) (n+1) cap/\n+1<=cap/\cap<=9223372036854775807/\B<=g/\g<w.heap.size:=by
 rcases h.2 with⟨_,h⟩|⟨g,cap,_,hv,I,hh,hc,hm,_⟩
 ·omega
 ·unfold maxLen at hm;exact⟨g,cap,hv,hc,hm,I,(avp.1 hh).1⟩
theorem FS {e:jr}{R:List jr}(h:w.ownsRow B 119 2 (.slice (some ⟨g,0,none⟩) (R.length+1) cap) (R.length+1) (nJ<|e::R)):
  w.cell? ⟨g,R.length*2,none⟩=some e.v/\w.cell? ⟨g,R.length*2+1,none⟩=some (.int .i64 (e.d:Int)):=by
 have hl:=xZ R;refine⟨?_,?_⟩
 ·rw[h.cellAt _ O,jm,avO O];simp[hl]
 ·rw[h.cellAt _ O,jm,avO O];simp[hl]
theorem EH {e:jr}{R:List jr}(h:w.ownsRow B 119 2 (.slice (some ⟨g,0,none⟩) (R.length+1) cap) (R.length+1) (nJ<|e::R)):
  w.ownsRow B 119 2 (.slice (some ⟨g,0,none⟩) R.length cap) R.length (nJ R):=by
 have hl:=xZ R;rcases h.2 with⟨h',_⟩|⟨g',nR,cur,h',I,hh,hc,hm,hs,ht⟩
 ·simp at h'
 ·simp only[Value.slice.injEq,awM,Addr.mk.injEq,and_true,true_and]at h';obtain⟨rfl,rfl⟩:=h';refine⟨hl,.inr ⟨g,cap,cur,rfl,I,hh,O,hm,hs,?_⟩⟩;have:cur.toList.take (R.length*2)=(cur.toList.take<|(R.length+1)*2).take (R.length*2):=by rw[take_take,awT O]
  rw[this,ht,jm,take_append_of_le_length O,awe O]
theorem EA (w:World)(a b:Value)(t:TypeId):∀j u,[a,b][j]?=some u->(w.alloc<|.cells #[a,b] t).cell? ((⟨w.heap.size,0,none⟩:Addr).add j)=some u:=by
 intro j u hj;match j,hj with
 |0,hj=>simp at hj;subst hj;simp[Addr.add]
 |1,hj=>simp at hj;subst hj;simp[Addr.add]
 |j+2,hj=>simp at hj
theorem Ez (a:Option Addr)(l c:Nat)(d:Int):∀u∈[Value.slice a l c,.int .i64 d],u.oneCell'=true:=by intro u hu;simp at hu;rcases hu with rfl|rfl<;>rfl
theorem He :(prog.info? 119).map (fun i=>(i.zero,i.size,i.bytes))=some (some<|.agg #[.slice none 0 0,.int .i64 0],2,32):=by kernel_rfl
theorem CN (T:Nd)(B0 B bk:Nat)(W0 W:World)(au:Option Addr)(cu:Nat)(axc:List jr->World->Prop)(hT:T.R)(DR:W.heap.size=B+2)(Mc:B0<=B)(ju:bk<B)
  (aR:∀k,k<B0->W.heap[k]?=W0.heap[k]?) (fM:Row 0 B0 W0 T (.slice au T.q cu)) (hJ:mR (B+2) axc) (h0:axc [] W) (LU:W.cell? ⟨bk,0,none⟩=some (.func (.func 44) #[] #[])):
  Cg T B0 B bk W0 [] [⟨PG T,0,.slice (some ⟨B+2,0,none⟩) 1 1⟩] (.slice (some ⟨B+2+1,0,none⟩) 1 1)
   ((W.alloc<|nO T<|.slice au T.q cu).alloc<|.cells #[.slice (some ⟨B+2,0,none⟩) 1 1,.int .i64 0] 119)/\
   axc [] ((W.alloc<|nO T<|.slice au T.q cu).alloc<|.cells #[.slice (some ⟨B+2,0,none⟩) 1 1,.int .i64 0] 119):=by
 obtain⟨V,hV⟩:∃V,W.alloc (nO T<|.slice au T.q cu)=V:=⟨_,rfl⟩;have hb1:Below W.heap.size W V:=by rw[<-hV];exact bA
 have hVs:V.heap.size=B+3:=by rw[<-hV];simp;omega
 have hb2:Below V.heap.size V (V.alloc<|.cells #[.slice (some ⟨B+2,0,none⟩) 1 1,.int .i64 0] 119):=bA;have I:=hb1.trans<|hb2.mono hb1.size;have cy:V.heap[B+2]?=some (nO T<|.slice au T.q cu):=by rw[<-hV,<-DR];exact World.alloc_heap_new W _
 rw[hV];refine⟨⟨?_,?_,?_,?_,?_,?_⟩,hJ _ _ _ h0<|I.mono O⟩
 ·simp[iC,AQ]
 ·have:=World.ownsRow_lit (base:=B+3) (e:=119) (size:=2) V #[.slice (some ⟨B+2,0,none⟩) 1 1,.int .i64 0] 1 O aaj rfl;rw[hVs]at this;exact this
 ·intro e he;obtain rfl:=awc.1 he;refine⟨B+2,0,1,rfl,by show 0<1;omega,by show 1<=1;omega,O,.inr rfl,fun i hi=>?_⟩;obtain rfl:i=0:=by have:i<1:=hi;omega
  have hc:∀o,(V.alloc<|.cells #[.slice (some ⟨B+2,0,none⟩) 1 1,.int .i64 0] 119).cell? ⟨B+2,o,none⟩=(#[.int .i64 T.y,.int .i64 T.E,.string T.z,.slice au T.q cu]:Array Value)[o]?:=fun o=>by
   rw[hb2.cell (p:=⟨B+2,o,none⟩) (by show B+2<_;omega)];exact avS _ _ _ _ _ (0,0) cy
  exact⟨_,hc 0,hc 1,hc 2,hc 3,fM,hT⟩
 ·intro k z;rw[I.block k O];exact aR k z
 ·rw[I.cell (p:=⟨bk,0,none⟩) (by show bk<_;omega)];exact LU
 ·have:=hb2.size;omega
theorem hG {e:jr}(h:yx B0 r0 W0 w e)(z:∀k,(k<B0\/k=r0)->w'.heap[k]?=w.heap[k]?):yx B0 r0 W0 w' e:=by
 obtain⟨g,off,cap,hv,h0,h1,h2,hg,hc⟩:=h
 refine⟨g,off,cap,hv,h0,h1,h2,hg,fun i hi=>?_⟩;obtain⟨u,e0,e1,e2,e3,r⟩:=hc i hi;have I:∀o,w'.cell? ⟨g,o,none⟩=w.cell? ⟨g,o,none⟩:=fun o=>avt (a:=⟨g,o,none⟩)<|z g hg;exact⟨u,by rw[I];exact e0,by rw[I];exact e1,by rw[I];exact e2,by rw[I];exact e3,r⟩
theorem KE {base:Nat}{t:TypeId}{size:Nat}(h:w.ownsRow base t size v n xs)(z:∀k,base<=k->k<w.heap.size->w'.heap[k]?=w.heap[k]?):w'.ownsRow base t size v n xs:=by
 obtain⟨h1,h2⟩:=h
 refine⟨h1,?_⟩;rcases h2 with h2|⟨g,cap,cur,hv,hg,hh,r⟩
 ·exact .inl h2
 ·exact .inr ⟨g,cap,cur,hv,hg,by rw[z g hg (avp.1 hh).1];exact hh,r⟩
structure Eg (B0 B bk:Nat)(W0:World)(S:List jr)(v:Value)(N:Nat)(e:jr)(w:World):Prop where
 own:w.ownsRow (B+3) 119 2 v S.length (nJ S)
 cg:∀x∈S,yx B0 (B+2) W0 w x
 self:yx B0 (B+2) W0 w e
 base:∀k,k<B0->w.heap[k]?=W0.heap[k]?
 kf:w.cell? ⟨bk,0,none⟩=some (.func (.func 44) #[] #[])
 size:B+3<=N/\N<w.heap.size
 l0:w.cell? ⟨N,0,none⟩=some e.v
 l1:w.cell? ⟨N,1,none⟩=some (.int .i64 (e.d:Int))
theorem oH {S:List jr}{e:jr}(h:Eg B0 B bk W0 S v N e w)(hB:B0<=B)(ju:bk<B)(hz:w.heap.size<=w'.heap.size)
  (z:∀k,k<w.heap.size->(k<B0\/k=bk\/B+2<=k)->w'.heap[k]?=w.heap[k]?):Eg B0 B bk W0 S v N e w':=by
 have hs:=h.size;have he:∀k,(k<B0\/k=B+2)->w'.heap[k]?=w.heap[k]?:=fun k ig=>z k O O;exact⟨KE h.own fun k h1 h2=>z k h2 O,fun x hx=>hG (h.cg x hx) he,hG h.self he,fun k ig=>(he k (.inl ig)).trans (h.base k ig),
  (avt (a:=⟨bk,0,none⟩)<|z bk O<|.inr<|.inl rfl).trans h.kf,⟨hs.1,O⟩,
  (avt (a:=⟨N,0,none⟩) (z N hs.2 O)).trans h.l0,(avt (a:=⟨N,1,none⟩) (z N hs.2 O)).trans h.l1⟩
theorem Hz {pre R:List jr}{e:jr}{w1:World}(h:Cg T B0 B bk W0 pre (e::R) (.slice (some ⟨gs,0,none⟩) (R.length+1) cs) wr)(hB:B0<=B)(ju:bk<B)
  (hgs:B+3<=gs) (hgs2:gs<wr.heap.size) (hv:e.v=.slice (some ⟨g,off,none⟩) e.D.q cap) (h1:1<e.D.q)
  (aQ:((wr.alloc<|.cells #[.slice (some ⟨g,off,none⟩) e.D.q cap,.int .i64 (e.d:Int)] 119).alloc<|.cells #[.slice (some ⟨g,off+4,none⟩) (e.D.q-1)<|cap-1,.int .i64 (e.d:Int)] 119).grownBy w1 (some gs))
  (dd:w1.ownsRow (B+3) 119 2 v' (R.length+1) (nJ R++[.slice (some ⟨g,off+4,none⟩) (e.D.q-1)<|cap-1,.int .i64 (e.d:Int)])):
  Eg B0 B bk W0 (⟨qo e.D,e.d,.slice (some ⟨g,off+4,none⟩) (e.D.q-1)<|cap-1⟩::R) v' wr.heap.size e w1/\Below (B+2) wr w1:=by
 have hs:=h.size;have cg:=aQ.size;simp only[avs]at cg;have z:∀k,k<wr.heap.size->k≠gs->w1.heap[k]?=wr.heap[k]?:=fun k z bY=>by
  rw[aQ.block k aah fun e=>bY<|avq e,avI _ _ _ aah,avI _ _ _ z]
 have hN:w1.heap[wr.heap.size]?=some (.cells #[.slice (some ⟨g,off,none⟩) e.D.q cap,.int .i64 (e.d:Int)] 119):=by
  rw[aQ.block _ aah (fun e=>by have:=avq e;omega),avI _ _ _ M];exact World.alloc_heap_new wr _
 have he:∀k,(k<B0\/k=B+2)->w1.heap[k]?=wr.heap[k]?:=fun k ig=>z k O O;have S6:=hG (h.cg e<|awC ..) he;refine⟨⟨by rw[jm];exact dd,fun x hx=>?_,S6,fun k ig=>(he k<|.inl ig).trans<|h.base k ig,(avt (a:=⟨bk,0,none⟩)<|z bk O O).trans h.kf,⟨O,O⟩,?_,?_⟩,?_⟩
 ·rcases avZ.1 hx with rfl|hx
  ·obtain⟨g',Vg,nR,Ho,h0,hlc,Ac,hg,hc⟩:=S6;rw[hv]at Ho;simp only[Value.slice.injEq,awM,Addr.mk.injEq,and_true,true_and]at Ho;obtain⟨⟨rfl,rfl⟩,rfl⟩:=Ho;refine⟨g,off+4,cap-1,rfl,by show 0<e.D.q-1;omega,by show e.D.q-1<=cap-1;omega,O,hg,fun i hi=>?_⟩;have ir:i<e.D.q-1:=hi;obtain⟨u,e0,e1,e2,e3,r⟩:=hc (i+1) O;have ea:off+4+i*4=off+(i+1)*4:=O;rw[ea];exact⟨u,e0,e1,e2,e3,r⟩
  ·exact hG (h.cg x<|mem_cons_of_mem _ hx) he
 ·rw[avS _ _ _ _ _ (0,0) hN,hv];rfl
 ·rw[avS _ _ _ _ _ (0,0) hN];rfl
 ·exact(((avB _ wr).alloc O _).alloc aah _).grown aQ aah (fun k e=>by have:=avq e;omega)
theorem xW {pre R:List jr}{e:jr}(h:Cg T B0 B bk W0 pre (e::R) (.slice (some ⟨gs,0,none⟩) (R.length+1) cs) wr)(hB:B0<=B)(ju:bk<B)
  (hv:e.v=.slice (some ⟨g,off,none⟩) e.D.q cap):
  Eg B0 B bk W0 R (.slice (some ⟨gs,0,none⟩) R.length cs) wr.heap.size e (wr.alloc<|.cells #[.slice (some ⟨g,off,none⟩) e.D.q cap,.int .i64 (e.d:Int)] 119)/\
   Below (B+2) wr (wr.alloc<|.cells #[.slice (some ⟨g,off,none⟩) e.D.q cap,.int .i64 (e.d:Int)] 119):=by
 have hs:=h.size;have z:∀k,k<wr.heap.size->(wr.alloc (.cells #[.slice (some ⟨g,off,none⟩) e.D.q cap,.int .i64 (e.d:Int)] 119)).heap[k]?=wr.heap[k]?:=fun k z=>avI _ _ _ z;have hN:=World.alloc_heap_new wr (.cells #[.slice (some ⟨g,off,none⟩) e.D.q cap,.int .i64 (e.d:Int)] 119);refine⟨⟨(EH h.own).alloc _,fun x hx=>hG (h.cg x (mem_cons_of_mem _ hx)) (fun k ig=>z k O),hG (h.cg e (awC ..)) (fun k ig=>z k O),fun k ig=>(z k O).trans (h.base k ig),
  (avt (a:=⟨bk,0,none⟩) (z bk O)).trans h.kf,⟨hs,M⟩,?_,?_⟩,(avB _ wr).alloc O _⟩
 ·rw[avS _ _ _ _ _ (0,0) hN,hv];rfl
 ·rw[avS _ _ _ _ _ (0,0) hN];rfl
theorem D4 (hr:Row 0 B0 W0 K u)(hf:K.R)(h0:0<K.q)(I:∀k,k<B0->w.heap[k]?=W0.heap[k]?):yx B0 r0 W0 w ⟨K,d,u⟩:=by
 obtain⟨a,cap,hv,hc,hq⟩:=ar.1 hr;rcases hq with hq|⟨g,off,rfl,_,hg,hq⟩
 ·omega
 ·refine⟨g,off,cap,hv,h0,hc.1,hc.2,.inl hg,fun i hi=>?_⟩;obtain⟨x,e0,e1,e2,e3,hr⟩:=hq i hi;have cy:∀o,w.cell? ⟨g,o,none⟩=W0.cell? ⟨g,o,none⟩:=fun o=>avt (a:=⟨g,o,none⟩)<|I g hg;exact⟨x,by rw[cy];exact e0,by rw[cy];exact e1,by rw[cy];exact e2,by rw[cy];exact e3,hr,Nd.aa hf hi⟩
theorem Lj {pre S:List jr}{e:jr}(h:Eg B0 B bk W0 S v N e w)(uC:pre.map key++iC S=T.pre 0):Cg T B0 B bk W0 pre S v w:=
 ⟨uC,h.own,h.cg,h.base,h.kf,by have:=h.size;omega⟩
theorem Bc {pre S:List jr}{e:jr}{row:Option Nat}(h:Eg B0 B bk W0 S v N e w)(hB:B0<=B)(ju:bk<B)
  (hr:Row 0 B0 W0 K u) (hf:K.R) (h0:0<K.q) (aQ:w.grownBy w' row) (fM:∀k,row=some k->B+3<=k) (dd:w'.ownsRow (B+3) 119 2 v' (S.length+1) (nJ S++[u,.int .i64 ((d:Nat):Int)])) (uC:pre.map key++iC (⟨K,d,u⟩::S)=T.pre 0):
  Cg T B0 B bk W0 pre (⟨K,d,u⟩::S) v' w':=by
 have hs:=h.size;have z:∀k,k<B+3->w'.heap[k]?=w.heap[k]?:=fun k z=>aQ.block k O (fun e=>by have:=fM k e.symm;omega);have I:∀k,k<B0->w'.heap[k]?=W0.heap[k]?:=fun k ig=>(z k O).trans<|h.base k ig;refine⟨uC,by rw[jm];exact dd,fun x hx=>?_,I,(avt (a:=⟨bk,0,none⟩)<|z bk O).trans h.kf,by have:=aQ.size;omega⟩;rcases avZ.1 hx with rfl|hx
 ·exact D4 hr hf h0 I
 ·exact hG (h.cg x hx) fun k ig=>z k O
theorem H6 {S:List jr}{e:jr}(h:Eg B0 B bk W0 S v N e w)(hv:e.v=.slice (some ⟨g,off,none⟩) e.D.q cap):
  ∃ak ck,(g<B0\/g=B+2)/\w.cell? ⟨g,off,none⟩=some (.int .i64 (e.D.f 0).y)/\w.cell? ⟨g,off+1,none⟩=some (.int .i64 (e.D.f 0).E)/\w.cell? ⟨g,off+2,none⟩=some (.string (e.D.f 0).z)/\
   w.cell? ⟨g,off+3,none⟩=some (.slice ak (e.D.f 0).q ck)/\Row 0 B0 W0 (e.D.f 0) (.slice ak (e.D.f 0).q ck)/\(e.D.f 0).R:=by
 obtain⟨g',Vg,nR,Ho,h0,hlc,Ac,hg,hc⟩:=h.self;rw[hv]at Ho;simp only[Value.slice.injEq,awM,Addr.mk.injEq,and_true,true_and]at Ho;obtain⟨⟨rfl,rfl⟩,rfl⟩:=Ho;obtain⟨u,e0,e1,e2,e3,hr,hf⟩:=hc 0 h0;obtain⟨ak,ck,rfl,_⟩:=ar.1 hr;simp only[Nat.zero_mul,Nat.add_zero]at e0 e1 e2 e3;exact⟨ak,ck,hg,e0,e1,e2,e3,hr,hf⟩
theorem Lg (tk tn:Int)(ts:ByteArray)(a:Option Addr)(l c:Nat)(w:World):
  Calls prog 44 #[.agg #[.int .i64 tk,.int .i64 tn,.string ts,.slice a l c]] w fun e w'=>e=.returned (.slice a l c)/\Below w.heap.size w w':=by
 go_enter func44,ntmps44
 go_wp2;go_ret;exact⟨rfl,bA⟩
theorem yD (n:Nat)(hn:1<=n)(T:Nd)(u:Value)(B0 B br bk l:Nat)(mine:Nat->Prop)(axc Jx:List jr->World->Prop)(W0 W:World)(hT:T.R)(iW:T.cost<=1048576)
    (DR:W.heap.size=B+2) (Mc:B0<=B) (hbr:br<B) (ju:bk<B) (hmine:∀k,mine k->B0<=k/\k<B/\k≠bk) (aR:∀k,k<B0->W.heap[k]?=W0.heap[k]?) (fM:Row 0 B0 W0 T u)
    (hJ:mR (B+2) axc) (Wc:∀pre A,axc pre A->B+2<=A.heap.size)
    (hY:∀pre x W1,axc pre W1->FB T B0 W0 pre x->YieldAt Fence.wide (n-1) prog l (CO x) W1 fun e W'=>
      (e=.returned (.bool true)/\axc (pre++[x]) W'/\KeptF (fun k=>mine k\/k=B+1) W1 W')\/(e=.returned (.bool false)/\Jx (pre++[x]) W'))
    (h0:axc [] W) (r0:W.cell? ⟨br,0,none⟩=some (.int .i64 T.y)) (r1:W.cell? ⟨br,1,none⟩=some (.int .i64 T.E)) (r2:W.cell? ⟨br,2,none⟩=some (.string T.z)) (r3:W.cell? ⟨br,3,none⟩=some u)
    (LU:W.cell? ⟨bk,0,none⟩=some (.func (.func 44) #[] #[])):
    CallsIn Fence.wide n prog 81 #[.func (.yield l) #[] #[],.pointer<|some ⟨br,0,none⟩,.pointer<|some ⟨bk,0,none⟩] W fun e W'=>(∃v,e=.returned v)/\((∃xs,IG T xs/\axc xs W')\/(∃pre,True/\Jx pre W')):=by
  obtain⟨au,cu,hu,hcu,hrow'⟩:=ar.1 fM;subst hu;have sU:=Z fM;clear fM hrow';refine callsIn_of_wp func81 rfl trivial ?_ rfl;simp only[ntmps81,awo,length_cons,length_nil,Nat.reduceAdd,Nat.reduceSub,awj,awi,awp,awl,nil_append,cons_append];gi_wp2;have Ei:Hid (Cg T B0 B bk W0 [] [⟨PG T,0,.slice (some ⟨B+2,0,none⟩) 1 1⟩] (.slice (some ⟨B+2+1,0,none⟩) 1 1)
      ((W.alloc<|nO T<|.slice au T.q cu).alloc<|.cells #[.slice (some ⟨B+2,0,none⟩) 1 1,.int .i64 0] 119)/\
      axc [] ((W.alloc (nO T (.slice au T.q cu))).alloc (.cells #[.slice (some ⟨B+2,0,none⟩) 1 1,.int .i64 0] 119))):=
    CN T B0 B bk W0 W au cu axc hT DR Mc ju aR sU.o hJ h0 LU
  gi_loopg [4] T.size (fun k v wr=>∃pre S,k=(iC S).length/\Cg T B0 B bk W0 pre S v wr/\axc pre wr)
  case atStart=>
    refine⟨[],_,?_,Ei.o.1,Ei.o.2⟩;simp[iC,AQ,sZ]
  case round=>
    obtain⟨pre,S,z,hinv,Qm⟩:=hrel;clear Ei h0 r0 r1 r2 r3 LU aR DR sU;have HK:=Z z;clear z;cases S with
    | nil=>
      obtain⟨av,cv,rfl⟩:=Vd hinv.own;have HS:Hid (IG T pre):=by have:=hinv.seq;simpa[iC,IG,Hid]using this
      have Uf:=Z Qm;clear hinv Qm;gi_wp2;go_end0;exact⟨⟨_,rfl⟩,.inl ⟨_,HS.o,Uf.o⟩⟩
    | cons e R=>
      obtain⟨gs,cs,rfl,q8,hcs2,hgs,hgs2⟩:=KG hinv.own;obtain⟨q0,q1⟩:=FS hinv.own;obtain⟨g,off,cap,hv,o7,hlc,Ac,hg,gI⟩:=hinv.cg e<|awC ..;have hlen:=FP hinv;have hsc:=T.be;simp only[length_cons]at hlen q8⊢;rw[hv]at q0;have IU:=Z hinv;have Uf:=Z Qm;have HV:=Z hv;have HT:Hid (0<e.D.q):=o7;clear hinv Qm gI hv;have VX:prog.follows Departure.mixedOrders=true:=aaf;obtain⟨i0,nB,mT,eu,ed⟩:=av0 He;have HOWN:=Z<|EH IU.o.own;by_cases h1:1<e.D.q
      · gi_wp2_with((gi_at_builtin;refine wpListIn_append_own _ rfl _ _ 120 rfl (B+3) 119 i0 (.agg #[.slice none 0 0,.int .i64 0]) 2 32 underlying120 nB mT eu ed rfl J _ _ _ rfl ((HOWN.o.alloc _).alloc _) ⟨wr.heap.size+1,0,none⟩ 1 1 [.slice (some ⟨g,off+4,none⟩) (e.D.q-1)<|cap-1,.int .i64 (e.d:Int)] rfl rfl (by rw[<-avs];exact EA _ _ _ _) (Ez _ _ _ _) aaj O aah ?_;intro v' w1 lU aQ Bo))
        obtain⟨uD,fH⟩:=Hz IU.o Mc ju hgs hgs2 HV.o h1 aQ lU;have hJ1:axc pre w1:=hJ _ _ _ Uf.o fH;obtain⟨gv,cv,rfl,hcv,hcv2,Qd,hgv2⟩:=KG lU;have uC:∀u,pre.map key++(e.D.f 0,e.d)::iC (qy e (e.D.f 0) u<|⟨qo e.D,e.d,.slice (some ⟨g,off+4,none⟩) (e.D.q-1)<|cap-1⟩::R)=T.pre 0:=fun u=>by
          have:=IU.o.seq;rw[qw e R u (.slice (some ⟨g,off+4,none⟩) (e.D.q-1)<|cap-1) HT.o,qx,avA h1]at this;exact this
        have Ep:=Z uD;have HME:Hid ((iC<|e::R).length=gk):=HK.o.symm;have N6:Hid (∀u,iC (e::R)=(e.D.f 0,e.d)::iC (qy e (e.D.f 0) u<|⟨qo e.D,e.d,.slice (some ⟨g,off+4,none⟩) (e.D.q-1)<|cap-1⟩::R)):=fun u=>by
          have:=qw e R u (.slice (some ⟨g,off+4,none⟩) (e.D.q-1)<|cap-1) HT.o;rw[qx,avA h1]at this;exact this
        clear lU aQ Bo uD fH VX;have VX:prog.follows Departure.mixedOrders=true:=aaf;have apv:=kk;exact aeW
      · have eO:cap=1\/1<cap:=O;have LS:e.D.q=1:=O;have Ob:=Z LS;clear LS;rcases eO with rfl|eO
        · gi_wp2;obtain⟨uD,fH⟩:=xW IU.o Mc ju HV.o;obtain⟨w1,z7⟩:∃w1,wr.alloc (.cells #[.slice (some ⟨g,off,none⟩) e.D.q 1,.int .i64 (e.d:Int)] 119)=w1:=⟨_,rfl⟩;exact aeR
        · gi_wp2;obtain⟨uD,fH⟩:=xW IU.o Mc ju HV.o;obtain⟨w1,z7⟩:∃w1,wr.alloc (.cells #[.slice (some ⟨g,off,none⟩) e.D.q cap,.int .i64 (e.d:Int)] 119)=w1:=⟨_,rfl⟩;exact aeR
end
section
open Go.RowKit Go.Shelf
attribute [local go_sem] aws
theorem Jm (tk tn:Int)(ts:ByteArray)(a:Option Addr)(l c:Nat)(f:Value)(w:World)(hf:f=.func (.func 44) #[] #[]):
  Calls prog 43 #[.agg #[.int .i64 tk,.int .i64 tn,.string ts,.slice a l c],f] w fun e w'=>e=.returned (.func (.func 81) #[] #[.pointer<|some ⟨w.heap.size,0,none⟩,.pointer<|some ⟨w.heap.size+1,0,none⟩])/\
   w'=(w.alloc<|.cells #[.int .i64 tk,.int .i64 tn,.string ts,.slice a l c] 25).alloc (.cells #[.func (.func 44) #[] #[]] 90):=by
 subst hf;go_enter func43,ntmps43
 go_wp2;go_ret;exact⟨rfl,rfl⟩
theorem rA (tk tn:Int)(ts:ByteArray)(a:Option Addr)(l c:Nat)(w:World):
  Calls prog 20 #[.agg #[.int .i64 tk,.int .i64 tn,.string ts,.slice a l c]] w fun e w'=>e=.returned (.func (.func 81) #[] #[.pointer<|some ⟨w.heap.size+1,0,none⟩,.pointer<|some ⟨w.heap.size+1+1,0,none⟩])/\
   w'=((w.alloc<|.cells #[.int .i64 tk,.int .i64 tn,.string ts,.slice a l c] 25).alloc<|.cells #[.int .i64 tk,.int .i64 tn,.string ts,.slice a l c] 25).alloc (.cells #[.func (.func 44) #[] #[]] 90):=by
 go_enter func20,ntmps20
 go_wp2_with(go_at_call 43;refine(Jm _ _ _ _ _ _ _ _ rfl).mono ?_;rintro e w' ⟨rfl,rfl⟩)
 go_ret;exact⟨M,rfl⟩
end
section
open Go.RowKit Go.Shelf
attribute [local go_sem] aws
structure SzI (w:World)(pre:List jr)(W:World):Prop where
 below:Below w.heap.size w W
 res:Boxed W (w.heap.size+1) 3 (.int .i64 0)
 cQ:Boxed W (w.heap.size+1+1) 3 (.int .i64 (pre.length:Int))
 size:w.heap.size+3<=W.heap.size
theorem Hh (T:Nd)(w:World)(u:Value)(hf:T.R)(hr:Row 0 w.heap.size w T u)(hc:T.cost<=1048576):
    Calls prog 18 #[T.val u] w fun e w'=>e=.returned (.int .i64 (T.size:Int))/\Below w.heap.size w w':=by
  obtain⟨au,cu,hu,_⟩:=ar.1 hr;subst hu;refine(avT (n:=3)).1 ?_;refine callsIn_of_wp_marks func18 rfl trivial ?_ rfl;unfold Nd.val;simp only[ntmps18,awo,length_cons,length_nil,Nat.reduceAdd,Nat.reduceSub,awj,awi,awp,awl,nil_append,cons_append];gi_wp2_with((refine⟨trivial,?_⟩;gi_at_call 20;refine(avT.2<|rA _ _ _ _ _ _ _).mono ?_;rintro e w' ⟨rfl,rfl⟩))
  obtain⟨V,hV⟩:∃V,((((((w.alloc<|nO T<|.slice au T.q cu).alloc<|.cells #[.int .i64 0] 3).alloc<|.cells #[.int .i64 0] 3).alloc<|nO T<|.slice au T.q cu).alloc<|nO T<|.slice au T.q cu).alloc<|.cells #[.func (.func 44) #[] #[]] 90)=V:=⟨_,rfl⟩;have cg:V.heap.size=w.heap.size+6:=by rw[<-hV];simp
  have aR:Below w.heap.size w V:=by
    rw[<-hV];exact((((((avB _ w).alloc lr _).alloc M _).alloc aah _).alloc aah _).alloc aah _).alloc aah _
  have c0:V.cell? ⟨w.heap.size+1+1+1+1,0,none⟩=some (.int .i64 T.y):=by rw[<-hV];simp[go_sem]
  have c1:V.cell? ⟨w.heap.size+1+1+1+1,1,none⟩=some (.int .i64 T.E):=by rw[<-hV];simp[go_sem]
  have c2:V.cell? ⟨w.heap.size+1+1+1+1,2,none⟩=some (.string T.z):=by rw[<-hV];simp[go_sem]
  have c3:V.cell? ⟨w.heap.size+1+1+1+1,3,none⟩=some (.slice au T.q cu):=by rw[<-hV];simp[go_sem]
  have c4:V.cell? ⟨w.heap.size+1+1+1+1+1,0,none⟩=some (.func (.func 44) #[] #[]):=by rw[<-hV];simp[go_sem]
  have b1:=Boxed.new (w.alloc<|nO T<|.slice au T.q cu) 3<|.int .i64 0;have b2:=Boxed.new ((w.alloc<|nO T<|.slice au T.q cu).alloc<|.cells #[.int .i64 0] 3) 3<|.int .i64 0;simp only[avs]at b1 b2;have CE:SzI w [] V:=by
    refine⟨aR,?_,?_,O⟩
    · rw[<-hV];exact(((b1.alloc _).alloc _).alloc _).alloc _
    · rw[<-hV];exact((b2.alloc _).alloc _).alloc _
  have I9:mR V.heap.size (SzI w):=fun pre A C h I=>by
    have hz:=h.size;exact⟨h.below.trans<|I.mono O,(I.block _ O).trans h.res,(I.block _ O).trans h.cQ,by have:=I.size;omega⟩
  rw[hV];clear hV b1 b2;have hsc:=T.be;refine fV (α:=jr) (encs:=CO) (S:=IG T) (Sp:=fun _=>True) (Came:=FB T w.heap.size w) (mine:=fun k=>k=w.heap.size+1+1) rfl O (gf:=81) (lb:=#[.pointer<|some ⟨w.heap.size+1+1+1+1,0,none⟩,.pointer<|some ⟨w.heap.size+1+1+1+1+1,0,none⟩]) rfl trivial (enters_of func81 aaf rfl)
    (fun l axc Jx W DR Ad hJ hJx Wc hY h0=>by
      have cy:∀b o,b<V.heap.size->W.cell? ⟨b,o,none⟩=V.cell? ⟨b,o,none⟩:=fun b o I=>Ad.cell (p:=⟨b,o,none⟩) I
      exact yD 2 O T (.slice au T.q cu) w.heap.size V.heap.size (w.heap.size+1+1+1+1) (w.heap.size+1+1+1+1+1) l (fun k=>k=w.heap.size+1+1) axc Jx w W hf hc DR O O O (fun k z=>by omega) (fun k z=>((Ad.block k O).trans<|aR.block k z)) hr hJ Wc hY h0
        ((cy _ _ O).trans c0) ((cy _ _ O).trans c1) ((cy _ _ O).trans c2) ((cy _ _ O).trans c3) ((cy _ _ O).trans c4))
    (fun _=>rfl) (SzI w) (fun _ _ _=>False) I9 (fun _ _ _ _ h _=>h) CE
    (fun x _=>{tmps:=#[.agg #[.int .i64 T.y,.int .i64 T.E,.string T.z,.slice au T.q cu],.pointer<|some ⟨w.heap.size,0,none⟩,.pointer<|some ⟨w.heap.size+1,0,none⟩,.pointer<|some ⟨w.heap.size+1+1,0,none⟩,undef,.int .i64 (x.d:Int),.agg #[.int .i64 T.y,.int .i64 T.E,.string T.z,.slice au T.q cu],.func (.func 81) #[] #[.pointer<|some ⟨w.heap.size+1+1+1+1,0,none⟩,.pointer<|some ⟨w.heap.size+1+1+1+1+1,0,none⟩],x.D.val x.v,.int .i64 (x.d:Int),undef,undef,undef,undef,undef],defers:=[]})
    (fun _ W=>W) (fun _ W=>avB _ _) ?assign ?body ?done ?stop
  case assign=>
    intro l pre x W K _ hK;simp only[CO];gi_wp2;exact hK
  case body=>
    rintro l pre x W1 W3 r hi hz⟨⟨rest,gC⟩,NO,YI⟩nF oW;have V1:x.d<T.size:=by
      have hm:key x∈T.pre 0:=by rw[<-gC];simp
      have:=AP T 0 _ hm;simpa[key]using this
    have Hs:pre.length<T.size:=by
      have:=congrArg List.length gC;rw[sZ]at this;simp at this;omega
    have q:=oW.cQ.cell;have qf:=oW.cQ.frozen;have HI:=Z oW;clear gC NO YI hi oW nF CE I9 c0 c1 c2 c3 c4;gi_wp2;refine⟨KeepsOthers.setCell _ _ _,⟨by simp[World.setCell],fun k z hm=>avz _ _ _ _ hm⟩,?_⟩;have h:=HI.o;have td:=h.size;refine⟨h.below.setCell (p:=⟨w.heap.size+1+1,0,none⟩) aas _,?_,?_,by simp[World.setCell];omega⟩
    · exact(avz _ _ _ _ (by show w.heap.size+1≠w.heap.size+1+1;omega)).trans h.res
    · have:=h.cQ.set<|.int .i64 ((pre++[x]).length:Int);simpa using this
  case done=>
    rintro D xs W hD hS hi hK;have hlen:xs.length=T.size:=by
      have:=congrArg List.length hS;rw[sZ]at this;simpa using this
    have q:=hi.cQ.cell;have qr:=hi.res.cell;have qrf:=hi.res.frozen;rw[hlen]at q;have HI:=Z hi;have HK:=Z hK;clear hS hi hK CE I9 c0 c1 c2 c3 c4;gi_wp2;have h:=HI.o;have r0:=h.res.set<|.int .i64 (T.size:Int);have Ff:(W.setCell ⟨w.heap.size+1,0,none⟩<|.int .i64 (T.size:Int)).heap[D]?=some (.deferred<|some []):=(avz _ _ _ _ (by show D≠w.heap.size+1;omega)).trans HK.o;have hb3:=h.below.setCell (p:=⟨w.heap.size+1,0,none⟩) aao<|.int .i64 (T.size:Int);revert r0 Ff hb3;generalize W.setCell ⟨w.heap.size+1,0,none⟩ (.int .i64 (T.size:Int))=X;intro r0 Ff hb3;refine⟨M,.inl ⟨_,_,rfl,run_takeDeferred Ff,?_⟩⟩;have gp:=grownBy_putObj' X D<|.deferred none;have p0:=(r0.kept gp fun e=>by have:=avq e;omega).cell;refine⟨.int .i64 (T.size:Int),by simp[results,results18,go_sem,p0],rfl,?_⟩;exact hb3.grown gp abm (fun k e=>by have:=avq e;omega)
  case stop=>
    intro D c pre W _ _ hx _;exact hx.elim
end
end Go.Proofs.YtgcmhaghebhjnaaGreatDoor
