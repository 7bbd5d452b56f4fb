import Derived.RangeFuncNested
import Derived.RangeFuncBound
import Derived.Test.YtgcmhaghebhjnaaGreatDoorPTD
import Derived.Test.YtgcmhaghebhjnaaGreatDoorShelf
import Derived.Deep.Light
import Derived.Shelf.RegionOpen
import Derived.OwnWalkIn
import Derived.LoopNIn
import Derived.LoopIn
set_option linter.unusedVariables false
set_option maxHeartbeats 16000000
set_option maxRecDepth 100000
namespace Go.Proofs.YtgcmhaghebhjnaaGreatDoor
open Go.RowKit Tryz List
variable {A C W W' W0 W1 W3 w w1:World} {B b bt n:Nat} {Q:Exit->Act->World->Prop} {a:Act} {acc:List Tok} {axa axd v x:Value} {e:TypeId} {s t:ByteArray} {xs:List Value}
variable {G :Prop}
theorem agQ (h:G:=by
 obtain⟨k0,k1,k2,g0,g1,g2⟩:=zF fT.o;cases he:fC acc
 ·rw[he,avo J]at ba;have HR:Hid (Reach s.data.toList (p+1) acc):=.skip TZ.o O (by rw[he];exact ba);have HE:Hid (jK (fK acc).y (fK acc).text=false):=by unfold Hid;rw[<-yg];exact he
  clear he ba Bv;generalize (fK acc).y=lk at*
  generalize (fK acc).text=lt at*
  generalize ((fK acc).place:Int)=lp at*
  gi_wp2_with((refine⟨trivial,?_⟩;gi_at_call 66;refine(avT.2<|xL _ _ _ _).mono ?_;rw[HE.o];rintro e w1 ⟨rfl,hb1⟩;obtain⟨eO,su⟩:=nV hb1;have eu:=hb1.size;simp only[avs]at eu))
  go_roundw
  case rel=>exact⟨p+1,acc,HR.o,O,by go_num,hJ _ _ _ none HJN.o (gn hb1) (fun r e=>by cases e),O,yc Yt.o hb1 aah hzN O⟩
  case measure=>simp[intOf];omega
 ·rw[he,avA rfl]at ba;have HR:Hid (Reach s.data.toList (p+1)<|acc++[⟨5,⟨#[]⟩,p⟩]):=.tok TZ.o O (by rw[he];exact ba);have HC:Hid (Cf s.data.toList (uh acc) (⟨5,⟨#[]⟩,p⟩,0)):=⟨p,acc,TZ.o,rfl,O,.inl ⟨5,⟨#[]⟩,1,by rw[he];exact ba,rfl⟩⟩;have HE:Hid (jK (fK acc).y (fK acc).text=true):=by unfold Hid;rw[<-yg];exact he
  clear he ba Bv;generalize (fK acc).y=lk at*
  generalize (fK acc).text=lt at*
  generalize ((fK acc).place:Int)=lp at*
  gi_wp2_with((refine⟨trivial,?_⟩;gi_at_call 66;refine(avT.2<|xL _ _ _ _).mono ?_;rw[HE.o];rintro e w1 ⟨rfl,hb1⟩;obtain⟨eO,su⟩:=nV hb1;have eu:=hb1.size;simp only[avs]at eu;have By:Below wr.heap.size wr w1:=HbN.o.trans<|hb1.mono M;obtain⟨fn,tmps,assign,bod,hy,hR⟩:=hY _ _ wr w1 Uf.o hz By HC.o;simp only[FL]at hy))
  refine hR.mono ?_;rintro e W'(⟨rfl,Ma,z⟩|⟨rfl,Ql⟩)
  ·have hN':=(z.same wr.heap.size<|.inr ⟨avF _,O⟩).trans<|(hb1.block wr.heap.size M).trans<|World.alloc_heap_new wr _;have hL':=(z.same (B+2)<|.inl<|.inr<|.inr rfl).trans<|(By.block (B+2) hz).trans fT.o;have atf:=kk;exact agU
  ·clear hR hy k0 k1 k2 g0 g1 g2;gi_wp2;rw[aw6];go_end0;exact⟨⟨_,rfl⟩,.inr ⟨_,trivial,Ql⟩⟩):G:=h
theorem agR (h:G:=by
 go_enter func109,ntmps109
 go_wp2_with(go_at_call 118;refine(lS _ _ HS.o).mono ?_;rw[HN.o];rintro e w' ⟨rfl,rfl⟩)
 go_ret;exact⟨qv Dw.o.symm,rfl⟩):G:=h
theorem agV (h:G:=by refine avr (v:=.tuple #[ko 0 ⟨#[]⟩ k,.int .i64 4]) (by simp[results,results70,go_sem,ko]) rfl ⟨rfl,?_⟩;exact bA):G:=h
theorem agW (h:G:=by clear hR hy eO su eu;gi_wp2;rw[aw6];go_end0;exact⟨⟨_,rfl⟩,.inr ⟨_,trivial,Ql⟩⟩):G:=h
theorem agX (h:G:=by exact hb3.grown gp abm (fun k e=>by have:=avq e;omega)):G:=h
theorem agY (h:G:=by exact((((bA).trans (I.mono M)).setCell lr _).setCell lr _).setCell lr _):G:=h
theorem agZ (h:G:=by
 clear Dx Hq;go_enter func70,ntmps70
 go_wp2_with(first|(go_at_call 106;refine(gg _ _).mono ?_;rw[HL.o];rintro e w' ⟨rfl,rfl⟩)|(go_at_call 108;refine(ji _ _).mono ?_;rw[HD.o];rintro e w' ⟨rfl,rfl⟩)|(go_at_call 110;refine(Hi _ _ HG.o).mono ?_;rw[hx.o,<-Dw.o];rintro e w' ⟨rfl,rfl⟩)|(go_at_call 111;refine(mA _ _ O).mono ?_;rintro e w1 ⟨rfl,I⟩;obtain⟨hc,hf⟩:=nV I;have hz:=I.size;simp only[avs]at hz))
 first
 |clear atj
  refine avr (v:=.tuple #[ko 4 st k,.int .i64 0]) aay rfl ⟨rfl,?_⟩;exact agY
 |clear atk
  exact agV):G:=h
theorem ag0 (h:G:=by
 clear Dx Hq;go_enter func70,ntmps70
 go_wp2_with(first|(go_at_call 106;refine(gg _ _).mono ?_;rw[HL.o];rintro e w' ⟨rfl,rfl⟩)|(go_at_call 108;refine(ji _ _).mono ?_;rw[HD.o];rintro e w' ⟨rfl,rfl⟩)|(go_at_call 109;refine(Lk _ _ hxs.o).mono ?_;rw[hx.o,<-Dw.o];rintro e w' ⟨rfl,rfl⟩)|(go_at_call 111;refine(mA _ _ O).mono ?_;rintro e w1 ⟨rfl,I⟩;obtain⟨hc,hf⟩:=nV I;have hz:=I.size;simp only[avs]at hz))
 first
 |clear atl
  exact agV
 |clear atm
  refine avr (v:=.tuple #[ko 2 st k,.int .i64 0]) aay rfl ⟨rfl,?_⟩;exact agY):G:=h
theorem ag1 (h:G:=by
 clear Dx Hq;go_enter func70,ntmps70
 go_wp2_with(first|(go_at_call 106;refine(gg _ _).mono ?_;rw[HL.o];rintro e w' ⟨rfl,rfl⟩)|(go_at_call 107;refine(Hg _ _ hxs.o HR.o).mono ?_;rw[hx.o,<-ig.o,<-Dw.o];rintro e w' ⟨rfl,rfl⟩)|(go_at_call 111;refine(mA _ _ O).mono ?_;rintro e w1 ⟨rfl,I⟩;obtain⟨hc,hf⟩:=nV I;have hz:=I.size;simp only[avs]at hz))
 first
 |clear atn
  exact agV
 |clear ato
  refine avr (v:=.tuple #[ko sk st k,.int .i64 0]) aay rfl ⟨rfl,?_⟩;exact agY):G:=h
theorem ag2 (h:G:=by
 generalize hn:dk s.data.toList=n at*
 have HN:Hid (dk s.data.toList=n):=hn;clear hn;generalize hx:bs (s.data.toList.take n)=x at*
 have I2:s.extract 0 n=x:=by rw[<-hx];exact O0 s n
 have Cw:x.size=n:=by rw[<-hx,zL,length_take];exact awT hle
 first
 |clear atp
  clear hx;by_cases h:40<n
  ·have ig:Hid (jz s.data.toList=1):=by unfold Hid;rw[z.o,avA h]
   have Dw:Hid (gK s.data.toList=⟨#[]⟩):=by unfold Hid;rw[ht.o,avA h]
   go_enter func107,ntmps107
   go_wp2_with(go_at_call 118;refine(lS _ _ HS.o).mono ?_;rw[HN.o];rintro e w' ⟨rfl,rfl⟩)
   go_ret2;exact⟨by rw[ig.o,Dw.o];rfl,rfl⟩
  ·cases I:hasB bd x;all_goals
    have ig:Hid (jz s.data.toList=if hasB bd x then 3 else 1):=by unfold Hid;rw[z.o,avo h]
    have Dw:Hid (gK s.data.toList=x):=by unfold Hid;rw[ht.o,avo h]
    rw[I]at ig;have HB:=(show Hid (hasB bd x=_)from I);clear I;go_enter func107,ntmps107
    go_wp2_with(first|(go_at_call 118;refine(lS _ _ HS.o).mono ?_;rw[HN.o];rintro e w' ⟨rfl,rfl⟩)|(go_at_call 119;refine(wZ _ _ HR.o).mono ?_;rw[HB.o];rintro e w' ⟨rfl,rfl⟩))
    go_ret2;exact⟨by rw[ig.o,Dw.o];rfl,rfl⟩
 |clear atq
  have Lq:s.data.toList.take n=x.data.toList:=by rw[<-hx,zM]
  rw[Lq]at ht;clear hx Lq;generalize jX s.data.toList=r at*
  have PZ:x.data.toList.length=n:=Cw;by_cases h:18<n
  ·have Dw:Hid (r=⟨#[]⟩):=by unfold Hid;rw[ht.o];simp[sL,PZ];omega
   exact agR
  by_cases hz:∃h1:1<n,(x[0]'O).toNat=48
  ·obtain⟨h1,hz⟩:=hz;have h0:0<x.size:=O;have hz':((x[0].toNat:Int)==48)=true:=by simp;omega
   have hh:=Bw x h0;have Dw:Hid (r=⟨#[]⟩):=by unfold Hid;rw[ht.o];unfold sL;rw[hh,PZ];simp[hz,h1]
   clear hz hh;exact agR
  have hr:Hid (r=if(x.data.toList.all fun b=>ct b.toNat)then x else⟨#[]⟩):=by
   unfold Hid;rw[ht.o];unfold sL;rw[PZ];by_cases h1:1<n
   ·have h0:0<x.size:=O;have:¬x[0].toNat=48:=fun e=>hz ⟨h1,e⟩;rw[Bw x h0];simp[this];congr 1;simp;omega
   ·simp[h1];congr 1;simp;omega
  have mU:Hid ((∀b∈x.data.toList,ct b.toNat=true)->r=x):=fun ha=>by
   rw[hr.o,avA<|avE.2 ha]
  have CB:Hid (∀k:Nat,∀h:k<x.size,ct x[k].toNat=false->r=⟨#[]⟩):=fun k z hd=>by
   rw[hr.o,avo];intro ha;have:=avE.1 ha x[k] (getElem_mem (l:=x.data.toList) aaJ);rw[hd]at this;cases this
  clear hr ht;have eu:Hid (1<n->∀h0:0<x.size,((x[0].toNat:Int)==48)=false):=fun h1 h0=>by
   simp only[avH,ne_eq];intro e;exact hz ⟨h1,O⟩
  clear hz PZ;by_cases h1:1<n;all_goals
   try have ed:=eu.o h1 O
   go_enter func109,ntmps109
   go_wp2_with(go_at_call 118;refine(lS _ _ HS.o).mono ?_;rw[HN.o];rintro e w' ⟨rfl,rfl⟩)
   go_loop [24] (fun i=>∃k:Nat,k<=n/\i=.int .i64 k/\Hid (∀b∈x.data.toList.take k,ct b.toNat=true)) (fun i=>n-(intOf i).toNat)
   case atStart=>exact⟨0,avL _,rfl,by simp[Hid]⟩
   case round=>
    obtain⟨k,z,rfl,bl⟩:=hrel;by_cases be:k<n
    ·have hkx:k<x.size:=O;cases hd:ct x[k].toNat
     ·have HF:Hid (r=⟨#[]⟩):=CB.o k hkx hd;have HD:Hid (ct x[k].toNat=false):=hd;go_wp2_with(go_at_call 108;refine(ji _ _).mono ?_;rw[HD.o];rintro e w' ⟨rfl,rfl⟩)
      go_ret;exact⟨qv HF.o.symm,rfl⟩
     ·have HG:Hid (∀b∈x.data.toList.take (k+1),ct b.toNat=true):=fun b hm=>by
       rw[ot x k hkx,awb]at hm;rcases hm with hm|hm
       ·exact bl.o b hm
       ·simp at hm;rw[hm];exact hd
      have HD:Hid (ct x[k].toNat=true):=hd;go_wp2_with(go_at_call 108;refine(ji _ _).mono ?_;rw[HD.o];rintro e w' ⟨rfl,rfl⟩)
      go_round
      case rel=>exact⟨k+1,O,by go_num,HG⟩
      case measure=>simp[intOf];omega
    ·have HF:Hid (r=x):=mU.o (fun b I=>bl.o b (by rw[awe (by have:x.data.toList.length=x.size:=rfl;omega)];exact I));go_wp2;go_ret;exact⟨qv HF.o.symm,rfl⟩):G:=h
theorem agS (h:G:=by
 have p0:=(r0.kept gp fun e=>by have:=avq e;omega).cell;have p1:=(r1.kept gp fun e=>by have:=avq e;omega).cell;have p2:=(r2.kept gp fun e=>by have:=avq e;omega).cell;first
 |clear ata
  refine⟨.tuple #[.slice av xs.length cv,.int .i64 0,.int .i64 0],by simp[results,results16,go_sem,p0,p1,p2],⟨xs.map (·.1),0,0⟩,_,HA.o,rfl,?_,?_⟩
  ·have e1:(xs.map (·.1)).length=xs.length:=M;show(V.putObj D<|.deferred none).ownsRow w.heap.size 85 3 _ (xs.map (·.1)).length _;rw[e1];exact(ownsRow_putObj ho3 _ Ff rfl).mono O
  ·exact agX
 |clear atb
  refine⟨.tuple #[.slice none 0 0,.int .i64 o.code,.int .i64 o.place],by simp[results,results16,go_sem,p0,p1,p2],o,_,hA,rfl,?_,?_⟩
  ·rw[hl];exact awa _ _ _ _
  ·exact agX):G:=h
theorem agT (h:G:=by
 clear h;go_enter func69,ntmps69
 go_wp2_with(go_at_call 105;refine(strings_IndexByte _ _ _).mono ?_;rintro e w' ⟨rfl,rfl⟩;rw[show(10:Int).toNat.toUInt8=10 from rfl,hi.o])
 go_ret;first
 |clear atc
  exact⟨kZ (by go_num),rfl⟩
 |clear atd
  exact⟨kZ (by rw[hn.o]),rfl⟩):G:=h
theorem agU (h:G:=by
 have HA:=(show Hid (axc _ _/\_)from Cd ln YT NV hJ HFX0.o hz By Ma z);obtain⟨n0,n1,n2,m0,m1,m2⟩:=zF hN';obtain⟨l0,l1,l2,f0,f1,f2⟩:=zF hL';first
 |clear ate
  clear hN' hL' z Ma hR hy iV eO su eu;gi_wp2;have pJ:max 1 (st.size:Int)=(st.size:Int):=O;rw[pJ];exact⟨⟨p+st.size,_,HR.o,O,by go_num,HA.o.1,HA.o.2.1,HA.o.2.2⟩,by simp[intOf];omega⟩
 |clear atf
  clear hN' hL' z Ma hR hy k0 k1 k2 g0 g1 g2;gi_wp2;go_roundw
  case rel=>exact⟨p+1,_,HR.o,O,by go_num,HA.o.1,HA.o.2.1,HA.o.2.2⟩
  case measure=>simp[intOf];omega):G:=h
theorem Xa (h:G:=by
 have bY:rt.size≠0:=by rw[jZ]at he;simpa using he
 obtain⟨rfl,rfl,rfl⟩:=Hq.o bY;first
 |clear atg
  have atj:=kk;exact agZ
 |clear ath
  have atm:=kk;exact ag0
 |clear ati
  have ato:=kk;exact ag1):G:=h
section
structure Nq (keep:Nat->Prop)(W0 W1 W':World):Prop where
 size:W1.heap.size<=W'.heap.size
 same:∀k,(keep k\/(W0.heap.size<=k/\k<W1.heap.size))->W'.heap[k]?=W1.heap[k]?
def postR {α:Type}(keep:Nat->Prop)(axb:List α->World->Prop)(Ix:Code->List α->World->Prop)(xs:List α)(W0 W1 W3:World):Exit->Act->World->Prop
 |.normal,_,W'=>KeepsOthers W3 W'/\(∀k,(keep k\/(W0.heap.size<=k/\k<W1.heap.size))->W'.heap[k]?=W3.heap[k]?)/\axb xs W'
 |.ret,_,W'=>KeepsOthers W3 W'/\Ix .ret xs W'
 |.exit id,_,W'=>KeepsOthers W3 W'/\Ix (.exit id) xs W'
 |.goto t,_,W'=>KeepsOthers W3 W'/\Ix (.goto t) xs W'
 |.panic _,_,_=>False
 |.outgrown,_,_=>False
def Apart3 {β:Type}(B:Nat)(axb:β->World->Prop):Prop:=
 ∀s A C row,axb s A->A.grownBy C row->(∀r,row=some r->B<=r/\r<B+3)->axb s C
theorem gn (h:Below A.heap.size A C):A.grownBy C none:=
 ⟨h.os,h.tape,h.output,h.size,fun k z _=>h.block k z⟩
theorem Apart3.below {β:Type}{axb:β->World->Prop}(h:Apart3 B axb){s:β}(hs:axb s A)(I:Below A.heap.size A C):axb s C:=
 h s A C none hs (gn I) (fun r e=>by cases e)
theorem Apart3.putObj {β:Type}{axb:β->World->Prop}(h:Apart3 B axb){s:β}(hs:axb s A)(l:Nat)(o:Obj)(h1:B<=l)(h2:l<B+3):axb s (A.putObj l o):=
 h s A _ (some l) hs (grownBy_putObj' A l o) (fun r e=>by cases e;exact⟨h1,h2⟩)
variable {F :Fence} {n:Nat} {P:Program}
theorem nj {α:Type}{g:Operand}{ps:Array Tmp}{assign body:Code}
    (hro:F.round=none) (h1:1<=n) {gf:Nat} {lb:Array Value} (hg:a.eval g=.func (.func gf) #[] lb) (hFg:F.fn gf) (eg:∀args w,(callFunc gf args).run P w=.ok (.enter gf args) w)
    {encs:α->Array Value} {S Sp:List α->Prop} {Came:List α->α->Prop} {keep:Nat->Prop} (cQ:∀k,keep k->k≠w.heap.size/\k≠w.heap.size+1/\k<w.heap.size+3)
    (uC:∀(l:Nat)(axc Jx:List α->World->Prop)(W:World),W.heap.size=w.heap.size+2->Below w.heap.size w W->
      (∀pre A C row,axc pre A->A.grownBy C row->(∀r,row=some r->r=w.heap.size+2)->axc pre C)->(∀pre A C row,Jx pre A->A.grownBy C row->(∀r,row=some r->r=w.heap.size+2)->Jx pre C)->
      (∀pre A,axc pre A->w.heap.size+2<=A.heap.size)->
      (∀pre x W0 W1,axc pre W0->w.heap.size+2<W0.heap.size->Below W0.heap.size W0 W1->Came pre x->YieldAt F (n-1-1) P l (encs x) W1 fun e W'=>
        (e=.returned (.bool true)/\axc (pre++[x]) W'/\Nq keep W0 W1 W')\/(e=.returned (.bool false)/\Jx (pre++[x]) W'))->
      axc [] W->CallsIn F (n-1) P gf (#[.func (.yield l) #[] #[]]++lb) W fun e W'=>(∃v,e=.returned v)/\((∃xs,S xs/\axc xs W')\/(∃pre,Sp pre/\Jx pre W')))
    (P6:∀x,(encs x).size=ps.size)
    (axb:List α->World->Prop) (Ix:Code->List α->World->Prop) (hI:Apart3 w.heap.size axb) (Mb:∀c,Apart3 w.heap.size<|Ix c) (h0:axb [] w) (a₁:α->Nat->Act) (box:α->Obj)
    (zl:∀(l:Nat)(x:α)(W:World)(K:Act->World->Prop),K (a₁ x W.heap.size) (W.alloc (box x))->
      assign.wpIn (F.inRound l) (n-1-1) P (Exit.then K (fun _ _ _=>False)) {tmps:=(ps.zip (encs x)).foldl (fun t(p,v)=>t.setIfInBounds p v) a.tmps,defers:=[]} W)
    (L7:∀(l:Nat)(pre:List α)(x:α)(W0 W1 W3:World)(r:Loop),axb pre W0->w.heap.size+2<W0.heap.size->Below W0.heap.size W0 W1->Came pre x->W3=(W1.alloc (box x)).putObj (w.heap.size+1) (.loop r)->axb pre W3->
      body.wpIn (F.inRound l) (n-1-1) P (postR keep axb Ix (pre++[x]) W0 W1 W3) (a₁ x W1.heap.size) W3)
    (L3:∀(D:Nat)(xs:List α)(W:World),w.heap.size<=D->S xs->axb xs W->W.heap[D]?=some (.deferred<|some [])->Q .normal {a with defers:={target:=.collected D,args:=#[]}::a.defers} W)
    (o5:∀(D:Nat)(c:Code)(pre:List α)(W:World),w.heap.size<=D->Sp pre->Ix c pre W->W.heap[D]?=some (.deferred<|some [])->c.wpIn F n P Q {a with defers:={target:=.collected D,args:=#[]}::a.defers} W):
    (Code.rangeFunc g ps assign body).wpIn F n P Q a w:=by
  refine wpIn_rangeFunc ?_;intro fn Qf;rw[hro];obtain⟨rec,iQ⟩:∃rec:LoopState->Option Code->Loop,rec=fun st pe=>{state:=st,pending:=pe,fn,tmps:=a.tmps,params:=ps,assign,body,defers:=w.heap.size}:=⟨_,rfl⟩;obtain⟨W1,BA⟩:∃W1,(w.alloc<|.deferred<|some []).alloc (.loop<|rec .ready none)=W1:=⟨_,rfl⟩;have L9:W1.heap[w.heap.size+1]?=some (.loop<|rec .ready none):=by
    rw[<-BA];have:=World.alloc_heap_new (w.alloc<|.deferred<|some [])<|.loop<|rec .ready none;rwa[avs]at this
  have hK1:W1.heap[w.heap.size]?=some (.deferred<|some []):=by
    rw[<-BA];exact(avI _ _ _ M).trans<|World.alloc_heap_new w _
  have Ad:Below w.heap.size w W1:=by rw[<-BA];exact((avB _ w).alloc lr _).alloc M _
  have hI1:axb [] W1:=hI.below h0 Ad;have vZ:W1.heap.size=w.heap.size+2:=by rw[<-BA];simp
  refine⟨w.heap.size+1,[{target:=.collected w.heap.size,args:=#[]}],W1,{target:=.fn (.func gf) lb,args:=#[.func (.yield (w.heap.size+1)) #[] #[]]},W1,gf,
    #[.func (.yield (w.heap.size+1)) #[] #[]]++lb,W1,?_,?_,?_,?_,fun _=>h1,?_⟩
  · rw[<-BA,iQ];exact run_enterLoop_outer _ _ _ _ _
  · simp only[resolve,hg];simp[go_sem]
  · intro f' hf';simp[Target.leads]at hf';subst hf';exact hFg
  · simp[invoke,go_sem,eg]
  · have tc:∀{A C:World}{row:Option Nat}{k:Nat}{o:Obj},A.grownBy C row->(∀r,row=some r->r=w.heap.size+2)->k<w.heap.size+2->A.heap[k]?=some o->C.heap[k]?=some o:=fun sO hr z ho=>by
      rw[sO.block _ (avp.1 ho).1 fun e=>by have:=hr _ e.symm;omega];exact ho
    refine(uC (w.heap.size+1)
      (fun pre W=>axb pre W/\W.heap[w.heap.size+1]?=some (.loop<|rec .ready none)/\W.heap[w.heap.size]?=some (.deferred<|some []))
      (fun pre W=>∃c,Ix c pre W/\W.heap[w.heap.size+1]?=some (.loop<|rec .done<|some c)/\W.heap[w.heap.size]?=some (.deferred<|some []))
      W1 vZ Ad
      (fun s A C row hs sO hr=>⟨hI s A C row hs.1 sO (fun r e=>by have:=hr r e;omega),tc sO hr O hs.2.1,tc sO hr O hs.2.2⟩)
      (fun s A C row hs sO hr=>by
        obtain⟨c,hc,hl,z⟩:=hs
        exact⟨c,Mb c s A C row hc sO (fun r e=>by have:=hr r e;omega),tc sO hr O hl,tc sO hr O z⟩)
      (fun pre A hs=>by have:=(avp.1 hs.2.1).1;omega)
      ?_ ⟨hI1,L9,hK1⟩).mono ?_
    ·
      rintro pre x W0 W⟨hi,o7,sN⟩mT I gC;have hl:W.heap[w.heap.size+1]?=some (.loop<|rec .ready none):=(I.block _ O).trans o7;have z:W.heap[w.heap.size]?=some (.deferred<|some []):=(I.block _ O).trans sN;have sP:=I.size;have hy:=run_yield (P:=P) (args:=encs x) hl (by rw[iQ];exact P6 x);rw[iQ]at hy;have VQ:(W.alloc<|box x).heap[w.heap.size+1]?=some (.loop<|rec .ready none):=(avI W _ _ O).trans hl;have VS:(W.alloc<|box x).heap[w.heap.size]?=some (.deferred<|some []):=(avI W _ _ O).trans z;refine⟨fn,_,assign,body,hy,roundIn_of_wpIn Qf<|zl _ x W _ ⟨_,run_beginRound VQ (by rw[iQ]),?_⟩⟩;obtain⟨W3,nF⟩:∃W3,(W.alloc<|box x).putObj (w.heap.size+1) (.loop {rec .ready none with state:=.busy})=W3:=⟨_,rfl⟩;have LQ:W3.heap[w.heap.size+1]?=some (.loop {rec .ready none with state:=.busy}):=by rw[<-nF];exact World.putObj_heap_same aa6
      have iR:W3.heap[w.heap.size]?=some (.deferred<|some []):=by rw[<-nF];exact(World.putObj_heap_other O).trans VS
      have oW:axb pre W3:=by rw[<-nF];exact hI.putObj (hI.below hi<|I.trans<|((avB _ W).alloc lr _).mono sP) _ _ O O
      have dP:W.heap.size<=W3.heap.size:=by rw[<-nF];simp
      have Kj:∀k,(keep k\/(W0.heap.size<=k/\k<W.heap.size))->W3.heap[k]?=W.heap[k]?:=fun k ig=>by
        have bY:k≠w.heap.size+1:=ig.elim (fun h=>(cQ k h).2.1) (fun h=>by omega);have be:k<W.heap.size:=ig.elim (fun h=>by have:=(cQ k h).2.2;omega) fun h=>h.2;rw[<-nF];exact(World.putObj_heap_other bY).trans<|avI W _ _ be
      rw[nF];refine wpIn_mono (L7 _ pre x W0 W W3 _ hi mT I gC nF.symm oW) ?_;have fin:∀(jump:Option Code)(W4:World),KeepsOthers W3 W4->
          (Instr.endRound (w.heap.size+1) jump).run P W4=.ok (.bool jump.isNone) (W4.putObj (w.heap.size+1)<|.loop<|rec (if jump.isNone then .ready else .done) jump)/\
          (W4.putObj (w.heap.size+1)<|.loop<|rec (if jump.isNone then .ready else .done) jump).heap[w.heap.size+1]?=some (.loop<|rec (if jump.isNone then .ready else .done) jump)/\
          (W4.putObj (w.heap.size+1)<|.loop<|rec (if jump.isNone then .ready else .done) jump).heap[w.heap.size]?=some (.deferred<|some []):=fun jump W4 oV=>by
        have LP:=oV.same _ _ LQ rfl;have:=run_endRound (P:=P) jump LP;rw[iQ]at this⊢;exact⟨this,World.putObj_heap_same (avp.1 LP).1,(World.putObj_heap_other O).trans<|oV.same _ _ iR rfl⟩
      rintro e a3 W4 y;cases e with
      | normal=>
        obtain⟨oV,EX,DL⟩:=y;obtain⟨hr,Aa,xT⟩:=fin none W4 oV;refine⟨_,_,hr,.inl ⟨rfl,⟨hI.putObj DL _ _ O O,Aa,xT⟩,⟨?_,fun k ig=>?_⟩⟩⟩
        · have:=oV.size;simp;omega
        · have bY:k≠w.heap.size+1:=ig.elim (fun h=>(cQ k h).2.1) (fun h=>by omega);exact(World.putObj_heap_other bY).trans<|(EX k ig).trans<|Kj k ig
      | ret=>
        obtain⟨oV,DL⟩:=y;obtain⟨hr,Aa,xT⟩:=fin (some .ret) W4 oV;exact⟨_,_,hr,.inr ⟨rfl,.ret,(Mb _).putObj DL _ _ O O,Aa,xT⟩⟩
      | exit id=>
        obtain⟨oV,DL⟩:=y;obtain⟨hr,Aa,xT⟩:=fin (some<|.exit id) W4 oV;exact⟨_,_,hr,.inr ⟨rfl,.exit id,(Mb _).putObj DL _ _ O O,Aa,xT⟩⟩
      | goto t=>
        obtain⟨oV,DL⟩:=y;obtain⟨hr,Aa,xT⟩:=fin (some<|.goto t) W4 oV;exact⟨_,_,hr,.inr ⟨rfl,.goto t,(Mb _).putObj DL _ _ O O,Aa,xT⟩⟩
      | panic ch=>exact y.elim
      | outgrown=>exact y.elim
    ·
      rintro e W2⟨⟨v,rfl⟩,(⟨xs,hS,hi,hl,z⟩|⟨pre,hSp,c,hi,hl,z⟩)⟩
      · exact⟨none,_,by have:=run_endLoop (P:=P) hl (by rw[iQ];simp);rw[iQ]at this;exact this,L3 _ xs _ lr hS (hI.putObj hi _ _ O O)<|(World.putObj_heap_other O).trans z⟩
      · exact⟨some c,_,by have:=run_endLoop (P:=P) hl (by rw[iQ];simp);rw[iQ]at this;exact this,o5 _ c pre _ lr hSp ((Mb c).putObj hi _ _ O O)<|(World.putObj_heap_other O).trans z⟩
end
theorem mB (c:Int)(w:World):Calls prog 67 #[.int .u8 c] w fun e w'=>e=.returned (.bool<|ib c)/\w'=w:=by
 go_enter func67,ntmps67
 go_wp2;all_goals go_ret
 all_goals refine⟨aw ?_,rfl⟩
 all_goals(rw[avN];simp_all[ib])
theorem A6 (l:List UInt8):Lib.indexByte l 10=if(10:UInt8)∈l then(dO l:Int)else-1:=by
 induction l with
 |nil=>simp[Lib.indexByte]
 |cons a l ih=>
  unfold Lib.indexByte dO;by_cases h:a=10
  ·subst h;simp
  ·have h':¬(10:UInt8)=a:=fun e=>h e.symm;have I:(a !=10)=true:=by simp[h]
   simp only[avV,h,if_false,ih,avZ,h',false_or,takeWhile_cons,I,if_true,length_cons];split
   ·have:¬((dO l:Int)=-1):=O;simp only[this,if_false];simp[dO]
   ·simp
theorem Hc (l:List UInt8)(h:(10:UInt8)∉l):dO l=l.length:=by
 induction l with
 |nil=>rfl
 |cons a l ih=>
  have ha:(a !=10)=true:=by simp only[awz,ne_eq];intro e;subst e;exact h M
  have:=ih fun hm=>h (by simp[hm]);unfold dO at this⊢;rw[takeWhile_cons,ha];simp[this]
theorem Hj (s:ByteArray)(k:Nat)(w:World)(hs:s.size<=65536)(z:k<=s.size):
  Calls prog 69 #[.string s,.int .i64 k] w fun e w'=>e=.returned (.int .i64 ((k+dO (s.data.toList.drop k):Nat):Int))/\w'=w:=by
 have hx:Hid ((s.extract k s.size).data.toList=s.data.toList.drop k):=Lib.extract_to_end s k;have hlen:Hid ((s.data.toList.drop k).length=s.size-k):=by unfold Hid;rw[awf];rfl
 by_cases h:(10:UInt8)∈s.data.toList.drop k
 ·have hi:Hid (Lib.indexByte (s.extract k s.size).data.toList 10=(dO (s.data.toList.drop k):Int)):=by unfold Hid;rw[hx.o,A6,avA h]
  have hle:dO (s.data.toList.drop k)<=s.size:=by
   have:dO (s.data.toList.drop k)<=(s.data.toList.drop k).length:=(awK _).length_le;rw[hlen.o]at this;omega
  generalize dO (s.data.toList.drop k)=n at*
  have atc:=kk;exact agT
 ·have hi:Hid (Lib.indexByte (s.extract k s.size).data.toList 10=-1):=by unfold Hid;rw[hx.o,A6,avo h]
  have hn:Hid (k+dO (s.data.toList.drop k)=s.size):=by unfold Hid;rw[Hc _ h,hlen.o];omega
  have atd:=kk;exact agT
theorem mA (s:ByteArray)(w:World)(hs:s.size<=100000):
  Calls prog 111 #[.string s] w fun e w'=>e=.returned (.string s)/\Below w.heap.size w w':=by
 go_enter func111,ntmps111
 go_wp2_with(go_at_call 136;refine(stringslite_Clone _ _ O).mono ?_;rintro e w' ⟨rfl,I⟩)
 go_ret;exact⟨rfl,I⟩
theorem Fu (t:ByteArray)(l:List UInt8):decide ((⟨l.toArray⟩:ByteArray)=t)=(t.toList==l):=by
 rw[avx,avN];simp only[avy,avV];constructor
 ·intro h;rw[<-h]
 ·intro h;exact dx (by rw[h])
theorem ends3 (t:ByteArray):jK 3 t=(t.toList==[114,101,116,117,114,110]||t.toList==[98,114,101,97,107]||t.toList==[99,111,110,116,105,110,117,101]||t.toList==[116,114,117,101]||t.toList==[102,97,108,115,101]||t.toList==[105,110,116]||t.toList==[98,111,111,108]):=by unfold jK hasB Fs;simp only[any_cons,any_nil,Fu,Bool.or_false,Bool.or_assoc];simp
theorem ends4 (t:ByteArray):jK 4 t=(t.toList==[43,43]||t.toList==[45,45]||t.toList==[41]||t.toList==[125]):=by unfold jK hasB Fq;simp only[any_cons,any_nil,Fu,Bool.or_false,Bool.or_assoc];simp
theorem xL (k:Int)(t:ByteArray)(p:Int)(w:World):
  Calls prog 66 #[.agg #[.int .i64 k,.string t,.int .i64 p]] w fun e w'=>e=.returned (.bool<|jK k t)/\Below w.heap.size w w':=by
 by_cases h1:k=1
 ·subst h1;go_enter func66,ntmps66
  go_wp2;go_ret;exact⟨aw (by simp[jK]),bA⟩
 by_cases h2:k=2
 ·subst h2;go_enter func66,ntmps66
  go_wp2;go_ret;exact⟨aw (by simp[jK]),bA⟩
 by_cases h3:k=3
 ·subst h3;clear h1 h2;go_enter func66,ntmps66
  go_wp2;all_goals go_ret
  all_goals refine⟨aw ?_,bA⟩
  all_goals go_light
  all_goals rw[ends3]
  all_goals simp_all
 by_cases h4:k=4
 ·subst h4;clear h1 h2 h3;go_enter func66,ntmps66
  go_wp2;all_goals go_ret
  all_goals refine⟨aw ?_,bA⟩
  all_goals go_light
  all_goals rw[ends4]
  all_goals simp_all
 ·have e1:(k==1)=false:=by simp[h1]
  have e2:(k==2)=false:=by simp[h2]
  have e3:(k==3)=false:=by simp[h3]
  have e4:(k==4)=false:=by simp[h4]
  have HE:Hid (jK k t=false):=by simp[Hid,jK,h1,h2,h3,h4]
  clear h1 h2 h3 h4;go_enter func66,ntmps66
  go_wp2;go_ret;exact⟨aw HE.o.symm,bA⟩
theorem Bw (s:ByteArray)(h:0<s.size):s.data.toList.headD 0=s[0]:=by
 have:0<s.data.toList.length:=by simpa using h
 cases hl:s.data.toList with
 |nil=>simp[hl]at this
 |cons a l=>
  have:s.data.toList[0]'this=a:=by simp[hl]
  show a=s.data[0];rw[<-this];rfl
theorem O0 (s:ByteArray)(n:Nat):s.extract 0 n=bs (s.data.toList.take n):=dx (by rw[Lib.extract_data,zM];simp)
def jz (l:List UInt8):Int:=if 40<dk l then 1 else if hasB bd (bs<|l.take<|dk l)then 3 else 1
def gK (l:List UInt8):ByteArray:=if 40<dk l then⟨#[]⟩else bs (l.take<|dk l)
theorem Hg (s:ByteArray)(w:World)(hs:s.size<=65536)(hr:bX w 4 bd):
  Calls prog 107 #[.string s] w fun e w'=>e=.returned (.tuple #[.int .i64<|jz s.data.toList,.string<|gK s.data.toList])/\w'=w:=by
 have HR:Hid (bX w 4 bd):=hr;clear hr;have HS:Hid (s.size<=maxLen):=by unfold Hid maxLen;omega
 have hle:dk s.data.toList<=s.size:=qk _;have z:Hid (jz s.data.toList=if 40<dk s.data.toList then 1 else if hasB bd (bs<|s.data.toList.take<|dk s.data.toList)then 3 else 1):=rfl;have ht:Hid (gK s.data.toList=if 40<dk s.data.toList then⟨#[]⟩else bs (s.data.toList.take<|dk s.data.toList)):=rfl;have atp:=kk;exact ag2
def jX (l:List UInt8):ByteArray:=if sL (l.take<|dk l)then bs (l.take<|dk l)else⟨#[]⟩
theorem Lk (s:ByteArray)(w:World)(hs:s.size<=65536):
  Calls prog 109 #[.string s] w fun e w'=>e=.returned (.string<|jX s.data.toList)/\w'=w:=by
 have HS:Hid (s.size<=maxLen):=by unfold Hid maxLen;omega
 have hle:dk s.data.toList<=s.size:=qk _;have ht:Hid (jX s.data.toList=if sL (s.data.toList.take<|dk s.data.toList)then bs (s.data.toList.take<|dk s.data.toList)else⟨#[]⟩):=rfl;have atq:=kk;exact ag2
theorem Hi (s:ByteArray)(w:World)(hr:bX w 3 dI):
  Calls prog 110 #[.string s] w fun e w'=>e=.returned (.string<|dH s.data.toList)/\w'=w:=by
 have LO:Hid (w.rangeAt 3 0<|dI.map Value.string):=tY hr;have HZ:Hid ((prog.info? 151).map (·.size)=some (dI.map Value.string).length):=by unfold Hid;kernel_rfl
 have Lv:(prog.info? 9).map (·.size)=some 1:=aaf;have hix:Hid (∀k:Nat,k<25->(Instr.index 151 (.agg (dI.map Value.string).toArray)<|.int .i64 k).run prog w=.ok (.string<|dI.getD k ⟨#[]⟩) w):=
  fun k z=>nw w dI k underlying151 underlying9 Lv z rfl
 have Qj:Hid (dH s.data.toList=(dI.find? fun g=>g.data.toList.isPrefixOf s.data.toList).getD ⟨#[]⟩):=rfl;clear hr Lv;generalize dH s.data.toList=r at*
 generalize hkw:dI=ss at*
 have hlen:Hid (ss.length=25):=by rw[<-hkw];rfl
 clear hkw;go_enter func110,ntmps110
 go_wp2_with(refine wpList_load_mid rfl 151 _ rfl 3 0 rfl _ _ LO.o underlying151 rfl HZ.o ?_)
 go_loop [6] (fun i=>∃k:Nat,k<=25/\i=.int .i64 k/\Hid (∀g∈ss.take k,g.data.toList.isPrefixOf s.data.toList=false)) (fun i=>25-(intOf i).toNat)
 case atStart=>exact⟨0,avL _,rfl,by simp[Hid]⟩
 case round=>
  obtain⟨k,z,rfl,bl⟩:=hrel;by_cases be:k<25
  ·have hi:=hix.o k be;have xR:k<ss.length:=by rw[hlen.o];exact be
   generalize hg:ss.getD k ⟨#[]⟩=g at hi;have HG:Hid (ss[k]=g):=by unfold Hid;rw[<-hg];simp[List.getD,xR]
   clear hg;cases I:Lib.hasPrefix s.data.toList g.data.toList
   ·have HN:Hid (∀g∈ss.take (k+1),g.data.toList.isPrefixOf s.data.toList=false):=by
     intro axd hy;rw[awI xR,awb]at hy;rcases hy with hy|hy
     ·exact bl.o axd hy
     ·rw[awc.1 hy,HG.o];exact I
    have HB:Hid (Lib.hasPrefix s.data.toList g.data.toList=false):=I;clear I;go_wp2_with(go_at_call 68;refine(strings_HasPrefix _ _ _).mono ?_;rw[HB.o];rintro e w' ⟨rfl,rfl⟩)
    go_round
    case rel=>exact⟨k+1,O,by go_num,HN⟩
    case measure=>simp[intOf];omega
   ·have HF:Hid (r=g):=by
     unfold Hid;rw[Qj.o];have:ss.find? (fun g=>g.data.toList.isPrefixOf s.data.toList)=some ss[k]:=by
      rw[List.find?_eq_some_iff_getElem];refine⟨by rw[HG.o];exact I,k,xR,rfl,fun j hj=>?_⟩;have:=bl.o ss[j] (List.mem_take_iff_getElem.2 ⟨j,O,rfl⟩);simp[this]
     rw[this,HG.o];rfl
    have HB:Hid (Lib.hasPrefix s.data.toList g.data.toList=true):=I;clear I;go_wp2_with(go_at_call 68;refine(strings_HasPrefix _ _ _).mono ?_;rw[HB.o];rintro e w' ⟨rfl,rfl⟩)
    go_ret;exact⟨qv HF.o.symm,rfl⟩
  ·have HF:Hid (r=⟨#[]⟩):=by
    unfold Hid;rw[Qj.o];have:ss.find? (fun g=>g.data.toList.isPrefixOf s.data.toList)=none:=by
     rw[List.find?_eq_none];intro x hx;have:=bl.o x (by rw[awe (by rw[hlen.o];omega)];exact hx);simp[this]
    rw[this];rfl
   go_wp2;go_ret;exact⟨qv HF.o.symm,rfl⟩
theorem Ij (s:ByteArray)(k:Nat)(h:k<s.size):(s.data.toList.drop k).headD 0=s[k]:=by
 have hl:k<s.data.toList.length:=by simpa using h
 rw[aw1 hl];rfl
theorem dJ {ss:List ByteArray}(h:bX W b ss)(I:Below n W W')(be:b<n):bX W' b ss:=
 fun i hi=>(I.cell (p:=⟨b,i,none⟩) be).trans<|h i hi
theorem nV (I:Below W.heap.size W w1):(∀b o,b<W.heap.size->w1.cell? ⟨b,o,none⟩=W.cell? ⟨b,o,none⟩)/\(∀b o,b<W.heap.size->w1.frozen? ⟨b,o,none⟩=W.frozen? ⟨b,o,none⟩):=
 ⟨fun b o h=>I.cell (p:=⟨b,o,none⟩) h,fun b o h=>I.frozen (p:=⟨b,o,none⟩) h⟩
def ko (k:Int)(t:ByteArray)(p:Nat):Value:=.agg #[.int .i64 k,.string t,.int .i64 p]
def dt (l:List UInt8):Int:=match b7 l with|.tok k _ _=>k|_=>0
def cX (l:List UInt8):ByteArray:=match b7 l with|.tok _ t _=>t|_=>⟨#[]⟩
def dX (l:List UInt8):Int:=match b7 l with|.tok _ _ _=>0|_=>4
def iD (l:List UInt8):Int:=if(l.headD 0).toNat=59 then 5 else if bZ (l.headD 0).toNat then jz l else if ct (l.headD 0).toNat then 2 else 4
def dK (l:List UInt8):ByteArray:=if(l.headD 0).toNat=59 then⟨#[59]⟩else if bZ (l.headD 0).toNat then gK l else if ct (l.headD 0).toNat then jX l else dH l
theorem iK (l:List UInt8):(bs<|l.take<|dk l).size=dk l:=by rw[zL,length_take];exact awT<|qk l
theorem Ke (h:t.size=0):t=⟨#[]⟩:=dx<|avY h
theorem step_eq (l:List UInt8)(hl:l≠[]):
  ((dK l).size=0->dt l=0/\cX l=⟨#[]⟩/\dX l=4)/\((dK l).size≠0->dt l=iD l/\cX l=dK l/\dX l=0):=by
 have bad:∀(e:b7 l=.bad)(er:dK l=⟨#[]⟩),((dK l).size=0->dt l=0/\cX l=⟨#[]⟩/\dX l=4)/\((dK l).size≠0->dt l=iD l/\cX l=dK l/\dX l=0):=fun e er=>by
  unfold dt cX dX;rw[e,er];exact⟨fun _=>⟨rfl,rfl,rfl⟩,fun h=>absurd rfl h⟩
 have gu:∀(t:ByteArray)(d:Nat)(e:b7 l=.tok (iD l) t d)(er:dK l=t)(y:t.size≠0),((dK l).size=0->dt l=0/\cX l=⟨#[]⟩/\dX l=4)/\((dK l).size≠0->dt l=iD l/\cX l=dK l/\dX l=0):=fun t d e er y=>by
  unfold dt cX dX;rw[e,er];exact⟨fun h=>absurd h y,fun _=>⟨rfl,rfl,rfl⟩⟩
 by_cases h1:(l.headD 0).toNat=59
 ·refine gu ⟨#[59]⟩ 1 ?_ ?_ J
  ·unfold b7 iD;rw[avA h1,avA h1]
  ·unfold dK;rw[avA h1]
 by_cases h2:bZ (l.headD 0).toNat=true
 ·have y:=qj (l:=l) (by unfold cG;rw[h2];rfl) hl;have cg:=iK l;by_cases h3:40<dk l
  ·refine bad ?_ ?_
   ·unfold b7;rw[avo h1,avA h2,avA h3]
   ·unfold dK gK;rw[avo h1,avA h2,avA h3]
  ·refine gu (bs<|l.take<|dk l) (dk l) ?_ ?_ O
   ·unfold b7 iD jz;rw[avo h1,avA h2,avo h3,avo h1,avA h2,avo h3]
   ·unfold dK gK;rw[avo h1,avA h2,avo h3]
 by_cases h4:ct (l.headD 0).toNat=true
 ·have y:=qj (l:=l) (by unfold cG;rw[h4];exact Bool.or_true _) hl;have cg:=iK l;by_cases h5:sL (l.take<|dk l)=true
  ·refine gu (bs<|l.take<|dk l) (dk l) ?_ ?_ O
   ·unfold b7 iD;rw[avo h1,avo h2,avA h4,avA h5,avo h1,avo h2,avA h4]
   ·unfold dK jX;rw[avo h1,avo h2,avA h4,avA h5]
  ·refine bad ?_ ?_
   ·unfold b7;rw[avo h1,avo h2,avA h4,avo h5]
   ·unfold dK jX;rw[avo h1,avo h2,avA h4,avo h5]
 have er:dK l=dH l:=by unfold dK;rw[avo h1,avo h2,avo h4]
 by_cases h6:(dH l).size=0
 ·refine bad ?_ ?_
  ·unfold b7;rw[avo h1,avo h2,avo h4,avA h6]
  ·rw[er];exact Ke h6
 ·refine gu (dH l) (dH l).size ?_ er h6;unfold b7 iD;rw[avo h1,avo h2,avo h4,avo h6,avo h1,avo h2,avo h4]
theorem GU (l:List UInt8):(dK l).size<=l.length+2:=by
 unfold dK;have h1:=qk l;have h2:=iK l;split
 ·simp[ByteArray.size]
 split
 ·unfold gK;split
  ·simp[ByteArray.size]
  ·omega
 split
 ·unfold jX;split
  ·omega
  ·simp[ByteArray.size]
 ·unfold dH;cases hf:dI.find? fun g=>g.data.toList.isPrefixOf l with
  |none=>simp[ByteArray.size]
  |some g=>
   have:=List.find?_some hf;have:=(List.isPrefixOf_iff_prefix.1 this).length_le;have hg:g.data.toList.length=g.size:=rfl;simp only[awy];omega
theorem jZ (t:ByteArray):t.toList.isEmpty=decide (t.size=0):=by
 rw[avx,avN,isEmpty_iff,avy];constructor
 ·intro h;show t.data.toList.length=0;rw[h];rfl
 ·intro h;exact avY h
theorem Dq (s:ByteArray)(k:Nat)(w:World)(hs:s.size<=65536)(z:k<s.size)(hr:bX w 4 bd)(hg:bX w 3 dI)(hz:4<w.heap.size)(ed:3<w.heap.size):
  Calls prog 70 #[.string s,.int .i64 k] w fun e w'=>e=.returned (.tuple #[ko (dt<|s.data.toList.drop k) (cX<|s.data.toList.drop k) k,.int .i64<|dX<|s.data.toList.drop k])/\Below w.heap.size w w':=by
 have hx:Hid ((s.extract k s.size).data.toList=s.data.toList.drop k):=Lib.extract_to_end s k;have hxs:Hid ((s.extract k s.size).size<=65536):=by
  have:(s.extract k s.size).data.toList.length=(s.extract k s.size).size:=rfl;unfold Hid;rw[<-this,hx.o,awf];have:s.data.toList.length=s.size:=rfl;omega
 have HH:Hid ((s.data.toList.drop k).headD 0=s[k]):=Ij s k z;have bY:s.data.toList.drop k≠[]:=by
  intro e;have:=congrArg List.length e;rw[awf]at this;have h2:s.data.toList.length=s.size:=rfl;simp only[length_nil]at this;omega
 have ba:=step_eq _ bY;have hsm:=GU<|s.data.toList.drop k;have hsm2:(s.data.toList.drop k).length<=65536:=by
  rw[awf];have:s.data.toList.length=s.size:=rfl;omega
 have HR:Hid (bX (w.alloc<|.cells #[.int .i64 0,.string ⟨#[]⟩,.int .i64 0] 85) 4 bd):=dJ hr (bA) hz;have HG:Hid (bX (w.alloc<|.cells #[.int .i64 0,.string ⟨#[]⟩,.int .i64 0] 85) 3 dI):=dJ hg (bA) ed;have NR:Hid (iD (s.data.toList.drop k)=if s[k].toNat=59 then 5 else if bZ s[k].toNat then jz (s.data.toList.drop k)else if ct s[k].toNat then 2 else 4):=by
  unfold Hid iD;rw[HH.o]
 have S9:Hid (dK (s.data.toList.drop k)=if s[k].toNat=59 then⟨#[59]⟩else if bZ s[k].toNat then gK (s.data.toList.drop k)else if ct s[k].toNat then jX (s.data.toList.drop k)else dH (s.data.toList.drop k)):=by
  unfold Hid dK;rw[HH.o]
 clear hr hg hz ed bY HH;generalize dt (s.data.toList.drop k)=sk at*
 generalize cX (s.data.toList.drop k)=st at*
 generalize dX (s.data.toList.drop k)=sc at*
 generalize o7:s.data.toList.drop k=l at*
 clear o7;generalize dK l=rt at*
 generalize iD l=rk at*
 have Dx:Hid (rt.size=0->sk=0/\st=⟨#[]⟩/\sc=4):=ba.1;have Hq:Hid (rt.size≠0->sk=rk/\st=rt/\sc=0):=ba.2;clear ba;have hrs:rt.size<=65538:=O;clear hsm hsm2;cases hl:bZ s[k].toNat
 ·have HL:Hid (bZ s[k].toNat=false):=hl;by_cases BC:s[k].toNat=59
  ·have hd:ct s[k].toNat=false:=by rw[BC];decide
   have HD:Hid (ct s[k].toNat=false):=hd;have ig:rk=5:=by rw[NR.o,avA BC]
   have Dw:rt=⟨#[59]⟩:=by rw[S9.o,avA BC]
   have Md:((s[k].toNat:Int)==59)=true:=by simp;omega
   obtain⟨rfl,rfl,rfl⟩:=Hq.o (by rw[Dw];decide);clear Dx Hq hl hd BC NR S9;subst ig Dw;go_enter func70,ntmps70
   go_wp2_with(first|(go_at_call 106;refine(gg _ _).mono ?_;rw[HL.o];rintro e w' ⟨rfl,rfl⟩)|(go_at_call 108;refine(ji _ _).mono ?_;rw[HD.o];rintro e w' ⟨rfl,rfl⟩)|(go_at_call 111;refine(mA _ _ J).mono ?_;rintro e w1 ⟨rfl,I⟩;obtain⟨hc,hf⟩:=nV I;have hz:=I.size;simp only[avs]at hz))
   refine avr (v:=.tuple #[ko 5 ⟨#[59]⟩ k,.int .i64 0]) aay rfl ⟨rfl,?_⟩;exact agY
  have Bs:¬bZ s[k].toNat=true:=by rw[hl];decide
  cases hd:ct s[k].toNat
  ·have hdn:¬ct s[k].toNat=true:=by rw[hd];decide
   have HD:Hid (ct s[k].toNat=false):=hd;have ig:rk=4:=by rw[NR.o,avo BC,avo Bs,avo hdn]
   have Dw:Hid (rt=dH l):=by unfold Hid;rw[S9.o,avo BC,avo Bs,avo hdn]
   have Md:((s[k].toNat:Int)==59)=false:=by simp;omega
   clear hl Bs hd hdn BC NR S9;subst ig;cases he:rt.toList.isEmpty
   ·have atg:=kk;exact Xa
   ·have bY:rt.size=0:=by rw[jZ]at he;simpa using he
    obtain⟨rfl,rfl,rfl⟩:=Dx.o bY;have atk:=kk;exact agZ
  ·have HD:Hid (ct s[k].toNat=true):=hd;have ig:rk=2:=by rw[NR.o,avo BC,avo Bs,avA hd]
   have Dw:Hid (rt=jX l):=by unfold Hid;rw[S9.o,avo BC,avo Bs,avA hd]
   clear hl Bs hd BC NR S9;subst ig;cases he:rt.toList.isEmpty
   ·have ath:=kk;exact Xa
   ·have bY:rt.size=0:=by rw[jZ]at he;simpa using he
    obtain⟨rfl,rfl,rfl⟩:=Dx.o bY;have atl:=kk;exact ag0
 ·have Md:¬s[k].toNat=59:=by
   intro e;rw[e]at hl;revert hl;decide
  have ig:Hid (rk=jz l):=by unfold Hid;rw[NR.o,avo Md,avA hl]
  have Dw:Hid (rt=gK l):=by unfold Hid;rw[S9.o,avo Md,avA hl]
  have HL:Hid (bZ s[k].toNat=true):=hl;clear hl Md NR S9;cases he:rt.toList.isEmpty
  ·have ati:=kk;exact Xa
  ·have bY:rt.size=0:=by rw[jZ]at he;simpa using he
   obtain⟨rfl,rfl,rfl⟩:=Dx.o bY;have atn:=kk;exact ag1
def flat (ts:List Tok):List Value:=ts.flatMap fun t=>[.int .i64 t.y,.string t.text,.int .i64 t.place]
theorem Mk (ts:List Tok):(flat ts).length=ts.length*3:=by
 induction ts with
 |nil=>rfl
 |cons t ts ih=>rw[flat,aw5,avu,<-flat,ih];simp;omega
theorem Ib (ts:List Tok)(t:Tok):flat (ts++[t])=flat ts++[.int .i64 t.y,.string t.text,.int .i64 t.place]:=by simp[flat]
theorem vr (w:World)(a b c:Value)(t:TypeId):∀j u,[a,b,c][j]?=some u->(w.alloc<|.cells #[a,b,c] t).cell? ((⟨w.heap.size,0,none⟩:Addr).add j)=some u:=by
 intro j u hj;match j,hj with
 |0,hj=>simp at hj;subst hj;simp[Addr.add]
 |1,hj=>simp at hj;subst hj;simp[Addr.add]
 |2,hj=>simp at hj;subst hj;simp[Addr.add]
 |j+3,hj=>simp at hj
theorem GZ (a:Int)(b:ByteArray)(c:Int):∀u∈[Value.int .i64 a,.string b,.int .i64 c],u.oneCell'=true:=by intro u hu;simp at hu;rcases hu with rfl|rfl|rfl<;>rfl
theorem GY {w':World}{size:Nat}(h:w.ownsRow B e size v n xs)(I:Below w.heap.size w w'):w'.ownsRow B e size v n xs:=by
 obtain⟨h1,h2⟩:=h
 refine⟨h1,?_⟩;rcases h2 with h2|⟨g,cap,cur,hv,hg,hh,r⟩
 ·exact .inl h2
 ·exact .inr ⟨g,cap,cur,hv,hg,by rw[I.block g (avp.1 hh).1];exact hh,r⟩
theorem KF {size:Nat}(h:w.ownsRow B e size v (n+1) xs):∃g cap,v=.slice (some ⟨g,0,none⟩) (n+1) cap:=by
 rcases h.2 with⟨_,h⟩|⟨g,cap,_,hv,_⟩
 ·omega
 ·exact⟨g,cap,hv⟩
theorem BS (s:ByteArray)(p:Nat):(s.data.toList.drop p).length=s.size-p:=by rw[awf];rfl
section
open Go.RowKit Go.Shelf
attribute [local go_sem] aws
abbrev FA :=Tok×Int
def FL (x:FA):Array Value:=#[.agg #[.int .i64 x.1.y,.string x.1.text,.int .i64 x.1.place],.int .i64 x.2]
def uh (acc:List Tok):List FA:=acc.map fun t=>(t,0)
def Cf (s:List UInt8)(pre:List FA)(x:FA):Prop:=
 ∃p acc,Reach s p acc/\pre=uh acc/\p<=s.length/\((∃k t d,cS (s.drop p) (fC acc)=.tok k t d/\x=(⟨k,t,p⟩,0))\/(cS (s.drop p) (fC acc)=.bad/\x=(⟨0,⟨#[]⟩,p⟩,4)))
def X0 (s:List UInt8)(xs:List FA):Prop:=(∃p acc,Reach s p acc/\xs=uh acc/\s.length<p)\/∃x∈xs,x.2≠0
def fK (acc:List Tok):Tok:=acc.getLast?.getD ⟨0,⟨#[]⟩,0⟩
def qE (acc:List Tok):Obj:=.cells #[.int .i64 (fK acc).y,.string (fK acc).text,.int .i64 (fK acc).place] 85
structure Eb (s:ByteArray)(bt B:Nat)(acc:List Tok)(wr:World):Prop where
 text:wr.cell? ⟨bt,0,none⟩=some (.string s)
 words:bX wr 4 bd
 cp:bX wr 3 dI
 last:wr.heap[B+2]?=some (qE acc)
def Eu (base bt B k:Nat):Prop:=k<base\/k=bt\/k=B+2
theorem sK {P:Program}{c:Code}(h:c.wpIn Fence.wide n P (Exit.noGoto Q) a w):(Code.scope c).wpIn Fence.wide n P Q a w:=
 wpIn_wide.2 (wp_scope_straight<|wpIn_wide.1 h)
theorem Jv (l:List UInt8){k:Int}{d:Nat}(h:b7 l=.tok k t d):d=t.size:=by
 unfold b7 at h;split at h
 ·cases h;rfl
 split at h
 ·split at h
  ·cases h
  ·cases h;exact(iK l).symm
 split at h
 ·split at h
  ·cases h;exact(iK l).symm
  ·cases h
 split at h
 ·cases h
 ·cases h;rfl
theorem CQ (l:List UInt8)(d:Nat):b7 l≠.skip d:=by
 intro h;unfold b7 at h;repeat' (split at h)
 all_goals cases h
theorem CZ (l:List UInt8):(∃d,b7 l=.tok (dt l) (cX l) d/\dX l=0/\d=(cX l).size)\/(b7 l=.bad/\dt l=0/\cX l=⟨#[]⟩/\dX l=4):=by
 cases h:b7 l with
 |skip d=>exact absurd h<|CQ l d
 |tok k t d=>
  refine .inl ⟨d,?_,?_,?_⟩
  ·unfold dt cX;rw[h]
  ·unfold dX;rw[h]
  ·unfold cX;rw[h];exact Jv l h
 |bad=>
  refine .inr ⟨rfl,?_,?_,?_⟩
  ·unfold dt;rw[h]
  ·unfold cX;rw[h]
  ·unfold dX;rw[h]
theorem so (s:ByteArray)(k:Nat)(w:World)(hs:s.size<=65536)(z:k<s.size)(hr:bX w 4 bd)(hg:bX w 3 dI)(hz:4<w.heap.size)(ed:3<w.heap.size):
  Calls prog 70 #[.string s,.int .i64 k] w fun e w'=>e=.returned (.tuple #[.agg #[.int .i64<|dt<|s.data.toList.drop k,.string<|cX<|s.data.toList.drop k,.int .i64 k],.int .i64<|dX<|s.data.toList.drop k])/\Below w.heap.size w w':=
 Dq s k w hs z hr hg hz ed
theorem Dc (s:ByteArray)(p:Nat)(y:p<s.size)(c:Int)(hc:(s[p].toNat:Int)=c):
  Lib.hasPrefix (s.extract p s.size).data.toList (⟨#[47,47]⟩:ByteArray).data.toList=decide (c=47/\∃h:p+1<s.size,(s[p+1].toNat:Int)=47):=by
 rw[Lib.extract_to_end,jg s p y];have hh:=rE s p;unfold Lib.hasPrefix;rw[avN,avy,<-hh];have TF:(47:UInt8)=s[p]↔c=47:=by
  constructor
  ·intro e;rw[<-hc,<-e];rfl
  ·intro e;have:(47:UInt8).toNat=s[p].toNat:=by show 47=s[p].toNat;omega
   exact UInt8.toNat_inj.1 this
 generalize s.data.toList.drop (p+1)=r;cases r with
 |nil=>simp[List.isPrefixOf]
 |cons b r=>
  simp only[List.isPrefixOf,Bool.and_true,avw,avV,List.head?_cons,awM];rw[TF];exact⟨fun⟨x,axd⟩=>⟨x,axd.symm⟩,fun⟨x,axd⟩=>⟨x,axd.symm⟩⟩
theorem yg (acc:List Tok):fC acc=jK (fK acc).y (fK acc).text:=by
 unfold fC fK;cases acc.getLast? with
 |none=>rfl
 |some t=>rfl
theorem Hd (acc:List Tok)(t:Tok):fK (acc++[t])=t:=by simp[fK]
theorem KL (acc:List Tok)(t:Tok):uh (acc++[t])=uh acc++[(t,0)]:=by simp[uh]
theorem yc (h:Eb s bt B acc A)(I:Below A.heap.size A C)(h1:bt<A.heap.size)(h2:B+2<A.heap.size)(h3:4<B):Eb s bt B acc C:=
 ⟨(I.cell (p:=⟨bt,0,none⟩) h1).trans h.text,dJ h.words I O,dJ h.cp I O,(I.block _ h2).trans h.last⟩
theorem zF {t:TypeId}(h:W.heap[b]?=some (.cells #[x,axd,axa] t)):
  W.cell? ⟨b,0,none⟩=some x/\W.cell? ⟨b,1,none⟩=some axd/\W.cell? ⟨b,2,none⟩=some axa/\W.frozen? ⟨b,0,none⟩=false/\W.frozen? ⟨b,1,none⟩=false/\W.frozen? ⟨b,2,none⟩=false:=by
 refine⟨?_,?_,?_,?_,?_,?_⟩<;>simp[World.cell?,World.frozen?,h]
theorem UU {x' y' z':Value}{t:TypeId}(h:W.heap[b]?=some (.cells #[x,axd,axa] t)):
  W.grownBy (((W.setCell ⟨b,0,none⟩ x').setCell ⟨b,1,none⟩ y').setCell ⟨b,2,none⟩ z') (some b)/\(((W.setCell ⟨b,0,none⟩ x').setCell ⟨b,1,none⟩ y').setCell ⟨b,2,none⟩ z').heap[b]?=some (.cells #[x',y',z'] t)/\(((W.setCell ⟨b,0,none⟩ x').setCell ⟨b,1,none⟩ y').setCell ⟨b,2,none⟩ z').heap.size=W.heap.size:=by
 refine⟨⟨rfl,rfl,rfl,by simp[World.setCell],fun k z bY=>?_⟩,?_,by simp[World.setCell]⟩
 ·have DI:k≠b:=fun e=>bY (by rw[e]);rw[avz _ _ _ _ DI,avz _ _ _ _ DI,avz _ _ _ _ DI]
 ·simp[World.setCell,Array.getElem?_modify,h]
theorem Cd {base:Nat}{axc:List FA->World->Prop}{t:Tok}(ln:4<base)(YT:base<=B)(NV:bt<B)(hJ:∀pre A C row,axc pre A->A.grownBy C row->(∀r,row=some r->r=B+2)->axc pre C)
  (wh:Eb s bt B acc W0) (hz:B+2<W0.heap.size) (I:Below W0.heap.size W0 W1) (Ma:axc (uh acc++[(t,0)]) W') (z:Nq (Eu base bt B) W0 W1 W'):
  axc (uh<|acc++[t]) (((W'.setCell ⟨B+2,0,none⟩<|.int .i64 t.y).setCell ⟨B+2,1,none⟩<|.string t.text).setCell ⟨B+2,2,none⟩<|.int .i64 t.place)/\B+2<(((W'.setCell ⟨B+2,0,none⟩<|.int .i64 t.y).setCell ⟨B+2,1,none⟩<|.string t.text).setCell ⟨B+2,2,none⟩<|.int .i64 t.place).heap.size/\
   Eb s bt B (acc++[t]) (((W'.setCell ⟨B+2,0,none⟩<|.int .i64 t.y).setCell ⟨B+2,1,none⟩<|.string t.text).setCell ⟨B+2,2,none⟩<|.int .i64 t.place):=by
 have hL:W'.heap[B+2]?=some (qE acc):=(z.same _<|.inl<|.inr<|.inr rfl).trans<|(I.block _ hz).trans wh.last;obtain⟨hg,hl,cg⟩:=UU (x':=.int .i64 t.y) (y':=.string t.text) (z':=.int .i64 t.place) hL;have iV:=z.size;have mi:=I.size;have old:∀k,(k<base\/k=bt)->k<W0.heap.size->k≠B+2->(((W'.setCell ⟨B+2,0,none⟩<|.int .i64 t.y).setCell ⟨B+2,1,none⟩<|.string t.text).setCell ⟨B+2,2,none⟩<|.int .i64 t.place).heap[k]?=W0.heap[k]?:=fun k ig be bY=>by
  rw[hg.block k O fun e=>bY<|avq e];exact(z.same k<|.inl<|ig.elim .inl fun e=>.inr<|.inl e).trans<|I.block k be
 refine⟨?_,O,⟨?_,fun i hi=>?_,fun i hi=>?_,?_⟩⟩
 ·rw[KL];exact hJ _ _ _ _ Ma hg fun r e=>(avq e).symm
 ·exact(avt<|old bt (.inr rfl) O O).trans wh.text
 ·exact(avt (a:=⟨4,i,none⟩)<|old 4 (.inl O) O O).trans<|wh.words i hi
 ·exact(avt (a:=⟨3,i,none⟩)<|old 3 (.inl O) O O).trans<|wh.cp i hi
 ·unfold qE;rw[Hd];exact hl
theorem Nb (n:Nat)(hn:1<=n)(s:ByteArray)(hs:s.size<=65536)(base bt B l:Nat)(ln:4<base)(YT:base<=B)(NV:bt<B)(axc Jx:List FA->World->Prop)(W:World)(DR:W.heap.size=B+2)
    (hJ:∀pre A C row,axc pre A->A.grownBy C row->(∀r,row=some r->r=B+2)->axc pre C)
    (hY:∀pre x W0 W1,axc pre W0->B+2<W0.heap.size->Below W0.heap.size W0 W1->Cf s.data.toList pre x->YieldAt Fence.wide (n-1) prog l (FL x) W1 fun e W'=>
      (e=.returned (.bool true)/\axc (pre++[x]) W'/\Nq (Eu base bt B) W0 W1 W')\/(e=.returned (.bool false)/\Jx (pre++[x]) W'))
    (h0:axc [] W) (ht:W.cell? ⟨bt,0,none⟩=some (.string s)) (hw:bX W 4 bd) (hg:bX W 3 dI):
    CallsIn Fence.wide n prog 65 #[.func (.yield l) #[] #[],.pointer<|some ⟨bt,0,none⟩] W fun e W'=>(∃v,e=.returned v)/\((∃xs,X0 s.data.toList xs/\axc xs W')\/(∃pre,True/\Jx pre W')):=by
  refine callsIn_of_wp func65 rfl trivial ?_ rfl;simp only[ntmps65,awo,length_cons,length_nil,Nat.reduceAdd,Nat.reduceSub,awj,awi,awp,awl,nil_append,cons_append];refine sK ?_;gi_wp2;refine wpIn_label ?_;gi_wp2;gi_loopw [4] (fun i wr=>∃(p:Nat)(acc:List Tok),Reach s.data.toList p acc/\p<=s.size+1/\i=.int .i64 p/\axc (uh acc) wr/\B+2<wr.heap.size/\Eb s bt B acc wr) (fun i _=>s.size+2-(intOf i).toNat)
  case atStart=>
    have aR:Below W.heap.size W (W.alloc<|.cells #[.int .i64 0,.string ⟨#[]⟩,.int .i64 0] 85):=bA;refine⟨0,[],.start,O,rfl,hJ _ _ _ none h0 (gn aR) (fun r e=>by cases e),by simp;omega,⟨(aR.cell (p:=⟨bt,0,none⟩) (by show bt<_;omega)).trans ht,dJ hw aR O,dJ hg aR O,?_⟩⟩;have:=World.alloc_heap_new W<|.cells #[.int .i64 0,.string ⟨#[]⟩,.int .i64 0] 85;rw[DR]at this;exact this
  case round=>
    obtain⟨p,acc,DB,y,rfl,Qm,hz,wh⟩:=hrel;clear h0 ht hw hg DR;have vY:=wh.text;have hL:s.data.toList.length=s.size:=rfl;by_cases P6:s.size<p
    · have HS:Hid (X0 s.data.toList<|uh acc):=.inl ⟨p,acc,DB,rfl,P6⟩;gi_wp2;rw[aw6];go_end0;exact⟨⟨_,rfl⟩,.inl ⟨_,HS.o,Qm⟩⟩
    have Hs:p<=s.size:=O;have sP:bt<wr.heap.size:=O;have Tw:Below wr.heap.size wr (wr.alloc<|.cells #[.int .i64 5,.string ⟨#[]⟩,.int .i64 p] 85):=bA;have hJN:axc (uh acc) (wr.alloc<|.cells #[.int .i64 5,.string ⟨#[]⟩,.int .i64 p] 85):=hJ _ _ _ none Qm (gn Tw) (fun r e=>by cases e);have Tm:=yc wh Tw sP hz O;have hzN:B+2<(wr.alloc<|.cells #[.int .i64 5,.string ⟨#[]⟩,.int .i64 p] 85).heap.size:=by simp;omega
    have HJN:=(show Hid (axc (uh acc) _)from hJN);have Yt:=(show Hid (Eb s bt B acc _)from Tm);have HFX0:=(show Hid (Eb s bt B acc wr)from wh);have TZ:Hid (Reach s.data.toList p acc):=DB;have Uf:Hid (axc (uh acc) wr):=Qm;have HbN:=(show Hid (Below wr.heap.size wr _)from Tw);have fT:Hid (wr.heap[B+2]?=some (qE acc)):=wh.last;clear wh Tm hJN Qm Tw DB;have ll:((p:Int)==(s.size:Int))=true\/(((p:Int)==(s.size:Int))=false/\∃y:p<s.size,(s[p].toNat:Int)=10)\/(((p:Int)==(s.size:Int))=false/\∃y:p<s.size,(s[p].toNat:Int)≠10):=by
      by_cases h:p<s.size
      · by_cases h2:(s[p].toNat:Int)=10
        · exact .inr<|.inl ⟨bn O,h,h2⟩
        · exact .inr<|.inr ⟨bn O,h,h2⟩
      · exact .inl<|avV.2 O
    have Bv:Hid (((p:Int)==(s.size:Int))=true\/(((p:Int)==(s.size:Int))=false/\∃y:p<s.size,(s[p].toNat:Int)=10)->cS (s.data.toList.drop p) (fC acc)=if fC acc then .tok 5 ⟨#[]⟩ 1 else .skip 1):=fun h=>step_end s p _ (by
      rcases h with h|⟨_,h⟩
      · exact .inl (by have:=avV.1 h;omega)
      · exact .inr h)
    rcases ll with hq|⟨hq,P7,hc⟩|⟨hq,P7,hc10⟩
    · have ba:=Bv.o<|.inl hq;exact agQ
    · have ba:=Bv.o<|.inr ⟨hq,P7,hc⟩;exact agQ
    · clear Bv fT;obtain⟨c,hc⟩:∃c:Int,(s[p].toNat:Int)=c:=⟨_,rfl⟩;have kK:c≠10:=by rw[<-hc];exact hc10
      have e10:(c==10)=false:=bn kK;clear hc10;cases qL:ib c
      · have HBl:Hid (ib c=false):=qL;have VE:Lib.hasPrefix (s.extract p s.size).data.toList (⟨#[47,47]⟩:ByteArray).data.toList=decide (c=47/\∃h:p+1<s.size,(s[p+1].toNat:Int)=47):=Dc s p P7 c hc;by_cases Ac:c=47/\∃h:p+1<s.size,(s[p+1].toNat:Int)=47
        · have HPf:Hid (Lib.hasPrefix (s.extract p s.size).data.toList (⟨#[47,47]⟩:ByteArray).data.toList=true):=by unfold Hid;rw[VE];exact avR Ac
          have HR:Hid (Reach s.data.toList (p+dO (s.data.toList.drop p)) acc):=.skip TZ.o O<|yJ s p _ P7 c hc qL Ac.1 Ac.2;have zc:=Ld s p P7 c hc Ac.1;have hle:=EP<|s.data.toList.drop p;rw[BS]at hle;clear VE Ac qL kK;gi_wp2_with(first|(refine⟨trivial,?_⟩;gi_at_call 67;refine(avT.2<|mB _ _).mono ?_;rw[HBl.o];rintro e w' ⟨rfl,rfl⟩)|(refine⟨trivial,?_⟩;gi_at_call 68;refine(avT.2<|strings_HasPrefix _ _ _).mono ?_;rw[HPf.o];rintro e w' ⟨rfl,rfl⟩)|(refine⟨trivial,?_⟩;gi_at_call 69;refine(avT.2<|Hj _ _ _ hs Hs).mono ?_;rintro e w' ⟨rfl,rfl⟩))
          go_roundw
          case rel=>exact⟨p+dO (s.data.toList.drop p),acc,HR.o,O,by go_num,HJN.o,hzN,Yt.o⟩
          case measure=>simp[intOf];omega
        · have HPf:Hid (Lib.hasPrefix (s.extract p s.size).data.toList (⟨#[47,47]⟩:ByteArray).data.toList=false):=by unfold Hid;rw[VE];exact avP Ac
          have ba:=JZ s p (fC acc) P7 c hc kK qL Ac;clear VE Ac qL kK;rcases CZ (s.data.toList.drop p)with⟨d,h1,h2,h3⟩|⟨h1,h2,h3,h4⟩
          · have hd:=(J0 (s.data.toList.drop p)<|fC acc).2 _ _ _<|ba.trans h1;rw[BS]at hd;have HR:Hid (Reach s.data.toList (p+d)<|acc++[⟨dt<|s.data.toList.drop p,cX<|s.data.toList.drop p,p⟩]):=.tok TZ.o O<|ba.trans h1;have HC:Hid (Cf s.data.toList (uh acc) (⟨dt<|s.data.toList.drop p,cX<|s.data.toList.drop p,p⟩,0)):=⟨p,acc,TZ.o,rfl,O,.inl ⟨_,_,d,ba.trans h1,rfl⟩⟩;generalize hsk:dt (s.data.toList.drop p)=sk at*
            generalize hstt:cX (s.data.toList.drop p)=st at*
            have HK:Hid (dt (s.data.toList.drop p)=sk):=hsk;have HT:Hid (cX (s.data.toList.drop p)=st):=hstt;have HCo:Hid (dX (s.data.toList.drop p)=0):=h2;have hlo2:Hid (wr.heap[B+2]?=some (qE acc)):=HFX0.o.last;clear hsk hstt ba h1 h2;subst h3;obtain⟨hd1,Tn⟩:=hd;have hd3:p+st.size<=s.size:=O;clear Tn;gi_wp2_with(first|(refine⟨trivial,?_⟩;gi_at_call 67;refine(avT.2<|mB _ _).mono ?_;rw[HBl.o];rintro e w' ⟨rfl,rfl⟩)|(refine⟨trivial,?_⟩;gi_at_call 68;refine(avT.2<|strings_HasPrefix _ _ _).mono ?_;rw[HPf.o];rintro e w' ⟨rfl,rfl⟩)|(refine⟨trivial,?_⟩;gi_at_call 70;refine(avT.2<|so _ _ _ hs P7 Yt.o.words Yt.o.cp aaI aaI).mono ?_;rw[HK.o,HT.o,HCo.o];rintro e w1 ⟨rfl,hb1⟩;obtain⟨eO,su⟩:=nV hb1;have eu:=hb1.size;simp only[avs]at eu;have TC:=(hb1.block wr.heap.size M).trans<|World.alloc_heap_new wr _;obtain⟨oD,LP,Hp⟩:=UU (x':=.int .i64 sk) (y':=.string st) (z':=.int .i64 p) TC;have By:Below wr.heap.size wr (((w1.setCell ⟨wr.heap.size,0,none⟩<|.int .i64 sk).setCell ⟨wr.heap.size,1,none⟩<|.string st).setCell ⟨wr.heap.size,2,none⟩<|.int .i64 p):=(((HbN.o.trans<|hb1.mono M).setCell lr _).setCell lr _).setCell lr _;obtain⟨fn,tmps,assign,bod,hy,hR⟩:=hY _ _ wr (((w1.setCell ⟨wr.heap.size,0,none⟩<|.int .i64 sk).setCell ⟨wr.heap.size,1,none⟩<|.string st).setCell ⟨wr.heap.size,2,none⟩<|.int .i64 p) Uf.o hz By HC.o;simp only[FL]at hy;have HL3:=(show Hid (_=some (Obj.cells _ _ _))from LP);have fa:=(show Hid (_=w1.heap.size)from Hp);clear LP oD Hp TC))
            refine hR.mono ?_;rintro e W'(⟨rfl,Ma,z⟩|⟨rfl,Ql⟩)
            · have iV:=fa.o;have hN':=(z.same wr.heap.size<|.inr ⟨avF _,O⟩).trans HL3.o;have hL':=(z.same (B+2)<|.inl<|.inr<|.inr rfl).trans<|(By.block (B+2) hz).trans hlo2.o;have ate:=kk;exact agU
            · exact agW
          · have HC:Hid (Cf s.data.toList (uh acc) (⟨0,⟨#[]⟩,p⟩,4)):=⟨p,acc,TZ.o,rfl,O,.inr ⟨ba.trans h1,rfl⟩⟩;have HK:Hid (dt (s.data.toList.drop p)=0):=h2;have HT:Hid (cX (s.data.toList.drop p)=⟨#[]⟩):=h3;have HCo:Hid (dX (s.data.toList.drop p)=4):=h4;clear ba h1 h2 h3 h4;gi_wp2_with(first|(refine⟨trivial,?_⟩;gi_at_call 67;refine(avT.2<|mB _ _).mono ?_;rw[HBl.o];rintro e w' ⟨rfl,rfl⟩)|(refine⟨trivial,?_⟩;gi_at_call 68;refine(avT.2<|strings_HasPrefix _ _ _).mono ?_;rw[HPf.o];rintro e w' ⟨rfl,rfl⟩)|(refine⟨trivial,?_⟩;gi_at_call 70;refine(avT.2<|so _ _ _ hs P7 Yt.o.words Yt.o.cp aaI aaI).mono ?_;rw[HK.o,HT.o,HCo.o];rintro e w1 ⟨rfl,hb1⟩;obtain⟨eO,su⟩:=nV hb1;have eu:=hb1.size;simp only[avs]at eu;have TC:=(hb1.block wr.heap.size M).trans<|World.alloc_heap_new wr _;obtain⟨oD,LP,Hp⟩:=UU (x':=.int .i64 0) (y':=.string ⟨#[]⟩) (z':=.int .i64 p) TC;have By:Below wr.heap.size wr (((w1.setCell ⟨wr.heap.size,0,none⟩<|.int .i64 0).setCell ⟨wr.heap.size,1,none⟩<|.string ⟨#[]⟩).setCell ⟨wr.heap.size,2,none⟩<|.int .i64 p):=(((HbN.o.trans<|hb1.mono M).setCell lr _).setCell lr _).setCell lr _;obtain⟨fn,tmps,assign,bod,hy,hR⟩:=hY _ _ wr (((w1.setCell ⟨wr.heap.size,0,none⟩<|.int .i64 0).setCell ⟨wr.heap.size,1,none⟩<|.string ⟨#[]⟩).setCell ⟨wr.heap.size,2,none⟩<|.int .i64 p) Uf.o hz By HC.o;simp only[FL]at hy;have HL3:=(show Hid (_=some (Obj.cells _ _ _))from LP);have fa:=(show Hid (_=w1.heap.size)from Hp);clear LP oD Hp TC))
            refine hR.mono ?_;rintro e W'(⟨rfl,Ma,z⟩|⟨rfl,Ql⟩)
            · clear z hR hy eO su eu;gi_wp2;rw[aw6];go_end0;exact⟨⟨_,rfl⟩,.inl ⟨_,.inr ⟨_,mem_append_right _<|awc.2 rfl,by show(4:Int)≠0;decide⟩,Ma⟩⟩
            · exact agW
      · have HR:Hid (Reach s.data.toList (p+1) acc):=.skip TZ.o O<|C0 s p (fC acc) P7 c hc kK qL;have HBl:Hid (ib c=true):=qL;clear qL kK;gi_wp2_with((refine⟨trivial,?_⟩;gi_at_call 67;refine(avT.2<|mB _ _).mono ?_;rw[HBl.o];rintro e w' ⟨rfl,rfl⟩))
        go_roundw
        case rel=>exact⟨p+1,acc,HR.o,O,by go_num,HJN.o,hzN,Yt.o⟩
        case measure=>simp[intOf];omega
end
variable {pre :List FA}
section
open Go.RowKit Go.Shelf
attribute [local go_sem] aws
theorem IF (s:ByteArray)(w:World):Calls prog 39 #[.string s] w fun e w'=>e=.returned (.func (.func 65) #[] #[.pointer<|some ⟨w.heap.size,0,none⟩])/\w'=w.alloc (.cells #[.string s] 9):=by
 go_enter func39,ntmps39
 go_wp2;go_ret;exact⟨rfl,rfl⟩
theorem pD {size:Nat}(h:w.ownsRow B e size v n xs):∃a c,v=.slice a n c:=by
 rcases h.2 with⟨rfl,rfl⟩|⟨g,cap,_,hv,_⟩
 ·exact⟨_,_,rfl⟩
 ·exact⟨_,_,hv⟩
theorem Wg {l:Nat}{o ob:Obj}(I:Below W0.heap.size W0 W1)(h3:W3=(W1.alloc o).putObj l ob):W0.grownBy W3 (some l):=by subst h3;have sP:=I.size;refine⟨I.os,I.tape,I.output,by simp;omega,fun k z bY=>?_⟩;rw[World.putObj_heap_other fun e=>bY (by rw[e]),avI _ _ _ O];exact I.block k z
structure TI (w:World)(pre:List FA)(W:World):Prop where
 ok:∀x∈pre,x.2=0
 aR:pre.length<=4000
 list:∃v,Boxed W (w.heap.size+1+1+1) 47 v/\W.ownsRow (w.heap.size+8) 85 3 v pre.length (flat (pre.map (·.1)))
 r0:Boxed W w.heap.size 47 (.slice none 0 0)
 r1:Boxed W (w.heap.size+1) 3 (.int .i64 0)
 r2:Boxed W (w.heap.size+1+1) 3 (.int .i64 0)
 below:Below w.heap.size w W
 size:w.heap.size+5<=W.heap.size
structure TX (s:ByteArray)(w:World)(c:Code)(pre:List FA)(W:World):Prop where
 ret:c=.ret
 eb:∃(o:Outcome),fS s.data.toList o/\o.list=[]/\Boxed W w.heap.size 47 (.slice none 0 0)/\Boxed W (w.heap.size+1) 3 (.int .i64 o.code)/\Boxed W (w.heap.size+1+1) 3 (.int .i64 o.place)
 below:Below w.heap.size w W
 size:w.heap.size+5<=W.heap.size
theorem JN (w:World):Apart3 (w.heap.size+5) (TI w):=by
 intro pre A C row h hg hr;obtain⟨v,hv,ho⟩:=h.list;have bY:∀k,k<w.heap.size+5->some k≠row:=fun k z e=>by have:=(hr k e.symm).1;omega
 have hz:=hg.size;refine⟨h.ok,h.aR,⟨v,hv.kept hg<|bY _ O,ho.kept hg ?_⟩,h.r0.kept hg<|bY _ O,h.r1.kept hg<|bY _ O,h.r2.kept hg<|bY _ O,h.below.grown hg aaS (fun k e=>by have:=(hr k e).1;omega),by have:=h.size;omega⟩;cases I:v.ownBlock with
 |none=>exact .inl rfl
 |some g=>
  refine .inr fun e=>?_;have:=(ho.lt g I).1;have:=(hr g e.symm).2;omega
theorem Js (s:ByteArray)(w:World)(c:Code):Apart3 (w.heap.size+5) (TX s w c):=by
 intro pre A C row h hg hr;obtain⟨o,ha,hl,b0,b1,b2⟩:=h.eb;have bY:∀k,k<w.heap.size+5->some k≠row:=fun k z e=>by have:=(hr k e.symm).1;omega
 have hz:=hg.size;exact⟨h.ret,⟨o,ha,hl,b0.kept hg<|bY _ O,b1.kept hg<|bY _ O,b2.kept hg<|bY _ O⟩,h.below.grown hg aaS (fun k e=>by have:=(hr k e).1;omega),by have:=h.size;omega⟩
theorem xE {pre':List FA}(h:TI w pre W3)(code:Int)(place:Nat)(ha:fS s.data.toList ⟨[],code,place⟩):
  KeepsOthers W3 (((W3.setCell ⟨w.heap.size,0,none⟩<|.slice none 0 0).setCell ⟨w.heap.size+1,0,none⟩<|.int .i64 code).setCell ⟨w.heap.size+1+1,0,none⟩<|.int .i64 place).drew/\
   TX s w .ret pre' (((W3.setCell ⟨w.heap.size,0,none⟩<|.slice none 0 0).setCell ⟨w.heap.size+1,0,none⟩<|.int .i64 code).setCell ⟨w.heap.size+1+1,0,none⟩<|.int .i64 place).drew:=by
 have g1:=grownBy_setCell' W3 w.heap.size<|.slice none 0 0;have g2:=grownBy_setCell' (W3.setCell ⟨w.heap.size,0,none⟩<|.slice none 0 0) (w.heap.size+1)<|.int .i64 code;have g3:=grownBy_setCell' ((W3.setCell ⟨w.heap.size,0,none⟩<|.slice none 0 0).setCell ⟨w.heap.size+1,0,none⟩<|.int .i64 code) (w.heap.size+1+1)<|.int .i64 place;have r0:=((h.r0.set<|.slice none 0 0).kept g2 fun e=>by have:=avq e;omega).kept g3 (fun e=>by have:=avq e;omega);have r1:=((h.r1.kept g1 fun e=>by have:=avq e;omega).set<|.int .i64 code).kept g3 (fun e=>by have:=avq e;omega);have r2:=((h.r2.kept g1 fun e=>by have:=avq e;omega).kept g2 fun e=>by have:=avq e;omega).set<|.int .i64 place;have I:=(((h.below.setCell (p:=⟨w.heap.size,0,none⟩) lr<|.slice none 0 0).setCell (p:=⟨w.heap.size+1,0,none⟩) aao<|.int .i64 code).setCell (p:=⟨w.heap.size+1+1,0,none⟩) aas<|.int .i64 place).drew;have cg:w.heap.size+5<=(((W3.setCell ⟨w.heap.size,0,none⟩<|.slice none 0 0).setCell ⟨w.heap.size+1,0,none⟩<|.int .i64 code).setCell ⟨w.heap.size+1+1,0,none⟩<|.int .i64 place).heap.size:=by
  have:=h.size;have:=g1.size;have:=g2.size;have:=g3.size;omega
 exact⟨(((KeepsOthers.setCell _ _ _).trans<|KeepsOthers.setCell _ _ _).trans<|KeepsOthers.setCell _ _ _).trans<|KeepsOthers.drew _,⟨rfl,⟨⟨[],code,place⟩,ha,rfl,r0,r1,r2⟩,I,cg⟩⟩
theorem Qq {V0:World}{t:Tok}{v':Value}{tmp:Obj}(h:TI w pre W3)(h4:pre.length≠4000)(hz:w.heap.size+7<V0.heap.size)(hbsz:V0.heap.size<=W1.heap.size)(hg3z:W1.heap.size<=W3.heap.size)
  (hv:Boxed W3 (w.heap.size+1+1+1) 47 v) (ho:W3.ownsRow (w.heap.size+8) 85 3 v pre.length (flat (pre.map (·.1)))) (o7:∀k,v.ownBlock=some k->w.heap.size+8<=k/\k<V0.heap.size)
  (lU:w1.ownsRow (w.heap.size+8) 85 3 v' (pre.length+1) (flat (pre.map (·.1))++[.int .i64 t.y,.string t.text,.int .i64 t.place])) (aQ:(W3.alloc tmp).grownBy w1 v.ownBlock):
  KeepsOthers W3 (w1.setCell ⟨w.heap.size+1+1+1,0,none⟩ v')/\(∀k,(Eu w.heap.size (w.heap.size+1+1+1+1) (w.heap.size+5) k\/(V0.heap.size<=k/\k<W1.heap.size))->(w1.setCell ⟨w.heap.size+1+1+1,0,none⟩ v').heap[k]?=W3.heap[k]?)/\TI w (pre++[(t,0)]) (w1.setCell ⟨w.heap.size+1+1+1,0,none⟩ v'):=by
 have bY:∀k,k<w.heap.size+8->some k≠v.ownBlock:=fun k z e=>by have:=(o7 k e.symm).1;omega
 have S0:Boxed w1 (w.heap.size+1+1+1) 47 v:=(hv.alloc tmp).kept aQ<|bY _ O;have hgs:=aQ.size;rw[avs]at hgs;have qI:=grownBy_setCell' w1 (w.heap.size+1+1+1) v';refine⟨((KeepsOthers.alloc W3 tmp).trans<|KeepsOthers.of_grownBy aQ fun j o hj hjo=>?_).trans<|KeepsOthers.setCell _ _ _,fun k z=>?_,⟨?_,?_,⟨v',S0.set v',?_⟩,?_,?_,?_,?_,?_⟩⟩
 ·rcases ho.2 with⟨e,_⟩|⟨g,cap,cur,e,_,hh,_⟩
  ·rw[e]at hj;cases hj
  ·rw[e]at hj;obtain rfl:g=j:=avq hj;rw[avI _ _ _ (avp.1 hh).1,hh]at hjo;cases hjo;rfl
 ·have jH:k≠w.heap.size+1+1+1:=by rcases z with(z|z|z)|z<;>omega
  have iR:some k≠v.ownBlock:=fun e=>by have:=o7 k e.symm;rcases z with(z|z|z)|z<;>omega
  have oV:k<W3.heap.size:=by rcases z with(z|z|z)|z<;>omega
  rw[qI.block k O fun e=>jH<|avq e,aQ.block k aa6 iR,avI _ _ _ oV]
 ·intro x hx;rcases awb.1 hx with hx|hx
  ·exact h.ok x hx
  ·rw[awc.1 hx]
 ·have:=h.aR;simp;omega
 ·have e1:flat ((pre++[((t,0):FA)]).map (·.1))=flat (pre.map (·.1))++[.int .i64 t.y,.string t.text,.int .i64 t.place]:=by rw[awE];exact Ib _ _
  rw[e1];have:(pre++[((t,0):FA)]).length=pre.length+1:=M;rw[this];refine lU.kept qI ?_;cases I:v'.ownBlock with
  |none=>exact .inl rfl
  |some g=>exact .inr fun e=>by have:=(lU.lt g I).1;have:=avq e;omega
 ·exact((h.r0.alloc tmp).kept aQ<|bY _ O).kept qI (fun e=>by have:=avq e;omega)
 ·exact((h.r1.alloc tmp).kept aQ<|bY _ O).kept qI (fun e=>by have:=avq e;omega)
 ·exact((h.r2.alloc tmp).kept aQ<|bY _ O).kept qI (fun e=>by have:=avq e;omega)
 ·exact((h.below.alloc h.below.size tmp).grown aQ aa6 fun k e=>by have:=(o7 k e).1;omega).setCell (p:=⟨w.heap.size+1+1+1,0,none⟩) aaD _
 ·have:=qI.size;omega
theorem Bd (s:ByteArray)(w:World)(hs:s.size<=65536)(h2:4<w.heap.size)(hw:bX w 4 bd)(hg:bX w 3 dI):
    Calls prog 16 #[.string s] w fun e w'=>∃o v,fS s.data.toList o/\e=.returned (.tuple #[v,.int .i64 o.code,.int .i64 o.place])/\w'.ownsRow w.heap.size 85 3 v o.list.length (flat o.list)/\Below w.heap.size w w':=by
  refine(avT (n:=3)).1 ?_;refine callsIn_of_wp_marks func16 rfl trivial ?_ rfl;simp only[ntmps16,awo,length_cons,length_nil,Nat.reduceAdd,Nat.reduceSub,awj,awi,awp,awl,nil_append,cons_append];gi_wp2_with((refine⟨trivial,?_⟩;gi_at_call 39;refine(avT.2<|IF _ _).mono ?_;rintro e w' ⟨rfl,rfl⟩))
  obtain⟨W0,sw⟩:∃W0,(((((w.alloc<|.cells #[.slice none 0 0] 47).alloc<|.cells #[.int .i64 0] 3).alloc<|.cells #[.int .i64 0] 3).alloc<|.cells #[.slice none 0 0] 47).alloc<|.cells #[.string s] 9)=W0:=⟨_,rfl⟩;have cg:W0.heap.size=w.heap.size+5:=by rw[<-sw];simp
  have aR:Below w.heap.size w W0:=by
    rw[<-sw];exact(((((avB _ w).alloc lr _).alloc M _).alloc aah _).alloc aah _).alloc aah _
  have b0:=Boxed.new w 47<|.slice none 0 0;have b1:=Boxed.new (w.alloc<|.cells #[.slice none 0 0] 47) 3<|.int .i64 0;have b2:=Boxed.new ((w.alloc<|.cells #[.slice none 0 0] 47).alloc<|.cells #[.int .i64 0] 3) 3<|.int .i64 0;have b3:=Boxed.new (((w.alloc<|.cells #[.slice none 0 0] 47).alloc<|.cells #[.int .i64 0] 3).alloc<|.cells #[.int .i64 0] 3) 47<|.slice none 0 0;have b4:=Boxed.new ((((w.alloc<|.cells #[.slice none 0 0] 47).alloc<|.cells #[.int .i64 0] 3).alloc<|.cells #[.int .i64 0] 3).alloc<|.cells #[.slice none 0 0] 47) 9<|.string s;simp only[avs]at b1 b2 b3 b4;have CE:TI w [] W0:=by
    refine⟨M,M,⟨_,?_,awa _ _ _ _⟩,?_,?_,?_,aR,O⟩
    · rw[<-sw];exact b3.alloc _
    · rw[<-sw];exact(((b0.alloc _).alloc _).alloc _).alloc _
    · rw[<-sw];exact((b1.alloc _).alloc _).alloc _
    · rw[<-sw];exact(b2.alloc _).alloc _
  have NV:W0.cell? ⟨w.heap.size+1+1+1+1,0,none⟩=some (.string s):=by rw[<-sw];exact b4.cell
  have hI3:Apart3 W0.heap.size (TI w):=by rw[cg];exact JN w
  have hX3:∀c,Apart3 W0.heap.size (TX s w c):=fun c=>by rw[cg];exact Js s w c
  rw[sw];clear b0 b1 b2 b3 b4 sw;refine nj (α:=FA) (encs:=FL) (S:=X0 s.data.toList) (Sp:=fun _=>True) (Came:=Cf s.data.toList) (keep:=Eu w.heap.size (w.heap.size+1+1+1+1) W0.heap.size) rfl O (gf:=65) (lb:=#[.pointer<|some ⟨w.heap.size+1+1+1+1,0,none⟩]) rfl trivial (enters_of func65 aaf rfl)
    (fun k z=>by rcases z with z|z|z<;>omega)
    (fun l axc Jx W DR Ad hJ hJx Wc hY h0=>Nb 2 O s hs w.heap.size (w.heap.size+1+1+1+1) W0.heap.size l h2 O O axc Jx W DR hJ hY h0 ((Ad.cell (p:=⟨w.heap.size+1+1+1+1,0,none⟩) (by show w.heap.size+1+1+1+1<W0.heap.size;omega)).trans NV) (dJ (dJ hw aR O) Ad O)<|dJ (dJ hg aR O) Ad O)
    (fun _=>rfl) (TI w) (TX s w) hI3 hX3 CE
    (fun x m=>{tmps:=#[.string s,undef,.pointer<|some ⟨w.heap.size,0,none⟩,.pointer<|some ⟨w.heap.size+1,0,none⟩,.pointer<|some ⟨w.heap.size+1+1,0,none⟩,.pointer<|some ⟨w.heap.size+1+1+1,0,none⟩,.pointer<|some ⟨m,0,none⟩,.int .i64 x.2,.string s,.int .i64 s.size,.bool<|decide<|65536<(s.size:Int),.string s,.func (.func 65) #[] #[.pointer<|some ⟨w.heap.size+1+1+1+1,0,none⟩],.agg #[.int .i64 x.1.y,.string x.1.text,.int .i64 x.1.place],.int .i64 x.2,undef,undef,undef,undef,undef,undef,undef,undef,undef,undef,undef,undef,undef,undef,undef],defers:=[]})
    (fun x=>.cells #[.int .i64 x.1.y,.string x.1.text,.int .i64 x.1.place] 85) ?assign ?body ?done ?stop
  case assign=>
    intro l x W K hK;simp only[FL];gi_wp2;exact hK
  case body=>
    rintro l pre⟨t,code⟩V0 W1 W3 r hi hz I gC nF oW;have oD:=Wg I nF;obtain⟨v,vN,YL⟩:=hi.list;have o7:∀k,v.ownBlock=some k->w.heap.size+8<=k/\k<V0.heap.size:=YL.lt;have hv:=vN.kept oD (fun e=>by have:=avq e;omega);have ho:=YL.kept oD (by
      cases ju:v.ownBlock with
      | none=>exact .inl rfl
      | some k=>exact .inr fun e=>by have:=(o7 k ju).1;have:=avq e;omega)
    obtain⟨av,cv,rfl⟩:=pD YL;have iY:W3.heap[W1.heap.size]?=some (.cells #[.int .i64 t.y,.string t.text,.int .i64 t.place] 85):=by
      have:=I.size;rw[nF,World.putObj_heap_other O];exact World.alloc_heap_new W1 _
    have hbsz:=I.size;have hg3z:=oD.size;have hW3z:W1.heap.size<W3.heap.size:=(avp.1 iY).1;obtain⟨x0,x1,x2,y0,y1,y2⟩:=zF iY;have c3:=hv.cell;have q0:=oW.r0.cell;have q0f:=oW.r0.frozen;have q1:=oW.r1.cell;have q1f:=oW.r1.frozen;have q2:=oW.r2.cell;have q2f:=oW.r2.frozen;obtain⟨p,acc,VB,rfl,y,q8⟩:=gC;have fp:=hi.aR;have YU:(uh acc).length=acc.length:=by simp[uh]
    have hBI:Hid (TI w (uh acc) W3):=oW;have VX:prog.follows Departure.mixedOrders=true:=aaf;have d0:¬W1.heap.size=w.heap.size:=O;have d1:¬W1.heap.size=w.heap.size+1:=O;have d2:¬W1.heap.size=w.heap.size+1+1:=O;have d3:¬w.heap.size=W1.heap.size:=O;have d4:¬w.heap.size+1=W1.heap.size:=O;have d5:¬w.heap.size+1+1=W1.heap.size:=O;rcases q8 with⟨k,tt,d,ba,hx⟩|⟨ba,hx⟩
    · cases hx;by_cases h4:(uh acc).length=4000
      · have HA:Hid (fS s.data.toList ⟨[],13,p⟩):=.many VB O y ba;rw[h4]at c3;clear VB ba I hi oW YL vN hv ho iY nF oD o7 YU h4 fp;gi_wp2;gi_region_o
        all_goals gi_wp2
        all_goals exact xE hBI.o 13 p HA.o
      · have e4:(((uh acc).length:Int)==4000)=false:=bn O;obtain⟨i0,nB,mT,eu,ed⟩:=av0 (show(prog.info? 85).map (fun i=>(i.zero,i.size,i.bytes))=some (some<|.agg #[.int .i64 0,.string ⟨#[]⟩,.int .i64 0],3,32) by kernel_rfl);have HO0:=(show Hid (W3.ownsRow _ _ _ _ _ _)from ho);have RN:=(show Hid (Boxed W3 _ _ _)from hv);have Ud:=(show Hid (∀k,_=some k->_)from o7);clear VB ba I hi oW YL vN hv ho iY nF oD o7 YU;gi_wp2_with((gi_at_builtin;refine wpListIn_append_own _ rfl _ _ 47 rfl (w.heap.size+8) 85 i0 (.agg #[.int .i64 0,.string ⟨#[]⟩,.int .i64 0]) 3 32 underlying47 nB mT eu ed rfl J _ _ _ rfl (HO0.o.alloc _) ⟨W3.heap.size,0,none⟩ 1 1 [.int .i64 k,.string tt,.int .i64 p] rfl rfl (vr _ _ _ _ _) (GZ _ _ _) aaj O aah ?_;intro v' w1 lU aQ Bo;obtain⟨g',nR,rfl⟩:=KF lU;have HW:=(show Hid (KeepsOthers W3 _/\_)from Qq (t:=⟨k,tt,p⟩) hBI.o h4 O hbsz O RN.o HO0.o Ud.o lU aQ);have S0:=(RN.o.alloc _).kept aQ (fun e=>by have:=(Ud.o _ e.symm).1;omega);have eO:=S0.cell;have su:=S0.frozen;clear lU aQ Bo S0))
        exact HW.o
    · cases hx;have HA:Hid (fS s.data.toList ⟨[],4,p⟩):=.bad VB O y ba;clear VB ba I hi oW YL vN hv ho iY nF oD o7 YU fp;gi_wp2;gi_region_o
      all_goals gi_wp2
      all_goals exact xE hBI.o 4 p HA.o
  case done=>
    rintro D xs W hD hS hi hK;obtain⟨v,hv,ho⟩:=hi.list;have hA:fS s.data.toList ⟨xs.map (·.1),0,0⟩:=by
      rcases hS with⟨p,acc,VB,rfl,y⟩|⟨x,hx,bY⟩
      · have e1:(uh acc).map (·.1)=acc:=by unfold uh;rw[map_map];exact map_id _
        rw[e1];exact .done VB (by have:=hi.aR;simpa[uh]using this) y
      · exact absurd (hi.ok x hx) bY
    obtain⟨av,cv,rfl⟩:=pD ho;have c3:=hv.cell;have q0:=hi.r0.cell;have q0f:=hi.r0.frozen;have q1:=hi.r1.cell;have q1f:=hi.r1.frozen;have q2:=hi.r2.cell;have q2f:=hi.r2.frozen;have HA:Hid (fS s.data.toList ⟨xs.map (·.1),0,0⟩):=hA;have HI:Hid (TI w xs W):=hi;have HO:=(show Hid (W.ownsRow _ _ _ _ _ _)from ho);have HK:Hid (W.heap[D]?=some (.deferred<|some [])):=hK;clear hA hi ho hS hv hI3 hX3 CE hK;gi_wp2;have g1:=grownBy_setCell' W w.heap.size<|.slice av xs.length cv;have g2:=grownBy_setCell' (W.setCell ⟨w.heap.size,0,none⟩<|.slice av xs.length cv) (w.heap.size+1)<|.int .i64 0;have g3:=grownBy_setCell' ((W.setCell ⟨w.heap.size,0,none⟩<|.slice av xs.length cv).setCell ⟨w.heap.size+1,0,none⟩<|.int .i64 0) (w.heap.size+1+1)<|.int .i64 0;have r0:=((HI.o.r0.set<|.slice av xs.length cv).kept g2 fun e=>by have:=avq e;omega).kept g3 (fun e=>by have:=avq e;omega);have r1:=((HI.o.r1.kept g1 fun e=>by have:=avq e;omega).set<|.int .i64 0).kept g3 (fun e=>by have:=avq e;omega);have r2:=((HI.o.r2.kept g1 fun e=>by have:=avq e;omega).kept g2 fun e=>by have:=avq e;omega).set<|.int .i64 0;have Ff:=(((KeepsOthers.setCell W ⟨w.heap.size,0,none⟩<|.slice av xs.length cv).trans<|KeepsOthers.setCell _ ⟨w.heap.size+1,0,none⟩<|.int .i64 0).trans<|KeepsOthers.setCell _ ⟨w.heap.size+1+1,0,none⟩<|.int .i64 0).same D _ HK.o rfl;have ho3:(((W.setCell ⟨w.heap.size,0,none⟩<|.slice av xs.length cv).setCell ⟨w.heap.size+1,0,none⟩<|.int .i64 0).setCell ⟨w.heap.size+1+1,0,none⟩<|.int .i64 0).ownsRow (w.heap.size+8) 85 3 (.slice av xs.length cv) xs.length (flat (xs.map (·.1))):=by
      have bY:∀k,k<w.heap.size+5->(Value.slice av xs.length cv).ownBlock=none\/(Value.slice av xs.length cv).ownBlock≠some k:=fun k z=>by
        cases I:(Value.slice av xs.length cv).ownBlock with
        | none=>exact .inl rfl
        | some g=>exact .inr fun e=>by have:=(HO.o.lt g I).1;have:=avq e;omega
      exact((HO.o.kept g1<|bY _ O).kept g2<|bY _ O).kept g3<|bY _ O
    have hb3:=(((HI.o.below.setCell (p:=⟨w.heap.size,0,none⟩) lr<|.slice av xs.length cv).setCell (p:=⟨w.heap.size+1,0,none⟩) aao<|.int .i64 0).setCell (p:=⟨w.heap.size+1+1,0,none⟩) aas<|.int .i64 0);revert r0 r1 r2 Ff ho3 hb3;generalize (((W.setCell ⟨w.heap.size,0,none⟩<|.slice av xs.length cv).setCell ⟨w.heap.size+1,0,none⟩<|.int .i64 0).setCell ⟨w.heap.size+1+1,0,none⟩<|.int .i64 0)=V;intro r0 r1 r2 Ff ho3 hb3;refine⟨M,.inl ⟨_,_,rfl,run_takeDeferred Ff,?_⟩⟩;have gp:=grownBy_putObj' V D<|.deferred none;have ata:=kk;exact agS
  case stop=>
    rintro D c pre W hD _ hx hK;obtain rfl:=hx.ret;obtain⟨o,hA,hl,r0,r1,r2⟩:=hx.eb;have hb3:=hx.below;have td:=hx.size;clear hx hI3 hX3 CE;gi_wp2;refine⟨M,.inl ⟨_,_,rfl,run_takeDeferred hK,?_⟩⟩;have gp:=grownBy_putObj' W D<|.deferred none;have atb:=kk;exact agS
end
theorem BG {g cap:Nat}{ts:List Tok}(h:w.ownsRow B 85 3 (.slice (some ⟨g,0,none⟩) ts.length cap) ts.length (flat ts))(i:Nat)(hi:i<ts.length):
  w.cell? ⟨g,i*3,none⟩=some (.int .i64 ts[i].y)/\w.cell? ⟨g,i*3+1,none⟩=some (.string ts[i].text)/\w.cell? ⟨g,i*3+2,none⟩=some (.int .i64 ts[i].place):=by
 have get:∀(ts:List Tok)(i:Nat)(hi:i<ts.length),(flat ts)[i*3]?=some (.int .i64 ts[i].y)/\(flat ts)[i*3+1]?=some (.string ts[i].text)/\(flat ts)[i*3+2]?=some (.int .i64 ts[i].place):=by
  intro ts;induction ts with
  |nil=>intro i hi;simp at hi
  |cons t ts ih=>
   intro i hi;rw[flat,aw5,<-flat];cases i with
   |zero=>exact⟨rfl,rfl,rfl⟩
   |succ i=>
    have:=ih i (by simpa using hi);have e1:(i+1)*3=i*3+3:=O;have e2:(i+1)*3+1=(i*3+1)+3:=O;have e3:(i+1)*3+2=(i*3+2)+3:=O;refine⟨?_,?_,?_⟩
    ·rw[e1];simpa using this.1
    ·rw[e2];simpa using this.2.1
    ·rw[e3];simpa using this.2.2
 have hl:=Mk ts;obtain⟨a,b,c⟩:=get ts i hi;exact⟨by rw[h.cellAt _ O];exact a,by rw[h.cellAt _ O];exact b,by rw[h.cellAt _ O];exact c⟩
theorem KC {c:Nat}{a:Option Addr}{size:Nat}(h:w.ownsRow B e size (.slice a n c) n xs)(hn:n≠0):∃g,a=some ⟨g,0,none⟩:=by
 rcases h.2 with⟨_,e⟩|⟨g,cap,cur,e,_⟩
 ·exact absurd e hn
 ·injection e with e _ _;exact⟨g,e⟩
end Go.Proofs.YtgcmhaghebhjnaaGreatDoor
