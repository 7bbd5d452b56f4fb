import Derived.Test.YtgcmhaghebhjnaaGreatDoorPDA
import Derived.Deep.CutRange
set_option linter.unusedVariables false
set_option maxHeartbeats 16000000
set_option maxRecDepth 100000
namespace Go.Proofs.YtgcmhaghebhjnaaGreatDoor
open Go.RowKit Tryz List
variable {A A' B C D H K Vq b cB hB hi i j k kc lB lc lo m n n' o ob r0 rC sb uc vc:Nat} {F T TB axf:Nd} {P:Nd->Prop} {Ts:Nat->Nd} {V W W' W1 v v' w w':World} {a aB ka la rD ua va:Option Addr} {axd u vm x:Value} {ch:ByteArray} {deep:Int} {e s:Nat->Nat} {l:Array Bool} {loops:Bool} {us:Nat->Value}
variable {G :Prop}
theorem ab4 (h:G:=by
 have oh:=Z<|(Zl.o.calm<|bA).mine (by have:=R7.o;omega) (yI hnms HN.o E3.o) zg.o E7.o;have Cp:Hid ((T.nm nm).R/\(T.nm nm).sH (3*deep.toNat+10)/\(T.nm nm).cost<=C+40):=⟨Nd.c9 HT.o.1 (Nd.bM HT.o.1).1 (Nd.bM HT.o.1).2 O,⟨UX HT.o.2.1.1 h5 HN.o,Nd.di HT.o.2.1.2⟩,by have:=Nd.da T nm;have:=HT.o.2.2;omega⟩;clear Zl E4 hnms E3 zg E7 Hr hsvlt hint;obtain⟨wz,SX⟩:∃W,W=wm:=⟨_,rfl⟩;rw[<-SX]at oh⊢;clear SX;have hobl:=oh.o.low;obtain⟨o0,o1,o2,o3,of⟩:=al oh.o.bo;obtain⟨b0,b1,b2,b3,bf⟩:=al oh.o.cj;have hoq:=eY o3;have hHT:Hid ((T.nm nm).R/\(T.nm nm).sH (3*deep.toNat+10)/\(T.nm nm).cost<=C+40):=Cp;have of3:=of 3;go_wp2_with(at_builtin;refine bN _ rfl _ _ 23 rfl (w1.heap.size+1) 25 i0 (.agg #[.int .i64 0,.int .i64 0,.string ⟨#[]⟩,.slice none 0 0]) 4 56 underlying23 nB mT eu ed rfl J _ j _ rfl (oh.o.gw.own.alloc _) ⟨wz.heap.size,0,none⟩ 1 1 [.int .i64 (T.nm nm).y,.int .i64 (T.nm nm).E,.string (T.nm nm).z,.slice (some ⟨g,off,none⟩) (T.nm nm).q uc] rfl rfl (ia _ _ _ _ _ _) (jn _ _ _ _ _ _) aaj O aax ?_;intro v' w9 dd aQ fs sq;obtain⟨rD,rC,xN⟩:=sq.o;subst xN;have hb9:w9.heap[w1.heap.size]?=some (eS 4 0 ⟨#[]⟩ ka j kc):=(aQ.o.block w1.heap.size aax fun e=>by have:=(oh.o.gw.own.lt w1.heap.size e.symm).1;omega).trans<|(avI wz _ w1.heap.size (by have:=oh.o.int;have:=oh.o.lt;omega)).trans oh.o.bo;obtain⟨p0,p1,p2,p3,pf⟩:=al hb9;have pf3:=pf 3;clear hb9)
 exact ab8):G:=h
theorem ab5 (h:G:=by
 obtain⟨_,_,I3,_,_,Dy⟩:=Y6.o.keep<|b9 xU _;injection I3 with q1 _ q3;subst q1 q3;rcases Dy with h0|⟨gs,os,rfl,_,_,eR⟩
 ·omega
 obtain⟨sn,st,sd,hsn,s0,s1,s2⟩:=eR k we;have hki:(k:Int)<(n':Int):=O;have HN:=Z cm.o;have En:=Z xU;have DG:=Z<|zB n' wr O;obtain⟨S0,hv2⟩:=Vj n';have HV:=Z S0;have hsv2:(cP<|bS 20 n').size<=1000:=by have:=mH 20 n';rw[ov];omega
 clear eR cm S0 xU;cases hq:(sn.toList==nm.toList)
 ·exact ab9
 ·by_cases hnk:n<=k
  ·have hnki:(n:Int)<=(k:Int):=O;go_wp2_with(go_at_call 30;refine DG.o.mono ?_;rintro e wd ⟨rfl,Hy⟩;have HBD:=Z<|En.o.trans<|Hy.mono En.o.size;clear Hy)
   exact⟨⟨_,k+1,O,rfl,by go_num,HV.o,hv2,HBD.o⟩,by simp[intOf];omega⟩
  ·have hnki:¬(n:Int)<=(k:Int):=O;exact ab9):G:=h
theorem ab6 (h:G:=by
 have hai3:=YD.o;have eE:=hai3.gw.own;have OWA:=Z eE;clear hai3 eE;go_wp2_with(at_builtin;refine bN _ rfl _ _ 23 rfl lo 25 i0 (.agg #[.int .i64 0,.int .i64 0,.string ⟨#[]⟩,.slice none 0 0]) 4 56 underlying23 nB hzi0 hzi1 hzi2 rfl J _ j _ rfl (OWA.o.alloc _) ⟨wr.heap.size,0,none⟩ 1 1 [.int .i64 (TB.f i).y,.int .i64 (TB.f i).E,.string (TB.f i).z,.slice bu (TB.f i).q du] rfl rfl (ia _ _ _ _ _ _) (jn _ _ _ _ _ _) aaj O aah ?_;intro v' w9 dd aQ fs sq;obtain⟨rD,rC,xN⟩:=sq.o;subst xN)
 exact⟨⟨i+1,j+1,_,_,_,_,rD,rC,O,rfl,by go_num,(YD.o.calm (bA)).step (ah (bO wr _) O HU.o) HKF.o.1 HKF.o.2 dd.o aQ.o fs.o⟩,by simp[intOf];omega⟩):G:=h
theorem ab7 (h:G:=by
 have h:=h0.mono fT;intro j x hl hx;iterate 25 (rcases j with _|j;·first|exact hx|exact TV.aT h hx|exact LV.aT h hx|exact GV.aT h hx|exact AV.aT h0 hx|exact absurd (bQ.symm.trans hl) aw0|exact absurd (ba.symm.trans hl) aw0)
 exact trivial):G:=h
theorem XT (h:G:=by
 intro j x hl hx;iterate 25 (rcases j with _|j;·first|exact hx|exact TV.aT h hx|exact LV.aT h hx|exact GV.aT h hx|exact absurd (bQ.symm.trans hl) aw0|exact absurd (ba.symm.trans hl) aw0)
 exact trivial):G:=h
theorem TO (h:G:=by
 intro j x hx;iterate 25 (rcases j with _|j;·first|exact hx|exact TV.aT (Wn.b1 I) hx|exact LV.aT (Wn.b1 I) hx|exact GV.aT (Wn.b1 I) hx|exact AV.put hx)
 exact trivial):G:=h
theorem ab8 (h:G:=by refine⟨⟨j+1,_,_,_,_,rD,rC,_,_,_,O,by go_num,rfl,(oh.o.calm (bA)).done (by have:=R7.o;omega) hHT.o dd.o aQ.o fs.o⟩,by simp[intOf];omega⟩):G:=h
theorem ab9 (h:G:=by go_wp2;exact⟨⟨nm,k+1,O,rfl,by go_num,HN.o,cg,En.o⟩,by simp[intOf];omega⟩):G:=h
theorem aca (h:G:=by
 obtain rfl:k=n':=O;have Zl:=Z<|(oh.o.calm xU).z nm;have HN:=Z cm.o;obtain⟨b0,b1,b2,b3,bf⟩:=al (oh.o.calm xU).cj;have bf2:=bf 2;clear cm bf;go_upto_region 21 with fail
 obtain⟨wz,SX⟩:∃W,wr.setCell ⟨w4.heap.size,2,none⟩ (.string nm)=W:=⟨_,rfl⟩;rw[SX]at Zl⊢;clear SX oh b0 b1 b2 b3 bf2 xU;obtain⟨f,E4,hnms⟩:=Zl.o.sv;have hsvlt:=Zl.o.lt;have hint:=Zl.o.int;first
 |clear aiT
  go_upto_region 22 with(at_builtin;refine bN _ rfl _ _ 69 rfl (w1.heap.size+1) 94 iv (.agg #[.string ⟨#[]⟩,.int .i64 0,.int .i64 0]) 3 32 underlying69 VU Du Dt Ds rfl J _ k _ rfl (E4.alloc _) ⟨wz.heap.size,0,none⟩ 1 1 [.string nm,.int .i64 3,.int .i64 0] rfl rfl (oo _ _ _ _ _) (ql _ _ _) aaj O aah ?_;intro v' wm E3 zg E7 Hr;obtain⟨ma',mc',xN⟩:=Hr.o;subst xN)
  exact ab4
 |clear aiU
  go_upto_region 22 with(at_builtin;refine bN _ rfl _ _ 69 rfl (w1.heap.size+1) 94 iv (.agg #[.string ⟨#[]⟩,.int .i64 0,.int .i64 0]) 3 32 underlying69 VU Du Dt Ds rfl J _ k _ rfl (E4.alloc _) ⟨wz.heap.size,0,none⟩ 1 1 [.string nm,.int .i64 2,.int .i64 0] rfl rfl (oo _ _ _ _ _) (ql _ _ _) aaj O aah ?_;intro v' wm E3 zg E7 Hr;obtain⟨ma',mc',xN⟩:=Hr.o;subst xN)
  exact ab4
 |clear aiV
  go_upto_region 22 with(at_builtin;refine bN _ rfl _ _ 69 rfl (w1.heap.size+1) 94 iv (.agg #[.string ⟨#[]⟩,.int .i64 0,.int .i64 0]) 3 32 underlying69 VU Du Dt Ds rfl J _ k _ rfl (E4.alloc _) ⟨wz.heap.size,0,none⟩ 1 1 [.string nm,.int .i64 1,.int .i64 0] rfl rfl (oo _ _ _ _ _) (ql _ _ _) aaj O aah ?_;intro v' wm E3 zg E7 Hr;obtain⟨ma',mc',xN⟩:=Hr.o;subst xN)
  exact ab4):G:=h
theorem acb (h:G:=by
 go_wp2_with fail
 go_loopw[16,17] (fun nv kv wr=>∃(nm:ByteArray)(k:Nat),k<=n'/\nv=.string nm/\kv=.int .i64 k/\Hid (aK nm=true)/\nm.size<=40/\Below W5.heap.size W5 wr) (fun _ kv _=>n'-(intOf kv).toNat)
 case atStart=>exact⟨_,0,O,rfl,rfl,Zc.o,hnsz,avB _ _⟩
 first
 |clear aiW
  case round=>
   obtain⟨nm,k,z,rfl,rfl,cm,cg,xU⟩:=hrel;by_cases we:k<n'
   ·exact ab5
   ·have aiT:=kk;exact aca
 |clear aiX
  case round=>
   obtain⟨nm,k,z,rfl,rfl,cm,cg,xU⟩:=hrel;by_cases we:k<n'
   ·exact ab5
   ·have aiU:=kk;exact aca
 |clear aiY
  case round=>
   obtain⟨nm,k,z,rfl,rfl,cm,cg,xU⟩:=hrel;by_cases we:k<n'
   ·exact ab5
   ·have aiV:=kk;exact aca):G:=h
structure BI (H sb A n C K:Nat)(w:World)(ob j:Nat)(Ts:Nat->Nd)(us:Nat->Value)(s e:Nat->Nat)(ka:Option Addr)(kc n':Nat)(vm:Value)(W:World):Prop where
 dw:DW sb (A+j*K) w W
 low:w.heap.size<ob
 bo:W.heap[ob]?=some (eS 4 0 ⟨#[]⟩ ka j kc)
 gw:Gw (ob+1) Ts us s e j (.slice ka j kc) W
 ok:∀i,i<j->(Ts i).R/\(Ts i).sH H/\(Ts i).cost<=C+40
 sv:Sv (ob+1) n' vm W
 aR:n'<=n+j
 ap:∀g,vm.ownBlock=some g->(Value.slice ka j kc).ownBlock≠some g/\∀i,i<j->g<s i\/e i<=g
structure BM (H sb A n C K:Nat)(w:World)(ob j:Nat)(Ts:Nat->Nd)(us:Nat->Value)(s e:Nat->Nat)(ka:Option Addr)(kc n':Nat)(vm:Value)(lo hi bs:Nat)(T:Nd)(ua:Option Addr)(uc:Nat)(W:World):Prop where
 dw:DW sb (A+j*K+K) w W
 low:w.heap.size<ob
 bo:W.heap[ob]?=some (eS 4 0 ⟨#[]⟩ ka j kc)
 gw:Gw (ob+1) Ts us s e j (.slice ka j kc) W
 ok:∀i,i<j->(Ts i).R/\(Ts i).sH H/\(Ts i).cost<=C+40
 sv:Sv (ob+1) n' vm W
 aR:n'<=n+j+1
 ap:∀g,vm.ownBlock=some g->(Value.slice ka j kc).ownBlock≠some g/\(∀i,i<j->g<s i\/e i<=g)/\(g<lo\/bs<g)
 kg:∀g,(Value.slice ka j kc).ownBlock=some g->g<lo
 se:∀i,i<j->e i<=lo
 int:ob+1<=lo/\lo<=hi/\hi<=bs
 row:Row lo hi W T (.slice ua T.q uc)
 cj:W.heap[bs]?=some (eS T.y T.E T.z ua T.q uc)
theorem BM.lt {bs:Nat}(h:BM H sb A n C K w ob j Ts us s e ka kc n' vm lo hi bs T ua uc W):bs<W.heap.size:=(avp.1 h.cj).1
theorem BI.st {W4:World}
  (h:BI H sb A n C K w ob j Ts us s e ka kc n' vm W) (d:Drawn sb (A+j*K+K) P C W T (.slice ua T.q uc) W4):
  BM H sb A n C K w ob j Ts us s e ka kc n' vm W.heap.size W4.heap.size W4.heap.size T ua uc (W4.alloc<|eS T.y T.E T.z ua T.q uc):=by
 have Tg:=h.dw.low;have LI:=(avp.1 h.bo).1;have hs:sb<ob+1:=by have:=h.low;omega
 have hz:=d.kp.size;have bM:=bO W4<|eS T.y T.E T.z ua T.q uc;refine⟨(h.dw.step d.src d.kp).calm bM,h.low,?_,(h.gw.kp hs d.kp).calm bM,h.ok,(h.sv.kp hs d.kp).calm bM,by have:=h.aR;omega,fun g hg=>?_,fun g hg=>(h.gw.own.lt g hg).2,fun i hi=>(h.gw.a7 i hi).2.2.2,⟨O,hz,avF _⟩,ah bM lr d.row,avv _ _⟩
 ·exact(bM.block ob O).trans<|bc h.bo (by have:=h.low;omega) d.kp
 ·obtain⟨a,b⟩:=h.ap g hg;exact⟨a,b,.inl (h.sv.lt g hg).2⟩
theorem BM.calm {bs:Nat}(h:BM H sb A n C K w ob j Ts us s e ka kc n' vm lo hi bs T ua uc W)(I:Below W.heap.size W W'):BM H sb A n C K w ob j Ts us s e ka kc n' vm lo hi bs T ua uc W':=by have hl:=h.lt;have ir:=h.int;exact⟨h.dw.calm I,h.low,aW h.bo I,h.gw.calm I,h.ok,h.sv.calm I,h.aR,h.ap,h.kg,h.se,h.int,ah I O h.row,aW h.cj I⟩
theorem BM.z {H sb A n C K:Nat}{w:World}{ob j:Nat}{Ts:Nat->Nd}{us:Nat->Value}{s e:Nat->Nat}{ka:Option Addr}{kc n':Nat}{vm:Value}{lo hi bs:Nat}{T:Nd}{ua:Option Addr}{uc:Nat}{W:World}(h:BM H sb A n C K w ob j Ts us s e ka kc n' vm lo hi bs T ua uc W)(nm:ByteArray):BM H sb A n C K w ob j Ts us s e ka kc n' vm lo hi bs (T.nm nm) ua uc (W.setCell ⟨bs,2,none⟩<|.string nm):=by
 have hl:=h.lt;have ir:=h.int;have ew:=h.low;have he:∀k,k≠bs->(W.setCell ⟨bs,2,none⟩<|.string nm).heap[k]?=W.heap[k]?:=fun k z=>avz _ _ _ _ (by show k≠bs;exact z);refine⟨h.dw.any rfl rfl rfl aaU fun k z=>he k O,h.low,(he ob O).trans h.bo,h.gw.put (fun e=>by have:=h.kg _ e;omega) fun i hi=>.inr (by have:=h.se i hi;omega),h.ok,h.sv.keep fun k z=>he k (by have:=(h.ap k z).2.2;omega),h.aR,h.ap,h.kg,h.se,h.int,?_,?_⟩
 ·exact Nd.df<|cL lr lr (fun g o h1 h2=>avt (a:=⟨g,o,none⟩)<|he g O) h.row
 ·have:=avD W bs 2 _ 25 (.string nm) h.cj;exact this.trans rfl
theorem BM.mine {vm':Value}{bs:Nat}(h:BM H sb A n C K w ob j Ts us s e ka kc n' vm lo hi bs T ua uc W)(hf:n'<=n+j)
  (Cy:Sv (ob+1) (n'+1) vm' W') (aQ:W.grownBy W' vm.ownBlock) (fs:vm'.ownBlock=vm.ownBlock\/∃k,vm'.ownBlock=some k/\W.heap.size<=k):BM H sb A n C K w ob j Ts us s e ka kc (n'+1) vm' lo hi bs T ua uc W':=by
 have hl:=h.lt;have ir:=h.int;have ew:=h.low;have hvb:∀k,vm.ownBlock=some k->ob+1<=k:=fun k z=>(h.sv.lt k z).1;have he:∀k,k<W.heap.size->vm.ownBlock≠some k->W'.heap[k]?=W.heap[k]?:=fun k z hn=>aQ.block k z fun e=>hn e.symm;refine⟨h.dw.grown aQ (fun k z=>by have:=hvb k z;omega),h.low,(he ob O fun e=>by have:=hvb ob e;omega).trans h.bo,h.gw.other aQ fun k z=>⟨(h.ap k z).1,(h.ap k z).2.1⟩,h.ok,Cy,O,fun g hg=>?_,h.kg,h.se,h.int,?_,(he bs hl fun e=>by have:=(h.ap bs e).2.2;omega).trans h.cj⟩
 ·rcases fs with Hv|⟨k,z,Ti⟩
  ·exact h.ap g<|Hv▸hg
  ·rw[z]at hg;obtain rfl:=avq hg;exact⟨fun e=>by have:=h.kg _ e;omega,fun i hi=>.inr (by have:=h.se i hi;omega),.inr O⟩
 ·exact cL lr lr (fun g o h1 h2=>avt (a:=⟨g,o,none⟩)<|he g O fun e=>by have:=(h.ap g e).2.2;omega) h.row
theorem BM.done {bs:Nat}(h:BM H sb A n C K w ob j Ts us s e ka kc n' vm lo hi bs T ua uc W)(hf:n'<=n+(j+1))(hT:T.R/\T.sH H/\T.cost<=C+40)
  (dd:W'.ownsRow (ob+1) 25 4 (.slice rD (j+1) rC) (j+1) (cN Ts us j++[.int .i64 T.y,.int .i64 T.E,.string T.z,.slice ua T.q uc])) (aQ:W.grownBy W' (Value.slice ka j kc).ownBlock) (fs:(Value.slice rD (j+1) rC).ownBlock=(Value.slice ka j kc).ownBlock\/∃k,(Value.slice rD (j+1) rC).ownBlock=some k/\W.heap.size<=k):
  BI H sb A n C K w ob (j+1) (oY Ts j T) (oY us j<|.slice ua T.q uc) (oY s j lo) (oY e j hi) rD rC n' vm (W'.setCell ⟨ob,3,none⟩<|.slice rD (j+1) rC):=by
 have hl:=h.lt;have ir:=h.int;have ew:=h.low;have LW:∀k,(Value.slice ka j kc).ownBlock=some k->ob+1<=k:=fun k z=>(h.gw.own.lt k z).1;have hz:=aQ.size;have he:∀k,k<W.heap.size->(Value.slice ka j kc).ownBlock≠some k->W'.heap[k]?=W.heap[k]?:=fun k z hn=>aQ.block k z fun e=>hn e.symm;have hs:∀k,k≠ob->(W'.setCell ⟨ob,3,none⟩<|.slice rD (j+1) rC).heap[k]?=W'.heap[k]?:=fun k z=>avz _ _ _ _ (by show k≠ob;exact z);have hob':W'.heap[ob]?=some (eS 4 0 ⟨#[]⟩ ka j kc):=(he ob O fun e=>by have:=LW ob e;omega).trans h.bo;have kh:=h.gw.step h.row ir.1 ir.2.1 O (fun g hg=>.inl<|h.kg g hg) dd aQ fs;have hmul:A+j*K+K=A+(j+1)*K:=by rw[awU];omega
 refine⟨?_,h.low,?_,kh.put (fun e=>by have:=(kh.own.lt _ e).1;omega) fun i hi=>.inl (by have:=(kh.a7 i hi).2.1;omega),fun i hi=>?_,h.sv.keep fun k z=>?_,O,fun g hg=>?_⟩
 ·rw[<-hmul];exact(h.dw.grown aQ fun k z=>by have:=LW k z;omega).any rfl rfl rfl aaU fun k z=>hs k O
 ·have:=avD W' ob 3 _ 25 (.slice rD (j+1) rC) hob';exact this.trans rfl
 ·by_cases lh:i=j
  ·subst lh;rw[dc];exact hT
  ·rw[dF _ _ lh];exact h.ok i O
 ·have jH:=h.sv.lt k z;exact(hs k O).trans<|he k jH.2 (h.ap k z).1
 ·obtain⟨a,b,c⟩:=h.ap g hg;have hg1:=h.sv.lt g hg;refine⟨fun e=>?_,fun i hi=>?_⟩
  ·rcases fs with Hv|⟨k,z,Ti⟩
   ·exact a<|Hv▸e
   ·rw[z]at e;obtain rfl:=avq e;omega
  ·by_cases lh:i=j
   ·subst lh;rw[dc,dc];omega
   ·rw[dF _ _ lh,dF _ _ lh];exact b i O
theorem oo (w:World)(a b c:Value)(t:TypeId):∀j u,([a,b,c]:List Value)[j]?=some u->(w.alloc<|.cells #[a,b,c] t).cell? ((⟨w.heap.size,0,none⟩:Addr).add j)=some u:=by
 intro j u h;match j,h with
 |0,h=>obtain rfl:=avq h;simp[Addr.add]
 |1,h=>obtain rfl:=avq h;simp[Addr.add]
 |2,h=>obtain rfl:=avq h;simp[Addr.add]
 |j+3,h=>simp at h
theorem ql (s:ByteArray)(a b:Int):∀u∈[Value.string s,.int .i64 a,.int .i64 b],u.oneCell'=true:=by intro u hu;simp at hu;rcases hu with rfl|rfl|rfl<;>rfl
theorem uQ (f:Nat->ByteArray×Int×Int)(x:ByteArray×Int×Int):∀{j k:Nat},j<=k->fN (oY f k x) j=fN f j
 |0,_,_=>rfl
 |j+1,k,h=>by simp only[fN];rw[uQ f x (show j<=k by omega),dF _ _<|show j≠k by omega]
theorem yI {f:Nat->ByteArray×Int×Int}{nm:ByteArray}{t:Int}{v:Value}(hf:∀i,i<n->aK (f i).1=true)(hn:aK nm=true)(h:w.ownsRow B 94 3 v (n+1) (fN f n++[.string nm,.int .i64 t,.int .i64 0])):Sv B (n+1) v w:=by
 refine⟨oY f n (nm,t,0),?_,fun i hi=>?_⟩
 ·simp only[fN];rw[uQ f _<|avF n,dc];exact h
 ·by_cases e:i=n
  ·subst e;rw[dc];exact hn
  ·rw[dF _ _ e];exact hf i O
theorem zN (deep:Int)(C K axe:Nat)(h0:0<=deep)(h9:deep<=100)(hC:C<=100000000)(hK:K<=100000000)(ST:STC deep C K axe):Ss deep (C+41) K axe:=by
 intro sb A n m v loops w hA hnM h hs;have HD:=Z<|DW.start h;obtain⟨va,vc,rfl,_⟩:=id hs;have aR:=bO w aN;have SC:=Z fun B W(hd:DW sb B w W)=>(hs.keep<|b9 aR _).keep hd.kp;have ew:sb<w.heap.size:=h.lt;have STH:=Z ST;obtain⟨i0,nB,mT,eu,ed⟩:=av0 si;obtain⟨iv,VU,Du,Dt,Ds⟩:=av0 y8;unfold aN at*
 clear h aR ST;go_enter func24,ntmps24
 go_wp2_with fail
 refine(cM _ _ _ _ _ _ _).mono ?_;rintro e w1⟨rfl,I⟩;have qh:=Z<|HD.o.calm I;have hz1':=qh.o.size;have LI:=avv w1<|.cells #[.int .i64 4,.int .i64 0,.string ⟨#[]⟩,.slice none 0 0] 25;have og:=Z<|qh.o.alloc<|.cells #[.int .i64 4,.int .i64 0,.string ⟨#[]⟩,.slice none 0 0] 25;obtain⟨v3,w3,ec,Cy,hb3⟩:=rM (B:=w1.heap.size+1) (SC.o _ _ og.o) M;simp only[avs]at ec hb3;obtain⟨a3,c3,rfl⟩:=Cy.shape;have mL:=Z ec;have iS:=Z<|og.o.calm (by simpa using hb3);have HOB3:=Z<|(hb3.block w1.heap.size O).trans LI;have TR:=Z Cy;obtain⟨ob,hobe⟩:∃b,b=w1.heap.size:=⟨_,rfl⟩;have HBI0:Hid (BI (3*deep.toNat+10) sb A n C K w ob 0 (fun _=>.nil) (fun _=>undef) (fun _=>0) (fun _=>0) none 0 n (.slice a3 n c3) w3):=by
  subst hobe;refine⟨by simpa using iS.o,O,HOB3.o,Gw.start _ _ _ _<|awa _ _ _ _,fun i hi=>absurd hi<|avJ _,TR.o,O,fun g hg=>⟨fun e=>by simp[Value.ownBlock]at e,fun i hi=>absurd hi<|avJ _⟩⟩
 clear ec I HD LI hb3 Cy qh og iS HOB3 TR;go_wp2_with(at_builtin;refine eo _ rfl _ _ 69 rfl _ _ _ _ rfl rfl mL.o ?_)
 clear mL SC;subst hobe;go_loopw[12,13] (fun mine i wr=>∃(j:Nat)(Ts:Nat->Nd)(us:Nat->Value)(s e:Nat->Nat)(ka:Option Addr)(kc n':Nat)(ma:Option Addr)(mc:Nat),j<=m/\i=.int .i64 j/\mine=.slice ma n' mc/\BI (3*deep.toNat+10) sb A n C K w w1.heap.size j Ts us s e ka kc n' (.slice ma n' mc) wr) (fun _ i _=>m-(intOf i).toNat)
 case atStart=>exact⟨0,_,_,_,_,_,_,_,_,_,avL _,rfl,rfl,HBI0.o⟩
 case round=>
  obtain⟨j,Ts,us,s,e,ka,kc,n',ma,mc,hj,rfl,rfl,hbi⟩:=hrel;clear HBI0;have Od:=Z hbi;have fp:=hbi.aR;have hlowob:=hbi.low;clear hbi;by_cases be:j<m
  ·have hji:(j:Int)<(m:Int):=O;have hmul:A+j*K+K<=A+m*K:=by
    have:(j+1)*K<=m*K:=avQ _ be;rw[awU]at this;omega
   have CALL:=Z<|STH.o sb (A+j*K) n' (.slice ma n' mc) loops wr O O Od.o.dw.src<|Od.o.sv.dd O O;go_wp2_with fail
   refine CALL.o.mono ?_;rintro e' w4⟨T,u,rfl,hd⟩;obtain⟨ua,uc,rfl⟩:=bh hd.row;have hTl:=Nd.I hd.aA;have HT:Hid (T.R/\T.sH (3*deep.toNat+10)/\T.cost<=C):=⟨hd.aA,hd.ok,hd.cost⟩;obtain⟨lo,fT⟩:∃l,l=wr.heap.size:=⟨_,rfl⟩;have oh:=Z<|Od.o.st hd;rw[<-fT]at oh;have R7:=Z fp;clear hd CALL Od fT fp;unfold Nd.val;obtain⟨W5,Tz⟩:∃W,w4.alloc (eS T.y T.E T.z ua T.q uc)=W:=⟨_,rfl⟩;have HW5:=Z Tz;rw[Tz]at oh;clear Tz;go_upto_region 7 with fail
   rw[show(w4.alloc<|Obj.cells #[.int .i64 T.y,.int .i64 T.E,.string T.z,.slice ua T.q uc] 25)=W5 from HW5.o];clear HW5;obtain⟨b0,b1,b2,b3,bf⟩:=al oh.o.cj;by_cases h5:T.y=5
   ·have h5b:(T.y==5)=true:=by rw[h5];rfl
    obtain⟨LS,VK⟩:=Pl HT.o.2.1.1 h5;have Zc:=Z VK;have hnsz:=gm VK;have hn6:n'<=1000:=by have:=R7.o;omega
    have Y6:=Z<|oh.o.sv.dd (sb:=sb) O O;obtain⟨_,_,hue,_,huq⟩:=ar.1 oh.o.row;injection hue with q1 _ q3;subst q1 q3;rcases huq with NQ|⟨g,off,rfl,_,_,oV⟩
    ·omega
    obtain⟨u0,k0,k1,k2,k3,_⟩:=oV 0 O;simp only[Nat.zero_mul,Nat.add_zero]at k0 k1 k2 k3;have hl1i:(0:Int)<(T.q:Int):=O;clear VK oV;by_cases ti:(T.f 0).y=26
    ·have h26b:((T.f 0).y==26)=true:=by rw[ti];rfl
     have aiW:=kk;exact acb
    ·have h26b:((T.f 0).y==26)=false:=bn ti;by_cases vP:(T.f 0).y=23
     ·have h23b:((T.f 0).y==23)=true:=by rw[vP];rfl
      have aiX:=kk;exact acb
     ·have h23b:((T.f 0).y==23)=false:=bn vP;have aiY:=kk;exact acb
   ·have h5b:(T.y==5)=false:=bn h5;have Cp:Hid (T.R/\T.sH (3*deep.toNat+10)/\T.cost<=C+40):=⟨HT.o.1,HT.o.2.1,by have:=HT.o.2.2;omega⟩;obtain⟨wz,SX⟩:∃W,W=W5:=⟨_,rfl⟩;have hfw:=R7.o;rw[<-SX]at oh b0 b1 b2 b3 bf⊢;clear SX;have hobl:=oh.o.low;obtain⟨o0,o1,o2,o3,of⟩:=al oh.o.bo;have hoq:=eY o3;have hHT:Hid (T.R/\T.sH (3*deep.toNat+10)/\T.cost<=C+40):=Cp;have of3:=of 3;go_wp2_with(at_builtin;refine bN _ rfl _ _ 23 rfl (w1.heap.size+1) 25 i0 (.agg #[.int .i64 0,.int .i64 0,.string ⟨#[]⟩,.slice none 0 0]) 4 56 underlying23 nB mT eu ed rfl J _ j _ rfl (oh.o.gw.own.alloc _) ⟨wz.heap.size,0,none⟩ 1 1 [.int .i64 (T).y,.int .i64 (T).E,.string (T).z,.slice ua (T).q uc] rfl rfl (ia _ _ _ _ _ _) (jn _ _ _ _ _ _) aaj O aax ?_;intro v' w9 dd aQ fs sq;obtain⟨rD,rC,xN⟩:=sq.o;subst xN;have hb9:w9.heap[w1.heap.size]?=some (eS 4 0 ⟨#[]⟩ ka j kc):=(aQ.o.block w1.heap.size aax fun e=>by have:=(oh.o.gw.own.lt w1.heap.size e.symm).1;omega).trans<|(avI wz _ w1.heap.size (by have:=oh.o.int;have:=oh.o.lt;omega)).trans oh.o.bo;obtain⟨p0,p1,p2,p3,pf⟩:=al hb9;have pf3:=pf 3;clear hb9)
    exact ab8
  ·obtain rfl:j=m:=O;have hji:¬(j:Int)<(j:Int):=O;obtain⟨o0,o1,o2,o3,of⟩:=al Od.o.bo;obtain⟨f0,f1,f2,f3,ff⟩:=Od.o.dw.cells;have fM:=Od.o.gw.row (lo:=w.heap.size+1) O 4 0 ⟨#[]⟩;have sU:=Z fM;have Uh:=Z Od.o.dw;have Wa:=Od.o.ok;have tC:=Z Wa;clear fM Wa Od;go_wp2;refine avr (Uh.o.read results24 rfl _ _ _ _) rfl ⟨.mk 4 0 ⟨#[]⟩ j Ts,_,rfl,?_⟩;exact(Uh.o.fin (P:=fun T=>T.y=4/\T.sH (3*deep.toNat+11)/\T.q=j) (C:=j*(C+41)) sU.o ⟨O,O,J,by show j<=_;omega,fun i hi=>(tC.o i hi).1⟩ ⟨rfl,⟨xo fun i hi=>(tC.o i hi).2.1.1,nD fun i hi=>(tC.o i hi).2.1.2⟩,rfl⟩<|D7 fun i hi=>(tC.o i hi).2.2).more O
section
open Go Go.RowKit
def AV (B b j:Nat)(P:(Nat->Nd)->Prop)(w:World)(x:Value):Prop:=∃(Ts:Nat->Nd)(us:Nat->Value)(s e:Nat->Nat)(a:Option Addr)(c:Nat),x=.slice a j c/\Gw B Ts us s e j (.slice a j c) w/\P Ts/\(Value.slice a j c).ownBlock≠some b/\∀i,i<j->b<s i\/e i<=b
theorem AV.put {P:(Nat->Nd)->Prop}(h:AV B b j P w x):AV B b j P (w.setCell ⟨b,o,none⟩ axd) x:=by
 obtain⟨Ts,us,s,e,a,c,h1,h2,h3,h4,h5⟩:=h
 exact⟨Ts,us,s,e,a,c,h1,h2.put h4 h5,h3,h4,h5⟩
def GV (lo:Nat)(P:Nd->Prop)(w:World)(x:Value):Prop:=∃(A:Nd)(u:Value)(g:Nat),P A/\lo<=g/\x=.slice (some ⟨g,0,none⟩) 1 1/\Gw lo (fun _=>A) (fun _=>u) (fun _=>lo) (fun _=>g) 1 (.slice (some ⟨g,0,none⟩) 1 1) w
theorem GV.aT (h:Wn lo w w')(hx:GV lo P w x):GV lo P w' x:=by obtain⟨A,u,g,h1,h2,h3,h4⟩:=hx;exact⟨A,u,g,h1,h2,h3,h4.keep h.size fun k k1 k2 _=>h.block k k2 k1⟩
theorem GV.new {A:Nd}(y:P A)(fT:lo<=w.heap.size)(h:Row lo w.heap.size w A u):GV lo P (w.alloc<|.cells #[.int .i64 A.y,.int .i64 A.E,.string A.z,u] 25) (.slice (some ⟨w.heap.size,0,none⟩) 1 1):=by refine⟨A,u,w.heap.size,y,fT,rfl,⟨by simp[cN],.inr ⟨w.heap.size,1,_,rfl,fT,avv w _,avF _,by unfold maxLen;omega,M,by simp[cN]⟩⟩,fun i hi=>⟨?_,avF _,fT,M⟩,fun i hi g hg=>.inr aap⟩;exact ah (bO w _) lr h
theorem Gw.two {A A':Nd}{u':Value}{s0 e0 s1 e1:Nat}(h:Row s0 e0 W A u)(h':Row s1 e1 W A' u')(hs:B<=s0/\s0<=e0/\e0<=W.heap.size)(S8:B<=s1/\s1<=e1/\e1<=W.heap.size)(hB:B<=W.heap.size)
  (I:Below (W.heap.size+1) (W.alloc<|.cells #[.int .i64 A.y,.int .i64 A.E,.string A.z,u,.int .i64 A'.y,.int .i64 A'.E,.string A'.z,u'] 25) V):
  Gw B (oY (fun _=>A') 0 A) (oY (fun _=>u') 0 u) (oY (fun _=>s1) 0 s0) (oY (fun _=>e1) 0 e0) 2 (.slice (some ⟨W.heap.size,0,none⟩) 2 2) V:=by
 have hz:=I.size;simp only[avs]at hz;have hA:=bO W<|.cells #[.int .i64 A.y,.int .i64 A.E,.string A.z,u,.int .i64 A'.y,.int .i64 A'.E,.string A'.z,u'] 25;have hAB:=hA.trans<|I.mono<|av8 _;refine⟨⟨by simp[cN],.inr ⟨W.heap.size,2,_,rfl,hB,(I.block W.heap.size<|awm _).trans<|avv W _,avF _,by unfold maxLen;omega,M,by simp[cN,oY]⟩⟩,fun i hi=>?_,fun i hi g hg=>?_⟩
 ·rcases(O:i=0\/i=1)with rfl|rfl
  ·rw[dc,dc,dc,dc];exact⟨ah hAB hs.2.2 h,hs.1,hs.2.1,O⟩
  ·rw[dF _ _ O,dF _ _ O,dF _ _ O,dF _ _ O];exact⟨ah hAB S8.2.2 h',S8.1,S8.2.1,O⟩
 ·have sO:g=W.heap.size:=by simp[Value.ownBlock]at hg;omega
  subst sO;rcases(O:i=0\/i=1)with rfl|rfl
  ·rw[dc,dc];exact .inr hs.2.2
  ·rw[dF _ _ O,dF _ _ O];exact .inr S8.2.2
def js (H C:Nat)(T:Nd):Prop:=T.R/\(T.y=4/\T.sH H)/\T.cost<=C
def IfP (H m C:Nat)(Ts:Nat->Nd):Prop:=((Ts 0).R/\(Ts 0).eH 4/\(Ts 0).cost<=700)/\∀i,1<=i->i<m->js H C (Ts i)
theorem EE {k:Int}{s:ByteArray}(hH:4<=H)(hm:m=2\/m=3)(h:IfP H m C Ts):(Nd.mk 10 0 ⟨#[]⟩ m Ts).sH (H+1)/\(Nd.mk 10 0 ⟨#[]⟩ m Ts).R/\(Nd.mk 10 0 ⟨#[]⟩ m Ts).cost<=703+2*C:=by
 obtain⟨⟨a1,⟨a2,aH⟩,a3⟩,I⟩:=h
 have hgt:(Nd.mk 10 0 ⟨#[]⟩ m Ts).ak<=H+1:=nD fun i hi=>by
  by_cases h0:i=0
  ·subst h0;omega
  ·exact(I i O hi).2.1.2.2
 have b1:=I 1 O O;rcases hm with rfl|rfl
 ·refine⟨?_,⟨O,O,J,O,fun i hi=>?_⟩,?_⟩
  ·refine⟨?_,hgt⟩;rw[aM];show aL 10 0 ⟨#[]⟩ 2 (fun i=>(Ts i).Q) (fun i=>(Ts i).U) (fun i=>(Ts i).aH) (Nd.mk 10 0 ⟨#[]⟩ 2 Ts).kk=true;have k1:(Nd.mk 10 0 ⟨#[]⟩ 2 Ts).kk 1=4:=b1.2.1.1;simp[aL,aG,bT,aD,ao,ByteArray.size,a2,b1.2.1.2.1,k1]
  ·rcases(O:i=0\/i=1)with rfl|rfl
   ·exact a1
   ·exact b1.1
  ·show ByteArray.size ⟨#[]⟩+(2+aq (fun i=>(Ts i).cost) 2)<=_;have e:ByteArray.size ⟨#[]⟩=0:=J;have:=b1.2.2;simp only[aq,e];omega
 ·have b2:=I 2 O O;refine⟨?_,⟨O,O,J,O,fun i hi=>?_⟩,?_⟩
  ·refine⟨?_,hgt⟩;rw[aM];show aL 10 0 ⟨#[]⟩ 3 (fun i=>(Ts i).Q) (fun i=>(Ts i).U) (fun i=>(Ts i).aH) (Nd.mk 10 0 ⟨#[]⟩ 3 Ts).kk=true;have k1:(Nd.mk 10 0 ⟨#[]⟩ 3 Ts).kk 1=4:=b1.2.1.1;have k2:(Nd.mk 10 0 ⟨#[]⟩ 3 Ts).kk 2=4:=b2.2.1.1;simp[aL,aG,bT,aD,ao,ByteArray.size,a2,b1.2.1.2.1,b2.2.1.2.1,k1,k2]
  ·rcases(O:i=0\/i=1\/i=2)with rfl|rfl|rfl
   ·exact a1
   ·exact b1.1
   ·exact b2.1
  ·show ByteArray.size ⟨#[]⟩+(3+aq (fun i=>(Ts i).cost) 3)<=_;have e:ByteArray.size ⟨#[]⟩=0:=J;have:=b1.2.2;have:=b2.2.2;simp only[aq,e];omega
def Nm (H sb b lo B C n:Nat)(ka va:Option Addr)(kc vc:Nat)(deep:Int)(loops:Bool)(i:Nat)(w:World)(x:Value):Prop:=match i with
 |0=>x=.pointer (some ⟨b,3,none⟩)
 |1=>x=.slice ka 2 kc
 |2=>x=.pointer (some ⟨sb,0,none⟩)
 |3=>x=.slice va n vc
 |4=>x=.int .i64 deep
 |5=>x=.int .i64 (deep-1)
 |6=>x=.pointer (some ⟨sb,0,none⟩)
 |7=>∃q:Nat,q<3/\x=.int .i64 (q:Int)
 |8=>x=.bool loops
 |9=>TV lo (js H C) w x
 |10=>LV lo (fun T=>∃A,js H C A/\T=cq 0 0 ⟨#[]⟩ A) w x
 |11=>AV B b 3 (IfP H 3 C) w x
 |12=>x=.pointer (some ⟨b,3,none⟩)
 |_=>True
theorem zQ (h:Wn lo v v')(bQ:l.getD 11 false=false)(ba:l.getD 13 false=false):∀j x,l.getD j false=true->Nm H sb b lo B C n ka va kc vc deep loops j v x->Nm H sb b lo B C n ka va kc vc deep loops j v' x:=by exact XT
theorem X6 (I:b<lo):∀j x,Nm H sb b lo B C n ka va kc vc deep loops j v x->Nm H sb b lo B C n ka va kc vc deep loops j (v.setCell ⟨b,o,none⟩ axd) x:=by exact TO
def Cv (i:Nat):Nat:=[146,147,148,149,150,151,152,153,154,155,156,157,158,1013].getD i 2000
theorem Sq (i j:Nat)(hi:i<14)(hj:j<14)(h:Cv i=Cv j):i=j:=y6 Cv 14 J i j hi hj h
theorem vw {axe:Nat}(BD:Ss deep C K axe)(sb B n m:Nat)(v:Value)(loops:Bool)(W:World)(hm:m<=2)(hB:B+(2*K+10)<=1099511627776)(hn:n+2+axe<=1000)(hs:Src sb B W)(hv:Scp sb W v n):
  Calls prog 24 #[.pointer<|some ⟨sb,0,none⟩,v,.int .i64 deep,.int .i64 m,.bool loops] W fun e w'=>∃T u,e=.returned (T.val u)/\Drawn sb (B+(2*K+10)) (fun T=>(T.y=4/\T.sH (3*deep.toNat+11))/\T.q<=2) (2*C) W T u w':=by
 have h1:m*K<=2*K:=avQ _ hm;have h2:m*C<=2*C:=avQ _ hm;refine(BD sb B n m v loops W O O hs hv).mono ?_;rintro e w'⟨T,u,h3,d⟩;exact⟨T,u,h3,⟨d.row,d.aA,⟨⟨d.ok.1,d.ok.2.1⟩,by rw[d.ok.2.2];exact hm⟩,by have:=d.cost;omega,d.src.mono O,d.kp⟩⟩
theorem rK (h0:0<deep)(h:T.y=4/\T.sH (3*(deep-1).toNat+11)):T.y=4/\T.sH (3*deep.toNat+8):=⟨h.1,h.2.1,by have:=h.2.2;omega⟩
def F36 (H sb A B b C:Nat)(w:World)(v:World):Prop:=DW sb A w v/\∃(Ts:Nat->Nd)(us:Nat->Value)(s e:Nat->Nat)(a:Option Addr)(c:Nat),v.heap[b]?=some (eS 10 0 ⟨#[]⟩ a 3 c)/\Gw B Ts us s e 3 (.slice a 3 c) v/\IfP H 3 C Ts
theorem Gw.ck {B':Nat}{v:Value}(h:Gw B Ts us s e j v w)(hB:B'<=B):Gw B' Ts us s e j v w:=by
 refine⟨⟨h.own.1,?_⟩,fun i hi=>?_,h.apart⟩
 ·rcases h.own.2 with h1|⟨g,cap,cur,h1,h2,h3⟩
  ·exact .inl h1
  ·exact .inr ⟨g,cap,cur,h1,O,h3⟩
 ·obtain⟨k1,k2,k3,k4⟩:=h.a7 i hi;exact⟨k1,O,k3,k4⟩
def cC (A T:Nd):Nd:=.mk T.y T.E T.z (1+T.q)<|dL (fun _=>A) 1 T.f
theorem Az (f g:Nat->Nat):∀m,aq (dL f 1 g) (1+m)=f 0+aq g m
 |0=>by simp[aq,dL]
 |m+1=>by
  rw[<-av9]
  simp only[aq]
  rw[Az f g m,bW _ _ O,show 1+m-1=m by omega]
  omega
theorem rJ (A T:Nd):(cC A T).cost=T.cost+(1+A.cost):=by
 rw[T.bJ];show T.z.size+((1+T.q)+aq (fun i=>(dL (fun _=>A) 1 T.f i).cost) (1+T.q))=_;have e:(fun i=>(dL (fun _=>A) 1 T.f i).cost)=dL (fun _=>A.cost) 1 (fun i=>(T.f i).cost):=by
  funext i;unfold dL;split<;>rfl
 rw[e,Az];omega
theorem yk {A:Nd}(hA:A.R)(hT:T.R)(hl:1+T.q<=9223372036854775807):(cC A T).R:=
 ⟨(Nd.bM hT).1,(Nd.bM hT).2,Nd.ba hT,hl,fun i hi=>by
  by_cases h:i<1
  ·rw[bp _ _ h];exact hA
  ·rw[bW _ _ O];exact Nd.aa hT O⟩
theorem Fw {A:Nd}(hA:A.U=true)(z:T.y=4)(hT:T.U=true):(cC A T).U=true:=by
 rw[aM,z]at hT;rw[aM];show aL T.y T.E T.z (1+T.q) (fun i=>(dL (fun _=>A) 1 T.f i).Q) (fun i=>(dL (fun _=>A) 1 T.f i).U) (fun i=>(dL (fun _=>A) 1 T.f i).aH) (cC A T).kk=true;rw[z];simp only[aL,if_true,avw]at hT⊢;refine⟨hT.1,eZ fun i hi=>?_⟩;by_cases h:i<1
 ·rw[bp _ _ h];exact hA
 ·rw[bW _ _ O];exact bj.1 hT.2 (i-1) O
theorem BZ {A:Nd}{h:Nat}(hA:A.ak+1<=h)(hT:T.ak<=h):(cC A T).ak<=h:=by
 have:=nD (k:=T.y) (n:=T.E) (s:=T.z) (m:=1+T.q) (h:=h-1) (Ts:=dL (fun _=>A) 1 T.f) fun i hi=>by
  by_cases h1:i<1
  ·rw[bp _ _ h1];omega
  ·rw[bW _ _ O];have:=T.aZ (i:=i-1) O;omega
 have h2:(cC A T).ak<=h-1+1:=this;omega
def F55 (sb A B b:Nat)(Sx T:Nd)(w:World)(v:World):Prop:=DW sb A w v/\∃(us:Nat->Value)(s e:Nat->Nat)(a:Option Addr)(c:Nat),v.heap[b]?=some (eS T.y T.E T.z a (1+T.q) c)/\Gw B (dL (fun _=>Sx) 1 T.f) us s e (1+T.q) (.slice a (1+T.q) c) v
def dp :Nd:=aC 7 1 ⟨#[105]⟩
def vh :Nd:=cq 5 0 ⟨#[105]⟩<|aC 22 0 ⟨#[]⟩
def nQ (q:Nat):Nd:=dV 28 0 ⟨#[60]⟩ (aC 24 0 ⟨#[105]⟩)<|aC 22 (1+(q:Int)) ⟨#[]⟩
def zw (q:Nat)(axf:Nd):Nd:=dV 11 0 ⟨#[]⟩ (nQ q) axf
def mM (q:Nat)(axf:Nd):Nd:=dV 4 0 ⟨#[]⟩ vh<|zw q axf
theorem Wn.cv {k n:Int}{s:ByteArray}(h:b<lo):Wn lo w (dn w b k n s u):=⟨by rw[fG];exact avF _,fun i h1 _=>et w b k n s u i O⟩
theorem PP {q:Nat}(hq:q<3)(h1:dp.U=true)(h2:aK ⟨#[105]⟩=true)(hf:T.R)(z:T.y=4)(hH:2<=H)(ho:T.sH H)(hc:T.cost<=C)(hl:1+T.q<=9223372036854775807):(mM q<|cC dp T).sH (H+2)/\(mM q<|cC dp T).R/\(mM q<|cC dp T).cost<=C+200:=by have hcq:(nQ q).Q=true:=qP J (iI h2)<|j6 O;have V4:(nQ q).R:=fB O O J (aO O O J)<|aO O O J;have hd:vh.U=true:=ow (.inl rfl) h2<|j6 O;have mP:vh.R:=bR O O J<|aO O O J;have hL:=Fw h1 z ho.1;have hs:dp.R:=aO O O J;have hh:=BZ (A:=dp) (T:=T) hH ho.2;refine⟨⟨Pm hd<|Pk hcq z hL,by unfold mM zw nQ vh;simp only[kI,nC,te];omega⟩,fB O O J mP<|fB O O J V4<|yk hs hf hl,?_⟩;unfold mM zw nQ vh;rw[fD,fD,fD,cO,bH,bH,bH,rJ];have e0:ByteArray.size ⟨#[]⟩=0:=J;have e1:ByteArray.size ⟨#[60]⟩=1:=J;have e2:ByteArray.size ⟨#[105]⟩=1:=J;have e3:dp.cost=1:=J;rw[e0,e1,e2,e3];omega
def F56 (sb A:Nat)(axf:Nd)(w:World)(v:World):Prop:=∃(v0:World)(q:Nat)(a:Option Addr)(c:Nat),DW sb A w v0/\q<3/\Row (w.heap.size+1) v0.heap.size v0 (mM q axf) (.slice a 2 c)/\v=dn v0 w.heap.size 4 0 ⟨#[]⟩ (.slice a 2 c)
def Nl (b lo Vq:Nat)(aB:Option Addr)(T:Nd)(cB:Nat)(i:Nat)(w:World)(x:Value):Prop:=match i with
 |0=>x=.agg #[.int .i64 7,.int .i64 1,.string ⟨#[105]⟩,.slice none 0 0]
 |1=>GV lo (fun A=>A=dp) w x
 |2=>x=.pointer (some ⟨b,3,none⟩)
 |3=>x=.slice aB T.q cB
 |4=>AV Vq b (1+T.q) (fun Ts=>Ts=dL (fun _=>dp) 1 T.f) w x
 |5=>x=.pointer (some ⟨b,3,none⟩)
 |_=>True
theorem Ec (h:Wn lo v v')(bQ:l.getD 4 false=false)(ba:l.getD 6 false=false):∀j x,l.getD j false=true->Nl b lo Vq aB T cB j v x->Nl b lo Vq aB T cB j v' x:=by exact XT
theorem X5 (I:b<lo):∀j x,Nl b lo Vq aB T cB j v x->Nl b lo Vq aB T cB j (v.setCell ⟨b,o,none⟩ axd) x:=by exact TO
def So (i:Nat):Nat:=[229,230,231,232,233,234,1006].getD i 2000
theorem Sn (i j:Nat)(hi:i<7)(hj:j<7)(h:So i=So j):i=j:=y6 So 7 J i j hi hj h
def Nk (sb lo:Nat)(la:Option Addr)(axf:Nd)(lc:Nat)(i:Nat)(w:World)(x:Value):Prop:=match i with
 |0=>x=.agg #[.int .i64 22,.int .i64 0,.string ⟨#[]⟩,.slice none 0 0]
 |1=>LV lo (fun T=>T=cq 0 0 ⟨#[]⟩ (aC 22 0 ⟨#[]⟩)) w x
 |2=>TV lo (fun T=>T=vh) w x
 |3=>x=.agg #[.int .i64 24,.int .i64 0,.string ⟨#[105]⟩,.slice none 0 0]
 |4=>x=.pointer (some ⟨sb,0,none⟩)
 |5=>∃q:Nat,q<3/\x=.int .i64 (q:Int)
 |6=>∃q:Nat,q<3/\x=.int .i64 (1+(q:Int))
 |7=>∃q:Nat,q<3/\x=.agg #[.int .i64 22,.int .i64<|1+(q:Int),.string ⟨#[]⟩,.slice none 0 0]
 |8=>LV lo (fun T=>∃q:Nat,q<3/\T=dV 0 0 ⟨#[]⟩ (aC 24 0 ⟨#[105]⟩) (aC 22 (1+(q:Int)) ⟨#[]⟩)) w x
 |9=>TV lo (fun T=>∃q:Nat,q<3/\T=nQ q) w x
 |10=>x=axf.val (.slice la axf.q lc)
 |11=>LV lo (fun T=>∃q:Nat,q<3/\T=dV 0 0 ⟨#[]⟩ (nQ q) axf) w x
 |12=>TV lo (fun T=>∃q:Nat,q<3/\T=zw q axf) w x
 |13=>LV lo (fun T=>∃q:Nat,q<3/\T=dV 0 0 ⟨#[]⟩ vh (zw q axf)) w x
 |14=>TV lo (fun T=>∃q:Nat,q<3/\T=mM q axf) w x
 |_=>True
theorem kR (h:Wn lo v v')(bQ:l.getD 15 false=false)(ba:l.getD 15 false=false):∀j x,l.getD j false=true->Nk sb lo la axf lc j v x->Nk sb lo la axf lc j v' x:=by exact XT
theorem X4 (h:Wn lo v v'):∀j x,Nk sb lo la axf lc j v x->Nk sb lo la axf lc j v' x:=by
 intro j x hx;iterate 25 (rcases j with _|j;·first|exact hx|exact TV.aT h hx|exact LV.aT h hx|exact GV.aT h hx)
 exact trivial
def I0 (i:Nat):Nat:=[235,236,237,238,239,240,241,242,243,244,245,246,247,248,249,1015].getD i 2000
theorem Sm (i j:Nat)(hi:i<16)(hj:j<16)(h:I0 i=I0 j):i=j:=y6 I0 16 J i j hi hj h
end
section
open Go Go.RowKit
def CsP (H C:Nat)(T:Nd):Prop:=T.R/\T.cH H/\T.cost<=C
def Sg (C:Nat)(T:Nd):Prop:=T.R/\T.eH 4/\T.cost<=C
theorem case0 {B:Nd}(h:js H C B):CsP (H+1) (C+10) (cq 16 0 ⟨#[]⟩ B):=by
 refine⟨bR O O J h.1,?_,?_⟩
 ·refine⟨?_,by rw[nC];have:=h.2.1.2.2;omega⟩;rw[lI];have k0:(cq 16 0 ⟨#[]⟩ B).kk 0=4:=h.2.1.1;simp[cq,Nd.y,Nd.E,Nd.z,Nd.q,Nd.f,gP,aG,bT,aD,ao,ByteArray.size,h.2.1.2.1]at k0⊢;exact avR k0
 ·rw[cO];have e:ByteArray.size ⟨#[]⟩=0:=J;have:=h.2.2;omega
theorem case1 {A B:Nd}{s:ByteArray}(hH:4<=H)(hs:aK s=true)(hz:s.size<=40)(hA:Sg D A)(h:js H C B):CsP (H+1) (C+D+50) (dV 16 1 s A B):=by
 refine⟨fB O O O hA.1 h.1,?_,?_⟩
 ·refine⟨?_,by rw[te];have:=h.2.1.2.2;have:=hA.2.1.2;omega⟩;rw[lI];have k0:(dV 16 1 s A B).kk 1=4:=h.2.1.1;simp[dV,Nd.y,Nd.E,Nd.z,Nd.q,Nd.f,gP,aG,bT,aD,ao,ByteArray.size,h.2.1.2.1,hA.2.1.1,hs]at k0⊢;exact avR k0
 ·rw[fD];have:=h.2.2;have:=hA.2.2;omega
theorem D6 (k n:Int)(s:ByteArray)(A B C:Nd):(lE k n s A B C).cost=s.size+(3+(A.cost+B.cost+C.cost)):=by simp[lE,Nd.cost,aq]
theorem case2 {E:Nat}{A B:Nd}(hH:4<=H)(hA:Sg D A)(hF:Sg E F)(h:js H C B):CsP (H+1) (C+D+E+10) (lE 16 2 ⟨#[]⟩ A F B):=by
 refine⟨⟨O,O,J,O,fun i _=>?_⟩,?_,?_⟩
 ·show(if i=0 then A else if i=1 then F else B).R;split
  ·exact hA.1
  ·split
   ·exact hF.1
   ·exact h.1
 ·refine⟨?_,by have:=h.2.1.2.2;have:=hA.2.1.2;have:=hF.2.1.2;show 1+max (max (max 0 A.ak) F.ak) B.ak<=_;omega⟩;rw[lI];have k0:(lE 16 2 ⟨#[]⟩ A F B).kk 2=4:=h.2.1.1;simp[lE,Nd.y,Nd.E,Nd.z,Nd.q,Nd.f,gP,aG,bT,aD,ao,ByteArray.size,h.2.1.2.1,hA.2.1.1,hF.2.1.1]at k0⊢;exact avR k0
 ·rw[D6];have e:ByteArray.size ⟨#[]⟩=0:=J;have:=h.2.2;have:=hA.2.2;have:=hF.2.2;omega
theorem tW (h:∀i,i<m->(Ts i).aH=true):(Nd.mk 15 0 ⟨#[]⟩ m Ts).U=true:=by rw[aM];show aL 15 0 ⟨#[]⟩ m (fun i=>(Ts i).Q) (fun i=>(Ts i).U) (fun i=>(Ts i).aH) _=true;simp only[aL];rw[eZ (p:=fun i=>(Ts i).aH) h];simp[ao]
theorem sI (h:∀i,i<m->(Ts i).cost<=C):(Nd.mk 15 0 ⟨#[]⟩ m Ts).cost<=m*(C+1):=by show(ByteArray.size ⟨#[]⟩)+(m+aq (fun i=>(Ts i).cost) m)<=_;have:=CU (m:=m) (f:=fun i=>(Ts i).cost) h;have e:ByteArray.size ⟨#[]⟩=0:=J;rw[e,Nat.mul_add];omega
structure SI (H sb A C:Nat)(w:World)(ob j:Nat)(Ts:Nat->Nd)(us:Nat->Value)(s e:Nat->Nat)(ka:Option Addr)(kc:Nat)(W:World):Prop where
 dw:DW sb A w W
 low:w.heap.size<ob
 bo:W.heap[ob]?=some (eS 15 0 ⟨#[]⟩ ka j kc)
 gw:Gw (ob+1) Ts us s e j (.slice ka j kc) W
 ok:∀i,i<j->CsP H C (Ts i)
theorem SI.kp (h:SI H sb A C w ob j Ts us s e ka kc W)(hs:Src sb A' W')(z:Kp sb W W'):SI H sb A' C w ob j Ts us s e ka kc W':=by have hl:=h.dw.low;have h2:=h.low;exact⟨h.dw.step hs z,h.low,bc h.bo O z,h.gw.kp (sb:=sb) O z,h.ok⟩
theorem SI.calm (h:SI H sb A C w ob j Ts us s e ka kc W)(I:Below W.heap.size W W'):SI H sb A C w ob j Ts us s e ka kc W':=h.kp (h.dw.src.calm I)<|b9 I _
def SE (H sb A C:Nat)(w:World)(ob j:Nat)(W:World):Prop:=∃(Ts:Nat->Nd)(us:Nat->Value)(s e:Nat->Nat)(ka:Option Addr)(kc:Nat),SI H sb A C w ob j Ts us s e ka kc W
theorem SI.done (hd:DW sb A w v)(ew:w.heap.size<ob)(I:v.heap[ob]?=some (eS 15 0 ⟨#[]⟩ ka j kc))(h:AV (ob+1) ob (j+1) (fun Ts=>∀i,i<j+1->CsP H C (Ts i)) v x):∃a c,x=.slice a (j+1) c/\SE H sb A C w ob (j+1) (v.setCell ⟨ob,3,none⟩<|.slice a (j+1) c):=by
 obtain⟨Ts,us,s,e,a,c,h1,h2,h3,h4,h5⟩:=h
 exact⟨a,c,h1,Ts,us,s,e,a,c,hd.put ob 3 _ O,ew,(avD v ob 3 _ 25 (.slice a (j+1) c) I).trans rfl,h2.put h4 h5,h3⟩
theorem SI.join {sb A:Nat}{w:World}(h:Gw (ob+1) Ts us s e j (.slice ka j kc) v)(ax:∀i,i<j->CsP H C (Ts i))(ht:Row lo hi v (cq 0 0 ⟨#[]⟩ T) (.slice ua 1 uc))(hT:CsP H C T)(hB:ob+1<=lo)(Qb:lo<=hi)(hh:hi<=v.heap.size)(bQ:∀g,(Value.slice ka j kc).ownBlock=some g->g<lo)(hj:j<=100):
  ∃x v',(∀ty,(Builtin.append_ #[23,23] ty #[.slice ka j kc,.slice ua 1 uc]).run prog v=.ok x v')/\v.grownBy v' (Value.slice ka j kc).ownBlock/\AV (ob+1) ob (j+1) (fun Ts=>∀i,i<j+1->CsP H C (Ts i)) v' x:=by
 obtain⟨a,c,v',vs,h1,h2,h3,h4⟩:=kQ (T:=cq 0 0 ⟨#[]⟩ T) h ht O hB Qb hh (fun g hg=>.inl<|bQ g hg) (by show j+1<=_;omega);refine⟨_,v',h1,h3,_,_,_,_,a,c,rfl,h2,fun i hi=>?_,fun e=>?_,fun i hi=>.inl ?_⟩
 ·by_cases lh:i<j
  ·rw[bp _ _ lh];exact ax i lh
  ·rw[bW _ _ O];exact hT
 ·have:=(h2.own.lt ob e).1;omega
 ·have:=(h2.a7 i hi).2.1;omega
end
section
open Go Go.RowKit
theorem CsP.mono (h:CsP H C T)(hd:C<=D):CsP H D T:=⟨h.1,h.2.1,avK h.2.2 hd⟩
theorem Wn.mono {SO:Nat}(h:Wn lo w w')(hl:lo<=SO):Wn SO w w':=⟨h.size,fun k h1 h2=>h.block k O h2⟩
theorem AV.aT {P:(Nat->Nd)->Prop}(h:Wn B w w')(hx:AV B b j P w x):AV B b j P w' x:=by obtain⟨Ts,us,s,e,a,c,h1,h2,h3⟩:=hx;exact⟨Ts,us,s,e,a,c,h1,h2.keep h.size fun k k1 k2 _=>h.block k k2 k1,h3⟩
def iP :Nd:=cq 20 0 ⟨#[]⟩<|aC 24 0 ⟨#[118]⟩
def F12 (sb A r0 b:Nat)(T:Nd)(w W:World)(v:World):Prop:=DW sb A w v/\(∀k,k<W.heap.size->k≠sb->k≠b->v.heap[k]?=W.heap[k]?)/\W.heap.size<=v.heap.size/\∃(us:Nat->Value)(s e:Nat->Nat)(a:Option Addr)(c:Nat),v.heap[b]?=some (eS T.y T.E T.z a (1+T.q) c)/\Gw r0 (dL (fun _=>iP) 1 T.f) us s e (1+T.q) (.slice a (1+T.q) c) v
def Nh (H sb ob lo C D n j:Nat)(ka va:Option Addr)(kc vc:Nat)(ch:ByteArray)(deep:Int)(loops:Bool)(i:Nat)(w:World)(x:Value):Prop:=match i with
 |0=>x=.pointer (some ⟨ob,3,none⟩)
 |1=>x=.slice ka j kc
 |2=>x=.agg #[.int .i64 24,.int .i64 0,.string ch,.slice none 0 0]
 |3=>x=.pointer (some ⟨sb,0,none⟩)
 |4=>x=.slice va n vc
 |5=>TV lo (Sg 300) w x
 |6=>x=.pointer (some ⟨sb,0,none⟩)
 |7=>x=.slice va n vc
 |8=>x=.int .i64 deep
 |9=>x=.int .i64 (deep-1)
 |10=>x=.pointer (some ⟨sb,0,none⟩)
 |11=>∃q:Nat,q<2/\x=.int .i64 (q:Int)
 |12=>x=.bool loops
 |13=>TV lo (js H C) w x
 |14=>LV lo (fun T=>∃F B,Sg 300 F/\js H C B/\T=lE 0 0 ⟨#[]⟩ (aC 24 0 ch) F B) w x
 |15=>TV lo (CsP (H+1) D) w x
 |16=>LV lo (fun T=>∃A,CsP (H+1) D A/\T=cq 0 0 ⟨#[]⟩ A) w x
 |17=>AV (ob+1) ob (j+1) (fun Ts=>∀i,i<j+1->CsP (H+1) D (Ts i)) w x
 |18=>x=.pointer (some ⟨ob,3,none⟩)
 |_=>True
theorem p8 (h:Wn lo v v')(bQ:l.getD 17 false=false)(ba:l.getD 19 false=false):∀jj x,l.getD jj false=true->Nh H sb ob lo C D n j ka va kc vc ch deep loops jj v x->Nh H sb ob lo C D n j ka va kc vc ch deep loops jj v' x:=by exact XT
theorem X1 (I:ob<lo):∀jj x,Nh H sb ob lo C D n j ka va kc vc ch deep loops jj v x->Nh H sb ob lo C D n j ka va kc vc ch deep loops jj (v.setCell ⟨ob,o,none⟩ axd) x:=by exact TO
def zZ (i:Nat):Nat:=[35,36,37,38,39,40,41,42,43,44,45,46,47,48,49,50,51,52,53,1019].getD i 2000
theorem Sj (i j:Nat)(hi:i<20)(hj:j<20)(h:zZ i=zZ j):i=j:=y6 zZ 20 J i j hi hj h
def vD (b lo r0:Nat)(aB:Option Addr)(T:Nd)(cB:Nat)(i:Nat)(w:World)(x:Value):Prop:=match i with
 |0=>x=.agg #[.int .i64 24,.int .i64 0,.string ⟨#[118]⟩,.slice none 0 0]
 |1=>LV lo (fun T=>T=cq 0 0 ⟨#[]⟩ (aC 24 0 ⟨#[118]⟩)) w x
 |2=>TV lo (fun T=>T=iP) w x
 |3=>GV lo (fun A=>A=iP) w x
 |4=>x=.pointer (some ⟨b,3,none⟩)
 |5=>x=.slice aB T.q cB
 |6=>AV r0 b (1+T.q) (fun Ts=>Ts=dL (fun _=>iP) 1 T.f) w x
 |7=>x=.pointer (some ⟨b,3,none⟩)
 |_=>True
theorem qX (h0:Wn r0 v v')(fT:r0<=lo)(bQ:l.getD 8 false=false)(ba:l.getD 8 false=false):∀jj x,l.getD jj false=true->vD b lo r0 aB T cB jj v x->vD b lo r0 aB T cB jj v' x:=by exact ab7
theorem RI (I:b<lo):∀jj x,vD b lo r0 aB T cB jj v x->vD b lo r0 aB T cB jj (v.setCell ⟨b,o,none⟩ axd) x:=by exact TO
def z6 (i:Nat):Nat:=[68,69,70,71,72,73,74,75,1008].getD i 2000
theorem NL (i j:Nat)(hi:i<9)(hj:j<9)(h:z6 i=z6 j):i=j:=y6 z6 9 J i j hi hj h
def vC (H ob lo D j:Nat)(ka la:Option Addr)(kc lc:Nat)(ch:ByteArray)(axf:Nd)(i:Nat)(w:World)(x:Value):Prop:=match i with
 |0=>x=.pointer (some ⟨ob,3,none⟩)
 |1=>x=.slice ka j kc
 |2=>x=.agg #[.int .i64 24,.int .i64 0,.string ch,.slice none 0 0]
 |3=>x=axf.val (.slice la axf.q lc)
 |4=>LV lo (fun T=>T=dV 0 0 ⟨#[]⟩ (aC 24 0 ch) axf) w x
 |5=>TV lo (CsP (H+1) D) w x
 |6=>LV lo (fun T=>∃A,CsP (H+1) D A/\T=cq 0 0 ⟨#[]⟩ A) w x
 |7=>AV (ob+1) ob (j+1) (fun Ts=>∀i,i<j+1->CsP (H+1) D (Ts i)) w x
 |8=>x=.pointer (some ⟨ob,3,none⟩)
 |_=>True
theorem tA (h:Wn lo v v')(bQ:l.getD 7 false=false)(ba:l.getD 9 false=false):∀jj x,l.getD jj false=true->vC H ob lo D j ka la kc lc ch axf jj v x->vC H ob lo D j ka la kc lc ch axf jj v' x:=by exact XT
theorem RH (I:ob<lo):∀jj x,vC H ob lo D j ka la kc lc ch axf jj v x->vC H ob lo D j ka la kc lc ch axf jj (v.setCell ⟨ob,o,none⟩ axd) x:=by exact TO
def rU (i:Nat):Nat:=[76,77,78,79,80,81,82,83,84,1009].getD i 2000
theorem NK (i j:Nat)(hi:i<10)(hj:j<10)(h:rU i=rU j):i=j:=y6 rU 10 J i j hi hj h
def vB (H sb ob lo C D n j:Nat)(ka va:Option Addr)(kc vc:Nat)(deep:Int)(loops:Bool)(i:Nat)(w:World)(x:Value):Prop:=match i with
 |0=>x=.pointer (some ⟨ob,3,none⟩)
 |1=>x=.slice ka j kc
 |2=>x=.pointer (some ⟨sb,0,none⟩)
 |3=>x=.slice va n vc
 |4=>x=.int .i64 deep
 |5=>x=.int .i64 (deep-1)
 |6=>x=.pointer (some ⟨sb,0,none⟩)
 |7=>∃q:Nat,q<2/\x=.int .i64 (q:Int)
 |8=>x=.bool loops
 |9=>TV lo (js H C) w x
 |10=>LV lo (fun T=>∃B,js H C B/\T=cq 0 0 ⟨#[]⟩ B) w x
 |11=>TV lo (CsP (H+1) D) w x
 |12=>LV lo (fun T=>∃A,CsP (H+1) D A/\T=cq 0 0 ⟨#[]⟩ A) w x
 |13=>AV (ob+1) ob (j+1) (fun Ts=>∀i,i<j+1->CsP (H+1) D (Ts i)) w x
 |14=>x=.pointer (some ⟨ob,3,none⟩)
 |_=>True
theorem oN (h:Wn lo v v')(bQ:l.getD 13 false=false)(ba:l.getD 15 false=false):∀jj x,l.getD jj false=true->vB H sb ob lo C D n j ka va kc vc deep loops jj v x->vB H sb ob lo C D n j ka va kc vc deep loops jj v' x:=by exact XT
theorem RG (I:ob<lo):∀jj x,vB H sb ob lo C D n j ka va kc vc deep loops jj v x->vB H sb ob lo C D n j ka va kc vc deep loops jj (v.setCell ⟨ob,o,none⟩ axd) x:=by exact TO
def oi (i:Nat):Nat:=[87,88,89,90,91,92,93,94,95,96,97,98,99,100,101,1015].getD i 2000
theorem NJ (i j:Nat)(hi:i<16)(hj:j<16)(h:oi i=oi j):i=j:=y6 oi 16 J i j hi hj h
theorem Below.bf {V':World}{row:Option Nat}(h:Below lo W V)(hg:V.grownBy V' row)(hl:lo<=V.heap.size)(hr:∀k,row=some k->lo<=k):Below lo W V':=⟨hg.os.trans h.os,hg.tape.trans h.tape,hg.output.trans h.output,avK h.size hg.size,fun k z=>(hg.block k O fun e=>by have:=hr k e.symm;omega).trans<|h.block k z⟩
theorem DW.dB (h:DW sb A w W)(h':DW sb A' w V)(hz:W.heap.size<=V.heap.size)(I:∀k,k<W.heap.size->k≠sb->V.heap[k]?=W.heap[k]?):Kp sb W V:=⟨h'.kp.os.trans h.kp.os.symm,h'.kp.tape.trans h.kp.tape.symm,h'.kp.output.trans h.kp.output.symm,hz,I⟩
theorem Fl (h:aK ch=true):Sg 41 (aC 24 0 ch):=by have:=gm h;exact⟨aO O O O,⟨iI h,by rw[kI];omega⟩,by rw[bH];omega⟩
theorem cs9 {B:Nd}(hH:4<=H)(h:aK ch=true)(hF:Sg 300 F)(hB:js H C B):CsP (H+1) (C+400) (lE 16 2 ⟨#[]⟩ (aC 24 0 ch) F B):=(case2 hH (Fl h) hF hB).mono O
theorem UV :iP.U=true:=ox O<|iI J
theorem MD (hH:4<=H)(h:js H C T)(hl:T.q<=2):js H (C+50) (cC iP T):=by refine⟨yk (bR O O J<|aO O O J) h.1 O,⟨h.2.1.1,Fw UV h.2.1.1 h.2.1.2.1,BZ (by unfold iP;rw[nC,kI];omega) h.2.1.2.2⟩,?_⟩;rw[rJ];have:iP.cost<=40:=J;have:=h.2.2;omega
theorem cs13 (hH:4<=H)(h:aK ch=true)(hB:js H C T)(hl:T.q<=2):CsP (H+1) (C+400) (dV 16 1 ⟨#[118]⟩ (aC 24 0 ch)<|cC iP T):=(case1 hH J J (Fl h)<|MD hH hB hl).mono O
theorem cs15 {B:Nd}(hB:js H C B):CsP (H+1) (C+400) (cq 16 0 ⟨#[]⟩ B):=(case0 hB).mono O
end
section
open Go Go.RowKit
theorem DW.dT (h:DW sb A w W)(k n:Int)(s:ByteArray)(u:Value):Src sb A (dn W w.heap.size k n s u)/\Kp sb w (dn W w.heap.size k n s u):=by
 have hl:=h.low;have hz:=h.size;have hs:=fG W w.heap.size k n s u;have I:=fun i(e:i≠w.heap.size)=>et W w.heap.size k n s u i e;refine⟨?_,?_⟩
 ·obtain⟨ca,cn,cc,a,s,h1,ha⟩:=h.src;refine⟨ca,cn,cc,a,s,⟨(I sb O).trans h1.av,h1.low,h1.aR,?_⟩,ha⟩;rcases h1.row with e|⟨g,off,e,hg,hh⟩
  ·exact .inl e
  ·refine .inr ⟨g,off,e,hg,fun i hi=>?_⟩;obtain⟨b,hb1,hb2⟩:=hh i hi;exact⟨b,hb1,(avt (a:=⟨g,off+i,none⟩)<|I g O).trans hb2⟩
 ·have iR:=h.kp;have bM:=bO w aN;refine⟨(show(dn W w.heap.size k n s u).os=W.os from rfl).trans<|iR.os.trans bM.os,(show(dn W w.heap.size k n s u).tape=W.tape from rfl).trans<|iR.tape.trans bM.tape,(show(dn W w.heap.size k n s u).output=W.output from rfl).trans<|iR.output.trans bM.output,O,fun i ig hn=>?_⟩;rw[I i O,iR.block i aah hn];exact(bO w aN).block i ig
theorem Q7 (z:T.y=4)(hT:T.U=true)(hi:i<T.q):(T.f i).U=true:=by rw[aM,z]at hT;simp only[aL,if_true,avw]at hT;exact bj.1 hT.2 i hi
theorem EC (Ts:Nat->Nd)(T:Nd):∀{j k:Nat},j<=k->aq (fun i=>(oY Ts k T i).cost) j=aq (fun i=>(Ts i).cost) j
 |0,_,_=>rfl
 |j+1,k,h=>by
  simp only[aq]
  rw[EC Ts T (show j<=k by omega),dF _ _<|show j≠k by omega]
structure AI (sb A lo hi bs:Nat)(W1:World)(TB:Nd)(aB:Option Addr)(cB lB hB i j:Nat)(Ts:Nat->Nd)(us:Nat->Value)(s e:Nat->Nat)(ka:Option Addr)(kc:Nat)(W:World):Prop where
 dw:DW sb A W1 W
 cj:W.heap[bs]?=some (eS TB.y TB.E TB.z aB TB.q cB)
 row:Row lB hB W TB (.slice aB TB.q cB)
 gw:Gw lo Ts us s e j (.slice ka j kc) W
 ap:∀g,(Value.slice ka j kc).ownBlock=some g->bs<g
 int:lo<=lB/\lB<=hB/\hB<=bs/\W1.heap.size<lB
 ok:∀i,i<j->(Ts i).R/\(Ts i).sH 16
 o:∀i,i<j->(s i=lo/\e i=hi)\/W1.heap.size<s i
 top:hi<=W1.heap.size
 aR:j<=i+1
 sum:aq (fun k=>(Ts k).cost) j<=100+aq (fun k=>(TB.f k).cost) i
theorem AI.lt {bs:Nat}(h:AI sb A lo hi bs W1 TB aB cB lB hB i j Ts us s e ka kc W):bs<W.heap.size:=(avp.1 h.cj).1
theorem AI.calm {bs:Nat}(h:AI sb A lo hi bs W1 TB aB cB lB hB i j Ts us s e ka kc W)(I:Below W.heap.size W W'):AI sb A lo hi bs W1 TB aB cB lB hB i j Ts us s e ka kc W':=by have hl:=h.lt;have hi:=h.int;exact⟨h.dw.calm I,aW h.cj I,ah I O h.row,h.gw.calm I,h.ap,h.int,h.ok,h.o,h.top,h.aR,h.sum⟩
theorem AI.skip {bs:Nat}(h:AI sb A lo hi bs W1 TB aB cB lB hB i j Ts us s e ka kc W):AI sb A lo hi bs W1 TB aB cB lB hB (i+1) j Ts us s e ka kc W:=
 ⟨h.dw,h.cj,h.row,h.gw,h.ap,h.int,h.ok,h.o,h.top,by have:=h.aR;omega,by have:=h.sum;simp only[aq];omega⟩
theorem AI.step {bs:Nat}(h:AI sb A lo hi bs W1 TB aB cB lB hB i j Ts us s e ka kc W)(hu:Row lB hB W (TB.f i) u)(hf:(TB.f i).R)(ho:(TB.f i).sH 16)
  (dd:W'.ownsRow lo 25 4 (.slice rD (j+1) rC) (j+1) (cN Ts us j++[.int .i64 (TB.f i).y,.int .i64 (TB.f i).E,.string (TB.f i).z,u])) (aQ:W.grownBy W' (Value.slice ka j kc).ownBlock) (fs:(Value.slice rD (j+1) rC).ownBlock=(Value.slice ka j kc).ownBlock\/∃k,(Value.slice rD (j+1) rC).ownBlock=some k/\W.heap.size<=k):
  AI sb A lo hi bs W1 TB aB cB lB hB (i+1) (j+1) (oY Ts j<|TB.f i) (oY us j u) (oY s j lB) (oY e j hB) rD rC W':=by
 have hl:=h.lt;have hint:=h.int;have hz:=aQ.size;have he:∀k,k<W.heap.size->k<=bs->W'.heap[k]?=W.heap[k]?:=fun k z hn=>aQ.block k z (fun er=>by have:=h.ap k er.symm;omega);refine⟨h.dw.grown aQ (fun k z=>by have:=h.ap k z;omega),(he bs hl lr).trans h.cj,cL lr lr (fun g o h1 h2=>avt (a:=⟨g,o,none⟩)<|he g O O) h.row,h.gw.step hu hint.1 hint.2.1 O (fun g hg=>.inr (by have:=h.ap g hg;omega)) dd aQ fs,fun g hg=>?_,h.int,fun k z=>?_,fun k z=>?_,h.top,by have:=h.aR;omega,?_⟩
 ·rcases fs with e1|⟨k,e1,z⟩
  ·exact h.ap g<|e1▸hg
  ·rw[e1]at hg;obtain rfl:=avq hg;omega
 ·by_cases e1:k=j
  ·subst e1;rw[dc];exact⟨hf,ho⟩
  ·rw[dF _ _ e1];exact h.ok k O
 ·by_cases e1:k=j
  ·subst e1;rw[dc,dc];right;omega
  ·rw[dF _ _ e1,dF _ _ e1];exact h.o k O
 ·have:=h.sum;simp only[aq];rw[EC Ts _<|avF j,dc];omega
theorem AI.first {bs:Nat}{g0:Nat}(dw:DW sb A W1 W)(bsb:W.heap[bs]?=some (eS TB.y TB.E TB.z aB TB.q cB))(row:Row lB hB W TB (.slice aB TB.q cB))(int:lo<=lB/\lB<=hB/\hB<=bs/\W1.heap.size<lB)(fT:lo<=hi)(gB:hi<=W1.heap.size)(hg:bs<g0)
  (hr:Row lo hi W T u) (hT:T.R/\T.sH 16/\T.cost<=100) (ho:W.ownsRow lo 25 4 (.slice (some ⟨g0,0,none⟩) 0 0) 0 [])
  (dd:W'.ownsRow lo 25 4 (.slice rD 1 rC) 1 [.int .i64 T.y,.int .i64 T.E,.string T.z,u]) (aQ:W.grownBy W' (Value.slice (some ⟨g0,0,none⟩) 0 0).ownBlock) (fs:(Value.slice rD 1 rC).ownBlock=(Value.slice (some ⟨g0,0,none⟩) 0 0).ownBlock\/∃k,(Value.slice rD 1 rC).ownBlock=some k/\W.heap.size<=k):
  AI sb A lo hi bs W1 TB aB cB lB hB 0 1 (oY (fun _=>.nil) 0 T) (oY (fun _=>undef) 0 u) (oY (fun _=>0) 0 lo) (oY (fun _=>0) 0 hi) rD rC W':=by
 have hl:bs<W.heap.size:=(avp.1 bsb).1;have hz:=aQ.size;have LI:∀k,(Value.slice (some ⟨g0,0,none⟩) 0 0).ownBlock=some k->k=g0:=fun k z=>by simp[Value.ownBlock]at z;exact z.symm
 have he:∀k,k<W.heap.size->k<=bs->W'.heap[k]?=W.heap[k]?:=fun k z hn=>aQ.block k z (fun er=>by have:=LI k er.symm;omega);have kh:=(Gw.start (fun _=>Nd.nil) (fun _=>undef) (fun _=>0) (fun _=>0) ho).step hr lr fT O (fun g hg=>.inr (by have:=LI g hg;omega)) dd aQ fs;refine⟨dw.grown aQ (fun k z=>by have:=LI k z;omega),(he bs hl lr).trans bsb,cL lr lr (fun g o h1 h2=>avt (a:=⟨g,o,none⟩)<|he g O O) row,kh,fun g sO=>?_,int,fun k z=>?_,fun k z=>?_,gB,O,?_⟩
 ·rcases fs with e1|⟨k,e1,z⟩
  ·have:=LI g<|e1▸sO;omega
  ·rw[e1]at sO;obtain rfl:=avq sO;omega
 ·obtain rfl:k=0:=O;rw[dc];exact⟨hT.1,hT.2.1⟩
 ·obtain rfl:k=0:=O;rw[dc,dc];left;exact⟨rfl,rfl⟩
 ·simp only[aq];rw[dc];have:=hT.2.2;omega
theorem AI.fin {bs:Nat}(h:AI sb A lo hi bs W1 TB aB cB lB hB TB.q j Ts us s e ka kc W)(hc:TB.cost<=C)(hl:TB.q<=7):
    Gw lo Ts us s e j (.slice ka j kc) (dn W W1.heap.size 4 0 ⟨#[]⟩<|.slice ka j kc)/\(∀g,(Value.slice ka j kc).ownBlock=some g->W1.heap.size<g)/\(∀i,i<j->(s i=lo/\e i=hi)\/W1.heap.size<s i)/\js 17 (C+200) (.mk 4 0 ⟨#[]⟩ j Ts):=by
  have fp:=h.aR;have hint:=h.int;have htop:=h.top;refine⟨h.gw.keep (w':=dn W W1.heap.size 4 0 ⟨#[]⟩ (.slice ka j kc)) aa5 (fun k _ _ hh=>et W _ _ _ _ _ k (by
    rcases hh with hh|⟨i,hi,h1,h2⟩
    · have:=h.ap k hh;omega
    · have:=h.o i hi;omega)),fun g hg=>by have:=h.ap g hg;omega,h.o,⟨O,O,J,O,fun i hi=>(h.ok i hi).1⟩,⟨rfl,xo fun i hi=>(h.ok i hi).2.1,nD fun i hi=>(h.ok i hi).2.2⟩,?_⟩
  show ByteArray.size ⟨#[]⟩+(j+aq (fun i=>(Ts i).cost) j)<=_;have e0:ByteArray.size ⟨#[]⟩=0:=J;have h1:=TB.bJ;have h2:=h.sum;omega
def KD (sb lo hi:Nat)(A:Nd)(a:Option Addr)(w:World):Prop:=∃g off b d,a=some ⟨g,off,none⟩/\(g≠sb/\g<w.heap.size)/\(w.cell? ⟨g,off,none⟩=some (.int .i64 A.y)/\w.cell? ⟨g,off+1,none⟩=some (.int .i64 A.E)/\w.cell? ⟨g,off+2,none⟩=some (.string A.z)/\w.cell? ⟨g,off+3,none⟩=some (.slice b A.q d))/\Row lo hi w A (.slice b A.q d)
theorem KD.kp {A:Nd}(h:KD sb lo hi A a w)(fT:sb<lo)(gB:hi<=w.heap.size)(z:Kp sb w w'):KD sb lo hi A a w':=by
 obtain⟨g,off,b,d,rfl,⟨h1,h2⟩,⟨c0,c1,c2,c3⟩,hr⟩:=h
 have e:∀o,w'.cell? ⟨g,o,none⟩=w.cell? ⟨g,o,none⟩:=fun o=>avt (a:=⟨g,o,none⟩)<|z.block g h2 h1;exact⟨g,off,b,d,rfl,⟨h1,awB h2 z.size⟩,⟨(e _).trans c0,(e _).trans c1,(e _).trans c2,(e _).trans c3⟩,iB hr fT gB z⟩
theorem KD.calm {A:Nd}(h:KD sb lo hi A a w)(fT:sb<lo)(gB:hi<=w.heap.size)(I:Below w.heap.size w w'):KD sb lo hi A a w':=h.kp fT gB<|b9 I _
end
section
open Go Go.RowKit
def PJ (q:Nat):Nd:=cq 26 0 ⟨#[]⟩<|aC 22 q ⟨#[]⟩
def qQ (q:Nat):Nd:=cq 5 0 ⟨#[109]⟩<|PJ q
def wW (k:Nat):ByteArray:=(⟨#[84,101,115,116]⟩:ByteArray)++cP (bS 20 k)
theorem Oz (k:Nat)(h:k<2):aK (wW k)=true/\(wW k).size<=40:=by rcases(O:k=0\/k=1)with rfl|rfl<;>exact⟨J,J⟩
theorem QV (q:Nat)(h:q<2):(qQ q).R/\(qQ q).sH 16/\(qQ q).cost<=100:=by
 refine⟨bR O O J<|bR O O J<|aO O O J,?_,?_⟩
 ·have h1:(aC 22 q ⟨#[]⟩).Q=true:=j6 O;have h2:(PJ q).Q=true:=by
   rw[bD];show bq 26 0 ⟨#[]⟩ 1 (fun i=>(aC 22 q ⟨#[]⟩).Q) _ _=true;simp[bq,aD,ao,h1]
  exact⟨ow (.inl rfl) J h2,by unfold qQ PJ;simp only[nC,kI];omega⟩
 ·rcases(O:q=0\/q=1)with rfl|rfl<;>decide
def Of (D:Nat)(T:Nd):Prop:=T.R/\(b6 T=true/\T.ak<=18)/\T.cost<=D
theorem Qy (z:k<2)(h:js 17 C axf):Of (C+50) (cq 2 0 (wW k) axf):=by
 obtain⟨h1,h2⟩:=Oz k z;refine⟨bR O O O h.1,?_,?_⟩
 ·refine⟨?_,by rw[nC];have:=h.2.1.2.2;omega⟩;unfold b6;simp[cq,Nd.y,Nd.E,Nd.z,Nd.q,Nd.f,aD,h1,h.2.1.2.1];exact avR h.2.1.1
 ·rw[cO];have:=h.2.2;omega
theorem xd (Ts Us:Nat->Nd)(m:Nat):∀{j:Nat},j<=m->aq (fun i=>(dL Ts m Us i).cost) j=aq (fun i=>(Ts i).cost) j
 |0,_=>rfl
 |j+1,h=>by
  simp only[aq]
  rw[xd Ts Us m (show j<=m by omega),bp _ _<|show j<m by omega]
structure PI (sb A D:Nat)(w:World)(ob k:Nat)(Ts:Nat->Nd)(us:Nat->Value)(s e:Nat->Nat)(ka:Option Addr)(kc:Nat)(W:World):Prop where
 dw:DW sb A w W
 low:w.heap.size<ob
 bo:W.heap[ob]?=some (eS 1 0 ⟨#[]⟩ ka (4+k) kc)
 gw:Gw (w.heap.size+1) Ts us s e (4+k) (.slice ka (4+k) kc) W
 ne:(Value.slice ka (4+k) kc).ownBlock≠some ob
 ap:∀i,i<4+k->ob<s i\/e i<=ob
 ok:∀i,i<4+k->(Ts i).R/\b6 (Ts i)=true/\(Ts i).ak<=18
 sum:aq (fun i=>(Ts i).cost) (4+k)<=1000+k*D
theorem PI.kp (h:PI sb A D w ob k Ts us s e ka kc W)(hs:Src sb A' W')(z:Kp sb W W'):PI sb A' D w ob k Ts us s e ka kc W':=by have hl:=h.dw.low;have h2:=h.low;exact⟨h.dw.step hs z,h.low,bc h.bo O z,h.gw.kp (sb:=sb) O z,h.ne,h.ap,h.ok,h.sum⟩
def PE (sb A D:Nat)(w:World)(ob k:Nat)(W:World):Prop:=∃(Ts:Nat->Nd)(us:Nat->Value)(s e:Nat->Nat)(ka:Option Addr)(kc:Nat),PI sb A D w ob k Ts us s e ka kc W
theorem PI.done (hd:DW sb A w v)(ew:w.heap.size<ob)(I:v.heap[ob]?=some (eS 1 0 ⟨#[]⟩ ka (4+k) kc))(h:AV (w.heap.size+1) ob (4+k+1) (fun Us=>∃A,Of D A/\Us=dL Ts (4+k) (cq 0 0 ⟨#[]⟩ A).f) v x)(ok:∀i,i<4+k->(Ts i).R/\b6 (Ts i)=true/\(Ts i).ak<=18)(sum:aq (fun i=>(Ts i).cost) (4+k)<=1000+k*D):∃a c,x=.slice a (4+k+1) c/\PE sb A D w ob (k+1) (v.setCell ⟨ob,3,none⟩<|.slice a (4+k+1) c):=by
 obtain⟨Us,us,s,e,a,c,h1,h2,⟨T,hT,rfl⟩,h4,h5⟩:=h
 refine⟨a,c,h1,_,us,s,e,a,c,hd.put ob 3 _ O,ew,(avD v ob 3 _ 25 (.slice a (4+k+1) c) I).trans rfl,h2.put h4 h5,h4,h5,fun i hi=>?_,?_⟩
 ·by_cases lh:i<4+k
  ·rw[bp _ _ lh];exact ok i lh
  ·rw[bW _ _ O];exact⟨hT.1,hT.2.1⟩
 ·show aq (fun i=>(dL Ts (4+k) (cq 0 0 ⟨#[]⟩ T).f i).cost) (4+k+1)<=_;simp only[aq];rw[xd Ts _ (4+k) lr,bW _ _ lr,awU];have:((cq 0 0 ⟨#[]⟩ T).f<|4+k-(4+k)).cost<=D:=hT.2.2;omega
theorem PI.join (h:Gw B Ts us s e j (.slice ka j kc) v)(bY:(Value.slice ka j kc).ownBlock≠some ob)(hap0:∀i,i<j->ob<s i\/e i<=ob)(ht:Row lo hi v (cq 0 0 ⟨#[]⟩ T) (.slice ua 1 uc))(hT:Of D T)(hB:B<=lo)(LI:ob<lo)(Qb:lo<=hi)(hh:hi<=v.heap.size)(bQ:∀g,(Value.slice ka j kc).ownBlock=some g->g<lo)(hj:j<=100):
  ∃x v',(∀ty,(Builtin.append_ #[23,23] ty #[.slice ka j kc,.slice ua 1 uc]).run prog v=.ok x v')/\v.grownBy v' (Value.slice ka j kc).ownBlock/\AV B ob (j+1) (fun Us=>∃A,Of D A/\Us=dL Ts j (cq 0 0 ⟨#[]⟩ A).f) v' x:=by
 obtain⟨a,c,v',vs,h1,h2,h3,h4⟩:=kQ (T:=cq 0 0 ⟨#[]⟩ T) h ht O hB Qb hh (fun g hg=>.inl<|bQ g hg) (by show j+1<=_;omega);refine⟨_,v',h1,h3,_,_,_,_,a,c,rfl,h2,⟨T,hT,rfl⟩,?_,fun i hi=>?_⟩
 ·have h4':(Value.slice a (j+1) c).ownBlock=(Value.slice ka j kc).ownBlock\/∃k,(Value.slice a (j+1) c).ownBlock=some k/\v.heap.size<=k:=h4;rcases h4' with e1|⟨q,e1,hq⟩
  ·rw[e1];exact bY
  ·rw[e1];intro h;have:=avq h;omega
 ·by_cases lh:i<j
  ·rw[bp _ _ lh,bp _ _ lh];exact hap0 i lh
  ·rw[bW _ _ O,bW _ _ O];left;omega
theorem PI.more (h:PE sb A D w ob k W)(hA:A<=A'):PE sb A' D w ob k W:=by
 obtain⟨Ts,us,s,e,ka,kc,h⟩:=h
 exact⟨Ts,us,s,e,ka,kc,⟨h.dw.src.mono hA,h.dw.kp,h.dw.low⟩,h.low,h.bo,h.gw,h.ne,h.ap,h.ok,h.sum⟩
theorem Gw.kd {c:Nat}(h:Gw B Ts us s e j (.slice a j c) w)(hj:0<j)(hsb:sb<B):KD sb (s 0) (e 0) (Ts 0) a w/\B<=s 0/\s 0<=e 0/\e 0<=w.heap.size:=by
 obtain⟨hr,h1,h2,h3⟩:=h.a7 0 hj;obtain⟨b,d,Hy⟩:=bh hr;rcases h.own.2 with⟨_,e2⟩|⟨g,cap,cur,e1,hB,I,_⟩
 ·omega
 ·injection e1 with e1 _ e3;subst e1 e3;obtain⟨f0,f1,f2,f3⟩:=kL Ts us hj;have hc:=fun o(u:Value)(hu:(cN Ts us j)[o]?=some u)=>(nY g o▸h.own.cells (g:=g) rfl o u hu:w.cell? ⟨g,o,none⟩=some u);rw[Hy]at f3 hr;simp only[Nat.zero_mul,Nat.zero_add]at f0 f1 f2 f3;exact⟨⟨g,0,b,d,rfl,⟨O,(avp.1 I).1⟩,⟨hc _ _ f0,hc _ _ f1,hc _ _ f2,hc _ _ f3⟩,hr⟩,h1,h2,h3⟩
theorem Pp {k0 n0:Int}{s0:ByteArray}{a0:Option Addr}{l0 c0:Nat}(k n:Int)(s:ByteArray)(a:Option Addr)(l c:Nat)(h:W.heap[b]?=some (eS k0 n0 s0 a0 l0 c0)):(dn W b k n s<|.slice a l c).heap[b]?=some (eS k n s a l c):=by unfold dn;have h1:=(avD W b 0 _ 25 (.int .i64 k) h);have h2:=(avD _ b 1 _ 25 (.int .i64 n) h1);have h3:=(avD _ b 2 _ 25 (.string s) h2);exact(avD _ b 3 _ 25 (.slice a l c) h3).trans rfl
def F6 (sb A r0 b:Nat)(T:Nd)(w W:World)(v:World):Prop:=∃q:Nat,q<2/\DW sb A w v/\(∀k,k<W.heap.size->k≠sb->k≠b->v.heap[k]?=W.heap[k]?)/\W.heap.size<=v.heap.size/\∃(us:Nat->Value)(s e:Nat->Nat)(a:Option Addr)(c:Nat),v.heap[b]?=some (eS T.y T.E T.z a (1+T.q) c)/\Gw r0 (dL (fun _=>qQ q) 1 T.f) us s e (1+T.q) (.slice a (1+T.q) c) v/\(b<s 0\/e 0<=b)
def Nj (sb b lo r0:Nat)(aB:Option Addr)(T:Nd)(cB:Nat)(i:Nat)(w:World)(x:Value):Prop:=match i with
 |0=>x=.pointer (some ⟨sb,0,none⟩)
 |1=>∃q:Nat,q<2/\x=.int .i64 (q:Int)
 |2=>∃q:Nat,q<2/\x=.agg #[.int .i64 22,.int .i64 (q:Int),.string ⟨#[]⟩,.slice none 0 0]
 |3=>LV lo (fun T=>∃q:Nat,q<2/\T=cq 0 0 ⟨#[]⟩ (aC 22 q ⟨#[]⟩)) w x
 |4=>TV lo (fun T=>∃q:Nat,q<2/\T=PJ q) w x
 |5=>LV lo (fun T=>∃q:Nat,q<2/\T=cq 0 0 ⟨#[]⟩ (PJ q)) w x
 |6=>TV lo (fun T=>∃q:Nat,q<2/\T=qQ q) w x
 |7=>GV lo (fun T=>∃q:Nat,q<2/\T=qQ q) w x
 |8=>x=.pointer (some ⟨b,3,none⟩)
 |9=>x=.slice aB T.q cB
 |10=>AV r0 b (1+T.q) (fun Ts=>∃q:Nat,q<2/\Ts=dL (fun _=>qQ q) 1 T.f) w x
 |11=>x=.pointer (some ⟨b,3,none⟩)
 |_=>True
theorem nZ (h0:Wn r0 v v')(fT:r0<=lo)(bQ:l.getD 12 false=false)(ba:l.getD 12 false=false):∀jj x,l.getD jj false=true->Nj sb b lo r0 aB T cB jj v x->Nj sb b lo r0 aB T cB jj v' x:=by exact ab7
theorem X3 (I:b<lo):∀jj x,Nj sb b lo r0 aB T cB jj v x->Nj sb b lo r0 aB T cB jj (v.setCell ⟨b,o,none⟩ axd) x:=by exact TO
def NM (i:Nat):Nat:=[19,20,21,22,23,24,25,26,27,28,29,30,1012].getD i 2000
theorem Sl (i j:Nat)(hi:i<13)(hj:j<13)(h:NM i=NM j):i=j:=y6 NM 13 J i j hi hj h
def Ni (ob lo B D j k:Nat)(Ts:Nat->Nd)(ka la:Option Addr)(kc lc:Nat)(axf:Nd)(i:Nat)(w:World)(x:Value):Prop:=match i with
 |0=>x=.pointer (some ⟨ob,3,none⟩)
 |1=>x=.slice ka j kc
 |2=>x=.int .i64 (k:Int)
 |3=>x=.string (cP<|bS 20 k)
 |4=>x=.string (wW k)
 |5=>x=axf.val (.slice la axf.q lc)
 |6=>LV lo (fun T=>T=cq 0 0 ⟨#[]⟩ axf) w x
 |7=>TV lo (Of D) w x
 |8=>LV lo (fun T=>∃A,Of D A/\T=cq 0 0 ⟨#[]⟩ A) w x
 |9=>AV B ob (j+1) (fun Us=>∃A,Of D A/\Us=dL Ts j (cq 0 0 ⟨#[]⟩ A).f) w x
 |10=>x=.pointer (some ⟨ob,3,none⟩)
 |_=>True
theorem vE (h:Wn lo v v')(bQ:l.getD 9 false=false)(ba:l.getD 11 false=false):∀jj x,l.getD jj false=true->Ni ob lo B D j k Ts ka la kc lc axf jj v x->Ni ob lo B D j k Ts ka la kc lc axf jj v' x:=by exact XT
theorem X2 (I:ob<lo):∀jj x,Ni ob lo B D j k Ts ka la kc lc axf jj v x->Ni ob lo B D j k Ts ka la kc lc axf jj (v.setCell ⟨ob,o,none⟩ axd) x:=by exact TO
def IZ (i:Nat):Nat:=[34,35,36,37,38,39,40,41,42,43,44,1011].getD i 2000
theorem Sk (i j:Nat)(hi:i<12)(hj:j<12)(h:IZ i=IZ j):i=j:=y6 IZ 12 J i j hi hj h
end
theorem Nf (C K axe:Nat)(hC:C<=100000000)(hK:K<=100000000)(hM:axe<=100)(BD:Ss 2 C K axe)(sb A lo hi:Nat)(T:Nd)(a:Option Addr)(cap:Nat)(w:World)(hA:A+(7*K+10)<=1099511627776)(LS:1<=T.q)(hl7:T.q<=7)(h:Src sb A w)(fT:sb<lo)(Qb:lo<=hi)(gB:hi<=w.heap.size)(hr:KD sb lo hi (T.f 0) a w)(sN:(T.f 0).R/\(T.f 0).sH 16/\(T.f 0).cost<=100):
  Calls prog 29 #[.pointer<|some ⟨sb,0,none⟩,T.val<|.slice a T.q cap] w fun e w'=>∃(j:Nat)(Ts:Nat->Nd)(us:Nat->Value)(s t:Nat->Nat)(ka:Option Addr)(kc:Nat),e=.returned (.agg #[.int .i64 4,.int .i64 0,.string ⟨#[]⟩,.slice ka j kc])/\Gw lo Ts us s t j (.slice ka j kc) w'/\(∀g,(Value.slice ka j kc).ownBlock=some g->w.heap.size<g)/\(∀i,i<j->(s i=lo/\t i=hi)\/w.heap.size<s i)/\js 17 (7*C+200) (.mk 4 0 ⟨#[]⟩ j Ts)/\Src sb (A+(7*K+10)) w'/\Kp sb w w':=by
 obtain⟨W1,BA⟩:∃W,w.alloc (.cells #[.int .i64 T.y,.int .i64 T.E,.string T.z,.slice a T.q cap] 25)=W:=⟨_,rfl⟩;have N1:=Z BA;have eu:W1.heap.size=w.heap.size+1:=by rw[<-BA];simp
 have X8:=Z eu;have hb1:Below w.heap.size w W1:=by rw[<-BA];exact bA
 have ni:=Z hb1;have hbx1:W1.heap[w.heap.size]?=some (eS T.y T.E T.z a T.q cap):=by rw[<-BA];exact avv w _
 have HD:=DW.start<|h.calm hb1;have fQ:=hr.calm fT gB hb1;have z7:w.heap.size+1<=W1.heap.size:=O;have hsw:sb<w.heap.size:=h.lt;have hneb:w.heap.size≠sb:=O;obtain⟨W2,hW2⟩:∃W,W1.alloc aN=W:=⟨_,rfl⟩;have ed:W2.heap.size=W1.heap.size+1:=by rw[<-hW2];simp
 have HZ2:=Z ed;have hb2:Below W1.heap.size W1 W2:=by rw[<-hW2];exact bA
 have HW2:=Z hW2;rw[hW2]at HD;obtain⟨W3,nF⟩:∃W,W2.alloc (.cells #[.string ⟨#[109]⟩,.int .i64 3,.int .i64 0] 94)=W:=⟨_,rfl⟩;have HW3:=Z nF;have hb3:Below W2.heap.size W2 W3:=by rw[<-nF];exact bA
 have td:W2.heap.size+1<=W3.heap.size:=by rw[<-nF];simp
 have iS:=Z<|HD.calm hb3;have Yz:=Z<|aW (aW hbx1 hb2) hb3;have sJ:=Z<|(fQ.calm fT O hb2).calm fT O hb3;have hv:=fun j u(hj:([.string ⟨#[109]⟩,.int .i64 3,.int .i64 0]:List Value)[j]?=some u)=>oo W2 (.string ⟨#[109]⟩) (.int .i64 3) (.int .i64 0) 94 j u hj;rw[nF,ed]at hv;have SCP:Hid (Scp sb W3 (.slice (some ⟨W1.heap.size+1,0,none⟩) 1 1) 1):=by
  refine⟨_,1,rfl,O,O,.inr ⟨W1.heap.size+1,0,rfl,O,O,fun i hi=>?_⟩⟩;obtain rfl:i=0:=O;have v0:=hv 0 _ rfl;have v1:=hv 1 _ rfl;have v2:=hv 2 _ rfl;simp only[Addr.add,Nat.zero_add,Nat.zero_mul]at v0 v1 v2⊢;exact⟨⟨#[109]⟩,3,0,J,v0,v1,v2⟩
 have hmk:T.q*K<=7*K:=avQ _ hl7;have hmc:T.q*C<=7*C:=avQ _ hl7;have hTn:T.q<=9223372036854775807:=O;have Jk:=Z BD;obtain⟨i0,nB,hzi0,hzi1,hzi2⟩:=av0 si;clear BA hW2 nF eu ed hb1 hb2 hb3 h hr fQ hbx1 HD hv BD;unfold Nd.val;unfold aN at*
 go_enter func29,ntmps29
 go_upto_region 1 with fail
 rw[show(w.alloc<|Obj.cells #[.int .i64 T.y,.int .i64 T.E,.string T.z,.slice a T.q cap] 25)=W1 from N1.o,<-X8.o];clear N1;go_upto_region 2 with fail
 rw[HW2.o,HW3.o];clear HW2 HW3;obtain⟨x0,x1,x2,x3,xf⟩:=al Yz.o;go_wp2_with fail
 refine(Jk.o sb A 1 T.q (.slice (some ⟨W1.heap.size+1,0,none⟩) 1 1) false W3 O O iS.o.src SCP.o).mono ?_;rintro e w4⟨TB,uB,rfl,dB⟩;obtain⟨aB,cB,rfl⟩:=bh dB.row;have EV:=dB.kp.size;have HZ2L:=HZ2.o;have wk:=bO w4<|eS TB.y TB.E TB.z aB TB.q cB;have ft:=Z<|(iS.o.step dB.src dB.kp).calm wk;have zS:=Z<|(sJ.o.kp fT O dB.kp).calm fT O wk;have RB5:=Z<|ah wk lr dB.row;have Yy:=Z<|aW (bc Yz.o hneb dB.kp) wk;have YC:=Z<|avv w4<|eS TB.y TB.E TB.z aB TB.q cB;have PB:Hid (TB.R/\TB.y=4/\TB.sH 17/\TB.cost<=7*C):=⟨dB.aA,dB.ok.1,dB.ok.2.1,by have:=dB.cost;omega⟩;have YN:TB.q=T.q:=dB.ok.2.2;have hlB7:TB.q<=7:=O;clear dB iS Yz SCP x0 x1 x2 x3 xf YN;obtain⟨W5,Tz⟩:∃W,w4.alloc (eS TB.y TB.E TB.z aB TB.q cB)=W:=⟨_,rfl⟩;have HW5:=Z Tz;have Lp:w4.heap.size+1<=W5.heap.size:=by rw[<-Tz];simp
 rw[Tz]at ft zS RB5 Yy YC;clear Tz wk;unfold Nd.val;go_upto_region 3 with fail
 rw[show(w4.alloc<|Obj.cells #[.int .i64 TB.y,.int .i64 TB.E,.string TB.z,.slice aB TB.q cB] 25)=W5 from HW5.o];clear HW5;obtain⟨g,off,b0,d0,rfl,⟨hgs,hgh⟩,⟨k0,k1,k2,k3⟩,hu0⟩:=zS.o;have HU0:=Z hu0;have hl1i:(0:Int)<(T.q:Int):=O;obtain⟨x0,x1,x2,x3,xf⟩:=al Yy.o;have Yr:=Z sN;obtain⟨W6,YW⟩:∃W,W5.alloc (.cells #[] 25)=W:=⟨_,rfl⟩;have HW6:=Z YW;have wj:Below W5.heap.size W5 W6:=by rw[<-YW];exact bA
 have PY:W6.heap.size=W5.heap.size+1:=by rw[<-YW];simp
 have Bq:W6.ownsRow lo 25 4 (.slice (some ⟨W5.heap.size,0,none⟩) 0 0) 0 []:=by rw[<-YW];exact World.ownsRow_made (base:=lo) (e:=25) (size:=4) W5 #[] 0 O aaj M
 have DH:=ia W6 (.int .i64 (T.f 0).y) (.int .i64 (T.f 0).E) (.string (T.f 0).z) (.slice b0 (T.f 0).q d0) 25;rw[PY]at DH;have Ae:=bO W6<|.cells #[.int .i64 (T.f 0).y,.int .i64 (T.f 0).E,.string (T.f 0).z,.slice b0 (T.f 0).q d0] 25;have DW7:=Z<|(ft.o.calm wj).calm Ae;have BB7:=Z<|aW (aW YC.o wj) Ae;have RB7:=Z<|ah Ae O<|ah wj O RB5.o;have RU7:=Z<|ah Ae O<|ah wj O HU0.o;have OW7:=Z<|Bq.alloc<|.cells #[.int .i64 (T.f 0).y,.int .i64 (T.f 0).E,.string (T.f 0).z,.slice b0 (T.f 0).q d0] 25;have PX:W5.heap.size+1<=(W6.alloc<|.cells #[.int .i64 (T.f 0).y,.int .i64 (T.f 0).E,.string (T.f 0).z,.slice b0 (T.f 0).q d0] 25).heap.size:=by simp;omega
 rw[<-YW]at DH DW7 BB7 RB7 RU7 OW7 PX;have HNEW:=Z DH;have qx3:=eY x3;have qk0:=eY k0;have qk1:=eY k1;have qk2:=eY k2;have qk3:=eY k3;have HZ7:=Z PX;clear hu0 sN DH wj Ae YW HW6 Bq PX PY HU0 zS Yy;go_upto_region 4 with(at_builtin;refine bN _ rfl _ _ 23 rfl lo 25 i0 (.agg #[.int .i64 0,.int .i64 0,.string ⟨#[]⟩,.slice none 0 0]) 4 56 underlying23 nB hzi0 hzi1 hzi2 rfl J _ 0 _ rfl OW7.o ⟨W5.heap.size+1,0,none⟩ 1 1 [.int .i64 (T.f 0).y,.int .i64 (T.f 0).E,.string (T.f 0).z,.slice b0 (T.f 0).q d0] rfl rfl HNEW.o (jn _ _ _ _ _ _) aaj O (by have:=HZ7.o;omega) ?_;intro v' w9 dd aQ fs sq;obtain⟨rD,rC,xN⟩:=sq.o;subst xN)
 have AI0:Hid (AI sb (A+T.q*K+10) lo hi w4.heap.size W1 TB aB cB W3.heap.size w4.heap.size 0 1 _ _ _ _ rD rC w9):=AI.first (T:=T.f 0) (hi:=hi) (u:=.slice b0 (T.f 0).q d0) (g0:=W5.heap.size) DW7.o BB7.o RB7.o ⟨O,O,avF _,O⟩ Qb O O RU7.o Yr.o OW7.o dd.o aQ.o fs.o;clear dd aQ fs sq DW7 BB7 RB7 RU7 OW7 HNEW HZ7 ft RB5 YC qx3 qk0 qk1 qk2 qk3 k0 k1 k2 k3 x0 x1 x2 x3 xf;go_wp2_with fail
 go_loopw[7,8] (fun kv iv wr=>∃(i j:Nat)(Ts:Nat->Nd)(us:Nat->Value)(s e:Nat->Nat)(ka:Option Addr)(kc:Nat),i<=TB.q/\kv=.slice ka j kc/\iv=.int .i64 i/\AI sb (A+T.q*K+10) lo hi w4.heap.size W1 TB aB cB W3.heap.size w4.heap.size i j Ts us s e ka kc wr) (fun _ iv _=>TB.q-(intOf iv).toNat)
 case atStart=>exact⟨0,1,_,_,_,_,_,_,O,rfl,rfl,AI0.o⟩
 case round=>
  obtain⟨i,j,Ts,us,s,e,ka,kc,ir,rfl,rfl,hai⟩:=hrel;have YD:=Z hai;have fp:=hai.aR;have hlt4:=hai.lt;obtain⟨y0,y1,y2,y3,yf⟩:=al hai.cj;clear hai AI0;by_cases be:i<TB.q
  ·have hii:(i:Int)<(TB.q:Int):=O;obtain⟨_,_,hue,_,huq⟩:=ar.1 YD.o.row;injection hue with q1 _ q3;subst q1 q3;rcases huq with NQ|⟨g2,vW,rfl,_,hgh2,oV⟩
   ·omega
   obtain⟨u,k0,k1,k2,k3,hu⟩:=oV i be;obtain⟨bu,du,rfl⟩:=bh hu;have HU:=Z hu;have HKF:=Z<|And.intro (Nd.aa PB.o.1 be)<|And.intro (Q7 PB.o.2.1 PB.o.2.2.1.1 be) (show(TB.f i).ak<=16 by have:=TB.aZ be;have:=PB.o.2.2.1.2;omega);clear oV hu;have VT:j<=10:=O;cases hq:((TB.f i).z.toList==[109])
   ·have jP:((TB.f i).z.toList !=[109])=true:=by simp[bne,hq]
    exact ab6
   ·have jP:((TB.f i).z.toList !=[109])=false:=by simp[bne,hq]
    by_cases h5:(TB.f i).y=5
    ·have h5b:((TB.f i).y==5)=true:=by rw[h5];rfl
     have h5c:((TB.f i).y !=5)=false:=by rw[h5];rfl
     go_wp2;exact⟨⟨i+1,j,_,_,_,_,ka,kc,O,rfl,by go_num,YD.o.skip⟩,by simp[intOf];omega⟩
    ·have h5b:((TB.f i).y==5)=false:=bn h5;have h5c:((TB.f i).y !=5)=true:=by simp[bne,h5b]
     exact ab6
  ·obtain rfl:i=TB.q:=O;have hii:¬(TB.q:Int)<(TB.q:Int):=O;obtain⟨f0,f1,f2,f3,ff⟩:=YD.o.dw.cells;go_wp2_with fail
   refine(cM _ _ _ _ _ _ _).mono ?_;rintro e' wr2⟨rfl,I⟩;have Sf:=Z<|YD.o.calm I;clear I YD f0 f1 f2 f3 ff;obtain⟨f0,f1,f2,f3,ff⟩:=Sf.o.dw.cells;go_wp2;refine avr (Sf.o.dw.read results29 rfl _ _ _ _) rfl ⟨j,Ts,us,s,e,ka,kc,rfl,?_⟩;obtain⟨h1,h2,h5,h6⟩:=Sf.o.fin (C:=7*C) PB.o.2.2.2 hlB7;obtain⟨h3,h4⟩:=Sf.o.dw.dT 4 0 ⟨#[]⟩<|.slice ka j kc;exact⟨h1,fun g hg=>by have:=h2 g hg;omega,fun i hi=>by have:=h5 i hi;omega,h6,h3.mono O,(b9 ni.o _).trans h4 fun _ _ h=>h⟩
end Go.Proofs.YtgcmhaghebhjnaaGreatDoor
