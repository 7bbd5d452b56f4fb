import Derived.Test.YtgcmhaghebhjnaaGreatDoorPKdA
import Derived.Deep.RegionHeld3
import Derived.Deep.Upon
set_option linter.unusedVariables false
set_option maxHeartbeats 16000000
set_option maxRecDepth 100000
namespace Go.Proofs.YtgcmhaghebhjnaaGreatDoor
open Go.RowKit Tryz List
variable {A B C ap b c cap cc cn g h hi i j lo m n p q r sb st uc:Nat} {F R R':World->Prop} {K:Act->World->Prop} {P:Program} {Q:Exit->Act->World->Prop} {S:Array Bool->World->Prop} {T T0 T1 T2 axe:Nd} {Ts:Nat->Nd} {V:Nat->World->Value->Prop} {W W' v' w w' w0:World} {a a0:Act} {a1 a2 ca ua:Option Addr} {asks d e:Nat->Nat} {fn:Func} {k:Int} {l listed:Array Bool} {md:Region.Mode} {o:Oper} {ops:Array Oper} {tmps:Array Value} {u v x:Value} {us:Nat->Value}
variable {G :Prop}
theorem abU (h:G:=by
 intro t;show(a.tmps.setIfInBounds (d i) v).getD t undef=_;rw[avC,avW];by_cases e:d i=t
 ·subst e;rw[avA rfl,avA rfl,avA (by rw[h.size];exact cg)];rfl
 ·rw[avo e,avo (fun x=>e x.symm)];show _=a.tmps.getD t undef;rw[avC]):G:=h
theorem abV (h:G:=by exact(((ni.o.setCell (p:=⟨w.heap.size,0,none⟩) lr _).setCell (p:=⟨w.heap.size,1,none⟩) lr _).setCell (p:=⟨w.heap.size,2,none⟩) lr _).setCell (p:=⟨w.heap.size,3,none⟩) lr _):G:=h
theorem abW (h:G:=by
 cases ua with
 |none=>exact Go.Src.ofNil v underlying23 uc
 |some ad=>exact Go.Src.ofSlice v underlying23 ad 0 uc [] M (fun j u hj=>by simp at hj) (fun u hu=>by cases hu)):G:=h
theorem abX (h:G:=by rw[bD];simp[cq,Nd.y,Nd.E,Nd.z,Nd.q,Nd.f,bq,aD,aG,bT,h,ByteArray.toList_eq,ByteArray.size]):G:=h
theorem abY (h:G:=by
 go_wp2;go_region
 all_goals go_wp2
 all_goals exact⟨⟨_,m+1,O,rfl,by go_num,En.o.drew⟩,by simp[intOf];omega⟩):G:=h
theorem abZ (h:G:=by
 rw[avC]at*
 cases e:l[j]?with
 |none=>rw[e]at h;simp at h
 |some b=>rw[e]at h;simpa using h):G:=h
theorem ab0 (h:G:=by exact⟨by rw[hc];rfl,by rw[hc];rfl,by rw[hc];rfl,by rw[hc];rfl,fun o=>av3 _ _ _ _ _ I⟩):G:=h
theorem ab1 (h:G:=by
 go_wp2_with(go_at_call 22;refine(HN.o _<|HB.o _).mono ?_;rintro e w1 ⟨rfl,hb1⟩;obtain⟨eO,su⟩:=WO hb1;have eu:=hb1.size;simp only[avs]at eu;have ni:=Z<|(HB.o _).trans<|hb1.mono M;clear hb1)
 first
 |clear aiJ
  refine avr (v:=.agg #[.int .i64 k,.int .i64 0,.string s,.slice a l c]) (by simp[results,results27,go_sem,eO]) rfl ⟨rfl,?_⟩;exact abV
 |clear aiK
  refine avr (v:=.agg #[.int .i64 25,.int .i64 0,.string s,.slice a l c]) (by simp[results,results89,go_sem,eO]) rfl ⟨rfl,?_⟩;exact abV
 |clear aiL
  refine avr (v:=.agg #[.int .i64 22,.int .i64 n,.string ⟨#[]⟩,.slice none 0 0]) (by simp[results,results28,go_sem,eO]) rfl ⟨rfl,?_⟩;exact abV
 |clear aiM
  refine avr (v:=.agg #[.int .i64 3,.int .i64 n,.string s,.slice none 0 0]) (by simp[results,results48,go_sem,eO]) rfl ⟨rfl,?_⟩;exact abV):G:=h
theorem ab2 (h:G:=by
 obtain⟨ca,cn,cc,a,s,h1,ha⟩:=h.src;refine⟨ca,cn,cc,a,s,⟨(I sb O).trans h1.av,h1.low,h1.aR,?_⟩,ha⟩;rcases h1.row with e|⟨g,off,e,hg,hh⟩
 ·exact .inl e
 first
 |clear aiN
  ·refine .inr ⟨g,off,e,hg,fun i hi=>?_⟩;obtain⟨b,hb1,hb2⟩:=hh i hi;exact⟨b,hb1,(avt (a:=⟨g,off+i,none⟩)<|I g O).trans hb2⟩
 |clear aiO
  ·refine .inr ⟨g,off,e,hg,fun i hi=>?_⟩;obtain⟨x,I2,Cw⟩:=hh i hi;exact⟨x,I2,(avt (a:=⟨g,off+i,none⟩) (I g O)).trans Cw⟩):G:=h
theorem ab3 (h:G:=by
 obtain⟨g,rfl,_⟩:=id kG;go_simp;refine(cM _ _ _ _ _ _ _).mono ?_;rintro e v2⟨rfl,I⟩;first
 |clear aiP
  exact dj.o 11 O v2 I _<|ev (dZ kG I) J _ _ _
 |clear aiQ
  exact dj.o 21 O v2 I _<|ev (dZ kG I) J _ _ _
 |clear aiR
  exact dj.o 29 O v2 I _<|ev (dZ kG I) J _ _ _
 |clear aiS
  exact dj.o 46 O v2 I _ (ev (dZ kG I) J _ _ _)):G:=h
theorem sS (h:G:=by
 obtain⟨g,rfl,_⟩:=id kG;go_simp;refine(aV _ _ _ _ _ _).mono ?_;rintro e v2⟨rfl,I⟩;first
 |clear aix
  exact dj.o 5 O v2 I _<|ev (dZ kG I) J _ _ _
 |clear aiy
  exact dj.o 7 O v2 I _<|ev (dZ kG I) J _ _ _
 |clear aiB
  exact dj.o 9 O v2 I _<|ev (dZ kG I) J _ _ _
 |clear aiC
  exact dj.o 17 O v2 I _<|ev (dZ kG I) J _ _ _
 |clear aiD
  exact dj.o 19 O v2 I _<|ev (dZ kG I) J _ _ _
 |clear aiE
  exact dj.o 25 O v2 I _<|ev (dZ kG I) J _ _ _
 |clear aiF
  exact dj.o 27 O v2 I _<|ev (dZ kG I) J _ _ _
 |clear aiG
  exact dj.o 34 O v2 I _<|ev (dZ kG I) J _ _ _
 |clear aiH
  exact dj.o 36 O v2 I _<|ev (dZ kG I) J _ _ _
 |clear aiI
  exact dj.o 40 O v2 I _<|ev (dZ kG I) J _ _ _
 |clear aiz
  exact dj.o 42 O v2 I _<|ev (dZ kG I) J _ _ _
 |clear aiA
  exact dj.o 44 O v2 I _ (ev (dZ kG I) J _ _ _)):G:=h
def nA (f:Nat->Nat):Nat->Nat
 |0=>0
 |n+1=>max (nA f n)<|f n
theorem AY (f:Nat->Nat):∀{n i:Nat},i<n->f i<=nA f n
 |n+1,i,h=>by
  simp only[nA]
  by_cases e:i=n
  ·subst e;omega
  ·have:=AY f (n:=n) (i:=i) O;omega
def Nd.ak :Nd->Nat|.nil=>1|.mk _ _ _ len kids=>1+nA (fun i=>(kids i).ak) len
theorem Nd.aZ (T:Nd)(h:i<T.q):(T.f i).ak+1<=T.ak:=by
 cases T with
 |nil=>exact absurd h<|avJ _
 |mk k n s len kids=>have:=AY (fun i=>(kids i).ak)<|show i<len from h;show(kids i).ak+1<=1+nA _ len;omega
theorem Nd.cF (T:Nd):1<=T.ak:=by
 cases T with
 |nil=>exact avF _
 |mk k n s len kids=>show 1<=1+nA _ len;omega
def Bytes (sb:Nat)(w:World)(ca:Option Addr)(cn:Nat):Prop:=
 cn=0\/∃g off,ca=some ⟨g,off,none⟩/\g<sb/\∀i,i<cn->∃b:Nat,b<256/\w.cell? ⟨g,off+i,none⟩=some (.int .u8 (b:Int))
structure SrcAt (sb:Nat)(ca:Option Addr)(cn cc at' Pj:Nat)(w:World):Prop where
 av:w.heap[sb]?=some (.cells #[.slice ca cn cc,.int .i64 (at':Int),.int .i64 (Pj:Int)] 58 (0,0))
 low:Pj<2147483648
 aR:cn<=1048576
 row:Bytes sb w ca cn
def Src (sb A:Nat)(w:World):Prop:=∃ca cn cc at' Pj,SrcAt sb ca cn cc at' Pj w/\at'<=A
theorem Src.mono (h:Src sb A w)(hAB:A<=B):Src sb B w:=by obtain⟨ca,cn,cc,a,s,h,ha⟩:=h;exact⟨ca,cn,cc,a,s,h,avK ha hAB⟩
abbrev Kp (sb:Nat)(w w':World):Prop:=Kept (fun k=>k=sb) w w'
theorem Bytes.keep (h:Bytes sb w ca cn)(hs:sb<=w.heap.size)(z:Kp sb w w'):Bytes sb w' ca cn:=by
 rcases h with h|⟨g,off,e,hg,h⟩
 ·exact .inl h
 ·refine .inr ⟨g,off,e,hg,fun i hi=>?_⟩;obtain⟨b,I,hc⟩:=h i hi;refine⟨b,I,?_⟩;rw[avt (a:=⟨g,off+i,none⟩)<|z.block g O O];exact hc
theorem SrcAt.lt {a s:Nat}(h:SrcAt sb ca cn cc a s w):sb<w.heap.size:=(avp.1 h.av).1
theorem Src.lt (h:Src sb A w):sb<w.heap.size:=by obtain⟨_,_,_,_,_,h,_⟩:=h;exact h.lt
theorem Src.calm (h:Src sb A w)(I:Below w.heap.size w w'):Src sb A w':=by
 obtain⟨ca,cn,cc,a,s,h1,ha⟩:=h
 have hl:=h1.lt;exact⟨ca,cn,cc,a,s,⟨(I.block _ hl).trans h1.av,h1.low,h1.aR,h1.row.keep O<|b9 I _⟩,ha⟩
theorem Src.alloc (h:Src sb A w)(o:Obj):Src sb A (w.alloc o):=h.calm<|bA
theorem SrcAt.cells {a s:Nat}(h:SrcAt sb ca cn cc a s w):
  w.cell? ⟨sb,0,none⟩=some (.slice ca cn cc)/\w.cell? ⟨sb,1,none⟩=some (.int .i64 (a:Int))/\w.cell? ⟨sb,2,none⟩=some (.int .i64 (s:Int))/\∀o,w.frozen? ⟨sb,o,none⟩=false:=by
 have hc:∀o,w.cell? ⟨sb,o,none⟩=(#[Value.slice ca cn cc,.int .i64 (a:Int),.int .i64 (s:Int)])[o]?:=fun o=>avS _ _ _ _ _ (0,0) h.av;exact⟨by rw[hc];rfl,by rw[hc];rfl,by rw[hc];rfl,fun o=>av3 _ _ _ _ _ h.av⟩
theorem SrcAt.put {a s:Nat}(h:SrcAt sb ca cn cc a s w)(a':Nat):SrcAt sb ca cn cc a' s (w.setCell ⟨sb,1,none⟩<|.int .i64 (a':Int)):=by have hl:=h.lt;have:=avD _ sb 1 _ 58 (.int .i64 (a':Int)) h.av;exact⟨this.trans aan,h.low,h.aR,h.row.keep O<|Kept.setCell (S:=fun k=>k=sb) ⟨sb,1,none⟩ _ rfl⟩
theorem SrcAt.c4 {a s:Nat}(h:SrcAt sb ca cn cc a s w)(s':Nat)(hs:s'<2147483648):SrcAt sb ca cn cc a s' (w.setCell ⟨sb,2,none⟩<|.int .i64 (s':Int)):=by have hl:=h.lt;have:=avD _ sb 2 _ 58 (.int .i64 (s':Int)) h.av;exact⟨this.trans aan,hs,h.aR,h.row.keep O<|Kept.setCell (S:=fun k=>k=sb) ⟨sb,2,none⟩ _ rfl⟩
theorem gj {x:Int}(h1:-9223372036854775808<=x)(h2:x<=9223372036854775807):IntKind.i64.wrap x=x:=by simp[IntKind.wrap,IntKind.bits,IntKind.signed];omega
theorem SrcAt.drew {a s:Nat}(h:SrcAt sb ca cn cc a s w):SrcAt sb ca cn cc a s w.drew:=⟨h.av,h.low,h.aR,h.row⟩
theorem Kept.cf {S:Nat->Prop}(h:Kept S w w'):Kept S w w'.drew:=⟨h.os,h.tape,h.output,h.size,h.block⟩
theorem qV (sb A:Nat)(w:World)(hA:A<=1099511627776)(h:Src sb A w):
  Calls prog 50 #[.pointer<|some ⟨sb,0,none⟩] w fun e w'=>∃b:Nat,b<256/\e=.returned (.int .i64 (b:Int))/\Src sb (A+1) w'/\Kp sb w w':=by
 obtain⟨ca,cn,cc,a,s,h1,ha⟩:=h
 obtain⟨c0,c1,c2,cf⟩:=h1.cells;have ew:=h1.low;have fp:=h1.aR;have di:=pJ;have HA:=Z<|h1.put<|a+1;have Ak:Hid (Kp sb w<|w.setCell ⟨sb,1,none⟩<|.int .i64 ((a+1:Nat):Int)):=Kept.setCell (S:=fun k=>k=sb) ⟨sb,1,none⟩ _ rfl;have lj:((a+1:Nat):Int)=(a:Int)+1:=O;rw[lj]at HA Ak;clear h1 lj;go_enter func50,ntmps50
 go_wp2;generalize w.setCell ⟨sb,1,none⟩ (.int .i64<|(a:Int)+1)=w1 at*
 clear c0 c1 c2 cf;obtain⟨c0,c1,c2,cf⟩:=HA.o.cells;have lj:((a+1:Nat):Int)=(a:Int)+1:=O;rw[lj]at c1;clear lj;by_cases hin:a<cn
 ·have hin1:((a:Int)+1)<=(cn:Int):=O;have hin2:(a:Int)<(cn:Int):=O;obtain⟨g,off,rfl,hg,cy⟩:∃g off,ca=some ⟨g,off,none⟩/\g<sb/\∀i,i<cn->∃b:Nat,b<256/\w1.cell? ⟨g,off+i,none⟩=some (.int .u8 (b:Int)):=by
   rcases HA.o.row with h|h
   ·omega
   ·exact h
  obtain⟨b,I,hc⟩:=cy a hin;have bY:¬g=sb:=O;have HE:Hid ((((s*31+b+7)% 2147483648:Nat):Int)=((s:Int)*31+(b:Int)+7)% 2147483648):=by unfold Hid;omega
  have HA2:=Z HA.o.drew;have Ue:=Z Ak.o.cf;have jQ:w1.drew.cell? ⟨g,off+a,none⟩=some (.int .u8 (b:Int)):=hc;clear cy;go_region
  go_wp2;clear hc c0 c1 c2 cf HA Ak;generalize w1.drew=w2 at*
  obtain⟨c0,c1,c2,cf⟩:=HA2.o.cells;have lj:((a+1:Nat):Int)=(a:Int)+1:=O;rw[lj]at c1;clear lj;have hsub:(a:Int)+1-1=(a:Int):=O;have NC:Hid ((((s*31+b+7)% 2147483648:Nat):Int)=((s:Int)*31+(b:Int)+7)% 2147483648):=HE;have fa:=Z<|HA2.o.c4 ((s*31+b+7)% 2147483648)<|awA _ O;have Je:Hid (Kp sb w<|w2.setCell ⟨sb,2,none⟩<|.int .i64 (((s*31+b+7)% 2147483648:Nat):Int)):=Ue.o.trans (Kept.setCell (S:=fun k=>k=sb) ⟨sb,2,none⟩ _ rfl) fun _ _ h=>h;rw[NC.o]at fa Je;clear HE NC;have wr1:IntKind.i64.wrap (a:Int)=(a:Int):=gj O O;have wr2:IntKind.i64.wrap ((s:Int)*31)=(s:Int)*31:=gj O O;have wr3:IntKind.i64.wrap ((s:Int)*31+(b:Int))=(s:Int)*31+(b:Int):=gj O O;have wr4:IntKind.i64.wrap ((s:Int)*31+(b:Int)+7)=(s:Int)*31+(b:Int)+7:=gj O O;go_still_tail 21,di
  go_wp2;go_region
  all_goals go_wp2
  all_goals go_ret
  all_goals exact⟨b,I,rfl,⟨_,cn,cc,a+1,(s*31+b+7)% 2147483648,fa.o.drew.drew,Nat.succ_le_succ ha⟩,Je.o.cf.cf⟩
 ·have hin1:¬((a:Int)+1)<=(cn:Int):=O;have HE:Hid ((((s*1103515245+12345)% 2147483648:Nat):Int)=((s:Int)*1103515245+12345)% 2147483648):=by unfold Hid;omega
  have eF:=Z<|HA.o.c4 ((s*1103515245+12345)% 2147483648)<|awA _ O;have Ue:Hid (Kp sb w<|w1.setCell ⟨sb,2,none⟩<|.int .i64 (((s*1103515245+12345)% 2147483648:Nat):Int)):=Ak.o.trans (Kept.setCell (S:=fun k=>k=sb) ⟨sb,2,none⟩ _ rfl) fun _ _ h=>h;rw[HE.o]at eF Ue;by_cases h3:3000<a+1
  ·have h3i:(3000:Int)<(a:Int)+1:=O;go_region
   all_goals go_wp2
   all_goals go_ret
   all_goals exact⟨0,O,rfl,⟨ca,cn,cc,a+1,s,HA.o.drew,Nat.succ_le_succ ha⟩,Ak.o.cf⟩
  ·have h3i:¬(3000:Int)<(a:Int)+1:=O;have og:=Z<|HA.o.drew.c4 ((s*1103515245+12345)% 2147483648)<|awA _ O;have jG:Hid (Kp sb w<|w1.drew.setCell ⟨sb,2,none⟩<|.int .i64 (((s*1103515245+12345)% 2147483648:Nat):Int)):=Ak.o.cf.trans (Kept.setCell (S:=fun k=>k=sb) ⟨sb,2,none⟩ _ rfl) fun _ _ h=>h;rw[HE.o]at og jG;go_region
   all_goals go_wp2
   all_goals go_ret
   all_goals refine⟨(s*1103515245+12345)% 2147483648/ 65536% 256,awA _ O,kZ M,⟨ca,cn,cc,a+1,(s*1103515245+12345)% 2147483648,?_,Nat.succ_le_succ ha⟩,?_⟩
   ·have h:=HA.o.c4 ((s*1103515245+12345)% 2147483648)<|awA _ O;rw[HE.o]at h;exact h.drew
   ·exact(show Kp sb w (w1.setCell ⟨sb,2,none⟩<|.int .i64<|((s:Int)*1103515245+12345)% 2147483648)from Ak.o.trans (Kept.setCell (S:=fun k=>k=sb) ⟨sb,2,none⟩ _ rfl) fun _ _ h=>h).cf
theorem ep (sb A n:Nat)(w:World)(hA:A+3<=1099511627776)(hn:n<=1099511627776)(h:Src sb A w):
  Calls prog 25 #[.pointer<|some ⟨sb,0,none⟩,.int .i64 (n:Int)] w fun e w'=>∃r:Nat,(r=0\/r<n)/\e=.returned (.int .i64 (r:Int))/\Src sb (A+3) w'/\Kp sb w w':=by
 have HS:=Z h;clear h;by_cases h1:n<=1
 ·have h1i:(n:Int)<=1:=O;go_enter func25,ntmps25
  go_wp2;go_ret;exact⟨0,.inl rfl,rfl,HS.o.mono O,Kept.refl _ _⟩
 ·have h1i:¬(n:Int)<=1:=O;by_cases h2:n<=256
  ·have h2i:(n:Int)<=256:=O;go_enter func25,ntmps25
   go_wp2_with(go_at_call 50;refine(qV sb A _ O HS.o).mono ?_;rintro e w1 ⟨b,I,rfl,bz,jH⟩;have cY:=Z bz;have Ak:=Z jH;clear bz jH)
   go_ret;exact⟨b% n,.inr<|awA _ O,kZ M,cY.o.mono O,Ak.o⟩
  ·have h2i:¬(n:Int)<=256:=O;have P1:Hid True:=trivial;have P2:Hid True:=trivial;go_enter func25,ntmps25
   go_wp2_with(first
    |(go_at_call 50;clear P1;refine(qV sb A _ O HS.o).mono ?_;rintro e w1 ⟨b,I,rfl,bz,jH⟩;have cY:=Z bz;have Ak:=Z jH;clear bz jH)
    |(go_at_call 50;clear P2;refine(qV sb (A+1) _ O cY.o).mono ?_;rintro e w2 ⟨b2,hb2,rfl,bP,iR⟩;have eF:=Z bP;have Ue:=Z iR;clear bP iR)
    |(go_at_call 50;refine(qV sb (A+1+1) _ O eF.o).mono ?_;rintro e w3 ⟨b3,hb3,rfl,dP,oV⟩;have fa:=Z dP;have Je:=Z oV;clear dP oV))
   go_ret;exact⟨(b*65536+b2*256+b3)% n,.inr<|awA _ O,kZ M,fa.o.mono O,(Ak.o.trans Ue.o fun _ _ h=>h).trans Je.o fun _ _ h=>h⟩
theorem pX (sb A n:Nat)(w:World)(hA:A+3<=1099511627776)(hn:n<=1099511627776)(h:Src sb A w):
  Calls prog 88 #[.pointer<|some ⟨sb,0,none⟩,.int .i64 (n:Int)] w fun e w'=>∃t:Bool,e=.returned (.bool t)/\Src sb (A+3) w'/\Kp sb w w':=by
 have HN:=Z<|ep sb A n w hA hn h;clear h;go_enter func88,ntmps88
 go_wp2_with(go_at_call 25;refine HN.o.mono ?_;rintro e w1 ⟨r,hr,rfl,bz,jH⟩;have cY:=Z bz;have Ak:=Z jH;clear bz jH)
 all_goals go_ret
 all_goals exact⟨_,rfl,cY.o,Ak.o⟩
theorem Kf (sb A:Nat)(w:World)(h:Src sb A w):
  Calls prog 26 #[.pointer<|some ⟨sb,0,none⟩,.int .i64 5] w fun e w'=>∃r:Nat,(1<=r/\r<=5)/\e=.returned (.int .i64 (r:Int))/\w'=w:=by
 obtain⟨ca,cn,cc,a,s,h1,ha⟩:=h
 obtain⟨c0,c1,c2,cf⟩:=h1.cells;have fp:=h1.aR;clear h1 c1 c2 cf;go_enter func26,ntmps26
 go_wp2;all_goals go_ret
 all_goals refine⟨min (1+cn/ 12) 5,O,kZ O,rfl⟩
theorem kA (P:ByteArray->Prop)(sb A g off n c:Nat)(w:World)(hn:0<n)(CC:n<=256)(hA:A+3<=1099511627776)(hg:g≠sb)(h:Src sb A w)
  (hc:∀i,i<n->∃s,P s/\w.cell? ⟨g,off+i,none⟩=some (.string s)):
  Calls prog 86 #[.pointer<|some ⟨sb,0,none⟩,.slice (some ⟨g,off,none⟩) n c] w fun e w'=>∃s,P s/\e=.returned (.string s)/\Src sb (A+3) w'/\Kp sb w w':=by
 have HN:=Z<|ep sb A n w hA O h;have HC:=Z hc;have YM:¬(n:Int)=0:=O;have Bp:¬n=0:=O;clear h hc;go_enter func86,ntmps86
 go_wp2_with(go_at_call 25;refine HN.o.mono ?_;rintro e w1 ⟨r,hr,rfl,bz,jH⟩;have Bi:r<n:=O;have hri:(r:Int)<(n:Int):=O;obtain⟨t,hP,ht⟩:=HC.o r Bi;have be:g<w.heap.size:=(by rcases awZ g w.heap.size with h|h;exact h;simp[World.cell?,Array.getElem?_eq_none h]at ht);have q:w1.cell? ⟨g,off+r,none⟩=some (.string t):=(avt (a:=⟨g,off+r,none⟩)<|jH.block g be hg).trans ht;have cY:=Z bz;have Ak:=Z jH;have HP:=Z hP;clear bz jH ht hP)
 go_ret;exact⟨t,HP.o,rfl,cY.o,Ak.o⟩
theorem cM (k n:Int)(s:ByteArray)(a:Option Addr)(l c:Nat)(w:World):Calls prog 22 #[.int .i64 k,.int .i64 n,.string s,.slice a l c] w fun e w'=>e=.returned (.agg #[.int .i64 k,.int .i64 n,.string s,.slice a l c])/\Below w.heap.size w w':=by
 go_enter func22,ntmps22
 go_wp2;refine avr (v:=.agg #[.int .i64 k,.int .i64 n,.string s,.slice a l c]) (by simp[results,results22,go_sem]) rfl ⟨rfl,?_⟩;exact bA
theorem WO {w1:World}(I:Below W.heap.size W w1):(∀b o,b<W.heap.size->w1.cell? ⟨b,o,none⟩=W.cell? ⟨b,o,none⟩)/\(∀b o,b<W.heap.size->w1.frozen? ⟨b,o,none⟩=W.frozen? ⟨b,o,none⟩):=
 ⟨fun b o h=>I.cell (p:=⟨b,o,none⟩) h,fun b o h=>I.frozen (p:=⟨b,o,none⟩) h⟩
theorem aV (k:Int)(s:ByteArray)(a:Option Addr)(l c:Nat)(w:World):Calls prog 27 #[.int .i64 k,.string s,.slice a l c] w fun e w'=>e=.returned (.agg #[.int .i64 k,.int .i64 0,.string s,.slice a l c])/\Below w.heap.size w w':=by
 have HN:=Z fun(W:World)(_:Below w.heap.size w W)=>cM k 0 s a l c W;have HB:=Z fun o:Obj=>bO w o;go_enter func27,ntmps27
 have aiJ:=kk;exact ab1
theorem nS (s:ByteArray)(a:Option Addr)(l c:Nat)(w:World):Calls prog 89 #[.string s,.slice a l c] w fun e w'=>e=.returned (.agg #[.int .i64 25,.int .i64 0,.string s,.slice a l c])/\Below w.heap.size w w':=by
 have HN:=Z fun(W:World)(_:Below w.heap.size w W)=>cM 25 0 s a l c W;have HB:=Z fun o:Obj=>bO w o;go_enter func89,ntmps89
 have aiK:=kk;exact ab1
theorem lg (n:Int)(w:World):Calls prog 28 #[.int .i64 n] w fun e w'=>e=.returned (.agg #[.int .i64 22,.int .i64 n,.string ⟨#[]⟩,.slice none 0 0])/\Below w.heap.size w w':=by
 have HN:=Z fun(W:World)(_:Below w.heap.size w W)=>cM 22 n ⟨#[]⟩ none 0 0 W;have HB:=Z fun o:Obj=>bO w o;go_enter func28,ntmps28
 have aiL:=kk;exact ab1
theorem jh (s:ByteArray)(n:Int)(w:World):Calls prog 48 #[.string s,.int .i64 n] w fun e w'=>e=.returned (.agg #[.int .i64 3,.int .i64 n,.string s,.slice none 0 0])/\Below w.heap.size w w':=by
 have HN:=Z fun(W:World)(_:Below w.heap.size w W)=>cM 3 n s none 0 0 W;have HB:=Z fun o:Obj=>bO w o;go_enter func48,ntmps48
 have aiM:=kk;exact ab1
def aC (k n:Int)(s:ByteArray):Nd:=.mk k n s 0 fun _=>.nil
theorem eQ (lo hi:Nat)(w:World)(k n:Int)(s:ByteArray):Row lo hi w (aC k n s) (.slice none 0 0):=⟨none,0,rfl,⟨avF _,O⟩,.inl rfl⟩
theorem jB {n:Int}{s:ByteArray}{len:Nat}{kids:Nat->Nd}(hg:lo<=g)(hh:g<hi)(hl:len<=cap)(hc:cap<=9223372036854775807)
  (h:∀i,i<len->∃u,w.cell? ⟨g,i*4,none⟩=some (.int .i64 (kids i).y)/\w.cell? ⟨g,i*4+1,none⟩=some (.int .i64 (kids i).E)/\w.cell? ⟨g,i*4+2,none⟩=some (.string (kids i).z)/\w.cell? ⟨g,i*4+3,none⟩=some u/\Row lo hi w (kids i) u):
  Row lo hi w (.mk k n s len kids) (.slice (some ⟨g,0,none⟩) len cap):=by
 refine⟨_,cap,rfl,⟨hl,hc⟩,.inr ⟨g,0,rfl,hg,hh,fun i hi=>?_⟩⟩;obtain⟨u,e0,e1,e2,e3,hr⟩:=h i hi;rw[Nat.zero_add];exact⟨u,e0,e1,e2,e3,hr⟩
theorem iB (h:Row lo hi w T v)(fT:sb<lo)(gB:hi<=w.heap.size)(z:Kp sb w w'):Row lo hi w' T v:=
 cL lr lr (fun g o h1 h2=>avt (a:=⟨g,o,none⟩)<|z.block g O O) h
def Scp (sb:Nat)(w:World)(v:Value)(n:Nat):Prop:=
  ∃a cap,v=.slice a n cap/\(n<=cap/\cap<=9223372036854775807)/\n<=1048576/\(n=0\/∃g off,a=some ⟨g,off,none⟩/\g≠sb/\g<w.heap.size/\∀i,i<n->∃(s:ByteArray)(t d:Int),aK s=true/\
    w.cell? ⟨g,off+i*3,none⟩=some (.string s)/\w.cell? ⟨g,off+i*3+1,none⟩=some (.int .i64 t)/\w.cell? ⟨g,off+i*3+2,none⟩=some (.int .i64 d))
theorem Scp.keep (h:Scp sb w v n)(z:Kp sb w w'):Scp sb w' v n:=by
 obtain⟨a,cap,rfl,hc,hn,hq⟩:=h
 refine⟨a,cap,rfl,hc,hn,?_⟩;rcases hq with h|⟨g,off,e,hg,hl,h⟩
 ·exact .inl h
 ·refine .inr ⟨g,off,e,hg,awB hl z.size,fun i hi=>?_⟩;obtain⟨s,t,d,h0,h1,h2,h3⟩:=h i hi;have e':∀o,w'.cell? ⟨g,o,none⟩=w.cell? ⟨g,o,none⟩:=fun o=>avt (a:=⟨g,o,none⟩)<|z.block g hl hg;exact⟨s,t,d,h0,(e' _).trans h1,(e' _).trans h2,(e' _).trans h3⟩
theorem ny (sb A n:Nat)(typ:Int)(v:Value)(w:World)(hA:A+3<=1099511627776)(h:Src sb A w)(hs:Scp sb w v n):
  Calls prog 85 #[.pointer<|some ⟨sb,0,none⟩,v,.int .i64 typ] w fun e w'=>∃(s:ByteArray)(t:Bool),(t=true->aK s=true)/\e=.returned (.tuple #[.string s,.bool t])/\Src sb (A+3) w'/\Kp sb w w':=by
 obtain⟨a,cap,rfl,bo,hn6,NS⟩:=id hs;have Y6:=Z hs;have HN:=Z<|ep sb A (n+1) w hA O h;have Bp:((n+1:Nat):Int)=(n:Int)+1:=O;rw[Bp]at HN;clear h hs NS Bp;go_enter func85,ntmps85
 go_wp2_with(go_at_call 25;refine HN.o.mono ?_;rintro e w1 ⟨r,hr,rfl,bz,jH⟩;have Bi:r<=n:=O;have cY:=Z bz;have Ak:=Z jH;have fU:=Z<|Y6.o.keep jH;clear bz jH Y6 HN hr)
 go_loopw[9] (fun i wr=>∃j:Nat,j<=n/\i=.int .i64 j/\Below w1.heap.size w1 wr) (fun i _=>n-(intOf i).toNat)
 case atStart=>exact⟨0,O,rfl,avB _ _⟩
 case round=>
  obtain⟨j,hj,rfl,I⟩:=hrel;by_cases be:j<n
  ·have hji:(j:Int)<(n:Int):=O;obtain⟨a',nR,hv,_,_,hq⟩:=fU.o.keep<|b9 I _;injection hv with QN ev2 QM;subst QN;subst QM;rcases hq with h0|⟨g,off,rfl,hg,tg,cy⟩
   ·omega
   obtain⟨x,hx⟩:∃x,x=(r+j)% n:=⟨_,rfl⟩;have hxn:x<n:=by rw[hx];exact awA _ O
   have hxi:(x:Int)<(n:Int):=O;have hxe:((r:Int)+(j:Int))% (n:Int)=(x:Int):=by rw[hx];simp
   obtain⟨s,t,d,cm,e0,e1,e2⟩:=cy x hxn;have HCL:=Z cy;have Zc:=Z cm;have HB:=Z I;have YM:¬(n:Int)=0:=O;clear cy hx I cm;by_cases S3:t=typ
   ·subst S3;rename World=>wo
    have HV:Hid (∀W,Below (wo.heap.size+1) (wo.alloc<|.cells #[.string s,.int .i64 t,.int .i64 d] 94) W->W.cell? ⟨wo.heap.size,0,none⟩=some (.string s)):=by
     intro W h;rw[h.cell (p:=⟨wo.heap.size,0,none⟩) (by show wo.heap.size<wo.heap.size+1;omega)];simp[go_sem]
    go_wp2;clear e0 e1 e2;go_loopw[11,12] (fun hd k wr=>∃(b:Bool)(m:Nat),m<=n/\hd=.bool b/\k=.int .i64 m/\Below (wo.heap.size+1) (wo.alloc<|.cells #[.string s,.int .i64 t,.int .i64 d] 94) wr) (fun _ k _=>n-(intOf k).toNat)
    case atStart=>exact⟨false,x+1,O,rfl,by go_num,avB _ _⟩
    case round=>
     obtain⟨b,m,hm,rfl,rfl,xU⟩:=hrel;have k0:=HV.o _ xU;have En:=Z xU;have zW:=Z<|HB.o.trans<|((bO wo<|.cells #[.string s,.int .i64 t,.int .i64 d] 94).trans<|xU.mono<|av8 _).mono HB.o.size;by_cases hmt:m<n
     ·have hmi:(m:Int)<(n:Int):=O;obtain⟨s3,t3,d3,_,e0,_,_⟩:=HCL.o m hmt;have e0':wr.cell? ⟨g,off+m*3,none⟩=some (.string s3):=by
       rw[((bO wo<|.cells #[.string s,.int .i64 t,.int .i64 d] 94).trans<|xU.mono<|av8 _).cell (p:=⟨g,off+m*3,none⟩) tg];exact e0
      clear e0 xU;cases b
      ·exact abY
      ·exact abY
     ·clear xU;cases b
      ·go_wp2;refine avr (v:=.tuple #[.string s,.bool true]) (by simp[results,results85,go_sem]) rfl ⟨_,_,(fun _=>Zc.o),rfl,cY.o.calm zW.o,Ak.o.trans (b9 zW.o _) fun _ _ h=>h⟩
      ·go_wp2;exact⟨⟨j+1,O,by go_num,zW.o⟩,by simp[intOf];omega⟩
   ·go_wp2;exact⟨⟨j+1,O,by go_num,HB.o.alloc HB.o.size _⟩,by simp[intOf];omega⟩
  ·go_wp2;refine avr (v:=.tuple #[.string ⟨#[]⟩,.bool false]) (by simp[results,results85,go_sem]) rfl ⟨_,_,(fun h=>by cases h),rfl,cY.o.calm I,Ak.o.trans (b9 I _) fun _ _ h=>h⟩
def aN :Obj:=.cells #[.int .i64 0,.int .i64 0,.string ⟨#[]⟩,.slice none 0 0] 25
structure DW (sb A:Nat)(w W:World):Prop where
 src:Src sb A W
 kp:Kp sb (w.alloc aN) W
 low:sb<w.heap.size
theorem DW.start (h:Src sb A w):DW sb A w (w.alloc aN):=⟨h.alloc _,Kept.refl _ _,h.lt⟩
theorem DW.step (h:DW sb A w W)(hs:Src sb B W')(z:Kp sb W W'):DW sb B w W':=⟨hs,h.kp.trans z fun _ _ h=>h,h.low⟩
theorem DW.calm (h:DW sb A w W)(I:Below W.heap.size W W'):DW sb A w W':=h.step (h.src.calm I)<|b9 I _
theorem DW.alloc (h:DW sb A w W)(o:Obj):DW sb A w (W.alloc o):=h.calm<|bA
theorem DW.drew (h:DW sb A w W):DW sb A w W.drew:=h.calm ⟨rfl,rfl,rfl,avF _,fun _ _=>rfl⟩
theorem DW.size (h:DW sb A w W):w.heap.size+1<=W.heap.size:=by have:=h.kp.size;simpa using this
theorem DW.av (h:DW sb A w W):W.heap[w.heap.size]?=some aN:=by have hl:=h.low;rw[h.kp.block w.heap.size M O];exact avv w _
theorem DW.cells (h:DW sb A w W):W.cell? ⟨w.heap.size,0,none⟩=some (.int .i64 0)/\W.cell? ⟨w.heap.size,1,none⟩=some (.int .i64 0)/\W.cell? ⟨w.heap.size,2,none⟩=some (.string ⟨#[]⟩)/\W.cell? ⟨w.heap.size,3,none⟩=some (.slice none 0 0)/\∀o,W.frozen? ⟨w.heap.size,o,none⟩=false:=by have I:=h.av;unfold aN at I;have hc:∀o,W.cell? ⟨w.heap.size,o,none⟩=(#[Value.int .i64 0,.int .i64 0,.string ⟨#[]⟩,.slice none 0 0])[o]?:=fun o=>avS _ _ _ _ _ (0,0) I;exact ab0
def dn (W:World)(b:Nat)(k n:Int)(s:ByteArray)(u:Value):World:=(((W.setCell ⟨b,0,none⟩<|.int .i64 k).setCell ⟨b,1,none⟩<|.int .i64 n).setCell ⟨b,2,none⟩<|.string s).setCell ⟨b,3,none⟩ u
theorem et (W:World)(b:Nat)(k n:Int)(s:ByteArray)(u:Value)(i:Nat)(h:i≠b):(dn W b k n s u).heap[i]?=W.heap[i]?:=by unfold dn;rw[avz _ _ _ _ aaR,avz _ _ _ _ aaR,avz _ _ _ _ aaR,avz _ _ _ _ aaR]
theorem fG (W:World)(b:Nat)(k n:Int)(s:ByteArray)(u:Value):(dn W b k n s u).heap.size=W.heap.size:=by simp[dn,World.setCell]
theorem pC (W:World)(b:Nat)(k n:Int)(s:ByteArray)(u:Value){z0 z1 z2 z3:Value}(h0:W.cell? ⟨b,0,none⟩=some z0)(h1:W.cell? ⟨b,1,none⟩=some z1)(h2:W.cell? ⟨b,2,none⟩=some z2)(h3:W.cell? ⟨b,3,none⟩=some z3):
  (dn W b k n s u).cell? ⟨b,0,none⟩=some (.int .i64 k)/\(dn W b k n s u).cell? ⟨b,1,none⟩=some (.int .i64 n)/\(dn W b k n s u).cell? ⟨b,2,none⟩=some (.string s)/\(dn W b k n s u).cell? ⟨b,3,none⟩=some u:=by
 unfold dn;have a1:(W.setCell ⟨b,0,none⟩<|.int .i64 k).cell? ⟨b,1,none⟩=some z1:=by rw[dQ _ _ _ _ h0,avo O];exact h1
 have a2:((W.setCell ⟨b,0,none⟩<|.int .i64 k).setCell ⟨b,1,none⟩<|.int .i64 n).cell? ⟨b,2,none⟩=some z2:=by rw[dQ _ _ _ _ a1,avo O,dQ _ _ _ _ h0,avo O];exact h2
 have a3:(((W.setCell ⟨b,0,none⟩<|.int .i64 k).setCell ⟨b,1,none⟩<|.int .i64 n).setCell ⟨b,2,none⟩<|.string s).cell? ⟨b,3,none⟩=some z3:=by rw[dQ _ _ _ _ a2,avo O,dQ _ _ _ _ a1,avo O,dQ _ _ _ _ h0,avo O];exact h3
 refine⟨?_,?_,?_,?_⟩
 ·rw[dQ _ _ _ _ a3,avo O,dQ _ _ _ _ a2,avo O,dQ _ _ _ _ a1,avo O,dQ _ _ _ _ h0,avA ⟨rfl,rfl⟩]
 ·rw[dQ _ _ _ _ a3,avo O,dQ _ _ _ _ a2,avo O,dQ _ _ _ _ a1,avA ⟨rfl,rfl⟩]
 ·rw[dQ _ _ _ _ a3,avo O,dQ _ _ _ _ a2,avA ⟨rfl,rfl⟩]
 ·rw[dQ _ _ _ _ a3,avA ⟨rfl,rfl⟩]
theorem ZP (w:World):(sizeOf 25).run prog w=.ok 4 w:=by kernel_rfl
theorem La (b:Nat)(x0 x1 x2 x3:Value)(W:World)(h0:W.cell? ⟨b,0,none⟩=some x0)(h1:W.cell? ⟨b,1,none⟩=some x1)(h2:W.cell? ⟨b,2,none⟩=some x2)(h3:W.cell? ⟨b,3,none⟩=some x3):(loadVar 25 ⟨b,0,none⟩).run prog W=.ok (.agg #[x0,x1,x2,x3]) W:=by
  have e:=run_loadCells_list (P:=prog) W ⟨b,0,none⟩ [x0,x1,x2,x3] (fun j v h=>by
    match j,h with
    | 0,h=>obtain rfl:=avq h;simpa[Addr.add]using h0
    | 1,h=>obtain rfl:=avq h;simpa[Addr.add]using h1
    | 2,h=>obtain rfl:=avq h;simpa[Addr.add]using h2
    | 3,h=>obtain rfl:=avq h;simpa[Addr.add]using h3
    | j+4,h=>simp at h)
  have hs:=ZP W;simp only[loadVar,isAgg,underlying,awr,Result.andThen];simp only[length_cons,length_nil,Nat.zero_add]at e;simp[hs,Result.andThen,e]
theorem DW.read (h:DW sb A w W)(qJ:fn.results=#[.cell r 25])(ht:tmps[r]?.getD undef=.pointer (some ⟨w.heap.size,0,none⟩))(k n:Int)(s:ByteArray)(u:Value):
  (results fn tmps).run prog (dn W w.heap.size k n s u)=.ok (.agg #[.int .i64 k,.int .i64 n,.string s,u]) (dn W w.heap.size k n s u):=by
 obtain⟨f0,f1,f2,f3,_⟩:=h.cells;obtain⟨p0,p1,p2,p3⟩:=pC W w.heap.size k n s u f0 f1 f2 f3;have hl:=La w.heap.size _ _ _ _ _ p0 p1 p2 p3;unfold results;rw[qJ];simp[asAddr,ht,hl]
structure Drawn (sb B:Nat)(P:Nd->Prop)(C:Nat)(w:World)(T:Nd)(u:Value)(w':World):Prop where
 row:Row w.heap.size w'.heap.size w' T u
 aA:T.R
 ok:P T
 cost:T.cost<=C
 src:Src sb B w'
 kp:Kp sb w w'
theorem Drawn.more {B':Nat}{P:Nd->Prop}(h:Drawn sb B P C w T u w')(hB:B<=B'):Drawn sb B' P C w T u w':=⟨h.row,h.aA,h.ok,h.cost,h.src.mono hB,h.kp⟩
theorem DW.fin {P:Nd->Prop}(h:DW sb A w W)(hr:Row (w.heap.size+1) W.heap.size W T u)(hf:T.R)(y:P T)(hc:T.cost<=C):
  Drawn sb A P C w T u (dn W w.heap.size T.y T.E T.z u):=by
 have hl:=h.low;have hz:=h.size;have hs:=fG W w.heap.size T.y T.E T.z u;have I:=fun i(e:i≠w.heap.size)=>et W w.heap.size T.y T.E T.z u i e;refine⟨cL (av8 _) O (fun g o h1 h2=>avt (a:=⟨g,o,none⟩)<|I g O) hr,hf,y,hc,?_,?_⟩
 ·have aiN:=kk;exact ab2
 ·have iR:=h.kp;have bM:=bO w aN;refine⟨(show(dn W w.heap.size T.y T.E T.z u).os=W.os from rfl).trans<|iR.os.trans bM.os,(show(dn W w.heap.size T.y T.E T.z u).tape=W.tape from rfl).trans<|iR.tape.trans bM.tape,(show(dn W w.heap.size T.y T.E T.z u).output=W.output from rfl).trans<|iR.output.trans bM.output,O,fun k ig hn=>?_⟩;rw[I k O,iR.block k aah hn];exact(bO w aN).block k ig
theorem iI {s:ByteArray}(h:aK s=true):(aC 24 0 s).Q=true:=by rw[bD];simp[aC,Nd.y,Nd.E,Nd.z,Nd.q,bq,h]
theorem gm {s:ByteArray}(h:aK s=true):s.size<=40:=by unfold aK dE at h;simp at h;omega
theorem bH (k n:Int)(s:ByteArray):(aC k n s).cost=s.size:=by simp[aC,Nd.cost,aq]
theorem aO {n:Int}{s:ByteArray}(z:-9223372036854775808<=k/\k<=9223372036854775807)(hn:-9223372036854775808<=n/\n<=9223372036854775807)(hs:s.size<=9223372036854775807):(aC k n s).R:=
 ⟨z,hn,hs,avL _,fun i hi=>absurd hi<|avJ i⟩
theorem ia (w:World)(a b c d:Value)(t:TypeId):∀j u,([a,b,c,d]:List Value)[j]?=some u->(w.alloc<|.cells #[a,b,c,d] t).cell? ((⟨w.heap.size,0,none⟩:Addr).add j)=some u:=by
 intro j u h;match j,h with
 |0,h=>obtain rfl:=avq h;simp[Addr.add]
 |1,h=>obtain rfl:=avq h;simp[Addr.add]
 |2,h=>obtain rfl:=avq h;simp[Addr.add]
 |3,h=>obtain rfl:=avq h;simp[Addr.add]
 |j+4,h=>simp at h
theorem jn (k n:Int)(s:ByteArray)(a:Option Addr)(l c:Nat):∀u∈[Value.int .i64 k,.int .i64 n,.string s,.slice a l c],u.oneCell'=true:=by intro u hu;simp at hu;rcases hu with rfl|rfl|rfl|rfl<;>rfl
theorem si :(prog.info? 25).map (fun i=>(i.zero,i.size,i.bytes))=some (some<|.agg #[.int .i64 0,.int .i64 0,.string ⟨#[]⟩,.slice none 0 0],4,56):=by kernel_rfl
def RW (w W:World)(T:Nd)(u:Value):Prop:=Row (w.heap.size+1) W.heap.size W T u
theorem RW.step (h:RW w W T u)(hd:DW sb A w W)(z:Kp sb W W'):RW w W' T u:=
 aY (iB h (by have:=hd.low;omega) lr z) lr z.size
theorem RW.calm (h:RW w W T u)(I:Below W.heap.size W W'):RW w W' T u:=aY (ah I lr h) lr I.size
theorem RW.aI {P:Nd->Prop}(hd:DW sb A w W)(h:Drawn sb B P C W T u W'):RW w W' T u:=aY h.row hd.size lr
theorem RW.leaf (w W:World)(k n:Int)(s:ByteArray):RW w W (aC k n s) (.slice none 0 0):=eQ _ _ _ _ _ _
def cq (k n:Int)(s:ByteArray)(A:Nd):Nd:=.mk k n s 1 fun _=>A
def dV (k n:Int)(s:ByteArray)(A B:Nd):Nd:=.mk k n s 2 fun i=>if i=0 then A else B
theorem RW.one {V:World}{A:Nd}(hw:w.heap.size+1<=W.heap.size)(h:RW w W A u)(I:Below (W.heap.size+1) (W.alloc<|.cells #[.int .i64 A.y,.int .i64 A.E,.string A.z,u] 25) V)(k n:Int)(s:ByteArray):
  RW w V (cq k n s A) (.slice (some ⟨W.heap.size,0,none⟩) 1 1):=by
 have hz:=I.size;simp only[avs]at hz;have hA:=bO W<|.cells #[.int .i64 A.y,.int .i64 A.E,.string A.z,u] 25;have hr:=RW.calm h<|hA.trans<|I.mono<|av8 _;have e:∀o,V.cell? ⟨W.heap.size,o,none⟩=(W.alloc<|.cells #[.int .i64 A.y,.int .i64 A.E,.string A.z,u] 25).cell? ⟨W.heap.size,o,none⟩:=fun o=>I.cell (p:=⟨W.heap.size,o,none⟩) (by show W.heap.size<W.heap.size+1;omega);refine jB hw O lr O fun i hi=>?_;obtain rfl:i=0:=O;refine⟨u,?_,?_,?_,?_,hr⟩
 ·rw[e];simp[go_sem]
 ·rw[e];simp[go_sem]
 ·rw[e];simp[go_sem]
 ·rw[e];simp[go_sem]
theorem RW.two {V:World}{A B:Nd}(hw:w.heap.size+1<=W.heap.size)(h:RW w W A u)(h':RW w W B v)(I:Below (W.heap.size+1) (W.alloc<|.cells #[.int .i64 A.y,.int .i64 A.E,.string A.z,u,.int .i64 B.y,.int .i64 B.E,.string B.z,v] 25) V)(k n:Int)(s:ByteArray):
  RW w V (dV k n s A B) (.slice (some ⟨W.heap.size,0,none⟩) 2 2):=by
 have hz:=I.size;simp only[avs]at hz;have hA:=bO W<|.cells #[.int .i64 A.y,.int .i64 A.E,.string A.z,u,.int .i64 B.y,.int .i64 B.E,.string B.z,v] 25;have hr:=RW.calm h<|hA.trans<|I.mono<|av8 _;have wa:=RW.calm h'<|hA.trans<|I.mono<|av8 _;have e:∀o,V.cell? ⟨W.heap.size,o,none⟩=(W.alloc<|.cells #[.int .i64 A.y,.int .i64 A.E,.string A.z,u,.int .i64 B.y,.int .i64 B.E,.string B.z,v] 25).cell? ⟨W.heap.size,o,none⟩:=fun o=>I.cell (p:=⟨W.heap.size,o,none⟩) (by show W.heap.size<W.heap.size+1;omega);refine jB hw O lr O fun i hi=>?_;have:i=0\/i=1:=O;rcases this with rfl|rfl
 ·refine⟨u,?_,?_,?_,?_,hr⟩<;>rw[e]<;>simp[go_sem]
 ·refine⟨v,?_,?_,?_,?_,wa⟩<;>rw[e]<;>simp[go_sem]
theorem cO (k n:Int)(s:ByteArray)(A:Nd):(cq k n s A).cost=s.size+(1+A.cost):=by simp[cq,Nd.cost,aq]
theorem fD (k n:Int)(s:ByteArray)(A B:Nd):(dV k n s A B).cost=s.size+(2+(A.cost+B.cost)):=by simp[dV,Nd.cost,aq]
theorem bR {n:Int}{s:ByteArray}{A:Nd}(z:-9223372036854775808<=k/\k<=9223372036854775807)(hn:-9223372036854775808<=n/\n<=9223372036854775807)(hs:s.size<=9223372036854775807)(hA:A.R):(cq k n s A).R:=⟨z,hn,hs,O,fun _ _=>hA⟩
theorem fB {n:Int}{s:ByteArray}{A B:Nd}(z:-9223372036854775808<=k/\k<=9223372036854775807)(hn:-9223372036854775808<=n/\n<=9223372036854775807)(hs:s.size<=9223372036854775807)(hA:A.R)(hB:B.R):(dV k n s A B).R:=⟨z,hn,hs,O,fun i _=>by show(if i=0 then A else B).R;split;exact hA;exact hB⟩
theorem j6 {n:Int}(h:0<=n/\n<=999999999999999999):(aC 22 n ⟨#[]⟩).Q=true:=by rw[bD];simp[aC,Nd.y,Nd.E,Nd.z,Nd.q,bq,ao,h]
theorem qO {n:Int}(h:n=0\/n=1):(aC 23 n ⟨#[]⟩).Q=true:=by rw[bD];rcases h with rfl|rfl<;>simp[aC,Nd.y,Nd.E,Nd.z,Nd.q,bq,ao]
theorem Ii :(aC 26 0 ⟨#[]⟩).Q=true:=by rw[bD];simp[aC,Nd.y,Nd.E,Nd.z,Nd.q,bq,ao,aD]
theorem Ih {A:Nd}(h:A.Q=true):(cq 26 0 ⟨#[]⟩ A).Q=true:=by rw[bD];simp[cq,Nd.y,Nd.E,Nd.z,Nd.q,Nd.f,bq,ao,aD,h]
theorem QT {A:Nd}(h:A.Q=true):(cq 27 0 ⟨#[45]⟩ A).Q=true:=by exact abX
theorem QS {A:Nd}(h:A.Q=true):(cq 27 0 ⟨#[33]⟩ A).Q=true:=by exact abX
theorem vf {A:Nd}(h:A.Q=true):(cq 29 0 ⟨#[]⟩ A).Q=true:=by rw[bD];simp[cq,Nd.y,Nd.E,Nd.z,Nd.q,Nd.f,bq,ao,aD,aG,bT,h,ByteArray.size]
theorem qP {s:ByteArray}{A B:Nd}(hs:0<bV s)(h:A.Q=true)(h':B.Q=true):(dV 28 0 s A B).Q=true:=by rw[bD];simp[dV,Nd.y,Nd.E,Nd.z,Nd.q,Nd.f,bq,aD,aG,bT,h,h',hs,ByteArray.size]
theorem rI {s:ByteArray}{A B:Nd}(hs:aK s=true)(h:A.Q=true)(h':B.Q=true):(dV 25 0 s A B).Q=true:=by rw[bD];simp[dV,Nd.y,Nd.E,Nd.z,Nd.q,Nd.f,bq,aD,h,h',hs]
def Nd.eH (T:Nd)(h:Nat):Prop:=T.Q=true/\T.ak<=h
def Nd.sH (T:Nd)(h:Nat):Prop:=T.U=true/\T.ak<=h
def Nd.cH (T:Nd)(h:Nat):Prop:=T.aH=true/\T.ak<=h
theorem AX {f:Nat->Nat}{h:Nat}:∀{n:Nat},(∀i,i<n->f i<=h)->nA f n<=h
 |0,_=>avL _
 |n+1,H=>by
  simp only[nA]
  have:=AX (n:=n) fun i hi=>H i O
  have:=H n O
  omega
theorem nD {n:Int}{s:ByteArray}(H:∀i,i<m->(Ts i).ak<=h):(Nd.mk k n s m Ts).ak<=h+1:=by have:=AX (f:=fun i=>(Ts i).ak) H;show 1+nA _ m<=_;omega
theorem kI (k n:Int)(s:ByteArray):(aC k n s).ak=1:=rfl
theorem nC (k n:Int)(s:ByteArray)(A:Nd):(cq k n s A).ak=1+A.ak:=by show 1+max 0 A.ak=_;omega
theorem te (k n:Int)(s:ByteArray)(A B:Nd):(dV k n s A B).ak=1+max A.ak B.ak:=by show 1+max (max 0 A.ak) B.ak=_;omega
theorem DW.bu (h:DW sb A w W)(hr:Row (w.heap.size+1) W.heap.size W T u)(hf:T.R)(y:T.Q=true)(hc:T.cost<=C)(hh:T.ak<=m:=by simp only[kI,nC,te];omega):
  Drawn sb A (fun T=>T.eH m) C w T u (dn W w.heap.size T.y T.E T.z u):=h.fin hr hf ⟨y,hh⟩ hc
theorem DW.a8 (h:DW sb A w W)(hr:Row (w.heap.size+1) W.heap.size W T u)(hf:T.R)(y:T.U=true)(hc:T.cost<=C)(hh:T.ak<=m:=by simp only[kI,nC,te];omega):
  Drawn sb A (fun T=>T.sH m) C w T u (dn W w.heap.size T.y T.E T.z u):=h.fin hr hf ⟨y,hh⟩ hc
theorem eY {o:Nat}(h:w.cell? ⟨g,o,none⟩=some v):∀ob:Obj,(w.alloc ob).cell? ⟨g,o,none⟩=some v:=fun ob=>
 ((bO w ob).cell (p:=⟨g,o,none⟩)<|lt_of_cell h).trans h
theorem Wz (W:World):1<=(Question.appendCap 1 0 25).cut (W.tape W.drawn<|Question.appendCap 1 0 25)/\(Question.appendCap 1 0 25).cut (W.tape W.drawn<|Question.appendCap 1 0 25)<=9223372036854775807:=by have h1:=grownCap_ge W 1 0 25;have h2:=grownCap_le_maxLen W 1 0 25 aaj;unfold grownCap at h1 h2;unfold maxLen at h2;exact⟨h1,h2⟩
theorem DW.put (h:DW sb A w W)(b o:Nat)(v:Value)(I:w.heap.size+1<=b):DW sb A w (W.setCell ⟨b,o,none⟩ v):=by
 have hl:=h.low;have he:∀k,k≠b->(W.setCell ⟨b,o,none⟩ v).heap[k]?=W.heap[k]?:=fun k z=>avz _ _ _ _ (by show k≠b;exact z);refine⟨?_,⟨h.kp.os,h.kp.tape,h.kp.output,by simpa[World.setCell]using h.kp.size,fun k z hn=>?_⟩,hl⟩
 ·obtain⟨ca,cn,cc,a,s,h1,ha⟩:=h.src;refine⟨ca,cn,cc,a,s,⟨(he sb O).trans h1.av,h1.low,h1.aR,?_⟩,ha⟩;rcases h1.row with e|⟨g,off,e,hg,hh⟩
  ·exact .inl e
  ·refine .inr ⟨g,off,e,hg,fun i hi=>?_⟩;obtain⟨x,I2,Cw⟩:=hh i hi;exact⟨x,I2,(avt (a:=⟨g,off+i,none⟩)<|he g O).trans Cw⟩
 ·rw[avs]at z;rw[he k O];exact h.kp.block k aaV hn
def apW (W:World)(b:Nat)(k n:Int)(s:ByteArray)(u:Value)(cap:Nat):World:=
 (((W.alloc<|Obj.cells #[.int .i64 k,.int .i64 n,.string s,u] 25).alloc<|Obj.cells (#[.int .i64 k,.int .i64 n,.string s,u]++Builtin.zeroCells #[.int .i64 0,.int .i64 0,.string ⟨#[]⟩,.slice none 0 0] (cap-1)) 25).setCell ⟨b,3,none⟩<|.slice (some ⟨W.heap.size+1,0,none⟩) 1 cap).drew
structure Ap (sb A:Nat)(w X:World)(b:Nat)(k0 n0:Int)(s0:ByteArray)(K:Nd)(v:Value):Prop where
 dw:DW sb A w X
 row:RW w X (cq k0 n0 s0 K) v
 c0:X.cell? ⟨b,0,none⟩=some (.int .i64 k0)
 c1:X.cell? ⟨b,1,none⟩=some (.int .i64 n0)
 c2:X.cell? ⟨b,2,none⟩=some (.string s0)
 c3:X.cell? ⟨b,3,none⟩=some v
theorem Bytes.wide (h:Bytes w.heap.size w ca cn)(I:Below w.heap.size w W):Bytes W.heap.size W ca cn:=by
 rcases h with h|⟨g,off,e,hg,h⟩
 ·exact .inl h
 ·refine .inr ⟨g,off,e,awB hg I.size,fun i hi=>?_⟩;obtain⟨b,hb1,hc⟩:=h i hi;exact⟨b,hb1,(I.cell (p:=⟨g,off+i,none⟩) hg).trans hc⟩
theorem C4 (ca:Option Addr)(cn cc:Nat)(w:World)(fp:cn<=1048576)(fM:Bytes w.heap.size w ca cn):
  Calls prog 10 #[.slice ca cn cc] w fun e w'=>e=.returned (.pointer<|some ⟨w.heap.size,0,none⟩)/\Src w.heap.size 0 w'/\Below w.heap.size w w'/\w'.heap.size=w.heap.size+1:=by
 have HR:=Z fM;have HE:Hid (((cn% 1000:Nat):Int)=(cn:Int)% 1000):=by unfold Hid;omega
 clear fM;go_enter func10,ntmps10
 go_wp2;go_ret;refine⟨rfl,⟨ca,cn,cc,0,cn% 1000,⟨?_,O,fp,?_⟩,avF _⟩,bA,M⟩
 ·rw[avv,HE.o];rfl
 ·exact HR.o.keep lr<|b9 (bO w _) _
theorem aP (I:W.heap[b]?=some aN):W.cell? ⟨b,0,none⟩=some (.int .i64 0)/\W.cell? ⟨b,1,none⟩=some (.int .i64 0)/\W.cell? ⟨b,2,none⟩=some (.string ⟨#[]⟩)/\W.cell? ⟨b,3,none⟩=some (.slice none 0 0)/\∀o,W.frozen? ⟨b,o,none⟩=false:=by unfold aN at I;have hc:∀o,W.cell? ⟨b,o,none⟩=(#[Value.int .i64 0,.int .i64 0,.string ⟨#[]⟩,.slice none 0 0])[o]?:=fun o=>avS _ _ _ _ _ (0,0) I;exact ab0
theorem tX (I:W.heap[b]?=some aN)(qJ:fn.results=#[.cell r 25])(ht:tmps[r]?.getD undef=.pointer (some ⟨b,0,none⟩))(k n:Int)(s:ByteArray)(u:Value):
  (results fn tmps).run prog (dn W b k n s u)=.ok (.agg #[.int .i64 k,.int .i64 n,.string s,u]) (dn W b k n s u):=by
 obtain⟨f0,f1,f2,f3,_⟩:=aP I;obtain⟨p0,p1,p2,p3⟩:=pC W b k n s u f0 f1 f2 f3;have hl:=La b _ _ _ _ _ p0 p1 p2 p3;unfold results;rw[qJ];simp[asAddr,ht,hl]
theorem ue (h:Below b w W)(k n:Int)(s:ByteArray)(u:Value):Below b w (dn W b k n s u):=
 (((h.setCell (p:=⟨b,0,none⟩) lr _).setCell (p:=⟨b,1,none⟩) lr _).setCell (p:=⟨b,2,none⟩) lr _).setCell (p:=⟨b,3,none⟩) lr _
def CM (typ deep:Int)(C K:Nat):Prop:=∀(sb A n:Nat)(v:Value)(w:World),A+K<=1099511627776->Src sb A w->Scp sb w v n->
 Calls prog 87 #[.pointer<|some ⟨sb,0,none⟩,v,.int .i64 typ,.int .i64 deep] w fun e w'=>∃T u,e=.returned (T.val u)/\Drawn sb (A+K) (fun T=>T.eH<|deep.toNat+2) C w T u w'
theorem ku (P:ByteArray->Prop)(W:World)(l:List ByteArray)(t:TypeId)(hP:∀s∈l,P s)(i:Nat)(hi:i<l.length):∃s,P s/\(W.alloc<|.cells (l.map Value.string).toArray t).cell? ⟨W.heap.size,0+i,none⟩=some (.string s):=by refine⟨l[i],hP _<|getElem_mem hi,?_⟩;rw[avS _ _ _ _ _ (0,0)<|avv W _];simp[hi]
theorem bh (h:Row lo hi w T v):∃a cap,v=.slice a T.q cap:=by obtain⟨a,cap,h,_⟩:=ar.1 h;exact⟨a,cap,h⟩
def Ed (s:ByteArray):Prop:=0<bV s/\s.size<=2
theorem yV {s:ByteArray}(h:aK s=true):ao s=false:=by
 have h1:1<=s.size:=by unfold aK dE at h;simp at h;omega
 unfold ao;rw[avx];cases hs:s.data.toList with
 |nil=>
  exfalso;have h2:s.data.size=0:=by rw[<-Array.length_toList,hs];rfl
  have h3:s.size=0:=h2;omega
 |cons a l=>rfl
theorem ow {s:ByteArray}{A:Nd}(z:k=5\/k=6)(hs:aK s=true)(h:A.Q=true):(cq k 0 s A).U=true:=by have:=yV hs;rw[aM];rcases z with rfl|rfl<;>simp[cq,Nd.y,Nd.E,Nd.z,Nd.q,Nd.f,aL,aD,aG,bT,h,hs,this,ByteArray.size]
theorem AG {n:Int}{s:ByteArray}(hn:n=1\/n=-1)(hs:aK s=true):(aC 7 n s).U=true:=by have:=yV hs;rw[aM];rcases hn with rfl|rfl<;>simp[aC,Nd.y,Nd.E,Nd.z,Nd.q,aL,hs,this]
theorem Km {A B:Nd}(h:A.Q=true)(h':B.Q=true):(dV 8 0 ⟨#[]⟩ A B).U=true:=by rw[aM];simp[dV,Nd.y,Nd.E,Nd.z,Nd.q,Nd.f,aL,aD,aG,bT,ao,h,h',ByteArray.size]
theorem yP {A:Nd}(z:k=13\/k=14)(hA:A.y=25)(h:A.Q=true):(cq k 0 ⟨#[]⟩ A).U=true:=by rw[aM];rcases z with rfl|rfl<;>simp[cq,Nd.y,Nd.E,Nd.z,Nd.q,Nd.f,Nd.kk,aL,aD,aG,bT,ao,h,ByteArray.size]<;>exact avR hA
theorem ox {A:Nd}(z:k=19\/k=20\/k=21)(h:A.Q=true):(cq k 0 ⟨#[]⟩ A).U=true:=by rw[aM];rcases z with rfl|rfl|rfl<;>simp[cq,Nd.y,Nd.E,Nd.z,Nd.q,Nd.f,aL,aD,aG,bT,ao,h,ByteArray.size]
theorem EF (z:k=17\/k=18):(aC k 0 ⟨#[]⟩).U=true:=by rw[aM];rcases z with rfl|rfl<;>simp[aC,Nd.y,Nd.E,Nd.z,Nd.q,aL,ao]
theorem Pk {A B:Nd}(h:A.Q=true)(hB:B.y=4)(h':B.U=true):(dV 11 0 ⟨#[]⟩ A B).U=true:=by rw[aM];simp[dV,Nd.y,Nd.E,Nd.z,Nd.q,Nd.f,Nd.kk,aL,aD,aG,bT,ao,h,h',ByteArray.size];exact hB
theorem Pm {A B:Nd}(h:A.U=true)(h':B.U=true):(dV 4 0 ⟨#[]⟩ A B).U=true:=by rw[aM];simp[dV,Nd.y,Nd.E,Nd.z,Nd.q,Nd.f,aL,aD,ao,h,h']
theorem yj {s:ByteArray}{A:Nd}(hs:aK s=true)(h:A.Q=true):(cq 25 0 s A).Q=true:=by rw[bD];simp[cq,Nd.y,Nd.E,Nd.z,Nd.q,Nd.f,bq,aD,h,hs]
def Cl (s:ByteArray):Prop:=aK s=true/\s.size<=40
theorem bc {o:Obj}(h:W.heap[b]?=some o)(bY:b≠sb)(z:Kp sb W W'):W'.heap[b]?=some o:=(z.block b (avp.1 h).1 bY).trans h
theorem aW {o:Obj}(h:W.heap[b]?=some o)(I:Below W.heap.size W W'):W'.heap[b]?=some o:=(I.block b (avp.1 h).1).trans h
def eS (k n:Int)(s:ByteArray)(a:Option Addr)(l c:Nat):Obj:=.cells #[.int .i64 k,.int .i64 n,.string s,.slice a l c] 25 (0,0)
theorem al {n:Int}{s:ByteArray}{a:Option Addr}{l:Nat}(h:W.heap[b]?=some (eS k n s a l c)):
  W.cell? ⟨b,0,none⟩=some (.int .i64 k)/\W.cell? ⟨b,1,none⟩=some (.int .i64 n)/\W.cell? ⟨b,2,none⟩=some (.string s)/\W.cell? ⟨b,3,none⟩=some (.slice a l c)/\∀o,W.frozen? ⟨b,o,none⟩=false:=by
 unfold eS at h;have hc:∀o,W.cell? ⟨b,o,none⟩=(#[Value.int .i64 k,.int .i64 n,.string s,.slice a l c])[o]?:=fun o=>avS _ _ _ _ _ (0,0) h;exact⟨by rw[hc];rfl,by rw[hc];rfl,by rw[hc];rfl,by rw[hc];rfl,fun o=>av3 _ _ _ _ _ h⟩
theorem tw {o:Nat}(h:w.cell? ⟨b,o,none⟩=some v)(z:Kp sb w w')(bY:¬b=sb):w'.cell? ⟨b,o,none⟩=some v:=
 (avt (a:=⟨b,o,none⟩)<|z.block b (lt_of_cell h) bY).trans h
theorem kp2 {V:World}{o o':Obj}(z:Kp sb ((W.alloc o).alloc o').drew V):Kp sb W V:=
 (b9 (((bO W o).alloc M o').drew) fun k=>k=sb).trans z (fun _ _ h=>h)
theorem EI {V:World}{A:Nd}(hg:w.heap.size+1<=g)(I:V.heap[g]?=some (.cells #[.int .i64 A.y,.int .i64 A.E,.string A.z,u] 25 (0,0)))(h:RW w V A u)(k n:Int)(s:ByteArray):
  RW w V (cq k n s A) (.slice (some ⟨g,0,none⟩) 1 1):=by
 have hl:=(avp.1 I).1;have hc:∀o,V.cell? ⟨g,o,none⟩=(#[Value.int .i64 A.y,.int .i64 A.E,.string A.z,u])[o]?:=fun o=>avS _ _ _ _ _ (0,0) I;refine jB hg hl lr O fun i hi=>?_;obtain rfl:i=0:=O;exact⟨u,by rw[hc];rfl,by rw[hc];rfl,by rw[hc];rfl,by rw[hc];rfl,h⟩
def STC (deep:Int)(C K axe:Nat):Prop:=∀(sb A n:Nat)(v:Value)(loops:Bool)(w:World),A+K<=1099511627776->n+axe<=1000->Src sb A w->Scp sb w v n->
 Calls prog 49 #[.pointer<|some ⟨sb,0,none⟩,v,.int .i64 deep,.bool loops] w fun e w'=>∃T u,e=.returned (T.val u)/\Drawn sb (A+K) (fun T=>T.sH<|3*deep.toNat+10) C w T u w'
def Ss (deep:Int)(C K axe:Nat):Prop:=∀(sb A n m:Nat)(v:Value)(loops:Bool)(w:World),A+m*K+10<=1099511627776->n+m+axe<=1000->Src sb A w->Scp sb w v n->
 Calls prog 24 #[.pointer<|some ⟨sb,0,none⟩,v,.int .i64 deep,.int .i64 m,.bool loops] w fun e w'=>∃T u,e=.returned (T.val u)/\Drawn sb (A+m*K+10) (fun T=>T.y=4/\T.sH (3*deep.toNat+11)/\T.q=m) (m*C) w T u w'
def SLC (deep:Int)(C K axe:Nat):Prop:=∀(sb A n:Nat)(v:Value)(loops:Bool)(w:World),A+K<=1099511627776->n+axe<=1000->Src sb A w->Scp sb w v n->
 Calls prog 90 #[.pointer<|some ⟨sb,0,none⟩,v,.int .i64 deep,.bool loops] w fun e w'=>∃T u,e=.returned (T.val u)/\Drawn sb (A+K) (fun T=>T.sH<|3*deep.toNat+10) C w T u w'
theorem DW.any (h:DW sb A w W)(e1:W'.os=W.os)(e2:W'.tape=W.tape)(e3:W'.output=W.output)(hz:W.heap.size<=W'.heap.size)(I:∀k,k<=w.heap.size->W'.heap[k]?=W.heap[k]?):DW sb A w W':=by
 have hl:=h.low;refine⟨?_,⟨e1.trans h.kp.os,e2.trans h.kp.tape,e3.trans h.kp.output,avK h.kp.size hz,fun k z hn=>?_⟩,hl⟩
 ·have aiO:=kk;exact ab2
 ·rw[avs]at z;exact(I k O).trans<|h.kp.block k aaV hn
theorem DW.grown {row:Option Nat}(h:DW sb A w W)(hg:W.grownBy W' row)(hr:∀k,row=some k->w.heap.size<k):DW sb A w W':=
 h.any hg.os hg.tape hg.output hg.size (fun k z=>hg.block k aaS fun e=>by have:=hr k e.symm;omega)
def cN (Ts:Nat->Nd)(us:Nat->Value):Nat->List Value
 |0=>[]
 |j+1=>cN Ts us j++[.int .i64 (Ts j).y,.int .i64 (Ts j).E,.string (Ts j).z,us j]
theorem gy (Ts:Nat->Nd)(us:Nat->Value):∀j,(cN Ts us j).length=j*4
 |0=>rfl
 |j+1=>by simp only[cN,avu,gy Ts us j,length_cons,length_nil];omega
theorem kL (Ts:Nat->Nd)(us:Nat->Value):∀{n i:Nat},i<n->(cN Ts us n)[i*4]?=some (.int .i64 (Ts i).y)/\(cN Ts us n)[i*4+1]?=some (.int .i64 (Ts i).E)/\(cN Ts us n)[i*4+2]?=some (.string (Ts i).z)/\(cN Ts us n)[i*4+3]?=some (us i)
 |n+1,i,h=>by
  have hl:=gy Ts us n
  simp only[cN]
  by_cases e:i<n
  ·obtain⟨h0,h1,h2,h3⟩:=kL Ts us e
   rw[avU O,avU O,avU O,avU O]
   exact⟨h0,h1,h2,h3⟩
  ·obtain rfl:i=n:=O
   rw[avO O,avO O,avO O,avO O,hl]
   refine⟨?_,?_,?_,?_⟩
   ·rw[show i*4-i*4=0 by omega];rfl
   ·rw[show i*4+1-i*4=1 by omega];rfl
   ·rw[show i*4+2-i*4=2 by omega];rfl
   ·rw[show i*4+3-i*4=3 by omega];rfl
def oY {α:Type}(f:Nat->α)(j:Nat)(x:α):Nat->α:=fun i=>if i=j then x else f i
theorem dc {α:Type}(f:Nat->α)(j:Nat)(x:α):oY f j x j=x:=avA rfl
theorem dF {α:Type}(f:Nat->α)(x:α)(h:i≠j):oY f j x i=f i:=avo h
theorem ya (Ts:Nat->Nd)(us:Nat->Value)(T:Nd)(u:Value):∀{j k:Nat},j<=k->cN (oY Ts k T) (oY us k u) j=cN Ts us j
 |0,_,_=>rfl
 |j+1,k,h=>by simp only[cN];rw[ya Ts us T u (show j<=k by omega),dF _ _ (show j≠k by omega),dF _ _<|show j≠k by omega]
theorem DZ (Ts:Nat->Nd)(us:Nat->Value)(T:Nd)(u:Value)(j:Nat):cN (oY Ts j T) (oY us j u) (j+1)=cN Ts us j++[.int .i64 T.y,.int .i64 T.E,.string T.z,u]:=by simp only[cN];rw[ya Ts us T u<|avF j,dc,dc]
structure Gw (B:Nat)(Ts:Nat->Nd)(us:Nat->Value)(s e:Nat->Nat)(j:Nat)(v:Value)(w:World):Prop where
 own:w.ownsRow B 25 4 v j (cN Ts us j)
 a7:∀i,i<j->Row (s i) (e i) w (Ts i) (us i)/\B<=s i/\s i<=e i/\e i<=w.heap.size
 apart:∀i,i<j->∀g,v.ownBlock=some g->g<s i\/e i<=g
theorem Gw.start (Ts:Nat->Nd)(us:Nat->Value)(s e:Nat->Nat)(h:w.ownsRow B 25 4 v 0 []):Gw B Ts us s e 0 v w:=
 ⟨h,fun i hi=>absurd hi<|avJ _,fun i hi=>absurd hi<|avJ _⟩
theorem Gw.keep {s:Nat->Nat}(h:Gw B Ts us s e j v w)(hz:w.heap.size<=w'.heap.size)(z:∀k,k<w.heap.size->B<=k->(v.ownBlock=some k\/∃i,i<j/\s i<=k/\k<e i)->w'.heap[k]?=w.heap[k]?):Gw B Ts us s e j v w':=by refine⟨qA h.own fun k ig=>z k (h.own.lt k ig).2 (h.own.lt k ig).1<|.inl ig,fun i hi=>?_,h.apart⟩;obtain⟨k1,k2,k3,k4⟩:=h.a7 i hi;exact⟨cL lr lr (fun g o h1 h2=>avt (a:=⟨g,o,none⟩)<|z g O O<|.inr ⟨i,hi,h1,h2⟩) k1,k2,k3,O⟩
theorem Gw.kp {s:Nat->Nat}(h:Gw B Ts us s e j v w)(hs:sb<B)(z:Kp sb w w'):Gw B Ts us s e j v w':=
 h.keep z.size fun k h1 h2 _=>z.block k h1 O
theorem Gw.calm {s:Nat->Nat}(h:Gw B Ts us s e j v w)(I:Below w.heap.size w w'):Gw B Ts us s e j v w':=
 h.keep I.size fun k h1 _ _=>I.block k h1
theorem Gw.put {o:Nat}{s:Nat->Nat}(h:Gw B Ts us s e j v w)(h1:v.ownBlock≠some b)(h2:∀i,i<j->b<s i\/e i<=b):Gw B Ts us s e j v (w.setCell ⟨b,o,none⟩ x):=
  h.keep aaU fun k _ _ hh=>avz _ _ _ _ (by
    show k≠b
    rintro rfl
    rcases hh with hh|⟨i,hi,a,c⟩
    · exact h1 hh
    · have:=h2 i hi;omega)
theorem Gw.other {s:Nat->Nat}{row:Option Nat}(h:Gw B Ts us s e j v w)(hg:w.grownBy w' row)(h1:∀k,row=some k->v.ownBlock≠some k/\∀i,i<j->k<s i\/e i<=k):Gw B Ts us s e j v w':=
  h.keep hg.size fun k z _ hh=>hg.block k z (fun er=>by
    obtain⟨a,b⟩:=h1 k er.symm
    rcases hh with hh|⟨i,hi,c,d⟩
    · exact a hh
    · have:=b i hi;omega)
theorem Gw.step {s:Nat->Nat}{v':Value}{w2 w3:World}(h:Gw B Ts us s e j v w2)(ht:Row lo hi w2 T u)(hl:B<=lo)(Qb:lo<=hi)(hh:hi<=w2.heap.size)(bQ:∀g,v.ownBlock=some g->g<lo\/hi<=g)
  (dd:w3.ownsRow B 25 4 v' (j+1) (cN Ts us j++[.int .i64 T.y,.int .i64 T.E,.string T.z,u])) (aQ:w2.grownBy w3 v.ownBlock) (fs:v'.ownBlock=v.ownBlock\/∃k,v'.ownBlock=some k/\w2.heap.size<=k):
  Gw B (oY Ts j T) (oY us j u) (oY s j lo) (oY e j hi) (j+1) v' w3:=by
 have hz:=aQ.size;refine⟨by rw[DZ];exact dd,fun i ir=>?_,fun i ir g hg=>?_⟩
 ·by_cases lh:i=j
  ·subst lh;rw[dc,dc,dc,dc];refine⟨cL lr lr (fun g o h1 h2=>avt (a:=⟨g,o,none⟩)<|aQ.block g O fun er=>by have:=bQ g er.symm;omega) ht,hl,Qb,O⟩
  ·rw[dF _ _ lh,dF _ _ lh,dF _ _ lh,dF _ _ lh];obtain⟨k1,k2,k3,k4⟩:=h.a7 i O;exact⟨cL lr lr (fun g o h1 h2=>avt (a:=⟨g,o,none⟩)<|aQ.block g O fun er=>by have:=h.apart i O g er.symm;omega) k1,k2,k3,O⟩
 ·by_cases lh:i=j
  ·subst lh;rw[dc,dc];rcases fs with Hv|⟨k,z,Ti⟩
   ·exact bQ g<|Hv▸hg
   ·rw[z]at hg;obtain rfl:=avq hg;omega
  ·rw[dF _ _ lh,dF _ _ lh];obtain⟨k1,k2,k3,k4⟩:=h.a7 i O;rcases fs with Hv|⟨k,z,Ti⟩
   ·exact h.apart i O g<|Hv▸hg
   ·rw[z]at hg;obtain rfl:=avq hg;omega
theorem Gw.shape {s:Nat->Nat}(h:Gw B Ts us s e j v w):∃a c,v=.slice a j c:=by
 rcases h.own.2 with⟨rfl,e0⟩|⟨g,cap,cur,rfl,_⟩
 ·exact⟨none,0,by rw[e0]⟩
 ·exact⟨_,_,rfl⟩
theorem Gw.row {s:Nat->Nat}(h:Gw B Ts us s e j v w)(fT:lo<=B)(k n:Int)(nm:ByteArray):Row lo w.heap.size w (.mk k n nm j Ts) v:=by
 have dd:=h.own;rcases h.own.2 with⟨rfl,e0⟩|⟨g,cap,cur,rfl,h2,h3,h4,h5,h6⟩
 ·exact ar.2 ⟨none,0,by rw[show(Nd.mk k n nm j Ts).q=j from rfl,e0],by show j<=0/\_;omega,.inl e0⟩
 ·unfold maxLen at h5;refine ar.2 ⟨_,cap,rfl,⟨h4,O⟩,.inr ⟨g,0,rfl,O,(avp.1 h3).1,fun i hi=>?_⟩⟩;obtain⟨k1,k2,k3,k4⟩:=h.a7 i hi;obtain⟨f0,f1,f2,f3⟩:=kL Ts us<|show i<j from hi;have hc:=fun o(u:Value)(hu:(cN Ts us j)[o]?=some u)=>(nY g o▸dd.cells (g:=g) rfl o u hu:w.cell? ⟨g,o,none⟩=some u);rw[Nat.zero_add];exact⟨us i,hc _ _ f0,hc _ _ f1,hc _ _ f2,hc _ _ f3,aY k1 O k4⟩
def fN (f:Nat->ByteArray×Int×Int):Nat->List Value
 |0=>[]
 |j+1=>fN f j++[.string (f j).1,.int .i64 (f j).2.1,.int .i64 (f j).2.2]
theorem mE (f:Nat->ByteArray×Int×Int):∀j,(fN f j).length=j*3
 |0=>rfl
 |j+1=>by simp only[fN,avu,mE f j,length_cons,length_nil];omega
theorem rG (f:Nat->ByteArray×Int×Int):∀{n i:Nat},i<n->(fN f n)[i*3]?=some (.string (f i).1)/\(fN f n)[i*3+1]?=some (.int .i64 (f i).2.1)/\(fN f n)[i*3+2]?=some (.int .i64 (f i).2.2)
 |n+1,i,h=>by
  have hl:=mE f n
  simp only[fN]
  by_cases e:i<n
  ·obtain⟨h0,h1,h2⟩:=rG f e
   rw[avU O,avU O,avU O]
   exact⟨h0,h1,h2⟩
  ·obtain rfl:i=n:=O
   rw[avO O,avO O,avO O,hl]
   refine⟨?_,?_,?_⟩
   ·rw[show i*3-i*3=0 by omega];rfl
   ·rw[show i*3+1-i*3=1 by omega];rfl
   ·rw[show i*3+2-i*3=2 by omega];rfl
theorem uR (f:Nat->ByteArray×Int×Int):∀{n j:Nat}{u:Value},(fN f n)[j]?=some u->∃i,i<n/\((j=i*3/\u=.string (f i).1)\/(j=i*3+1/\u=.int .i64 (f i).2.1)\/(j=i*3+2/\u=.int .i64 (f i).2.2)):=by
 intro n j u h;have hl:=mE f n;have hj:j<n*3:=by rw[<-hl];exact(awu.1 h).1
 refine⟨j/ 3,O,?_⟩;obtain⟨h0,h1,h2⟩:=rG f (show j/ 3<n by omega);rcases(O:j=j/ 3*3\/j=j/ 3*3+1\/j=j/ 3*3+2)with e|e|e
 ·left;rw[<-e,h]at h0;exact⟨e,avq h0⟩
 ·right;left;rw[<-e,h]at h1;exact⟨e,avq h1⟩
 ·right;right;rw[<-e,h]at h2;exact⟨e,avq h2⟩
def Sv (B n:Nat)(v:Value)(w:World):Prop:=∃f:Nat->ByteArray×Int×Int,w.ownsRow B 94 3 v n (fN f n)/\∀i,i<n->aK (f i).1=true
theorem Sv.lt (h:Sv B n v w):∀k,v.ownBlock=some k->B<=k/\k<w.heap.size:=by obtain⟨f,h,_⟩:=h;exact h.lt
theorem Sv.keep (h:Sv B n v w)(z:∀k,v.ownBlock=some k->w'.heap[k]?=w.heap[k]?):Sv B n v w':=by obtain⟨f,h1,h2⟩:=h;exact⟨f,qA h1 z,h2⟩
theorem Sv.kp (h:Sv B n v w)(hs:sb<B)(z:Kp sb w w'):Sv B n v w':=h.keep fun k h1=>z.block k (h.lt k h1).2 (by have:=(h.lt k h1).1;omega)
theorem Sv.calm (h:Sv B n v w)(I:Below w.heap.size w w'):Sv B n v w':=h.keep fun k h1=>I.block k (h.lt k h1).2
theorem Sv.shape (h:Sv B n v w):∃a c,v=.slice a n c:=by
 obtain⟨f,h,_⟩:=h
 rcases h.2 with⟨rfl,e0⟩|⟨g,cap,cur,rfl,_⟩
 ·exact⟨none,0,by rw[e0]⟩
 ·exact⟨_,_,rfl⟩
theorem Sv.dd {sb B n:Nat}{v:Value}{w:World}(h:Sv B n v w)(hs:sb<B)(hn:n<=1048576):Scp sb w v n:=by
 obtain⟨f,h,cm⟩:=h
 have dd:=h
 rcases h.2 with⟨rfl,e0⟩|⟨g,cap,cur,rfl,h2,h3,h4,h5,h6⟩
 ·exact⟨none,0,by rw[e0],O,hn,.inl e0⟩
 ·unfold maxLen at h5;refine⟨_,cap,rfl,⟨h4,O⟩,hn,.inr ⟨g,0,rfl,O,(avp.1 h3).1,fun i hi=>?_⟩⟩;obtain⟨f0,f1,f2⟩:=rG f hi;have hc:=fun o(u:Value)(hu:(fN f n)[o]?=some u)=>(nY g o▸dd.cells (g:=g) rfl o u hu:w.cell? ⟨g,o,none⟩=some u);simp only[Nat.zero_add];exact⟨_,_,_,cm i hi,hc _ _ f0,hc _ _ f1,hc _ _ f2⟩
theorem y8 :(prog.info? 94).map (fun i=>(i.zero,i.size,i.bytes))=some (some<|.agg #[.string ⟨#[]⟩,.int .i64 0,.int .i64 0],3,32):=by kernel_rfl
theorem rM (h:Scp sb W v n)(hB:B<=W.heap.size):
    ∃v' W',(∀ty,(Builtin.append_ #[69,69] ty #[.slice (some ⟨W.heap.size,0,none⟩) 0 0,v]).run prog (W.alloc<|.cells #[] 94)=.ok v' W')/\Sv B n v' W'/\Below W.heap.size W W':=by
  obtain⟨i0,nB,mT,eu,ed⟩:=av0 y8;have Bq:=World.ownsRow_made (base:=B) (e:=94) (size:=3) W #[] 0 hB aaj M;have bM:=bO W<|.cells #[] 94;obtain⟨a,cap,rfl,bo,hn6,hq⟩:=h
  by_cases h0:n=0
  · subst h0;have hs:Go.Src prog i0.size 69 (.slice a 0 cap) 0 [] (W.alloc<|.cells #[] 94):=by
      cases a with
      | none=>exact Go.Src.ofNil _ underlying69 cap
      | some ad=>exact Go.Src.ofSlice _ underlying69 ad 0 cap [] M (fun j u hj=>by simp at hj) (fun u hu=>by cases hu)
    exact⟨_,_,fun ty=>run_append_nothing (P:=prog) _ 69 69 ty 94 i0 underlying69 nB _ 0 0 lr _ hs,⟨fun _=>(⟨#[]⟩,0,0),Bq,fun i hi=>absurd hi<|avJ _⟩,bM⟩
  · rcases hq with e|⟨g,off,rfl,hg,hl,hh⟩
    · exact absurd e h0
    have hin:Inhabited (ByteArray×Int×Int):=⟨(⟨#[]⟩,0,0)⟩;obtain⟨f,hf⟩:=Go.Deep.choose_lt (p:=fun i(x:ByteArray×Int×Int)=>aK x.1=true/\W.cell? ⟨g,off+i*3,none⟩=some (.string x.1)/\W.cell? ⟨g,off+i*3+1,none⟩=some (.int .i64 x.2.1)/\W.cell? ⟨g,off+i*3+2,none⟩=some (.int .i64 x.2.2)) (n:=n) (fun i hi=>by
      obtain⟨s,t,d,h1,h2,h3,h4⟩:=hh i hi;exact⟨(s,t,d),h1,h2,h3,h4⟩)
    have hc:=fun o=>(bO W<|.cells #[] 94).cell (p:=⟨g,o,none⟩) hl;have kH:∀j u,(fN f n)[j]?=some u->(W.alloc<|.cells #[] 94).cell? ((⟨g,off,none⟩:Addr).add j)=some u:=by
      intro j u hj;obtain⟨i,hi,hx⟩:=uR f hj;obtain⟨_,c0,c1,c2⟩:=hf i hi;rw[Addr.add_lit];rcases hx with⟨rfl,rfl⟩|⟨rfl,rfl⟩|⟨rfl,rfl⟩
      · exact(hc _).trans c0
      · rw[<-av9];exact(hc _).trans c1
      · rw[<-av9];exact(hc _).trans c2
    have h1:∀u∈fN f n,u.oneCell'=true:=by
      intro u hu;obtain⟨j,hj⟩:=List.getElem?_of_mem hu;obtain⟨i,hi,hx⟩:=uR f hj;rcases hx with⟨_,rfl⟩|⟨_,rfl⟩|⟨_,rfl⟩<;>rfl
    obtain⟨v',W',hr,dd,aQ,_⟩:=gQ (P:=prog) (W.alloc<|.cells #[] 94) B 69 69 94 i0 _ 3 32 underlying69 nB mT eu ed rfl J _ 0 [] Bq ⟨g,off,none⟩ n cap (fN f n) (mE f n) kH h1 aaj O aah;refine⟨v',W',fun ty=>?_,⟨f,by simpa using dd,fun i hi=>(hf i hi).1⟩,bM.grown aQ M fun k z=>by simp[Value.ownBlock]at z;omega⟩;exact hr
theorem Ik (f:Nat):∀n,∀b∈bS f n,cG b.toNat=true:=by
 have hd:∀k:Nat,k<10->cG ((UInt8.ofNat<|48+k).toNat:Int)=true:=by
  intro k z;rcases(O:k=0\/k=1\/k=2\/k=3\/k=4\/k=5\/k=6\/k=7\/k=8\/k=9)with rfl|rfl|rfl|rfl|rfl|rfl|rfl|rfl|rfl|rfl<;>decide
 induction f with
 |zero=>intro n b I;simp[bS]at I
 |succ f ih=>
  intro n b I;unfold bS at I;split at I
  ·rename_i h;obtain rfl:b=UInt8.ofNat (48+n):=by simpa using I
   exact hd n h
  ·rcases awb.1 I with I|I
   ·exact ih _ b I
   ·obtain rfl:b=UInt8.ofNat (48+n% 10):=by simpa using I
    exact hd _<|awA _ O
theorem mH (f:Nat):∀n,(bS f n).length<=f:=by
 induction f with
 |zero=>intro n;simp[bS]
 |succ f ih=>
  intro n;unfold bS;split
  ·simp
  ·have:=ih<|n/ 10;simp;omega
theorem xg (l:List UInt8):(cP l).data.toList=l:=by simp[cP]
theorem ov (l:List UInt8):(cP l).size=l.length:=by simp[cP,ByteArray.size]
theorem KV (c:UInt8)(hc:bZ (c.toNat:Int)=true)(z:∀t∈bd,t.data.toList.headD 0≠c)(n:Nat):aK (cP<|c::bS 20 n)=true:=by
 have hl:=mH 20 n;unfold aK dE;rw[xg,ov];simp only[headD_cons,length_cons,avw,avy,awN];refine⟨⟨⟨O,O⟩,hc,?_⟩,?_⟩
 ·refine nk (fun b I=>?_) M (fun h=>by simp at h);rcases avZ.1 (mem_of_mem_take I)with rfl|I
  ·unfold cG;rw[hc];rfl
  ·exact Ik 20 n b I
 ·rw[Bool.eq_false_iff];intro h;have:=z _<|(eK _ _).1 h;rw[xg]at this;exact this rfl
theorem Vj (n:Nat):aK ((⟨#[118]⟩:ByteArray)++cP (bS 20 n))=true/\((⟨#[118]⟩:ByteArray)++cP (bS 20 n)).size<=40:=by
 have e:(⟨#[118]⟩:ByteArray)++cP (bS 20 n)=cP (118::bS 20 n):=by
  have:=rW [118] (bS 20 n);simpa[cP]using this
 rw[e];refine⟨KV 118 J J n,?_⟩;have:=mH 20 n;rw[ov];simp;omega
theorem eo (w:World){rest:List Oper}(NT:o.guard=none)(sl x:Operand)(t:TypeId)
  (ho:o.op=.call {callee:=.builtin .append,args:=#[sl,x],argTypes:=#[t,t]}) (v xv v':Value) (w':World) (hs:a.eval sl=v) (hx:a.eval x=xv) (hr:∀ty,(Builtin.append_ #[t,t] ty #[v,xv]).run P w=.ok v' w')
  (h:wpList P ops Q rest (a.put o.dst v') w'):wpList P ops Q (o::rest) a w:=by
 refine wpList_plain NT fun K hK=>?_;unfold Oper.wp execOp;simp only[ho,resolve,invoke,builtin,awr,Sem.run_pure,awR,awS,awD,awP,hs,hx,hr];exact hK _ _ h
def Nd.nm (T:Nd)(s:ByteArray):Nd:=.mk T.y T.E s T.q T.f
theorem Nd.df {s:ByteArray}(h:Row lo hi w T v):Row lo hi w (T.nm s) v:=(ar (T:=T.nm s)).2<|(ar (T:=T)).1 h
theorem Nd.da (T:Nd)(s:ByteArray):(T.nm s).cost<=T.cost+s.size:=by rw[T.bJ,(T.nm s).bJ];show s.size+(T.q+aq (fun i=>(T.f i).cost) T.q)<=_;omega
theorem Nd.c9 {s:ByteArray}(h:T.R)(z:-9223372036854775808<=T.y/\T.y<=9223372036854775807)(hn:-9223372036854775808<=T.E/\T.E<=9223372036854775807)(hs:s.size<=9223372036854775807):(T.nm s).R:=
 ⟨z,hn,hs,Nd.I h,fun i hi=>Nd.aa h hi⟩
theorem Nd.bM (h:T.R):(-9223372036854775808<=T.y/\T.y<=9223372036854775807)/\(-9223372036854775808<=T.E/\T.E<=9223372036854775807):=by
 cases T with
 |nil=>exact⟨by simp[Nd.y],by simp[Nd.E]⟩
 |mk=>exact⟨h.1,h.2.1⟩
theorem Pl (h:T.U=true)(z:T.y=5):T.q=1/\aK T.z=true:=by rw[aM,z]at h;simp[aL,aG,ByteArray.size]at h;exact⟨h.2.1,h.1.1.2⟩
theorem UX {s:ByteArray}(h:T.U=true)(z:T.y=5)(hs:aK s=true):(T.nm s).U=true:=by
 have bY:=yV hs;rw[aM,z]at h;rw[aM];show aL T.y T.E s T.q (fun i=>(T.f i).Q) (fun i=>(T.f i).U) (fun i=>(T.f i).aH) (T.nm s).kk=true;have Tj:(T.nm s).kk=T.kk:=by funext i;cases T<;>rfl
 rw[Tj,z];simp only[aL]at h⊢;simp_all
theorem Nd.di {s:ByteArray}(hT:T.ak<=h):(T.nm s).ak<=h:=by cases T<;>exact hT
theorem xo (h:∀i,i<m->(Ts i).U=true):(Nd.mk 4 0 ⟨#[]⟩ m Ts).U=true:=by rw[aM];show aL 4 0 ⟨#[]⟩ m (fun i=>(Ts i).Q) (fun i=>(Ts i).U) (fun i=>(Ts i).aH) _=true;simp only[aL,if_true];rw[eZ h];simp[ao]
theorem CU {f:Nat->Nat}{C:Nat}:∀{m:Nat},(∀i,i<m->f i<=C)->aq f m<=m*C
 |0,_=>by simp[aq]
 |m+1,h=>by
  have h1:=CU (m:=m) (C:=C) (f:=f) fun i hi=>h i O
  have h2:=h m<|awm _
  simp only[aq]
  rw[awU]
  omega
theorem D7 (h:∀i,i<m->(Ts i).cost<=C):(Nd.mk 4 0 ⟨#[]⟩ m Ts).cost<=m*(C+1):=by show(ByteArray.size ⟨#[]⟩)+(m+aq (fun i=>(Ts i).cost) m)<=_;have:=CU (m:=m) (f:=fun i=>(Ts i).cost) h;have e:ByteArray.size ⟨#[]⟩=0:=J;rw[e,Nat.mul_add];omega
section
open Go
def Sy (ops:Array Oper)(listed:Array Bool):Nat:=(List.range ops.size).countP fun i=> !listed.getD i true
theorem bx (h:i∈Region.ready md ops listed):i<ops.size/\listed.getD i true=false:=by unfold Region.ready at h;simp only[mem_filter,avG,avw,awN]at h;exact⟨h.1,h.2.1⟩
theorem Ol (h:i∈Region.ready md ops listed):0<Sy ops listed:=by obtain⟨h1,h2⟩:=bx h;unfold Sy;rw[countP_pos_iff];exact⟨i,avG.2 h1,by simp[h2]⟩
theorem Oj (h:i∈Region.ready md ops listed):Sy ops (listed.setIfInBounds i true)<Sy ops listed:=by
 obtain⟨h1,h2⟩:=bx h;have be:i<listed.size:=by
  rcases awZ i listed.size with h|h
  ·exact h
  ·rw[avC,awL h]at h2;simp at h2
 unfold Sy;have hle:∀j,(!(listed.setIfInBounds i true).getD j true)=true->(!listed.getD j true)=true:=by
  intro j hj;rw[avC,avW]at hj;split at hj
  ·rename_i e;simp at hj
  ·rw[avC];exact hj
 have hi:(!(listed.setIfInBounds i true).getD i true)=false:=by
  rw[avC,avW];simp[be]
 have ir:(!listed.getD i true)=true:=by simp[h2]
 have P9:i∈List.range ops.size:=avG.2 h1;revert P9;generalize List.range ops.size=l;intro P9;induction l with
 |nil=>cases P9
 |cons x l ih=>
  have hmono:=countP_mono_left (l:=l) fun j _ hj=>hle j hj;simp only[countP_cons];rcases avZ.1 P9 with e|hm
  ·subst e;rw[hi,ir];simp only[awH,if_false,if_true];omega
  ·have:=ih hm;have hx:=hle x;by_cases I:(!(listed.setIfInBounds i true).getD x true)=true
   ·rw[avA I,avA<|hx I];omega
   ·rw[avo I];omega
theorem wT (axb:Array Bool->Act->World->Prop)
  (Bg:∀(listed:Array Bool)(a:Act)(w:World)(i:Nat),axb listed a w->i∈Region.ready md ops listed->wpOp P ops Q i (fun a' w'=>axb (listed.setIfInBounds i true) a' w') a w)
  (mU:∀(listed:Array Bool)(a:Act)(w:World),axb listed a w->Region.ready md ops listed=[]->Q .normal a w):
  ∀(fuel:Nat)(listed:Array Bool)(a:Act)(w:World),Sy ops listed<=fuel->axb listed a w->wpAny P md ops Q fuel listed a w:=by
 intro fuel;induction fuel with
 |zero=>
  intro listed a w hu hI;have hr:Region.ready md ops listed=[]:=by
   cases h:Region.ready md ops listed with
   |nil=>rfl
   |cons i l=>have:=Ol (show i∈Region.ready md ops listed by rw[h];simp);omega
  exact⟨hr,mU _ _ _ hI hr⟩
 |succ fuel ih=>
  intro listed a w hu hI;refine⟨fun hr=>mU _ _ _ hI hr,fun i hi=>?_⟩;refine wpOp_mono (fun a' w' h=>ih _ a' w' ?_ h)<|Bg listed a w i hI hi;have:=Oj hi;omega
end
section
open Go Go.RowKit
def early (ops:Array Oper):Bool:=(List.range ops.size).all fun i=>match ops[i]?with|some o=>o.after.all fun e=> !Region.binds .any e||decide (e.on<i)|none=>true
theorem pY (he:early ops=true)(hs:listed.size=ops.size)(hr:Region.ready .any ops listed=[]):∀i,i<ops.size->listed.getD i true=true:=by
 intro i;induction i using Nat.strongRecOn with
 |ind i ih=>
  intro hi;cases I:listed.getD i true with
  |true=>rfl
  |false=>
   exfalso;have hm:i∈Region.ready .any ops listed:=by
    unfold Region.ready;rw[mem_filter];refine⟨avG.2 hi,?_⟩;have ho:ops[i]?=some ops[i]:=awx hi;rw[I,ho];simp only[Bool.not_false,Bool.true_and,Option.map_some,awy,Array.all_eq_true'];intro e hee;have h1:=avE.1 he i<|avG.2 hi;rw[ho]at h1;have h2:=Array.all_eq_true'.1 h1 e hee;cases Hy:Region.binds .any e with
    |false=>simp
    |true=>
     rw[Hy]at h2;have NY:e.on<i:=by simpa using h2
     have h3:=ih e.on NY O;have h4:listed.getD e.on false=true:=by
      have hl:e.on<listed.size:=O;rw[avC,awx hl]at h3⊢;exact h3
     rw[h4,Bool.or_true]
   rw[hr]at hm;cases hm
theorem xp (h:i∈Region.ready md ops listed)(ho:ops[i]?=some o):∀e∈o.after,Region.binds md e=true->listed.getD e.on false=true:=by unfold Region.ready at h;simp only[mem_filter,ho,Option.map_some,awy,avw,Array.all_eq_true']at h;intro e he I;have:=h.2.2 e he;rw[I]at this;simpa using this
theorem gT (h:i∈Region.ready md ops l):Hid (∀o,ops[i]?=some o->∀e∈o.after,Region.binds md e=true->l.getD e.on false=true):=fun _ ho=>xp h ho
theorem ag {Q:Nat->Prop}(V:Hid (∀j,j<n->l.getD j false=true->Q j))(D:Hid (∀o,ops[i]?=some o->∀e∈o.after,Region.binds md e=true->l.getD e.on false=true))(j:Nat)(h:ops[i]?=some o)(h1:j<n:=by omega)(h2:(⟨j,Ground.data⟩:Edge)∈o.after:=by simp)(h3:Region.binds md ⟨j,Ground.data⟩=true:=by rfl):Q j:=V.o j h1<|D.o o h ⟨j,Ground.data⟩ h2 h3
theorem bL (h:i≠j)(b:Bool):(l.setIfInBounds i true).getD j b=l.getD j b:=by rw[avC,avW,avo h,avC]
theorem gM (h:i<l.size):(l.setIfInBounds i true).getD i false=true:=by rw[avC,avW,avA rfl,avA h];rfl
theorem tp (h:l.getD j false=true):l.getD j true=true:=by exact abZ
theorem dh (h:l.getD j true=false):l.getD j false=false:=by
 rw[avC]at*
 cases e:l[j]?with
 |none=>rfl
 |some b=>rw[e]at h;simpa using h
structure Inv (n:Nat)(d:Nat->Nat)(V:Nat->World->Value->Prop)(S:Array Bool->World->Prop)(a0:Act)(listed:Array Bool)(a:Act)(w:World):Prop where
 aU:listed.size=n
 size:a.tmps.size=a0.tmps.size
 keep:∀t,(∀i,i<n->t≠d i)->a.eval (.tmp t)=a0.eval (.tmp t)
 defers:a.defers=a0.defers
 s:S listed w
 bl:∀i,i<n->listed.getD i true=true->V i w (a.eval<|.tmp<|d i)
theorem Inv.start (h:S (Array.replicate n false) w):Inv n d V S a0 (Array.replicate n false) a0 w:=
 ⟨M,rfl,fun _ _=>rfl,rfl,h,fun i hi hl=>by rw[avC,aw8,avA hi]at hl;simp at hl⟩
theorem Inv.c7 (h:Inv n d V S a0 listed a w)(hd:∀i j,i<n->j<n->d i=d j->i=j)
  (cg:d i<a0.tmps.size) (hV:∀i v,V i w v->V i w' v) (hS:S (listed.setIfInBounds i true) w') (hi:i<n) (hv:V i w' v):Inv n d V S a0 (listed.setIfInBounds i true) (a.put (some<|d i) v) w':=by
 have Bj:∀t,(a.put (some<|d i) v).eval (.tmp t)=if t=d i then v else a.eval (.tmp t):=by
  exact abU
 refine⟨by simp[h.aU],by show(a.tmps.setIfInBounds (d i) v).size=_;rw[aw7];exact h.size,fun t ht=>?_,h.defers,hS,fun j hj hl=>?_⟩
 ·rw[Bj,avo<|ht i hi];exact h.keep t ht
 ·rw[Bj];by_cases e:d j=d i
  ·rw[avA e];rw[hd j i hj hi e];exact hv
  ·rw[avo e];refine hV j _<|h.bl j hj ?_;have bY:¬i=j:=fun x=>e (by rw[x]);rw[avC,avW,avo bY]at hl;rw[avC];exact hl
theorem Inv.put (h:Inv n d V S a0 listed a w)(hd:∀i j,i<n->j<n->d i=d j->i=j)(cg:∀i,i<n->d i<a0.tmps.size)
  (hV:∀i v,V i w v->V i w' v) (hS:S (listed.setIfInBounds i true) w') (hi:i<n) (hv:V i w' v):Inv n d V S a0 (listed.setIfInBounds i true) (a.put (some<|d i) v) w':=
 h.c7 hd (cg i hi) hV hS hi hv
theorem Inv.none (h:Inv n d V S a0 listed a w)
  (hV:∀i v,V i w v->V i w' v) (hS:S (listed.setIfInBounds i true) w') (hi:i<n) (hv:∀v,V i w' v):Inv n d V S a0 (listed.setIfInBounds i true) a w':=by
 refine⟨by simp[h.aU],h.size,h.keep,h.defers,hS,fun j hj hl=>?_⟩;by_cases e:i=j
 ·subst e;exact hv _
 ·refine hV j _<|h.bl j hj ?_;rw[avC,avW,avo e]at hl;rw[avC];exact hl
theorem ae {t:Nat}(h:a.eval (.tmp t)=v):a.tmps[t]?.getD undef=v:=by
 have:a.tmps.getD t undef=v:=h
 rwa[avC]at this
def jV (a0:Act)(d:Nat->Nat)(f:Nat->Value):Nat->Act
 |0=>a0
 |n+1=>(jV a0 d f n).put (some<|d n)<|f n
theorem xq (a0 a:Act)(d:Nat->Nat)(hs:a.tmps.size=a0.tmps.size):∀n,(jV a0 d (fun i=>a.eval<|.tmp<|d i) n).tmps.size=a0.tmps.size/\(jV a0 d (fun i=>a.eval<|.tmp<|d i) n).defers=a0.defers/\
  ∀t,t<a0.tmps.size->((∃i,i<n/\d i=t)->(jV a0 d (fun i=>a.eval<|.tmp<|d i) n).eval (.tmp t)=a.eval (.tmp t))/\((∀i,i<n->d i≠t)->(jV a0 d (fun i=>a.eval<|.tmp<|d i) n).eval (.tmp t)=a0.eval (.tmp t))
 |0=>⟨rfl,rfl,fun t _=>⟨fun⟨i,hi,_⟩=>absurd hi<|avJ _,fun _=>rfl⟩⟩
 |n+1=>by
  obtain⟨h1,h2,h3⟩:=xq a0 a d hs n
  have Bj:∀t,t<a0.tmps.size->(jV a0 d (fun i=>a.eval<|.tmp<|d i)<|n+1).eval (.tmp t)=if t=d n then a.eval (.tmp<|d n)else(jV a0 d (fun i=>a.eval<|.tmp<|d i) n).eval (.tmp t):=by
   intro t ht;show((jV a0 d (fun i=>a.eval<|.tmp<|d i) n).tmps.setIfInBounds (d n)<|a.eval<|.tmp<|d n).getD t undef=_;rw[avC,avW];by_cases e:d n=t
   ·subst e;rw[avA rfl,avA rfl,avA (by rw[h1];exact ht)];rfl
   ·rw[avo e,avo fun x=>e x.symm];show _=(jV a0 d (fun i=>a.eval<|.tmp<|d i) n).tmps.getD t undef;rw[avC]
  refine⟨?_,h2,fun t ht=>⟨fun⟨i,hi,e⟩=>?_,fun CB=>?_⟩⟩
  ·show((jV a0 d (fun i=>a.eval<|.tmp<|d i) n).tmps.setIfInBounds (d n) _).size=_;rw[aw7];exact h1
  ·rw[Bj t ht];by_cases e2:t=d n
   ·rw[avA e2,e2]
   ·rw[avo e2];refine(h3 t ht).1 ⟨i,?_,e⟩;rcases awZ i n with h|h
    ·exact h
    ·have:i=n:=O;subst this;exact absurd e.symm e2
  ·rw[Bj t ht,avo fun e=>CB n (awm n) e.symm];exact(h3 t ht).2 fun i hi=>CB i O
theorem gh (hs:a.tmps.size=a0.tmps.size)(hd:a.defers=a0.defers)(z:∀t,(∀i,i<n->t≠d i)->a.eval (.tmp t)=a0.eval (.tmp t)):a=jV a0 d (fun i=>a.eval<|.tmp<|d i) n:=by
 obtain⟨h1,h2,h3⟩:=xq a0 a d hs n;have hev:∀t,t<a0.tmps.size->(jV a0 d (fun i=>a.eval<|.tmp<|d i) n).eval (.tmp t)=a.eval (.tmp t):=by
  intro t ht;by_cases e:∃i,i<n/\d i=t
  ·exact(h3 t ht).1 e
  ·rw[(h3 t ht).2 fun i hi e2=>e ⟨i,hi,e2⟩];exact(z t fun i hi e2=>e ⟨i,hi,e2.symm⟩).symm
 generalize jV a0 d (fun i=>a.eval<|.tmp<|d i) n=b at*
 obtain⟨ta,da⟩:=a;obtain⟨tb,db⟩:=b;simp only at h1 h2 hs hd hev;have ht:ta=tb:=by
  apply Array.ext O;intro i hi1 YP;have:=hev i O;simp only[Act.eval,avC,hi1,YP,awx,awy]at this;exact this.symm
 rw[ht,hd,h2]
theorem jt {id:Nat}(hm:P.follows .mixedOrders=true)(he:early ops=true)(d:Nat->Nat)(V:Nat->World->Value->Prop)(S:Array Bool->World->Prop)(hS:S (Array.replicate ops.size false) w0.drew)
  (Bg:∀(listed:Array Bool)(a:Act)(w:World)(i:Nat),Inv ops.size d V S a0 listed a w->i∈Region.ready .any ops listed->wpOp P ops Q i (fun a' w'=>Inv ops.size d V S a0 (listed.setIfInBounds i true) a' w') a w)
  (mU:∀(a:Act)(w:World),a.tmps.size=a0.tmps.size->a.defers=a0.defers->(∀t,(∀i,i<ops.size->t≠d i)->a.eval (.tmp t)=a0.eval (.tmp t))->(∃listed:Array Bool,listed.size=ops.size/\S listed w/\∀i,i<ops.size->listed.getD i true=true)->(∀i,i<ops.size->V i w (a.eval<|.tmp<|d i))->Q .normal a w):(Code.region id ops true).wp P Q a0 w0:=by
 refine wp_region_any hm ?_;refine wT (Inv ops.size d V S a0) Bg (fun listed a w hI hr=>mU a w hI.size hI.defers hI.keep ⟨listed,hI.aU,hI.s,pY he hI.aU hr⟩ fun i hi=>hI.bl i hi<|pY he hI.aU hr i hi) ops.size _ a0 _ ?_<|Inv.start hS;unfold Sy;exact avK countP_le_length M
theorem gR (hi:ops[i]?=some o)(hg:o.guard=none)(h:o.wp P a w K Q):wpOp P ops Q i K a w:=by
 unfold wpOp;rw[hi];have:Region.wanted o (yielded ops a.tmps)=true:=by simp[Region.wanted,hg]
 simp only[this,if_true];exact .inl h
end
def mY (B:Nat)(T:Nd)(w:World)(v:Value):Prop:=∃a c,v=T.val (.slice a T.q c)/\Row B w.heap.size w T (.slice a T.q c)
def cE (Ts:List Nd):Nat->Nd:=fun i=>Ts.getD i .nil
def qt (B:Nat)(Ts:List Nd)(w:World)(v:Value):Prop:=∃g,v=.slice (some ⟨g,0,none⟩) Ts.length Ts.length/\B<=g/\∃us,w.heap[g]?=some (.cells (cN (cE Ts) us Ts.length).toArray 25 (0,0))/\∀i,i<Ts.length->Row B g w (cE Ts i) (us i)
inductive Ty where
 |nd (T:Nd)
 |rw(Ts:List Nd)
def Ty.holds (B:Nat):Ty->World->Value->Prop
 |.nd T=>mY B T
 |.rw Ts=>qt B Ts
theorem KU (h:mY B T w v)(I:Below w.heap.size w w'):mY B T w' v:=by
 obtain⟨a,c,rfl,hr⟩:=h
 exact⟨a,c,rfl,aY (ah I lr hr) lr I.size⟩
theorem dZ {Ts:List Nd}(h:qt B Ts w v)(I:Below w.heap.size w w'):qt B Ts w' v:=by
 obtain⟨g,rfl,h1,us,h2,h3⟩:=h
 have hg:=(avp.1 h2).1;exact⟨g,rfl,h1,us,(I.block g hg).trans h2,fun i hi=>ah I O<|h3 i hi⟩
theorem Ty.calm {t:Ty}(h:t.holds B w v)(I:Below w.heap.size w w'):t.holds B w' v:=by
 cases t with
 |nd T=>exact KU h I
 |rw Ts=>exact dZ h I
theorem ev {Ts:List Nd}(h:qt B Ts w v)(hl:Ts.length<=1000)(k n:Int)(s:ByteArray):mY B (.mk k n s Ts.length<|cE Ts) w (.agg #[.int .i64 k,.int .i64 n,.string s,v]):=by
 obtain⟨g,rfl,h1,us,h2,h3⟩:=h
 have hg:=(avp.1 h2).1;have hc:∀o,w.cell? ⟨g,o,none⟩=(cN (cE Ts) us Ts.length).toArray[o]?:=fun o=>avS _ _ _ _ _ (0,0) h2;refine⟨_,_,rfl,jB h1 hg lr O fun i hi=>?_⟩;obtain⟨f0,f1,f2,f3⟩:=kL (cE Ts) us hi;exact⟨us i,by rw[hc];simpa using f0,by rw[hc];simpa using f1,by rw[hc];simpa using f2,by rw[hc];simpa using f3,aY (h3 i hi) lr O⟩
theorem C8 {Ts:List Nd}(h:qt B Ts w v)(hl:Ts.length<=1000):∃g us,v=.slice (some ⟨g,0,none⟩) Ts.length Ts.length/\B<=g/\g<w.heap.size/\Gw B (cE Ts) us (fun _=>B) (fun _=>g) Ts.length (.slice (some ⟨g,0,none⟩) Ts.length Ts.length) w:=by
 obtain⟨g,rfl,h1,us,h2,h3⟩:=h
 have hg:=(avp.1 h2).1;have hlen:=gy (cE Ts) us Ts.length;refine⟨g,us,rfl,h1,hg,⟨hlen,.inr ⟨g,Ts.length,_,rfl,h1,h2,avF _,by unfold maxLen;omega,by simp[hlen],by simp[<-hlen]⟩⟩,fun i hi=>⟨h3 i hi,avF _,h1,O⟩,fun i hi k z=>.inr (by simp[Value.ownBlock]at z;omega)⟩
theorem eJ (B:Nat)(w:World)(k n:Int)(s:ByteArray):mY B (aC k n s) w (.agg #[.int .i64 k,.int .i64 n,.string s,.slice none 0 0]):=⟨none,0,rfl,eQ _ _ _ _ _ _⟩
theorem rY {a:Option Addr}(hB:B<=w.heap.size)(h:Row B w.heap.size w T (.slice a T.q c)):
  qt B [T] (w.alloc<|nO T<|.slice a T.q c) (.slice (some ⟨w.heap.size,0,none⟩) 1 1):=by
 have I:=bO w<|nO T<|.slice a T.q c;refine⟨_,rfl,hB,(fun i=>if i=0 then .slice a T.q c else undef),(avv w _).trans rfl,fun i hi=>?_⟩;have YP:i<1:=by simpa using hi
 obtain rfl:i=0:=O;exact ah I lr h
theorem AH {a0:Option Addr}{c0 c1:Nat}(hB:B<=w.heap.size)(h0:Row B w.heap.size w T0 (.slice a0 T0.q c0))(h1:Row B w.heap.size w T1 (.slice a1 T1.q c1)):
  qt B [T0,T1] (w.alloc<|.cells #[.int .i64 T0.y,.int .i64 T0.E,.string T0.z,.slice a0 T0.q c0,.int .i64 T1.y,.int .i64 T1.E,.string T1.z,.slice a1 T1.q c1] 25) (.slice (some ⟨w.heap.size,0,none⟩) 2 2):=by
 have I:=bO w<|.cells #[.int .i64 T0.y,.int .i64 T0.E,.string T0.z,.slice a0 T0.q c0,.int .i64 T1.y,.int .i64 T1.E,.string T1.z,.slice a1 T1.q c1] 25;refine⟨_,rfl,hB,(fun i=>if i=0 then .slice a0 T0.q c0 else if i=1 then .slice a1 T1.q c1 else undef),(avv w _).trans rfl,fun i hi=>?_⟩;have YP:i<2:=by simpa using hi
 rcases(O:i=0\/i=1)with rfl|rfl
 ·exact ah I lr h0
 ·exact ah I lr h1
theorem Kn {a0:Option Addr}{c0 c1 c2:Nat}(hB:B<=w.heap.size)(h0:Row B w.heap.size w T0 (.slice a0 T0.q c0))(h1:Row B w.heap.size w T1 (.slice a1 T1.q c1))(h2:Row B w.heap.size w T2 (.slice a2 T2.q c2)):
  qt B [T0,T1,T2] (w.alloc<|.cells #[.int .i64 T0.y,.int .i64 T0.E,.string T0.z,.slice a0 T0.q c0,.int .i64 T1.y,.int .i64 T1.E,.string T1.z,.slice a1 T1.q c1,.int .i64 T2.y,.int .i64 T2.E,.string T2.z,.slice a2 T2.q c2] 25) (.slice (some ⟨w.heap.size,0,none⟩) 3 3):=by
 have I:=bO w<|.cells #[.int .i64 T0.y,.int .i64 T0.E,.string T0.z,.slice a0 T0.q c0,.int .i64 T1.y,.int .i64 T1.E,.string T1.z,.slice a1 T1.q c1,.int .i64 T2.y,.int .i64 T2.E,.string T2.z,.slice a2 T2.q c2] 25;refine⟨_,rfl,hB,(fun i=>if i=0 then .slice a0 T0.q c0 else if i=1 then .slice a1 T1.q c1 else if i=2 then .slice a2 T2.q c2 else undef),(avv w _).trans rfl,fun i hi=>?_⟩;have YP:i<3:=by simpa using hi
 rcases(O:i=0\/i=1\/i=2)with rfl|rfl|rfl
 ·exact ah I lr h0
 ·exact ah I lr h1
 ·exact ah I lr h2
theorem ZR {T3:Nd}{a0 a3:Option Addr}{c0 c1 c2 c3:Nat}(hB:B<=w.heap.size)(h0:Row B w.heap.size w T0 (.slice a0 T0.q c0))(h1:Row B w.heap.size w T1 (.slice a1 T1.q c1))(h2:Row B w.heap.size w T2 (.slice a2 T2.q c2))(h3:Row B w.heap.size w T3 (.slice a3 T3.q c3)):
  qt B [T0,T1,T2,T3] (w.alloc<|.cells #[.int .i64 T0.y,.int .i64 T0.E,.string T0.z,.slice a0 T0.q c0,.int .i64 T1.y,.int .i64 T1.E,.string T1.z,.slice a1 T1.q c1,.int .i64 T2.y,.int .i64 T2.E,.string T2.z,.slice a2 T2.q c2,.int .i64 T3.y,.int .i64 T3.E,.string T3.z,.slice a3 T3.q c3] 25) (.slice (some ⟨w.heap.size,0,none⟩) 4 4):=by
 have I:=bO w<|.cells #[.int .i64 T0.y,.int .i64 T0.E,.string T0.z,.slice a0 T0.q c0,.int .i64 T1.y,.int .i64 T1.E,.string T1.z,.slice a1 T1.q c1,.int .i64 T2.y,.int .i64 T2.E,.string T2.z,.slice a2 T2.q c2,.int .i64 T3.y,.int .i64 T3.E,.string T3.z,.slice a3 T3.q c3] 25;refine⟨_,rfl,hB,(fun i=>if i=0 then .slice a0 T0.q c0 else if i=1 then .slice a1 T1.q c1 else if i=2 then .slice a2 T2.q c2 else if i=3 then .slice a3 T3.q c3 else undef),(avv w _).trans rfl,fun i hi=>?_⟩;have YP:i<4:=by simpa using hi
 rcases(O:i=0\/i=1\/i=2\/i=3)with rfl|rfl|rfl|rfl
 ·exact ah I lr h0
 ·exact ah I lr h1
 ·exact ah I lr h2
 ·exact ah I lr h3
def V11 (sb b:Nat)(i:Nat)(w:World)(v:Value):Prop:=match i with
 |0=>v=.pointer (some ⟨b,3,none⟩)
 |1=>v=.slice none 0 0
 |2=>v=.pointer (some ⟨sb,0,none⟩)
 |3=>∃q:Nat,q<3/\v=.int .i64 (q:Int)
 |4=>∃q:Nat,q<3/\v=.agg #[.int .i64 22,.int .i64 (q:Int),.string ⟨#[]⟩,.slice none 0 0]
 |5=>∃g q:Nat,q<3/\b<g/\v=.slice (some ⟨g,0,none⟩) 1 1/\w.heap[g]?=some (eS 22 q ⟨#[]⟩ none 0 0)
 |6=>∃g cap q:Nat,q<3/\(1<=cap/\cap<=9223372036854775807)/\b<g/\v=.slice (some ⟨g,0,none⟩) 1 cap/\Row (b+1) w.heap.size w (cq 26 0 ⟨#[]⟩<|aC 22 q ⟨#[]⟩) v
 |7=>v=.pointer (some ⟨b,3,none⟩)
 |_=>True
structure Wr (sb b:Nat)(w w':World):Prop where
 size:w.heap.size<=w'.heap.size
 block:∀k,k<w.heap.size->k≠sb->k≠b->w'.heap[k]?=w.heap[k]?
theorem Wr.bz (h:Kp sb w w'):Wr sb b w w':=⟨h.size,fun k z h1 _=>h.block k z h1⟩
theorem Wr.ab (h:Below w.heap.size w w'):Wr sb b w w':=⟨h.size,fun k z _ _=>h.block k z⟩
theorem vF (h:Wr sb b w w')(hsb:sb<b)(i:Nat)(v:Value)(hv:V11 sb b i w v):V11 sb b i w' v:=by
 match i,hv with
 |0,hv=>exact hv
 |1,hv=>exact hv
 |2,hv=>exact hv
 |3,hv=>exact hv
 |4,hv=>exact hv
 |5,hv=>
  obtain⟨g,q,h1,h2,h3,h4⟩:=hv;exact⟨g,q,h1,h2,h3,(h.block g (avp.1 h4).1 O O).trans h4⟩
 |6,hv=>
  obtain⟨g,cap,q,h1,h2,h3,h4,h5⟩:=hv;exact⟨g,cap,q,h1,h2,h3,h4,cL lr h.size (fun k o k1 k2=>avt (a:=⟨k,o,none⟩)<|h.block k k2 O O) h5⟩
 |7,hv=>exact hv
 |(i+8),_=>exact trivial
def RK (sb b A:Nat)(w0:World)(listed:Array Bool)(w:World):Prop:=
 DW sb (if listed.getD 3 false=true then A+3 else A) w0 w/\(listed.getD 8 false=false->w.heap[b]?=some (eS 26 0 ⟨#[]⟩ none 0 0))/\
 (listed.getD 8 false=true->(∀i,i<8->listed.getD i false=true)/\∃(q:Nat)(g cap:Nat),q<3/\Ap sb (A+3) w0 w b 26 0 ⟨#[]⟩ (aC 22 q ⟨#[]⟩) (.slice (some ⟨g,0,none⟩) 1 cap))
theorem KS {v:World}{n:Int}{s:ByteArray}{a:Option Addr}{l:Nat}(h:v.heap[g]?=some (eS k n s a l c)):∀j u,([.int .i64 k,.int .i64 n,.string s,.slice a l c]:List Value)[j]?=some u->v.cell? ((⟨g,0,none⟩:Addr).add j)=some u:=by
 obtain⟨h0,h1,h2,h3,_⟩:=al h;intro j u hj;match j,hj with
 |0,hj=>obtain rfl:=avq hj;simpa[Addr.add]using h0
 |1,hj=>obtain rfl:=avq hj;simpa[Addr.add]using h1
 |2,hj=>obtain rfl:=avq hj;simpa[Addr.add]using h2
 |3,hj=>obtain rfl:=avq hj;simpa[Addr.add]using h3
 |j+4,hj=>simp at hj
theorem mn {s x:Operand}{t:TypeId}{v1 v2 r:Value}(ho:o.op=.call {callee:=.builtin .append,args:=#[s,x],argTypes:=#[t,t]})
  (hs:a.eval s=v1) (hx:a.eval x=v2) (hr:(Builtin.append_ #[t,t] o.type #[v1,v2]).run P w=.ok r w') (h:K (a.put o.dst r) w'):o.wp P a w K Q:=by
 unfold Oper.wp execOp;simp only[ho,resolve,invoke,builtin,awr,Sem.run_pure,awR,awS,awD,awP,hs,hx,hr];exact h
theorem Wr.b1 (sb b o:Nat)(w:World)(v:Value):Wr sb b w (w.setCell ⟨b,o,none⟩ v):=⟨by simp[World.setCell],fun k _ _ z=>avz _ _ _ _ (by show k≠b;exact z)⟩
theorem II (h:RK sb b A w0 listed w)(hl:8<listed.size)(bl:∀i,i<8->listed.getD i false=true)(h8:listed.getD 8 false=false)(I:w0.heap.size+1<=b)(hq:q<3)
  (hr:Row (b+1) w.heap.size w (cq 26 0 ⟨#[]⟩<|aC 22 q ⟨#[]⟩) (.slice (some ⟨g,0,none⟩) 1 cap)):RK sb b A w0 (listed.setIfInBounds 8 true) (w.setCell ⟨b,3,none⟩<|.slice (some ⟨g,0,none⟩) 1 cap):=by
 obtain⟨c0,c1,c2,c3,_⟩:=al<|h.2.1 h8;have eC:=h.1;rw[avA<|bl 3 O]at eC;have qI:=dQ _ _ _ (.slice (some ⟨g,0,none⟩) 1 cap) c3;have hw:=Wr.b1 sb b 3 w<|.slice (some ⟨g,0,none⟩) 1 cap;have ew:=eC.low;refine⟨?_,fun e=>?_,fun _=>⟨fun i hi=>?_,q,g,cap,hq,?_⟩⟩
 ·rw[bL O,avA<|bl 3 O];exact eC.put b 3 _ I
 ·rw[gM hl]at e;cases e
 ·rw[bL O];exact bl i hi
 ·refine⟨eC.put b 3 _ I,?_,?_,?_,?_,?_⟩
  ·exact cL O hw.size (fun k o k1 k2=>avt (a:=⟨k,o,none⟩)<|hw.block k k2 O O) hr
  ·rw[qI,avo O];exact c0
  ·rw[qI,avo O];exact c1
  ·rw[qI,avo O];exact c2
  ·rw[qI,avA ⟨rfl,rfl⟩]
theorem getD_in (hj:j<l.size)(h:l.getD j true=true):l.getD j false=true:=by
 rw[avC,awx hj]at*
 exact h
theorem kS (h:RK sb b A w0 listed w)(hi:i<8)(h3:i≠3)(h8:listed.getD 8 false=false)(I:Below w.heap.size w w'):RK sb b A w0 (listed.setIfInBounds i true) w':=by
 refine⟨?_,fun _=>aW (h.2.1 h8) I,fun e=>?_⟩
 ·rw[bL O];exact h.1.calm I
 ·rw[bL O,h8]at e;cases e
theorem No (h:RK sb b A w0 listed w)(hl:3<listed.size)(h8:listed.getD 8 false=false)(hs:Src sb (A+3) w')(z:Kp sb w w')(bY:b≠sb):RK sb b A w0 (listed.setIfInBounds 3 true) w':=by
 refine⟨?_,fun _=>bc (h.2.1 h8) bY z,fun e=>?_⟩
 ·rw[gM hl,avA rfl];exact h.1.step hs z
 ·rw[bL O,h8]at e;cases e
theorem RD {g:Nat}{v:World}(I:b<=v.heap.size)(hc:1<=cap/\cap<=9223372036854775807):
  Row (b+1) (v.drew.alloc<|.cells (([.int .i64 22,.int .i64 (q:Int),.string ⟨#[]⟩,.slice none 0 0]:List Value).toArray++Builtin.zeroCells (Value.agg #[.int .i64 0,.int .i64 0,.string ⟨#[]⟩,.slice none 0 0]).cells (cap-1)) 25).heap.size
   (v.drew.alloc<|.cells (([.int .i64 22,.int .i64 (q:Int),.string ⟨#[]⟩,.slice none 0 0]:List Value).toArray++Builtin.zeroCells (Value.agg #[.int .i64 0,.int .i64 0,.string ⟨#[]⟩,.slice none 0 0]).cells (cap-1)) 25) (cq 26 0 ⟨#[]⟩<|aC 22 q ⟨#[]⟩) (.slice (some ⟨v.heap.size,0,none⟩) 1 cap)\/b=v.heap.size:=by
 by_cases e:b=v.heap.size
 ·exact .inr e
 ·left;have hn:=avv v.drew<|.cells (([.int .i64 22,.int .i64 (q:Int),.string ⟨#[]⟩,.slice none 0 0]:List Value).toArray++Builtin.zeroCells (Value.agg #[.int .i64 0,.int .i64 0,.string ⟨#[]⟩,.slice none 0 0]).cells (cap-1)) 25;rw[show v.drew.heap.size=v.heap.size from rfl]at hn;refine jB O (by rw[avs];exact awm _) hc.1 hc.2 fun i hi=>?_;obtain rfl:i=0:=O;have cy:∀o,o<4->(v.drew.alloc<|.cells (([.int .i64 22,.int .i64 (q:Int),.string ⟨#[]⟩,.slice none 0 0]:List Value).toArray++Builtin.zeroCells (Value.agg #[.int .i64 0,.int .i64 0,.string ⟨#[]⟩,.slice none 0 0]).cells (cap-1)) 25).cell? ⟨v.heap.size,o,none⟩=(#[Value.int .i64 22,.int .i64 (q:Int),.string ⟨#[]⟩,.slice none 0 0])[o]?:=by
   intro o ho;rw[avS _ _ _ _ _ (0,0) hn,Array.getElem?_append,avA (by simpa using ho)]
  refine⟨.slice none 0 0,?_,?_,?_,?_,eQ _ _ _ _ _ _⟩
  ·exact(cy 0 O).trans rfl
  ·exact(cy 1 O).trans rfl
  ·exact(cy 2 O).trans rfl
  ·exact(cy 3 O).trans rfl
section
open Go
theorem nu (h:l.getD j false=true):(l.setIfInBounds i true).getD j false=true:=by
 by_cases e:i=j
 ·subst e;refine gM ?_;rcases awZ i l.size with h'|h'
  ·exact h'
  ·rw[avC,awL h']at h;simp at h
 ·rw[bL e];exact h
theorem fl_ne (h:l.getD i true=false)(h':l.getD i false=true):False:=by rw[tp h']at h;cases h
def S2 (p m:Nat)(W0 W1 W2:World)(l:Array Bool)(v:World):Prop:=
 v=(if l.getD (p+1) false=true then W2 else if l.getD p false=true then W1 else W0)/\(l.getD p false=true->∀i,i<m->l.getD i false=true)/\(l.getD (p+1) false=true->∀i,i<p+1->l.getD i false=true)
theorem S2.put {W0 W1 W2:World}{v:World}(h:S2 p m W0 W1 W2 l v)(hi:i<p):S2 p m W0 W1 W2 (l.setIfInBounds i true) v:=by unfold S2;rw[bL (O:i≠p),bL (O:i≠p+1)];exact⟨h.1,fun e j hj=>nu<|h.2.1 e j hj,fun e j hj=>nu<|h.2.2 e j hj⟩
def S1 (p:Nat)(R R':World->Prop)(l:Array Bool)(v:World):Prop:=(l.getD p false=true->∀i,i<p->l.getD i false=true)/\(l.getD p false=false->R v)/\(l.getD p false=true->R' v)
theorem S1.start (n p:Nat){v:World}(h:R v):S1 p R R' (Array.replicate n false) v:=by
 have e:∀j,(Array.replicate n false).getD j false=false:=fun j=>by
  rw[avC,aw8];split<;>rfl
 exact⟨(fun h=>absurd h (by rw[e];simp)),(fun _=>h),(fun h=>absurd h (by rw[e];simp))⟩
theorem S1.low {v:World}(h:S1 p R R' l v)(hi:i<p)(hu:l.getD i true=false):l.getD p false=false/\R v:=by
 cases e:l.getD p false with
 |true=>exact(fl_ne hu<|h.1 e i hi).elim
 |false=>exact⟨rfl,h.2.1 e⟩
theorem S1.put {v:World}(h:S1 p R R' l v)(hi:i<p)(hu:l.getD i true=false)(hv:R v'):S1 p R R' (l.setIfInBounds i true) v':=by have h0:=(h.low hi hu).1;unfold S1;rw[bL (O:i≠p),h0];exact⟨(fun e=>by cases e),(fun _=>hv),(fun e=>by cases e)⟩
theorem S1.last {v:World}(h:S1 p R R' l v)(hs:p<l.size)(hu:l.getD p true=false)(hd:∀i,i<p->l.getD i false=true):R v/\∀v',R' v'->S1 p R R' (l.setIfInBounds p true) v':=by refine⟨h.2.1<|dh hu,fun v' hv=>?_⟩;unfold S1;rw[gM hs];exact⟨(fun _ j hj=>nu<|hd j hj),(fun e=>by cases e),(fun _=>hv)⟩
def Vf (n:Nat)(f:Nat->Value)(i:Nat)(_:World)(x:Value):Prop:=i<n->x=f i
end
def SH (axe:Nd)(u:Value):Obj:=.cells #[.int .i64 axe.y,.int .i64 axe.E,.string axe.z,u] 25 (0,0)
def Y2 (lo sb:Nat)(axe:Nd)(u:Value)(i:Nat)(w:World)(v:Value):Prop:=match i with
 |0=>v=.pointer (some ⟨sb,0,none⟩)
 |1=>∃g,lo<=g/\v=.slice (some ⟨g,0,none⟩) 2 2/\∀i,i<2->∃s,Cl s/\w.cell? ⟨g,0+i,none⟩=some (.string s)
 |2=>∃s,Cl s/\v=.string s
 |3=>v=axe.val u
 |4=>∃g,lo<=g/\v=.slice (some ⟨g,0,none⟩) 1 1/\w.heap[g]?=some (SH axe u)
 |5=>∃s g,Cl s/\lo<=g/\v=.agg #[.int .i64 5,.int .i64 0,.string s,.slice (some ⟨g,0,none⟩) 1 1]/\w.heap[g]?=some (SH axe u)
 |_=>True
theorem mJ (h:Wr sb r w w')(hs:sb<lo)(hr:r<lo)(i:Nat)(v:Value)(hv:Y2 lo sb axe u i w v):Y2 lo sb axe u i w' v:=by
 match i,hv with
 |0,hv=>exact hv
 |1,⟨g,h1,h2,h3⟩=>
  refine⟨g,h1,h2,fun i hi=>?_⟩;obtain⟨s,y,hc⟩:=h3 i hi;exact⟨s,y,(avt (a:=⟨g,0+i,none⟩)<|h.block g (lt_of_cell hc) O O).trans hc⟩
 |2,hv=>exact hv
 |3,hv=>exact hv
 |4,⟨g,h1,h2,h3⟩=>exact⟨g,h1,h2,(h.block g (avp.1 h3).1 O O).trans h3⟩
 |5,⟨s,g,h0,h1,h2,h3⟩=>exact⟨s,g,h0,h1,h2,(h.block g (avp.1 h3).1 O O).trans h3⟩
 |(i+6),_=>exact trivial
def R12 (sb A:Nat)(w W v:World):Prop:=DW sb A w v/\Kp sb W v
def R12' (sb A:Nat)(w W:World)(axe:Nd)(u:Value)(v:World):Prop:=∃v0 s g,R12 sb A w W v0/\Cl s/\w.heap.size+1<=g/\v0.heap[g]?=some (SH axe u)/\v=dn v0 w.heap.size 5 0 s (.slice (some ⟨g,0,none⟩) 1 1)
def S12 (sb A:Nat)(w W:World)(axe:Nd)(u:Value)(l:Array Bool)(v:World):Prop:=
 S1 6 (R12 sb (A+3) w W) (R12' sb (A+3) w W axe u) l v/\(l.getD 2 false=false->Src sb A v)
theorem S12.start (axe:Nd)(u:Value)(h:DW sb A w W):S12 sb A w W axe u (Array.replicate 7 false) W.drew:=
 ⟨S1.start _ _ ⟨⟨(h.drew.src).mono O,h.drew.kp,h.low⟩,b9 ((avB W.heap.size W).drew) _⟩,fun _=>h.drew.src⟩
theorem S12.calm {v:World}(h:S12 sb A w W axe u l v)(hi:i<6)(h2:i≠2)(hu:l.getD i true=false)(I:Below v.heap.size v v'):S12 sb A w W axe u (l.setIfInBounds i true) v':=by obtain⟨_,hd,z⟩:=h.1.low hi hu;refine⟨h.1.put hi hu ⟨hd.calm I,z.trans (b9 I _) fun _ _ h=>h⟩,fun e=>?_⟩;rw[bL h2]at e;exact(h.2 e).calm I
theorem S12.pick {v:World}(h:S12 sb A w W axe u l v)(hl:2<l.size)(hu:l.getD 2 true=false)(hs:Src sb (A+3) v')(z:Kp sb v v'):S12 sb A w W axe u (l.setIfInBounds 2 true) v':=by obtain⟨_,hd,sN⟩:=h.1.low (show 2<6 by omega) hu;refine⟨h.1.put O hu ⟨hd.step hs z,sN.trans z fun _ _ h=>h⟩,fun e=>?_⟩;rw[gM hl]at e;cases e
theorem S12.store {v:World}(h:S12 sb A w W axe u l v)(hl:6<l.size)(hu:l.getD 6 true=false)(hd:∀i,i<6->l.getD i false=true){s:ByteArray}(hs:Cl s)(hg:w.heap.size+1<=g)(I:v.heap[g]?=some (SH axe u)):
  S12 sb A w W axe u (l.setIfInBounds 6 true) (dn v w.heap.size 5 0 s<|.slice (some ⟨g,0,none⟩) 1 1):=by
 obtain⟨h1,h2⟩:=h.1.last hl hu hd;refine⟨h2 _ ⟨v,s,g,h1,hs,hg,I,rfl⟩,fun e=>?_⟩;rw[bL (O:(6:Nat)≠2),hd 2 O]at e;cases e
theorem Wr.cv (sb b:Nat)(W:World)(k n:Int)(s:ByteArray)(u:Value):Wr sb b W (dn W b k n s u):=⟨by rw[fG];exact avF _,fun i _ _ hi=>et W b k n s u i hi⟩
section
open Go Go.RowKit
theorem keepD (D:Nat->Nat)(n m:Nat)(h:((List.range n).all fun i=>decide<|D i≠m)=true)(i:Nat)(hi:i<n):m≠D i:=by have h3:=avE.1 h i<|avG.2 hi;simp at h3;exact fun e=>h3 e.symm
theorem y6 (D:Nat->Nat)(n:Nat)(h:((List.range n).all fun i=>(List.range n).all fun j=>D i !=D j||i==j)=true)(i j:Nat)(hi:i<n)(hj:j<n)(e:D i=D j):i=j:=by have:=avE.1 (avE.1 h i<|avG.2 hi) j<|avG.2 hj;simpa[e]using this
def Shut (ops:Array Oper)(l:Array Bool):Prop:=∀i o,l.getD i false=true->ops[i]?=some o->∀e∈o.after,Region.binds .any e=true->l.getD e.on false=true
def anc (ops:Array Oper):Nat->Nat->Nat->Bool
 |0,i,j=>i==j
 |f+1,i,j=>i==j||match ops[i]?with|some o=>o.after.any (fun e=>Region.binds .any e&&anc ops f e.on j)|none=>false
theorem Shut.dj {ops:Array Oper}{l:Array Bool}(h:Shut ops l):∀{f i j:Nat},anc ops f i j=true->l.getD i false=true->l.getD j false=true
 |0,i,j,ha,hi=>by
  have:i=j:=by simpa[Go.Proofs.YtgcmhaghebhjnaaGreatDoor.anc]using ha
  subst this;exact hi
 |f+1,i,j,ha,hi=>by
  unfold Go.Proofs.YtgcmhaghebhjnaaGreatDoor.anc at ha
  rw[av2]at ha
  rcases ha with ha|ha
  ·have:i=j:=by simpa using ha
   subst this;exact hi
  ·cases ho:ops[i]?with
   |none=>rw[ho]at ha;cases ha
   |some o=>
    rw[ho]at ha
    simp only[Array.any_eq_true']at ha
    obtain⟨e,he,hx⟩:=ha
    rw[avw]at hx
    exact h.dj hx.2<|h i o hi ho e he hx.1
structure Inv3 (ops:Array Oper)(d:Nat->Nat)(V:Nat->World->Value->Prop)(S:Array Bool->World->Prop)(a0:Act)(l:Array Bool)(a:Act)(w:World):Prop where
 aU:l.size=ops.size
 size:a.tmps.size=a0.tmps.size
 keep:∀t,(∀i,i<ops.size->t≠d i)->a.eval (.tmp t)=a0.eval (.tmp t)
 defers:a.defers=a0.defers
 shut:Shut ops l
 s:S l w
 bl:∀i,i<ops.size->l.getD i false=true->V i w (a.eval<|.tmp<|d i)
theorem lP (n i:Nat):(Array.replicate n false).getD i false=false:=by rw[avC,aw8];split<;>rfl
theorem AF (h:Shut ops l)(hr:i∈Region.ready .any ops l):Shut ops (l.setIfInBounds i true):=by
 intro k o z ho e he I;by_cases ek:i=k
 ·subst ek;exact nu<|xp hr ho e he I
 ·rw[bL ek]at z;exact nu<|h k o z ho e he I
theorem Inv3.put (h:Inv3 ops d V S a0 l a w)(hd:∀i j,i<ops.size->j<ops.size->d i=d j->i=j)(hr:i∈Region.ready .any ops l)(cg:d i<a0.tmps.size)
  (hV:∀j v,l.getD j false=true->V j w v->V j w' v) (hS:S (l.setIfInBounds i true) w') (hv:V i w' v):Inv3 ops d V S a0 (l.setIfInBounds i true) (a.put (some<|d i) v) w':=by
 have hi:=(bx hr).1;have Bj:∀t,(a.put (some<|d i) v).eval (.tmp t)=if t=d i then v else a.eval (.tmp t):=by
  exact abU
 refine⟨by simp[h.aU],by show(a.tmps.setIfInBounds (d i) v).size=_;rw[aw7];exact h.size,fun t ht=>?_,h.defers,AF h.shut hr,hS,fun j hj hl=>?_⟩
 ·rw[Bj,avo<|ht i hi];exact h.keep t ht
 ·rw[Bj];by_cases e:d j=d i
  ·rw[avA e,hd j i hj hi e];exact hv
  ·rw[avo e];have bY:¬i=j:=fun x=>e (by rw[x]);rw[bL bY]at hl;exact hV j _ hl<|h.bl j hj hl
theorem Inv3.none (h:Inv3 ops d V S a0 l a w)(hr:i∈Region.ready .any ops l)
  (hV:∀j v,l.getD j false=true->V j w v->V j w' v) (hS:S (l.setIfInBounds i true) w') (hv:∀v,V i w' v):Inv3 ops d V S a0 (l.setIfInBounds i true) a w':=by
 refine⟨by simp[h.aU],h.size,h.keep,h.defers,AF h.shut hr,hS,fun j hj hl=>?_⟩;by_cases e:i=j
 ·subst e;exact hv _
 ·rw[bL e]at hl;exact hV j _ hl<|h.bl j hj hl
theorem dD {id:Nat}(hm:P.follows .mixedOrders=true)(he:early ops=true)(d:Nat->Nat)(V:Nat->World->Value->Prop)(S:Array Bool->World->Prop)(hS:S (Array.replicate ops.size false) w0.drew)
  (Bg:∀(l:Array Bool)(a:Act)(w:World)(i:Nat),Inv3 ops d V S a0 l a w->i∈Region.ready .any ops l->wpOp P ops Q i (fun a' w'=>Inv3 ops d V S a0 (l.setIfInBounds i true) a' w') a w)
  (mU:∀(a:Act)(w:World),a.tmps.size=a0.tmps.size->a.defers=a0.defers->(∀t,(∀i,i<ops.size->t≠d i)->a.eval (.tmp t)=a0.eval (.tmp t))->(∃l:Array Bool,S l w/\∀i,i<ops.size->l.getD i false=true)->(∀i,i<ops.size->V i w (a.eval<|.tmp<|d i))->Q .normal a w):(Code.region id ops true).wp P Q a0 w0:=by
 refine wp_region_any hm ?_;refine wT (Inv3 ops d V S a0) Bg (fun l a w hI hr=>?_) ops.size _ a0 _ ?_ ⟨M,rfl,fun _ _=>rfl,rfl,fun i o hi=>(by rw[lP]at hi;cases hi),hS,fun i hi hl=>(by rw[lP]at hl;cases hl)⟩
 ·have YU:=fun i(hi:i<ops.size)=>getD_in (by rw[hI.aU];exact hi)<|pY he hI.aU hr i hi;exact mU a w hI.size hI.defers hI.keep ⟨l,hI.s,YU⟩ fun i hi=>hI.bl i hi<|YU i hi
 ·unfold Sy;exact avK countP_le_length M
structure Wn (lo:Nat)(w w':World):Prop where
 size:w.heap.size<=w'.heap.size
 block:∀k,lo<=k->k<w.heap.size->w'.heap[k]?=w.heap[k]?
theorem Wn.bz (h:Kp sb w w')(hs:sb<lo):Wn lo w w':=⟨h.size,fun k h1 h2=>h.block k h2 O⟩
theorem Wn.ab (h:Below w.heap.size w w'):Wn lo w w':=⟨h.size,fun k _ h2=>h.block k h2⟩
theorem Wn.bf {row:Option Nat}(h:w.grownBy w' row)(hr:∀k,row=some k->k<lo):Wn lo w w':=⟨h.size,fun k h1 h2=>h.block k h2 fun e=>by have:=hr k e.symm;omega⟩
theorem Wn.b1 {o:Nat}(h:b<lo):Wn lo w (w.setCell ⟨b,o,none⟩ x):=⟨by simp[World.setCell],fun k h1 _=>avz _ _ _ _ (by show k≠b;omega)⟩
theorem Wn.row (h:Wn lo w w')(hr:Row lo w.heap.size w T v):Row lo w'.heap.size w' T v:=
 cL lr h.size (fun g o h1 h2=>avt (a:=⟨g,o,none⟩)<|h.block g h1 h2) hr
def TV (lo:Nat)(P:Nd->Prop)(w:World)(x:Value):Prop:=∃T a c,P T/\x=T.val (.slice a T.q c)/\Row lo w.heap.size w T (.slice a T.q c)
def LV (lo:Nat)(P:Nd->Prop)(w:World)(x:Value):Prop:=∃T a c,P T/\x=.slice a T.q c/\Row lo w.heap.size w T (.slice a T.q c)
theorem TV.aT {P:Nd->Prop}(h:Wn lo w w')(hx:TV lo P w x):TV lo P w' x:=by obtain⟨T,a,c,h1,h2,h3⟩:=hx;exact⟨T,a,c,h1,h2,h.row h3⟩
theorem LV.aT {P:Nd->Prop}(h:Wn lo w w')(hx:LV lo P w x):LV lo P w' x:=by obtain⟨T,a,c,h1,h2,h3⟩:=hx;exact⟨T,a,c,h1,h2,h.row h3⟩
theorem TV.node {P Q:Nd->Prop}{a:Option Addr}(k n:Int)(s:ByteArray)(hq:Q (.mk k n s T.q T.f))(hr:Row lo w.heap.size w T (.slice a T.q c)):TV lo Q w (.agg #[.int .i64 k,.int .i64 n,.string s,.slice a T.q c]):=
 ⟨.mk k n s T.q T.f,a,c,hq,rfl,(ar (T:=.mk k n s T.q T.f)).2<|(ar (T:=T)).1 hr⟩
theorem LV.one {A:Nd}(fT:lo<=w.heap.size)(h:Row lo w.heap.size w A u):Row lo (w.alloc<|.cells #[.int .i64 A.y,.int .i64 A.E,.string A.z,u] 25).heap.size (w.alloc<|.cells #[.int .i64 A.y,.int .i64 A.E,.string A.z,u] 25) (cq 0 0 ⟨#[]⟩ A) (.slice (some ⟨w.heap.size,0,none⟩) 1 1):=by have hr:=(Wn.ab (lo:=lo)<|bO w<|.cells #[.int .i64 A.y,.int .i64 A.E,.string A.z,u] 25).row h;refine jB fT M lr O fun i hi=>?_;obtain rfl:i=0:=O;refine⟨u,?_,?_,?_,?_,hr⟩<;>simp[go_sem]
theorem LV.two {A B:Nd}(fT:lo<=w.heap.size)(h:Row lo w.heap.size w A u)(h':Row lo w.heap.size w B v):Row lo (w.alloc<|.cells #[.int .i64 A.y,.int .i64 A.E,.string A.z,u,.int .i64 B.y,.int .i64 B.E,.string B.z,v] 25).heap.size (w.alloc<|.cells #[.int .i64 A.y,.int .i64 A.E,.string A.z,u,.int .i64 B.y,.int .i64 B.E,.string B.z,v] 25) (dV 0 0 ⟨#[]⟩ A B) (.slice (some ⟨w.heap.size,0,none⟩) 2 2):=by
 have hw:=Wn.ab (lo:=lo)<|bO w<|.cells #[.int .i64 A.y,.int .i64 A.E,.string A.z,u,.int .i64 B.y,.int .i64 B.E,.string B.z,v] 25;refine jB fT M lr O fun i hi=>?_;have:i=0\/i=1:=O;rcases this with rfl|rfl
 ·refine⟨u,?_,?_,?_,?_,hw.row h⟩<;>simp[go_sem]
 ·refine⟨v,?_,?_,?_,?_,hw.row h'⟩<;>simp[go_sem]
def lE (k n:Int)(s:ByteArray)(A B C:Nd):Nd:=.mk k n s 3 fun i=>if i=0 then A else if i=1 then B else C
theorem LV.three {A B C:Nd}(fT:lo<=w.heap.size)(h:Row lo w.heap.size w A u)(h':Row lo w.heap.size w B v)(YZ:Row lo w.heap.size w C x):Row lo (w.alloc<|.cells #[.int .i64 A.y,.int .i64 A.E,.string A.z,u,.int .i64 B.y,.int .i64 B.E,.string B.z,v,.int .i64 C.y,.int .i64 C.E,.string C.z,x] 25).heap.size (w.alloc<|.cells #[.int .i64 A.y,.int .i64 A.E,.string A.z,u,.int .i64 B.y,.int .i64 B.E,.string B.z,v,.int .i64 C.y,.int .i64 C.E,.string C.z,x] 25) (lE 0 0 ⟨#[]⟩ A B C) (.slice (some ⟨w.heap.size,0,none⟩) 3 3):=by
 have hw:=Wn.ab (lo:=lo)<|bO w<|.cells #[.int .i64 A.y,.int .i64 A.E,.string A.z,u,.int .i64 B.y,.int .i64 B.E,.string B.z,v,.int .i64 C.y,.int .i64 C.E,.string C.z,x] 25;refine jB fT M lr O fun i hi=>?_;have:i=0\/i=1\/i=2:=O;rcases this with rfl|rfl|rfl
 ·refine⟨u,?_,?_,?_,?_,hw.row h⟩<;>simp[go_sem]
 ·refine⟨v,?_,?_,?_,?_,hw.row h'⟩<;>simp[go_sem]
 ·refine⟨x,?_,?_,?_,?_,hw.row YZ⟩<;>simp[go_sem]
def vL (asks:Nat->Nat)(l:Array Bool):Nat->Nat
 |0=>0
 |n+1=>vL asks l n+(if l.getD n false=true then asks n else 0)
theorem km (asks:Nat->Nat)(l:Array Bool):∀n,vL asks l n<=aq asks n
 |0=>avF _
 |n+1=>by have:=km asks l n;simp only[vL,aq];split<;>omega
theorem sY {asks:Nat->Nat}{l:Array Bool}{i:Nat}(hi:i<l.size)(hu:l.getD i false=false):∀{n:Nat},vL asks (l.setIfInBounds i true) n=vL asks l n+(if i<n then asks i else 0)
 |0=>by simp[vL]
 |n+1=>by
  have ih:=sY (asks:=asks) hi hu (n:=n)
  simp only[vL]
  rw[ih]
  by_cases e:i=n
  ·subst e
   rw[gM hi,hu,avo<|Nat.lt_irrefl _,avA<|awm _]
   simp
  ·rw[bL e]
   by_cases h:i<n
   ·have e1:(if i<n then asks i else 0)=asks i:=avA h
    have e2:(if i<n+1 then asks i else 0)=asks i:=avA O
    rw[e1,e2];omega
   ·have e1:(if i<n then asks i else 0)=0:=avo h
    have e2:(if i<n+1 then asks i else 0)=0:=avo O
    rw[e1,e2];omega
theorem yF {asks:Nat->Nat}{l:Array Bool}{i:Nat}(hu:l.getD i false=false):∀{n:Nat},i<n->vL asks l n+asks i<=aq asks n
 |n+1,h=>by
  simp only[vL,aq]
  by_cases e:i=n
  ·subst e
   have:=km asks l i
   rw[hu];simp;omega
  ·have:=yF hu (n:=n) (asks:=asks) O
   split<;>omega
theorem Jt (asks:Nat->Nat)(n k:Nat):vL asks (Array.replicate k false) n=0:=by
 induction n with
 |zero=>rfl
 |succ n ih=>simp only[vL];rw[ih,lP];simp
end
section
open Go Go.RowKit
theorem AJ {a:Option Addr}(h:Row lo hi w T (.slice a T.q c))(hn:T.q≠0):∃g off us,a=some ⟨g,off,none⟩/\lo<=g/\g<hi/\(∀j u,(cN T.f us T.q)[j]?=some u->w.cell? ⟨g,off+j,none⟩=some u)/\∀i,i<T.q->(∃b d,us i=.slice b (T.f i).q d)/\Row lo hi w (T.f i) (us i):=by
 obtain⟨a',c',he,_,hq⟩:=ar.1 h;injection he with e1 _ e3;subst e1 e3;rcases hq with h0|⟨g,off,rfl,h1,h2,h3⟩
 ·exact absurd h0 hn
 have hin:Inhabited Value:=⟨undef⟩;obtain⟨us,Dv⟩:=Go.Deep.choose_lt (n:=T.q) h3;refine⟨g,off,us,rfl,h1,h2,fun j u hj=>?_,fun i hi=>⟨?_,(Dv i hi).2.2.2.2⟩⟩
 ·have hl:=gy T.f us T.q;have LY:j<T.q*4:=by rw[<-hl];exact(awu.1 hj).1
  obtain⟨q,r,EZ,rfl⟩:∃q r,r<4/\j=q*4+r:=⟨j/ 4,j% 4,O,O⟩;obtain⟨c0,c1,c2,c3,_⟩:=Dv q O;obtain⟨f0,f1,f2,f3⟩:=kL T.f us (show q<T.q by omega);rcases(O:r=0\/r=1\/r=2\/r=3)with rfl|rfl|rfl|rfl
  ·rw[Nat.add_zero]at hj⊢;rw[hj]at f0;rw[avq f0];exact c0
  ·rw[hj]at f1;rw[avq f1,<-av9];exact c1
  ·rw[hj]at f2;rw[avq f2,<-av9];exact c2
  ·rw[hj]at f3;rw[avq f3,<-av9];exact c3
 ·obtain⟨b,d,I,_⟩:=ar.1 (Dv i hi).2.2.2.2;exact⟨b,d,I⟩
def dL {α:Type}(f:Nat->α)(j:Nat)(g:Nat->α):Nat->α:=fun i=>if i<j then f i else g (i-j)
theorem bp {α:Type}(f:Nat->α)(g:Nat->α)(h:i<j):dL f j g i=f i:=avA h
theorem bW {α:Type}(f:Nat->α)(g:Nat->α)(h:j<=i):dL f j g i=g (i-j):=avo O
theorem pO (Ts Us:Nat->Nd)(us vs:Nat->Value)(j:Nat):∀m,cN (dL Ts j Us) (dL us j vs) (j+m)=cN Ts us j++cN Us vs m
 |0=>by
  have:∀k,k<=j->cN (dL Ts j Us) (dL us j vs) k=cN Ts us k:=by
   intro k;induction k with
   |zero=>intro _;rfl
   |succ k ih=>intro z;simp only[cN];rw[ih O,bp _ _ (show k<j by omega),bp _ _<|show k<j by omega]
  simp[cN,this j lr]
 |m+1=>by
  rw[<-av9];simp only[cN];rw[pO Ts Us us vs j m,bW _ _ (show j<=j+m by omega),bW _ _ (show j<=j+m by omega),show j+m-j=m by omega,avM]
theorem yb {Ts:Nat->Nd}{us:Nat->Value}:∀{n:Nat},(∀i,i<n->∃b l d,us i=.slice b l d)->∀u∈cN Ts us n,u.oneCell'=true
 |0,_,u,hu=>by cases hu
 |n+1,h,u,hu=>by
  simp only[cN]at hu
  rcases awb.1 hu with hu|hu
  ·exact yb (fun i hi=>h i O) u hu
  ·obtain⟨b,l,d,hd⟩:=h n (awm _)
   rw[hd]at hu
   simp at hu
   rcases hu with rfl|rfl|rfl|rfl<;>rfl
theorem kQ {s:Nat->Nat}{ka:Option Addr}{kc:Nat}{v:World}(h:Gw B Ts us s e j (.slice ka j kc) v)(ht:Row lo hi v T (.slice ua T.q uc))(hB:B<=v.heap.size)(hl:B<=lo)(Qb:lo<=hi)(hh:hi<=v.heap.size)(bQ:∀g,(Value.slice ka j kc).ownBlock=some g->g<lo\/hi<=g)(hn:j+T.q<=1000000):
  ∃a c v' vs,(∀ty,(Builtin.append_ #[23,23] ty #[.slice ka j kc,.slice ua T.q uc]).run prog v=.ok (.slice a (j+T.q) c) v')/\Gw B (dL Ts j T.f) (dL us j vs) (dL s j fun _=>lo) (dL e j fun _=>hi) (j+T.q) (.slice a (j+T.q) c) v'/\v.grownBy v' (Value.slice ka j kc).ownBlock/\
   ((Value.slice a (j+T.q) c).ownBlock=(Value.slice ka j kc).ownBlock\/∃k,(Value.slice a (j+T.q) c).ownBlock=some k/\v.heap.size<=k):=by
 obtain⟨i0,nB,mT,eu,ed⟩:=av0 si;by_cases h0:T.q=0
 ·have hs:Go.Src prog i0.size 23 (.slice ua T.q uc) 0 [] v:=by
   rw[h0];exact abW
  have hle:j<=kc:=by
   rcases h.own.2 with⟨e1,e2⟩|⟨g,cap,cur,e1,_,_,h4,_⟩
   ·injection e1 with _ _ e3;omega
   ·injection e1 with _ _ e3;omega
  refine⟨ka,kc,v,us,fun ty=>?_,?_,⟨rfl,rfl,rfl,avF _,fun _ _ _=>rfl⟩,?_⟩
  ·rw[h0,Nat.add_zero];rw[h0]at hs;exact run_append_nothing (P:=prog) v 23 23 ty 25 i0 underlying23 nB ka j kc hle _ hs
  ·rw[h0,Nat.add_zero];refine⟨?_,fun i ir=>?_,fun i ir g hg=>?_⟩
   ·have:=pO Ts T.f us us j 0;rw[Nat.add_zero]at this;rw[this];simpa[cN]using h.own
   ·rw[bp _ _ ir,bp _ _ ir,bp _ _ ir,bp _ _ ir];exact h.a7 i ir
   ·rw[bp _ _ ir,bp _ _ ir];exact h.apart i ir g hg
  ·rw[h0,Nat.add_zero];exact .inl rfl
 ·obtain⟨g,off,vs,rfl,hg1,qZ,cy,aZ⟩:=AJ ht h0;obtain⟨v',w',hr,dd,aQ,fs,a,c,rfl⟩:=gQ (P:=prog) v B 23 23 25 i0 _ 4 56 underlying23 nB mT eu ed rfl J _ j _ h.own ⟨g,off,none⟩ T.q uc (cN T.f vs T.q) (gy _ _ _) (fun k u z=>by rw[Addr.add_lit];exact cy k u z) (yb fun i ir=>by obtain⟨b,d,hd⟩:=(aZ i ir).1;exact⟨b,_,d,hd⟩) aaj O hB;have hz:=aQ.size;refine⟨a,c,w',vs,fun ty=>hr,⟨?_,fun i ir=>?_,fun i ir k z=>?_⟩,aQ,fs⟩
  ·rw[pO];exact dd
  ·by_cases lh:i<j
   ·rw[bp _ _ lh,bp _ _ lh,bp _ _ lh,bp _ _ lh];obtain⟨k1,k2,k3,k4⟩:=h.a7 i lh;exact⟨cL lr lr (fun b o h1 h2=>avt (a:=⟨b,o,none⟩)<|aQ.block b O fun er=>by have:=h.apart i lh b er.symm;omega) k1,k2,k3,O⟩
   ·rw[bW _ _ O,bW _ _ O,bW _ _ O,bW _ _ O];exact⟨cL lr lr (fun b o h1 h2=>avt (a:=⟨b,o,none⟩)<|aQ.block b O fun er=>by have:=bQ b er.symm;omega) (aZ (i-j) O).2,hl,Qb,O⟩
  ·by_cases lh:i<j
   ·rw[bp _ _ lh,bp _ _ lh];obtain⟨k1,k2,k3,k4⟩:=h.a7 i lh;rcases fs with Hv|⟨q,hq,hqz⟩
    ·exact h.apart i lh k<|Hv▸z
    ·rw[hq]at z;obtain rfl:=avq z;omega
   ·rw[bW _ _ O,bW _ _ O];rcases fs with Hv|⟨q,hq,hqz⟩
    ·exact bQ k<|Hv▸z
    ·rw[hq]at z;obtain rfl:=avq z;omega
theorem vA {s:Nat->Nat}{v:World}{r:Value}(h:Gw B Ts us s e j (.slice (some ⟨g,0,none⟩) j j) v)(ht:Row lo hi v T (.slice ua T.q uc))(hn:j+T.q<=1000000)
  (ec:∀ty,(Builtin.append_ #[23,23] ty #[.slice (some ⟨g,0,none⟩) j j,.slice ua T.q uc]).run prog v=.ok r v'):Below v.heap.size v v':=by
 obtain⟨i0,nB,mT,eu,ed⟩:=av0 si;by_cases h0:T.q=0
 ·have hs:Go.Src prog i0.size 23 (.slice ua 0 uc) 0 [] v:=by
   exact abW
  have h1:=run_append_nothing (P:=prog) v 23 23 23 25 i0 underlying23 nB (some ⟨g,0,none⟩) j j lr _ hs;have h2:=ec 23;rw[h0,h1]at h2;injection h2 with _ e2;subst e2;exact avB _ _
 ·obtain⟨g',off,vs,rfl,hg1,qZ,cy,aZ⟩:=AJ ht h0;have I:(j+T.q)*i0.bytes<=140737488355328:=by rw[ed];omega
  have h1:=run_append_grow (P:=prog) v 23 23 25 i0 _ underlying23 nB mT ⟨g,0,none⟩ j j (cN Ts us j) (by rw[eu];exact h.own.1) (h.own.cells (g:=g) rfl) ⟨g',off,none⟩ T.q uc (cN T.f vs T.q) (by rw[eu];exact gy _ _ _) (fun k u z=>by rw[Addr.add_lit];exact cy k u z) O O<|growslice_fits O I;have h2:=ec 23;rw[h1]at h2;injection h2 with _ e2;subst e2;exact((avB _ _).drew).alloc lr _
structure GS (sb A:Nat)(asks:Nat->Nat)(n ap st:Nat)(w W:World)(b:Nat)(F:World->Prop)(l:Array Bool)(v:World):Prop where
 pre:l.getD ap false=false->DW sb (A+vL asks l n) w v/\Kp sb W v
 db:l.getD ap false=true->l.getD st false=false->DW sb (A+aq asks n) w v/\v.heap[b]?=W.heap[b]?
 fin:l.getD st false=true->F v
theorem GS.start (k:Nat)(h:DW sb A w W):GS sb A asks n ap st w W b F (Array.replicate k false) W.drew:=
 ⟨fun _=>⟨by rw[Jt];exact h.drew,b9 ((avB W.heap.size W).drew) _⟩,fun e=>(by rw[lP]at e;cases e),fun e=>(by rw[lP]at e;cases e)⟩
theorem GS.same {v:World}(h:GS sb A asks n ap st w W b F l v)(hl:i<l.size)(hu:l.getD i true=false)(h1:i≠ap)(h2:i≠st)(ha:asks i=0):GS sb A asks n ap st w W b F (l.setIfInBounds i true) v:=by
 have ht:vL asks (l.setIfInBounds i true) n=vL asks l n:=by rw[sY hl<|dh hu,ha];simp
 refine⟨fun e=>?_,fun e e'=>?_,fun e=>?_⟩
 ·rw[bL h1]at e;rw[ht];exact h.pre e
 ·rw[bL h1]at e;rw[bL h2]at e';exact h.db e e'
 ·rw[bL h2]at e;exact h.fin e
theorem GS.calm {v:World}(h:GS sb A asks n ap st w W b F l v)(hl:i<l.size)(hu:l.getD i true=false)(h1:i≠ap)(h2:i≠st)(ha:asks i=0)(bQ:l.getD ap false=false)(ba:l.getD st false=false)(I:Below v.heap.size v v'):GS sb A asks n ap st w W b F (l.setIfInBounds i true) v':=by
 have ht:vL asks (l.setIfInBounds i true) n=vL asks l n:=by rw[sY hl<|dh hu,ha];simp
 obtain⟨hd,z⟩:=h.pre bQ;refine⟨fun _=>?_,fun e=>?_,fun e=>?_⟩
 ·rw[ht];exact⟨hd.calm I,z.trans (b9 I _) fun _ _ h=>h⟩
 ·rw[bL h1,bQ]at e;cases e
 ·rw[bL h2,ba]at e;cases e
theorem GS.ask {v:World}(h:GS sb A asks n ap st w W b F l v)(hl:i<l.size)(hn:i<n)(hu:l.getD i true=false)(h1:i≠ap)(h2:i≠st)(bQ:l.getD ap false=false)(ba:l.getD st false=false)(hs:Src sb (A+vL asks l n+asks i) v')(z:Kp sb v v'):GS sb A asks n ap st w W b F (l.setIfInBounds i true) v':=by
 have ht:vL asks (l.setIfInBounds i true) n=vL asks l n+asks i:=by rw[sY hl<|dh hu,avA hn]
 obtain⟨hd,sN⟩:=h.pre bQ;refine⟨fun _=>?_,fun e=>?_,fun e=>?_⟩
 ·rw[ht,<-av9];exact⟨hd.step hs z,sN.trans z fun _ _ h=>h⟩
 ·rw[bL h1,bQ]at e;cases e
 ·rw[bL h2,ba]at e;cases e
theorem GS.join {v:World}{row:Option Nat}(h:GS sb A asks n ap st w W b F l v)(hl:ap<l.size)(hu:l.getD ap true=false)(h2:ap≠st)(ba:l.getD st false=false)(I:b<W.heap.size)(mi:b≠sb)(hg:v.grownBy v' row)(hr:∀k,row=some k->w.heap.size<k/\k≠b):GS sb A asks n ap st w W b F (l.setIfInBounds ap true) v':=by
 obtain⟨hd,z⟩:=h.pre<|dh hu;have hz:=z.size;refine⟨fun e=>(by rw[gM hl]at e;cases e),fun _ _=>⟨?_,?_⟩,fun e=>(by rw[bL h2,ba]at e;cases e)⟩
 ·have:=(hd.grown hg fun k z=>(hr k z).1);exact⟨this.src.mono (by have:=km asks l n;omega),this.kp,this.low⟩
 ·exact(hg.block b O fun e=>(hr b e.symm).2 rfl).trans<|z.block b I mi
theorem GS.store (hl:st<l.size)(bQ:ap=st\/l.getD ap false=true)(hF:F v'):GS sb A asks n ap st w W b F (l.setIfInBounds st true) v':=by
 refine⟨fun e=>?_,fun _ e=>(by rw[gM hl]at e;cases e),fun _=>hF⟩;rcases bQ with rfl|bQ
 ·rw[gM hl]at e;cases e
 ·by_cases e2:st=ap
  ·subst e2;rw[gM hl]at e;cases e
  ·rw[bL e2,bQ]at e;cases e
theorem eB {f:Nat}(h:Shut ops l)(ha:anc ops f j i=true)(hu:l.getD i true=false):l.getD j false=false:=by
 cases e:l.getD j false with
 |false=>rfl
 |true=>have:=h.dj ha e;rw[dh hu]at this;cases this
end
def td0 :Nd:=aC 3 1 ⟨#[97]⟩
def td1 :Nd:=aC 3 1 ⟨#[98]⟩
def td2 :Nd:=aC 24 0 ⟨#[97]⟩
def td3 :Nd:=aC 24 0 ⟨#[98]⟩
def ZB :List Nd:=[td2,td3]
def td5 :Nd:=.mk 28 0 ⟨#[43]⟩ (ZB).length<|cE ZB
def Zz :List Nd:=[td5]
def td7 :Nd:=.mk 12 0 ⟨#[]⟩ (Zz).length<|cE Zz
def Zy :List Nd:=[td7]
def td9 :Nd:=.mk 4 0 ⟨#[]⟩ (Zy).length<|cE Zy
def JM :List Nd:=[td0,td1,td9]
def OZ :Nd:=.mk 2 1 ⟨#[97,100,100]⟩ (JM).length<|cE JM
def OY :Nd:=aC 3 3 ⟨#[99]⟩
def OX :Nd:=aC 3 1 ⟨#[97]⟩
def OW :Nd:=aC 24 0 ⟨#[99]⟩
def OV :Nd:=aC 24 0 ⟨#[97]⟩
def JL :List Nd:=[OW,OV]
def OS :Nd:=.mk 8 0 ⟨#[]⟩ (JL).length<|cE JL
def JK :List Nd:=[OS]
def OR :Nd:=.mk 4 0 ⟨#[]⟩ (JK).length<|cE JK
def JJ :List Nd:=[OY,OX,OR]
def OQ :Nd:=.mk 2 0 ⟨#[112,117,116]⟩ (JJ).length<|cE JJ
def OP :Nd:=aC 3 1 ⟨#[97]⟩
def OO :Nd:=aC 24 0 ⟨#[97]⟩
def JI :List Nd:=[OO]
def ON :Nd:=.mk 20 0 ⟨#[]⟩ (JI).length<|cE JI
def JH :List Nd:=[ON]
def OM :Nd:=.mk 4 0 ⟨#[]⟩ (JH).length<|cE JH
def JG :List Nd:=[OP,OM]
def OL :Nd:=.mk 2 0 ⟨#[115,104,111,119]⟩ (JG).length<|cE JG
def OK :Nd:=aC 3 3 ⟨#[99]⟩
def OJ :Nd:=aC 3 1 ⟨#[97]⟩
def OI :Nd:=aC 24 0 ⟨#[99]⟩
def JF :List Nd:=[OI]
def OH :Nd:=.mk 29 0 ⟨#[]⟩ (JF).length<|cE JF
def JE :List Nd:=[OH]
def OG :Nd:=.mk 5 0 ⟨#[98]⟩ (JE).length<|cE JE
def OF :Nd:=aC 24 0 ⟨#[97]⟩
def OE :Nd:=aC 24 0 ⟨#[98]⟩
def JD :List Nd:=[OF,OE]
def OD :Nd:=.mk 28 0 ⟨#[43]⟩ (JD).length<|cE JD
def JC :List Nd:=[OD]
def OC :Nd:=.mk 20 0 ⟨#[]⟩ (JC).length<|cE JC
def JB :List Nd:=[OG,OC]
def OB :Nd:=.mk 4 0 ⟨#[]⟩ (JB).length<|cE JB
def JA :List Nd:=[OK,OJ,OB]
def OA :Nd:=.mk 2 0 ⟨#[119,111,114,107]⟩ (JA).length<|cE JA
def oS :List Nd:=[OZ,OQ,OL,OA]
def ZA :List Nd:=oS
def tbl :List Ty:=[.nd td0,.nd td1,.nd td2,.nd td3,.rw ZB,.nd td5,.rw Zz,.nd td7,.rw Zy,.nd td9,.rw JM,.nd OZ,.nd OY,.nd OX,.nd OW,.nd OV,.rw JL,.nd OS,.rw JK,.nd OR,.rw JJ,.nd OQ,.nd OP,.nd OO,.rw JI,.nd ON,.rw JH,.nd OM,.rw JG,.nd OL,.nd OK,.nd OJ,.nd OI,.rw JF,.nd OH,.rw JE,.nd OG,.nd OF,.nd OE,.rw JD,.nd OD,.rw JC,.nd OC,.rw JB,.nd OB,.rw JA,.nd OA,.rw oS,.rw ZA]
def dsts :List Nat:=[7,8,9,10,11,12,13,14,15,16,17,18,19,20,21,22,23,24,25,26,27,28,29,30,31,32,33,34,35,36,37,38,39,40,41,42,43,44,45,46,47,48,49,50,51,52,53,54,0]
def BV (B:Nat)(i:Nat)(w:World)(v:Value):Prop:=match tbl[i]?with|some t=>t.holds B w v|none=>True
theorem Sr (I:Below w.heap.size w w')(i:Nat)(v:Value)(h:BV B i w v):BV B i w' v:=by
 unfold BV at*
 split
 ·rename_i t e;rw[e]at h;exact Ty.calm h I
 ·trivial
theorem XZ (l:Array Value)(h:l.size=55):l=((List.range 55).map fun i=>l.getD i undef).toArray:=by
 apply Array.ext
 ·simp[h]
 ·intro i h1 h2;simp[Array.getD_eq_getD_getElem?,h1]
theorem TP (l:Array Value)(h:l.size=55):∃x0 x1 x2 x3 x4 x5 x6 x7 x8 x9 x10 x11 x12 x13 x14 x15 x16 x17 x18 x19 x20 x21 x22 x23 x24 x25 x26 x27 x28 x29 x30 x31 x32 x33 x34 x35 x36 x37 x38 x39 x40 x41 x42 x43 x44 x45 x46 x47 x48 x49 x50 x51 x52 x53 x54,l=#[x0,x1,x2,x3,x4,x5,x6,x7,x8,x9,x10,x11,x12,x13,x14,x15,x16,x17,x18,x19,x20,x21,x22,x23,x24,x25,x26,x27,x28,x29,x30,x31,x32,x33,x34,x35,x36,x37,x38,x39,x40,x41,x42,x43,x44,x45,x46,x47,x48,x49,x50,x51,x52,x53,x54]:=⟨_,_,_,_,_,_,_,_,_,_,_,_,_,_,_,_,_,_,_,_,_,_,_,_,_,_,_,_,_,_,_,_,_,_,_,_,_,_,_,_,_,_,_,_,_,_,_,_,_,_,_,_,_,_,_,XZ l h⟩
def oZ (i:Nat):Nat:=dsts.getD i 100
theorem Kc :((List.range 49).all fun i=>(List.range 49).all fun j=>oZ i !=oZ j||i==j)=true:=by kernel_rfl
theorem Kb (i j:Nat)(hi:i<49)(hj:j<49)(h:oZ i=oZ j):i=j:=by have:=avE.1 (avE.1 Kc i<|avG.2 hi) j<|avG.2 hj;simpa[h]using this
theorem AE :((List.range 49).all fun i=>decide (oZ i<55)&&(oZ i==0||decide (6<oZ i)))=true:=by kernel_rfl
theorem Pe (i:Nat)(hi:i<49):oZ i<55:=by have:=avE.1 AE i<|avG.2 hi;simp only[avw,avy]at this;exact this.1
theorem yO (t:Nat)(ht:0<t/\t<7)(i:Nat)(hi:i<49):t≠oZ i:=by have:=avE.1 AE i<|avG.2 hi;simp only[avw,avy,av2,avV]at this;omega
theorem H9 (h:l.getD j false=true):l.getD j true=true:=by exact abZ
theorem vy (w:World):Calls prog 23 #[] w fun e w'=>∃v,e=.returned v/\qt w.heap.size oS w' v/\Below w.heap.size w w':=by
 have di:=pJ;go_enter func23,ntmps23
 go_wp2_with fail
 refine(aV _ _ _ _ _ _).mono ?_;rintro e w1⟨rfl,hb1⟩;have eu:=hb1.size;go_wp2_with fail
 refine(aV _ _ _ _ _ _).mono ?_;rintro e w2⟨rfl,hb2⟩;have ed:=hb2.size;simp only[avs]at ed;have B2:=Z<|(hb1.alloc eu _).trans<|hb2.mono aah;have N2:=Z<|aW (avv w1 _) hb2;clear hb1 hb2;go_wp2_with fail
 refine(aV _ _ _ _ _ _).mono ?_;rintro e w3⟨rfl,hb3⟩;have td:=hb3.size;simp only[avs]at td;have B3:=Z<|(B2.o.alloc O _).trans<|hb3.mono aah;have N3:=Z<|aW ((avI w2 _ _ O).trans N2.o) hb3;have M3:=Z<|aW (avv w2 _) hb3;clear hb3 B2 N2;go_wp2_with fail
 have BW:=Z<|B3.o.alloc O<|.cells #[.int .i64 24,.int .i64 0,.string ⟨#[99]⟩,.slice none 0 0] 25;have NW:=Z<|(avI w3 (.cells #[.int .i64 24,.int .i64 0,.string ⟨#[99]⟩,.slice none 0 0] 25) _ O).trans N3.o;have MW:=Z<|(avI w3 (.cells #[.int .i64 24,.int .i64 0,.string ⟨#[99]⟩,.slice none 0 0] 25) _ O).trans M3.o;have CW:=Z<|avv w3<|.cells #[.int .i64 24,.int .i64 0,.string ⟨#[99]⟩,.slice none 0 0] 25;have hzW:w3.heap.size+1<=(w3.alloc<|.cells #[.int .i64 24,.int .i64 0,.string ⟨#[99]⟩,.slice none 0 0] 25).heap.size:=M;revert BW NW MW CW hzW;generalize w3.alloc (.cells #[.int .i64 24,.int .i64 0,.string ⟨#[99]⟩,.slice none 0 0] 25)=W;intro BW NW MW CW hzW;clear B3 N3 M3;refine jt di aaf oZ (BV w.heap.size) (fun _ v=>Below W.heap.size W v) ((avB _ _).drew) ?_ ?_
 ·intro listed a v i hI hr;have hi:i<49:=(bx hr).1;have hS:=hI.s;have BB:w.heap.size<=v.heap.size:=by have h1:=hS.size;have h2:=BW.o.size;omega
  have dj:=Z fun(i:Nat)(hi:i<49)(v':World)(I:Below v.heap.size v v')(x:Value)(hx:BV w.heap.size i v' x)=>hI.put Kb (fun i hi=>Pe i hi) (Sr I) (hS.trans<|I.mono hS.size) hi hx;have bJ:=Z fun(j:Nat)(hj:j<49)(hl:listed.getD j false=true)=>hI.bl j hj<|H9 hl;have bC:=gT hr;obtain⟨na0,na1,na2,na3,_⟩:=al<|aW NW.o hS;obtain⟨nb0,nb1,nb2,nb3,_⟩:=al<|aW MW.o hS;obtain⟨nc0,nc1,nc2,nc3,_⟩:=al<|aW CW.o hS;have e1:=hI.keep 1 (by intro i hi;exact yO 1 J i hi);have e2:=hI.keep 2 (by intro i hi;exact yO 2 J i hi);have e3:=hI.keep 3 (by intro i hi;exact yO 3 J i hi);have hsz55:a.tmps.size=55:=hI.size;have mP:a.defers=[]:=hI.defers;clear hI hr;obtain⟨tm,df⟩:=a;obtain⟨x0,x1,x2,x3,x4,x5,x6,x7,x8,x9,x10,x11,x12,x13,x14,x15,x16,x17,x18,x19,x20,x21,x22,x23,x24,x25,x26,x27,x28,x29,x30,x31,x32,x33,x34,x35,x36,x37,x38,x39,x40,x41,x42,x43,x44,x45,x46,x47,x48,x49,x50,x51,x52,x53,x54,rfl⟩:=TP tm hsz55;obtain rfl:df=[]:=mP;obtain rfl:x1=.pointer (some ⟨w1.heap.size,0,none⟩):=e1;obtain rfl:x2=.pointer (some ⟨w2.heap.size,0,none⟩):=e2;obtain rfl:x3=.pointer (some ⟨w3.heap.size,0,none⟩):=e3;rcases(O:i=0\/i=1\/i=2\/i=3\/i=4\/i=5\/i=6\/i=7\/i=8\/i=9\/i=10\/i=11\/i=12\/i=13\/i=14\/i=15\/i=16\/i=17\/i=18\/i=19\/i=20\/i=21\/i=22\/i=23\/i=24\/i=25\/i=26\/i=27\/i=28\/i=29\/i=30\/i=31\/i=32\/i=33\/i=34\/i=35\/i=36\/i=37\/i=38\/i=39\/i=40\/i=41\/i=42\/i=43\/i=44\/i=45\/i=46\/i=47\/i=48)with rfl|rfl|rfl|rfl|rfl|rfl|rfl|rfl|rfl|rfl|rfl|rfl|rfl|rfl|rfl|rfl|rfl|rfl|rfl|rfl|rfl|rfl|rfl|rfl|rfl|rfl|rfl|rfl|rfl|rfl|rfl|rfl|rfl|rfl|rfl|rfl|rfl|rfl|rfl|rfl|rfl|rfl|rfl|rfl|rfl|rfl|rfl|rfl|rfl;all_goals(refine gR rfl rfl ?_)
  ·go_simp;refine(jh _ _ _).mono ?_;rintro e v2⟨rfl,I⟩;exact dj.o 0 O v2 I _<|eJ _ _ _ _ _
  ·go_simp;refine(jh _ _ _).mono ?_;rintro e v2⟨rfl,I⟩;exact dj.o 1 O v2 I _<|eJ _ _ _ _ _
  ·go_simp;exact dj.o 2 O v (avB _ _) _<|eJ _ _ _ _ _
  ·go_simp;exact dj.o 3 O v (avB _ _) _<|eJ _ _ _ _ _
  ·skip;obtain⟨p2,y2,rfl,r2⟩:mY w.heap.size td2 v x9:=ag bJ bC 2 rfl;obtain⟨p3,y3,rfl,r3⟩:mY w.heap.size td3 v x10:=ag bJ bC 3 rfl;unfold Nd.val at*
   go_simp;exact dj.o 4 O _ (bA) _<|AH BB r2 r3
  ·have kG:qt w.heap.size ZB v x11:=ag bJ bC 4 rfl;have aix:=kk;exact sS
  ·skip;obtain⟨p5,y5,rfl,r5⟩:mY w.heap.size td5 v x12:=ag bJ bC 5 rfl;unfold Nd.val at*
   go_simp;exact dj.o 6 O _ (bA) _<|rY BB r5
  ·have kG:qt w.heap.size Zz v x13:=ag bJ bC 6 rfl;have aiy:=kk;exact sS
  ·skip;obtain⟨p7,y7,rfl,r7⟩:mY w.heap.size td7 v x14:=ag bJ bC 7 rfl;unfold Nd.val at*
   go_simp;exact dj.o 8 O _ (bA) _<|rY BB r7
  ·have kG:qt w.heap.size Zy v x15:=ag bJ bC 8 rfl;have aiB:=kk;exact sS
  ·skip;obtain⟨p0,y0,rfl,r0⟩:mY w.heap.size td0 v x7:=ag bJ bC 0 rfl;obtain⟨p1,y1,rfl,r1⟩:mY w.heap.size td1 v x8:=ag bJ bC 1 rfl;obtain⟨p9,y9,rfl,r9⟩:mY w.heap.size td9 v x16:=ag bJ bC 9 rfl;unfold Nd.val at*
   go_simp;exact dj.o 10 O _ (bA) _<|Kn BB r0 r1 r9
  ·have kG:qt w.heap.size JM v x17:=ag bJ bC 10 rfl;have aiP:=kk;exact ab3
  ·go_simp;refine(jh _ _ _).mono ?_;rintro e v2⟨rfl,I⟩;exact dj.o 12 O v2 I _<|eJ _ _ _ _ _
  ·go_simp;refine(jh _ _ _).mono ?_;rintro e v2⟨rfl,I⟩;exact dj.o 13 O v2 I _<|eJ _ _ _ _ _
  ·go_simp;exact dj.o 14 O v (avB _ _) _<|eJ _ _ _ _ _
  ·go_simp;exact dj.o 15 O v (avB _ _) _<|eJ _ _ _ _ _
  ·skip;obtain⟨p14,y14,rfl,r14⟩:mY w.heap.size OW v x21:=ag bJ bC 14 rfl;obtain⟨p15,y15,rfl,r15⟩:mY w.heap.size OV v x22:=ag bJ bC 15 rfl;unfold Nd.val at*
   go_simp;exact dj.o 16 O _ (bA) _<|AH BB r14 r15
  ·have kG:qt w.heap.size JL v x23:=ag bJ bC 16 rfl;have aiC:=kk;exact sS
  ·skip;obtain⟨p17,y17,rfl,r17⟩:mY w.heap.size OS v x24:=ag bJ bC 17 rfl;unfold Nd.val at*
   go_simp;exact dj.o 18 O _ (bA) _<|rY BB r17
  ·have kG:qt w.heap.size JK v x25:=ag bJ bC 18 rfl;have aiD:=kk;exact sS
  ·skip;obtain⟨p12,y12,rfl,r12⟩:mY w.heap.size OY v x19:=ag bJ bC 12 rfl;obtain⟨p13,y13,rfl,r13⟩:mY w.heap.size OX v x20:=ag bJ bC 13 rfl;obtain⟨p19,y19,rfl,r19⟩:mY w.heap.size OR v x26:=ag bJ bC 19 rfl;unfold Nd.val at*
   go_simp;exact dj.o 20 O _ (bA) _<|Kn BB r12 r13 r19
  ·have kG:qt w.heap.size JJ v x27:=ag bJ bC 20 rfl;have aiQ:=kk;exact ab3
  ·go_simp;refine(jh _ _ _).mono ?_;rintro e v2⟨rfl,I⟩;exact dj.o 22 O v2 I _<|eJ _ _ _ _ _
  ·go_simp;exact dj.o 23 O v (avB _ _) _<|eJ _ _ _ _ _
  ·skip;obtain⟨p23,y23,rfl,r23⟩:mY w.heap.size OO v x30:=ag bJ bC 23 rfl;unfold Nd.val at*
   go_simp;exact dj.o 24 O _ (bA) _<|rY BB r23
  ·have kG:qt w.heap.size JI v x31:=ag bJ bC 24 rfl;have aiE:=kk;exact sS
  ·skip;obtain⟨p25,y25,rfl,r25⟩:mY w.heap.size ON v x32:=ag bJ bC 25 rfl;unfold Nd.val at*
   go_simp;exact dj.o 26 O _ (bA) _<|rY BB r25
  ·have kG:qt w.heap.size JH v x33:=ag bJ bC 26 rfl;have aiF:=kk;exact sS
  ·skip;obtain⟨p22,y22,rfl,r22⟩:mY w.heap.size OP v x29:=ag bJ bC 22 rfl;obtain⟨p27,y27,rfl,r27⟩:mY w.heap.size OM v x34:=ag bJ bC 27 rfl;unfold Nd.val at*
   go_simp;exact dj.o 28 O _ (bA) _<|AH BB r22 r27
  ·have kG:qt w.heap.size JG v x35:=ag bJ bC 28 rfl;have aiR:=kk;exact ab3
  ·go_simp;refine(jh _ _ _).mono ?_;rintro e v2⟨rfl,I⟩;exact dj.o 30 O v2 I _<|eJ _ _ _ _ _
  ·go_simp;refine(jh _ _ _).mono ?_;rintro e v2⟨rfl,I⟩;exact dj.o 31 O v2 I _<|eJ _ _ _ _ _
  ·go_simp;exact dj.o 32 O v (avB _ _) _<|eJ _ _ _ _ _
  ·skip;obtain⟨p32,y32,rfl,r32⟩:mY w.heap.size OI v x39:=ag bJ bC 32 rfl;unfold Nd.val at*
   go_simp;exact dj.o 33 O _ (bA) _<|rY BB r32
  ·have kG:qt w.heap.size JF v x40:=ag bJ bC 33 rfl;have aiG:=kk;exact sS
  ·skip;obtain⟨p34,y34,rfl,r34⟩:mY w.heap.size OH v x41:=ag bJ bC 34 rfl;unfold Nd.val at*
   go_simp;exact dj.o 35 O _ (bA) _<|rY BB r34
  ·have kG:qt w.heap.size JE v x42:=ag bJ bC 35 rfl;have aiH:=kk;exact sS
  ·go_simp;exact dj.o 37 O v (avB _ _) _<|eJ _ _ _ _ _
  ·go_simp;exact dj.o 38 O v (avB _ _) _<|eJ _ _ _ _ _
  ·skip;obtain⟨p37,y37,rfl,r37⟩:mY w.heap.size OF v x44:=ag bJ bC 37 rfl;obtain⟨p38,y38,rfl,r38⟩:mY w.heap.size OE v x45:=ag bJ bC 38 rfl;unfold Nd.val at*
   go_simp;exact dj.o 39 O _ (bA) _<|AH BB r37 r38
  ·have kG:qt w.heap.size JD v x46:=ag bJ bC 39 rfl;have aiI:=kk;exact sS
  ·skip;obtain⟨p40,y40,rfl,r40⟩:mY w.heap.size OD v x47:=ag bJ bC 40 rfl;unfold Nd.val at*
   go_simp;exact dj.o 41 O _ (bA) _<|rY BB r40
  ·have kG:qt w.heap.size JC v x48:=ag bJ bC 41 rfl;have aiz:=kk;exact sS
  ·skip;obtain⟨p36,y36,rfl,r36⟩:mY w.heap.size OG v x43:=ag bJ bC 36 rfl;obtain⟨p42,y42,rfl,r42⟩:mY w.heap.size OC v x49:=ag bJ bC 42 rfl;unfold Nd.val at*
   go_simp;exact dj.o 43 O _ (bA) _<|AH BB r36 r42
  ·have kG:qt w.heap.size JB v x50:=ag bJ bC 43 rfl;have aiA:=kk;exact sS
  ·skip;obtain⟨p30,y30,rfl,r30⟩:mY w.heap.size OK v x37:=ag bJ bC 30 rfl;obtain⟨p31,y31,rfl,r31⟩:mY w.heap.size OJ v x38:=ag bJ bC 31 rfl;obtain⟨p44,y44,rfl,r44⟩:mY w.heap.size OB v x51:=ag bJ bC 44 rfl;unfold Nd.val at*
   go_simp;exact dj.o 45 O _ (bA) _<|Kn BB r30 r31 r44
  ·have kG:qt w.heap.size JA v x52:=ag bJ bC 45 rfl;have aiS:=kk;exact ab3
  ·skip;obtain⟨p11,y11,rfl,r11⟩:mY w.heap.size OZ v x18:=ag bJ bC 11 rfl;obtain⟨p21,y21,rfl,r21⟩:mY w.heap.size OQ v x28:=ag bJ bC 21 rfl;obtain⟨p29,y29,rfl,r29⟩:mY w.heap.size OL v x36:=ag bJ bC 29 rfl;obtain⟨p46,y46,rfl,r46⟩:mY w.heap.size OA v x53:=ag bJ bC 46 rfl;unfold Nd.val at*
   go_simp;exact dj.o 47 O _ (bA) _<|ZR BB r11 r21 r29 r46
  ·have kG:qt w.heap.size oS v x54:=ag bJ bC 47 rfl;go_simp;exact dj.o 48 O v (avB _ _) _ kG
 ·intro a v cg mP cQ zm fP;obtain⟨_,_,hS,_⟩:=zm;have kG:qt w.heap.size ZA v (a.eval<|.tmp 0):=fP 48 (by show 48<49;omega);have HB:=Z<|BW.o.trans<|hS.mono BW.o.size;obtain⟨tm,df⟩:=a;obtain⟨x0,x1,x2,x3,x4,x5,x6,x7,x8,x9,x10,x11,x12,x13,x14,x15,x16,x17,x18,x19,x20,x21,x22,x23,x24,x25,x26,x27,x28,x29,x30,x31,x32,x33,x34,x35,x36,x37,x38,x39,x40,x41,x42,x43,x44,x45,x46,x47,x48,x49,x50,x51,x52,x53,x54,rfl⟩:=TP tm cg;obtain rfl:df=[]:=mP;have HRW:Hid (qt w.heap.size oS v x0):=kG;clear fP cQ kG cg hS;obtain⟨g,hg,_⟩:=id HRW.o;go_wp2;go_ret;exact⟨_,rfl,HRW.o,HB.o⟩
section
open Go Go.RowKit
def mI :List Nd->Prop
 |[]=>True
 |T::l=>T.R/\mI l
theorem Fz :∀{Ts:List Nd}{i:Nat},mI Ts->i<Ts.length->(cE Ts i).R
 |[],_,_,hi=>absurd hi<|avJ _
 |T::l,0,h,_=>h.1
 |T::l,i+1,h,hi=>Fz (Ts:=l) h.2 (by simpa using hi)
theorem fg {n:Int}{s:ByteArray}{Ts:List Nd}(z:-9223372036854775808<=k/\k<=9223372036854775807)(hn:-9223372036854775808<=n/\n<=9223372036854775807)(hs:s.size<=9223372036854775807)(hl:Ts.length<=1000)(h:mI Ts):(Nd.mk k n s Ts.length<|cE Ts).R:=
 ⟨z,hn,hs,O,fun i hi=>Fz h hi⟩
theorem JU :td0.R:=aO O O J
theorem JT :td1.R:=aO O O J
theorem JS :td2.R:=aO O O J
theorem JR :td3.R:=aO O O J
theorem Jz :mI ZB:=⟨JS,JR,trivial⟩
theorem JQ :td5.R:=fg O O J J Jz
theorem Jy :mI Zz:=⟨JQ,trivial⟩
theorem JP :td7.R:=fg O O J J Jy
theorem Jw :mI Zy:=⟨JP,trivial⟩
theorem JO :td9.R:=fg O O J J Jw
theorem Ge :mI JM:=⟨JU,JT,JO,trivial⟩
theorem GG :OZ.R:=fg O O J J Ge
theorem GF :OY.R:=aO O O J
theorem GD :OX.R:=aO O O J
theorem GC :OW.R:=aO O O J
theorem GB :OV.R:=aO O O J
theorem Gd :mI JL:=⟨GC,GB,trivial⟩
theorem GA :OS.R:=fg O O J J Gd
theorem Gc :mI JK:=⟨GA,trivial⟩
theorem Gz :OR.R:=fg O O J J Gc
theorem Gb :mI JJ:=⟨GF,GD,Gz,trivial⟩
theorem Gy :OQ.R:=fg O O J J Gb
theorem Gx :OP.R:=aO O O J
theorem Gv :OO.R:=aO O O J
theorem Ga :mI JI:=⟨Gv,trivial⟩
theorem Gu :ON.R:=fg O O J J Ga
theorem F9 :mI JH:=⟨Gu,trivial⟩
theorem Gt :OM.R:=fg O O J J F9
theorem F8 :mI JG:=⟨Gx,Gt,trivial⟩
theorem Gs :OL.R:=fg O O J J F8
theorem Gr :OK.R:=aO O O J
theorem Gq :OJ.R:=aO O O J
theorem Gp :OI.R:=aO O O J
theorem F7 :mI JF:=⟨Gp,trivial⟩
theorem Gn :OH.R:=fg O O J J F7
theorem F0 :mI JE:=⟨Gn,trivial⟩
theorem Gm :OG.R:=fg O O J J F0
theorem Gk :OF.R:=aO O O J
theorem Gj :OE.R:=aO O O J
theorem FZ :mI JD:=⟨Gk,Gj,trivial⟩
theorem Gi :OD.R:=fg O O J J FZ
theorem FY :mI JC:=⟨Gi,trivial⟩
theorem Gh :OC.R:=fg O O J J FY
theorem FX :mI JB:=⟨Gm,Gh,trivial⟩
theorem Gg :OB.R:=fg O O J J FX
theorem FW :mI JA:=⟨Gr,Gq,Gg,trivial⟩
theorem Gf :OA.R:=fg O O J J FW
theorem vx (i:Nat)(h:i<4):(cE oS i).R/\b6 (cE oS i)=true/\(cE oS i).ak<=18:=by
 rcases(O:i=0\/i=1\/i=2\/i=3)with rfl|rfl|rfl|rfl
 ·exact⟨GG,aaf,J⟩
 ·exact⟨Gy,aaf,J⟩
 ·exact⟨Gs,aaf,J⟩
 ·exact⟨Gf,aaf,J⟩
theorem MT :aq (fun i=>(cE oS i).cost) 4<=1000:=by decide
end
end Go.Proofs.YtgcmhaghebhjnaaGreatDoor
