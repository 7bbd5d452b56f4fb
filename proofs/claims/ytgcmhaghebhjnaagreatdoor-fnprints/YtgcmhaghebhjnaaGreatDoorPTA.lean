import Derived.Test.YtgcmhaghebhjnaaGreatDoorPKaBase
set_option linter.unusedVariables false
set_option maxHeartbeats 16000000
set_option maxRecDepth 100000
namespace Go.Proofs.YtgcmhaghebhjnaaGreatDoor
open Go.RowKit Tryz List
variable {P :Program} {Q:Exit->Act->World->Prop} {T:Nd} {W w w' w0:World} {X Y:List UInt8} {a:Act} {ai fl:Option Nat} {b len ob:Nat} {e:Nat->Bool} {o:Obj} {ops:Array Oper} {rest:List Oper} {v:Value}
variable {G :Prop}
theorem aft (h:G:=by
 rw[aE]at HW;have HB:=Z I;clear hE I hr hf ax ab z aE;generalize (if T.q=0 then[]else(aJ<|T.f 0).ex 1)=tail at*
 have aqh:=kk;exact Iz):G:=h
theorem afu (h:G:=by
 go_wp2_with(first
  |(go_at_call 36;refine(HP.o.add _ aag).mono ?_;rintro e w2 ⟨rfl,y⟩;obtain⟨b0,b1,b2,b3⟩:=HN.o _ _ y;obtain⟨ej,ei,eh,ef⟩:=cZ.o _ _ y;have HP:=Z y;clear y)
  |(go_at_call_of 132 u0;refine(HP.o.expr qc.o 1 u0 mX.o lJ.o nh.o J aag).mono ?_;rintro e w2 ⟨rfl,y⟩;obtain⟨b0,b1,b2,b3⟩:=HN.o _ _ y;obtain⟨ej,ei,eh,ef⟩:=cZ.o _ _ y;have HP:=Z y;clear y))
 go_end0;exact HP.o.ax M):G:=h
theorem afC (h:G:=by
 rw[aE]at HW;have hs:T.z.size<=1099511627776:=by
  have:=I;simp at this;omega
 exact afv):G:=h
theorem afF (h:G:=by rw[aE]at HW;exact afv):G:=h
theorem afG (h:G:=by have HB:=Z I;clear I hr hf ax ab z aE;have aqi:=kk;exact Iz):G:=h
theorem afH (h:G:=by exact afw):G:=h
theorem afI (h:G:=by unfold Oper.wp execOp;simp only[ho,resolve,invoke,builtin,awr,Sem.run_pure,awR,awS,awD,awP,hs,hx,hr];exact hK _ _ (h v' w' h2 h3 h4 h5)):G:=h
theorem afJ (h:G:=by
 rcases h2.2 with⟨rfl,_⟩|⟨g,cap,cur,rfl,_⟩
 ·exact⟨_,_,_,rfl⟩
 ·exact⟨_,_,_,rfl⟩):G:=h
theorem afK (h:G:=by
 rcases ho.2 with⟨rfl,_⟩|⟨g,cap,cur,rfl,_⟩
 ·exact⟨_,_,_,rfl⟩
 ·exact⟨_,_,_,rfl⟩):G:=h
theorem afL (h:G:=by rw[aM,z]at h;simp[aL]at h;exact yz (P:=fun i=>(T.f i).Q=true) (KK h.2).2):G:=h
theorem M0 (h:G:=by rw[aM,z]at h;simp[aL]at h;exact yz (P:=fun i=>(T.f i).Q=true) (jC h.2).2):G:=h
theorem Rg (h:G:=by rw[wa]at hr;injection hr with e1 e2;subst e1;exact .inr ⟨w.heap.size,rfl,avF _⟩):G:=h
theorem afv (h:G:=by have HB:=Z I;clear hE I hr hf ax ab z aE;exact afx):G:=h
theorem afw (h:G:=by
 go_wp2_with(first
  |(go_at_call 36;refine(HP.o.add _ aag).mono ?_;rintro e w2 ⟨rfl,y⟩;obtain⟨b0,b1,b2,b3⟩:=HN.o _ _ y;have HP:=Z y;clear y))
 go_end0;exact HP.o.ax M):G:=h
theorem afx (h:G:=by
 generalize (if T.q=0 then[]else(aJ<|T.f 0).ex 1)=tail at*
 have aqj:=kk;exact Iz):G:=h
theorem afy (h:G:=by
 have HP:=Z<|Pst.aj ab<|.cells #[.int .i64 T.y,.int .i64 T.E,.string T.z,.slice a T.q cap] 25;have HN:=Z<|Pst.node ab (.int .i64 T.y) (.int .i64 T.E) (.string T.z) (.slice a T.q cap) 25;have HR:=Z<|bb ab hr<|.cells #[.int .i64 T.y,.int .i64 T.E,.string T.z,.slice a T.q cap] 25;first
 |clear apV
  have HI:=Z ih;have HF:=Z hf;have HB:=Z I;clear I hr hf hE ab ih bo;generalize hF:(fun i=>bB d++((aJ<|T.f i).st d++[10]))=F at*
  have vH:=Z hF;have FJ:=Z fun i(h:i<T.q)=>gO F h;clear hF;generalize T.z=ts at*
  generalize T.E=tn at*
  generalize T.y=tk at*
  go_enter func63,ntmps63
  go_wp2;go_loopw[6] (fun i wr=>∃j:Nat,j<=T.q/\i=.int .i64 j/\Hid (Pst ob own (w.alloc<|.cells #[.int .i64 tk,.int .i64 tn,.string ts,.slice a T.q cap] 25) (X++ay F j) wr)) (fun i _=>T.q-(intOf i).toNat)
  case atStart=>exact⟨0,O,rfl,Z aaA⟩
  case round=>
   obtain⟨j,hj,rfl,HP⟩:=hrel;obtain⟨b0,b1,b2,b3⟩:=HN.o _ _ HP.o;by_cases be:j<T.q
   ·have ap3:=kk;exact afB
   ·obtain rfl:j=T.q:=O;go_wp2;go_end0;exact HP.o.ax M
 |clear apX
  have HE:=Z hE;have HI:=Z ih;have HF:=Z hf;have HB:=Z I;unfold Nd.val;clear I hr hf hE ab ih bo;go_enter func38,ntmps38
  go_wp2_with(first
   |(go_at_call 64;refine(HP.o.cZ d aai).mono ?_;rintro e w2 ⟨rfl,y⟩;obtain⟨b0,b1,b2,b3⟩:=HN.o _ _ y;have HP:=Z y;clear y)
   |(go_at_call 36;(refine(HP.o.add _ aai).mono ?_;rintro e w2 ⟨rfl,y⟩;obtain⟨b0,b1,b2,b3⟩:=HN.o _ _ y;have HP:=Z y;clear y))
   |(go_at_call 63;refine(HP.o.ad HI.o (d+1) _ HF.o HR.o HE.o aai).mono ?_;rintro e w2 ⟨rfl,y⟩;obtain⟨b0,b1,b2,b3⟩:=HN.o _ _ y;have HP:=Z y;clear y))
  go_end0;exact HP.o.ax (by simp[aS])):G:=h
theorem afz (h:G:=by have nh:=Z jv;have tD:=Z zn;have ap6:=kk;exact Xi):G:=h
theorem afA (h:G:=by have nh:=Z jv;have ap9:=kk;exact afE):G:=h
theorem afB (h:G:=by
 obtain⟨g,off,nR,hv,hg,bo,z⟩:=gX HR.o O;obtain⟨rfl,rfl⟩:a=some ⟨g,off,none⟩/\cap=nR:=by injection hv with e1 e2 e3;exact⟨e1,e3⟩
 obtain⟨u,hc,pH⟩:=z j be;first
 |clear ap2
  obtain⟨c0,c1,c2,c3⟩:=hc _ HP.o.below;have HC:=Z hc;have FF:=Z pH;have iX:=FJ.o j be;have Zf:=Z<|HI.o j be;have ng:=Z<|Nd.aa HF.o be;have HEJ:=Z<|HE.o j be;have ic:Hid (F j=(if j=0 then[]else[44,32])++(aJ<|T.f j).ex 1):=by rw[<-vH.o];rfl
  have zk:(ay F j).length+((if j=0 then[]else[44,32]:List UInt8).length+((aJ<|T.f j).ex 1).length)<=(ay F T.q).length:=by rw[ic.o,avu]at iX;exact iX
  clear z hc pH iX hv bo;generalize T.f j=K at*
  have HX:Hid (ay F (j+1)=ay F j++((if j=0 then[]else[44,32])++(aJ K).ex 1)):=by unfold Hid;rw[<-ic.o];rfl
  by_cases hj0:0<j
  ·have I5:j≠0:=O;go_wp2_with(first
    |(go_at_call 36;refine(HP.o.add _ (by have:=HB.o;simp[I5]at zk⊢;omega)).mono ?_;rintro e w2 ⟨rfl,y⟩;obtain⟨b0,b1,b2,b3⟩:=HN.o _ _ y;obtain⟨c0,c1,c2,c3⟩:=HC.o _ y.below;have HP:=Z y;clear y)
    |(go_at_call 132;refine(HP.o.expr Zf.o 1 u ng.o FF.o HEJ.o J (by have:=HB.o;simp[I5]at zk⊢;omega)).mono ?_;rintro e w2 ⟨rfl,y⟩;obtain⟨b0,b1,b2,b3⟩:=HN.o _ _ y;have HP:=Z y;clear y))
   exact⟨⟨j+1,O,by go_num,Z (by rw[HX.o,avo I5];simpa using HP.o)⟩,by simp[intOf];omega⟩
  ·obtain rfl:j=0:=O;simp only[Nat.zero_mul,Nat.add_zero]at c0 c1 c2 c3;go_wp2_with(first
    |(go_at_call 132;refine(HP.o.expr Zf.o 1 u ng.o FF.o HEJ.o J (by have:=HB.o;simp at zk⊢;omega)).mono ?_;rintro e w2 ⟨rfl,y⟩;obtain⟨b0,b1,b2,b3⟩:=HN.o _ _ y;have HP:=Z y;clear y))
   exact⟨⟨1,O,by go_num,Z aaW⟩,by simp[intOf];omega⟩
 |clear ap3
  have HC:=Z hc;have FF:=Z pH;have iX:=FJ.o j be;have Zf:=Z<|HI.o j be;have ng:=Z<|Nd.aa HF.o be;have HEJ:=Z<|HE.o j be;have ic:Hid (F j=bB d++((aJ<|T.f j).st d++[10])):=by rw[<-vH.o];rfl
  have zk:(ay F j).length+(d+(((aJ<|T.f j).st d).length+1))<=(ay F T.q).length:=by rw[ic.o]at iX;simpa[bB]using iX
  clear z hc pH iX hv bo;generalize T.f j=K at*
  have HX:Hid (ay F (j+1)=ay F j++(bB d++((aJ K).st d++[10]))):=by unfold Hid;rw[<-ic.o];rfl
  go_wp2_with(first
   |(go_at_call 64;refine(HP.o.cZ d abb).mono ?_;rintro e w2 ⟨rfl,y⟩;obtain⟨b0,b1,b2,b3⟩:=HN.o _ _ y;obtain⟨c0,c1,c2,c3⟩:=HC.o _ y.below;have HP:=Z y;clear y)
   |(go_at_call 36;refine(HP.o.add _ (by have:=HB.o;simp[bB];omega)).mono ?_;rintro e w2 ⟨rfl,y⟩;obtain⟨b0,b1,b2,b3⟩:=HN.o _ _ y;have HP:=Z y;clear y)
   |(go_at_call 103;refine(HP.o.stmt Zf.o d u ng.o FF.o HEJ.o (by have:=HB.o;simp[bB];omega)).mono ?_;rintro e w2 ⟨rfl,y⟩;obtain⟨b0,b1,b2,b3⟩:=HN.o _ _ y;have HP:=Z y;clear y))
  exact⟨⟨j+1,O,by go_num,Z aaW⟩,by simp[intOf];omega⟩):G:=h
theorem Xi (h:G:=by have aqa:=kk;exact afE):G:=h
theorem afD (h:G:=by
 have sq:∃a l c,v'=.slice a l c:=by
  exact afJ
 refine⟨v',w',hr,h2,h3,?_,sq⟩;rcases dd.2 with⟨rfl,rfl⟩|⟨g,cap,cur,rfl,hbg,hg,hnc,Ac,q8,S4⟩;first
 |clear ap7
  ·by_cases hm:s.size=0
   ·exact .inl abl
   ·have wa:=run_append_nil_string (P:=P) w t u ty e i (.int .u8 0) ht hu hi hz s O O (by rw[th];omega);exact Rg
  ·by_cases xP:n+s.size<=cap
   ·have hcs':cur.size=cap:=by simpa using q8
    have wa:=Lib.run_append_room_string (P:=P) w t u ty e i ht hu hi iG g n cap cur hg s xP O;rw[wa]at hr;injection hr with e1 e2;subst e1;exact .inl rfl
   ·have holds:∀j u,xs[j]?=some u->w.cell? ((⟨g,0,none⟩:Addr).add j)=some u:=dd.cells (g:=g) rfl;have wa:=Lib.run_append_grow_string (P:=P) w t u ty e i (.int .u8 0) ht hu hi hz ⟨g,0,none⟩ n cap xs (by rw[iG];simpa using PZ) holds s O O abh;exact Rg
 |clear ap8
  ·by_cases hm:m=0
   ·exact .inl abl
   ·have wa:=run_append_nil (P:=P) w t ty e i (.int .u8 0) ht hi hz a m c news (by rw[iG];exact hl) kH O O (by rw[th];omega);exact Rg
  ·by_cases xP:n+m<=cap
   ·have hcs':cur.size=cap:=by simpa using q8
    have wa:=run_append_room (P:=P) w t ty e i ht hi g n cap cur hg a m c news (by rw[iG];exact hl) kH h1 xP (by rw[iG];omega);rw[wa]at hr;injection hr with e1 e2;subst e1;exact .inl rfl
   ·have holds:∀j u,xs[j]?=some u->w.cell? ((⟨g,0,none⟩:Addr).add j)=some u:=dd.cells (g:=g) rfl;have wa:=run_append_grow (P:=P) w t ty e i (.int .u8 0) ht hi hz ⟨g,0,none⟩ n cap xs (by rw[iG];simpa using PZ) holds a m c news (by rw[iG];exact hl) kH O O abh;exact Rg):G:=h
theorem afE (h:G:=by
 obtain⟨g,off,cap,rfl,hg,bo,aZ⟩:=gX hr O;obtain⟨u0,ey,dR⟩:=aZ 0 O;simp only[Nat.zero_mul,Nat.add_zero]at ey;have fy:0<T.q:=O;first
 |clear ap9
  unfold Nd.val;rw[z];first
  |clear ap0
   have HP:=Z<|Pst.aj ab<|.cells #[.int .i64 29,.int .i64 T.E,.string T.z,.slice (some ⟨g,off,none⟩) T.q cap] 25;have HN:=Z<|Pst.node ab (.int .i64 29) (.int .i64 T.E) (.string T.z) (.slice (some ⟨g,off,none⟩) T.q cap) 25;have cZ:=Z fun Y W(h:Pst ob own (w.alloc<|.cells #[.int .i64 29,.int .i64 T.E,.string T.z,.slice (some ⟨g,off,none⟩) T.q cap] 25) Y W)=>ey W<|h.aE ab;have lJ:=Z<|bb ab dR<|.cells #[.int .i64 29,.int .i64 T.E,.string T.z,.slice (some ⟨g,off,none⟩) T.q cap] 25;have qc:=Z<|ih 0 fy;have mX:=Z<|Nd.aa hf fy;have HB:=Z I;clear hlen jv ih I hr hf ax ab z ey dR aZ bo;generalize T.f 0=K0 at*
   have aqf:=kk;exact MZ
  |clear ap1
   have HP:=Z<|Pst.aj ab<|.cells #[.int .i64 27,.int .i64 T.E,.string T.z,.slice (some ⟨g,off,none⟩) T.q cap] 25;have HN:=Z<|Pst.node ab (.int .i64 27) (.int .i64 T.E) (.string T.z) (.slice (some ⟨g,off,none⟩) T.q cap) 25;have cZ:=Z fun Y W(h:Pst ob own (w.alloc<|.cells #[.int .i64 27,.int .i64 T.E,.string T.z,.slice (some ⟨g,off,none⟩) T.q cap] 25) Y W)=>ey W<|h.aE ab;have lJ:=Z<|bb ab dR<|.cells #[.int .i64 27,.int .i64 T.E,.string T.z,.slice (some ⟨g,off,none⟩) T.q cap] 25;have qc:=Z<|ih 0 fy;have mX:=Z<|Nd.aa hf fy;have hs:T.z.size<=1099511627776:=by
    have:=I;simp at this;omega
   have HB:=Z I;clear hlen jv ih I hr hf ax ab z ey dR aZ bo;generalize T.f 0=K0 at*
   generalize T.z=ts at*
   generalize T.E=tn at*
   simp only[<-avx]at HB⊢;have Fc:(ts.toList=[45]/\K0.y=27/\K0.z.toList=[45])↔((ts.toList==[45])&&((K0.y==27)&&(K0.z.toList==[45])))=true:=M;cases h1:(ts.toList==[45]);all_goals cases h2:(K0.y==27)
   all_goals cases h3:(K0.z.toList==[45])
   all_goals rw[h1,h2,h3]at Fc
   all_goals simp only[Bool.and_self,Bool.and_true,Bool.and_false,awH,iff_false]at Fc
   all_goals simp only[Fc,if_true,if_false]at HB⊢
   all_goals clear Fc
   all_goals simp only[avx]at HB⊢
   all_goals go_enter func132,ntmps132
   case true.true.true=>
    exact afu
   all_goals go_wp2_with(first
    |(go_at_call 36;refine(HP.o.add _ aag).mono ?_;rintro e w2 ⟨rfl,y⟩;obtain⟨b0,b1,b2,b3⟩:=HN.o _ _ y;obtain⟨ej,ei,eh,ef⟩:=cZ.o _ _ y;have HP:=Z y;clear y)
    |(go_at_call_of 132 u0;refine(HP.o.expr qc.o 6 u0 mX.o lJ.o nh.o J aag).mono ?_;rintro e w2 ⟨rfl,y⟩;obtain⟨b0,b1,b2,b3⟩:=HN.o _ _ y;obtain⟨ej,ei,eh,ef⟩:=cZ.o _ _ y;have HP:=Z y;clear y))
   all_goals go_end0
   all_goals exact HP.o.ax M
 |clear aqa
  first
  |clear ap4
   unfold Nd.val;rw[z];have HP:=Z<|Pst.aj ab<|.cells #[.int .i64 26,.int .i64 T.E,.string T.z,.slice (some ⟨g,off,none⟩) T.q cap] 25;have HN:=Z<|Pst.node ab (.int .i64 26) (.int .i64 T.E) (.string T.z) (.slice (some ⟨g,off,none⟩) T.q cap) 25;have cZ:=Z fun Y W(h:Pst ob own (w.alloc<|.cells #[.int .i64 26,.int .i64 T.E,.string T.z,.slice (some ⟨g,off,none⟩) T.q cap] 25) Y W)=>ey W<|h.aE ab;have lJ:=Z<|bb ab dR<|.cells #[.int .i64 26,.int .i64 T.E,.string T.z,.slice (some ⟨g,off,none⟩) T.q cap] 25;have qc:=Z<|ih 0 fy;have mX:=Z<|Nd.aa hf fy;have HB:=Z I;clear hE h0 LQ hlen ih I hr hf ax ab z ey dR aZ bo;generalize T.f 0=K0 at*
   have aqe:=kk;exact MZ
  |clear ap5
   have aE:T.val (.slice (some ⟨g,off,none⟩) T.q cap)=.agg #[.int .i64 9,.int .i64 T.E,.string T.z,.slice (some ⟨g,off,none⟩) T.q cap]:=by unfold Nd.val;rw[z]
   rw[aE];have HP:=Z<|Pst.aj ab<|.cells #[.int .i64 9,.int .i64 T.E,.string T.z,.slice (some ⟨g,off,none⟩) T.q cap] 25;have HN:=Z<|Pst.node ab (.int .i64 9) (.int .i64 T.E) (.string T.z) (.slice (some ⟨g,off,none⟩) T.q cap) 25;have cZ:=Z fun Y W(h:Pst ob own (w.alloc<|.cells #[.int .i64 9,.int .i64 T.E,.string T.z,.slice (some ⟨g,off,none⟩) T.q cap] 25) Y W)=>ey W<|h.aE ab;have lJ:=Z<|bb ab dR<|.cells #[.int .i64 9,.int .i64 T.E,.string T.z,.slice (some ⟨g,off,none⟩) T.q cap] 25;have qc:=Z<|lH<|T.f 0;have mX:=Z<|Nd.aa hf fy;have HB:=Z I;clear hlen jv I hr hf ax ab z aE ey dR aZ bo;obtain⟨ej,ei,eh,ef⟩:=cZ.o _ _ HP.o;generalize T.f 0=K0 at*
   have aqk:=kk;exact Iz
  |clear ap6
   obtain⟨u1,eO,fQ⟩:=aZ 1 O;simp only[awg]at eO;have gY:1<T.q:=O;first
   |clear apY
    unfold Nd.val;rw[z];have HP:=Z<|Pst.aj ab<|.cells #[.int .i64 28,.int .i64 T.E,.string T.z,.slice (some ⟨g,off,none⟩) T.q cap] 25;have HN:=Z<|Pst.node ab (.int .i64 28) (.int .i64 T.E) (.string T.z) (.slice (some ⟨g,off,none⟩) T.q cap) 25;have cZ:=Z fun Y W(h:Pst ob own (w.alloc<|.cells #[.int .i64 28,.int .i64 T.E,.string T.z,.slice (some ⟨g,off,none⟩) T.q cap] 25) Y W)=>ey W<|h.aE ab;have lJ:=Z<|bb ab dR<|.cells #[.int .i64 28,.int .i64 T.E,.string T.z,.slice (some ⟨g,off,none⟩) T.q cap] 25;have qc:=Z<|ih 0 fy;have mX:=Z<|Nd.aa hf fy;have fU:=Z fun Y W(h:Pst ob own (w.alloc<|.cells #[.int .i64 28,.int .i64 T.E,.string T.z,.slice (some ⟨g,off,none⟩) T.q cap] 25) Y W)=>eO W<|h.aE ab;have rQ:=Z<|bb ab fQ<|.cells #[.int .i64 28,.int .i64 T.E,.string T.z,.slice (some ⟨g,off,none⟩) T.q cap] 25;have CI:=Z<|ih 1 gY;have vI:=Z<|Nd.aa hf gY;have HB:=Z I;have hs:T.z.size<=1099511627776:=by
     have:=I;unfold jJ at this;split at this<;>simp at this<;>omega
    have HL:=Z fun W:World=>s6 T.z W;clear hlen jv zn ih I hr hf ax ab z ey dR eO fQ aZ bo;generalize T.f 0=K0 at*
    generalize T.f 1=K1 at*
    generalize T.z=ts at*
    generalize T.E=tn at*
    generalize bV ts=lv at*
    by_cases be:lv<l;all_goals simp only[be,decide_true,decide_false,jJ,if_true,if_false,awH]at HB⊢
    all_goals go_enter func132,ntmps132
    all_goals go_wp2_with(first
     |(go_at_call 158;refine(HL.o _).mono ?_;rintro e w2 ⟨rfl,I⟩;have y:=HP.o.calm I;obtain⟨b0,b1,b2,b3⟩:=HN.o _ _ y;obtain⟨ej,ei,eh,ef⟩:=cZ.o _ _ y;obtain⟨jq,ja,jo,iZ⟩:=fU.o _ _ y;have HP:=Z y;clear y I)
     |(go_at_call 36;refine(HP.o.add _ aag).mono ?_;rintro e w2 ⟨rfl,y⟩;obtain⟨b0,b1,b2,b3⟩:=HN.o _ _ y;obtain⟨ej,ei,eh,ef⟩:=cZ.o _ _ y;obtain⟨jq,ja,jo,iZ⟩:=fU.o _ _ y;have HP:=Z y;clear y)
     |(go_at_call_of 132 u0;refine(HP.o.expr qc.o lv u0 mX.o lJ.o nh.o O aag).mono ?_;rintro e w2 ⟨rfl,y⟩;obtain⟨b0,b1,b2,b3⟩:=HN.o _ _ y;obtain⟨ej,ei,eh,ef⟩:=cZ.o _ _ y;obtain⟨jq,ja,jo,iZ⟩:=fU.o _ _ y;have HP:=Z y;clear y)
     |(go_at_call_of 132 u1;refine(HP.o.expr CI.o (lv+1) u1 vI.o rQ.o tD.o O aag).mono ?_;rintro e w2 ⟨rfl,y⟩;obtain⟨b0,b1,b2,b3⟩:=HN.o _ _ y;obtain⟨ej,ei,eh,ef⟩:=cZ.o _ _ y;obtain⟨jq,ja,jo,iZ⟩:=fU.o _ _ y;have HP:=Z y;clear y))
    all_goals go_end0
    all_goals exact HP.o.ax M
   |clear apZ
    have aE:T.val (.slice (some ⟨g,off,none⟩) T.q cap)=.agg #[.int .i64 8,.int .i64 T.E,.string T.z,.slice (some ⟨g,off,none⟩) T.q cap]:=by unfold Nd.val;rw[z]
    rw[aE];have HP:=Z<|Pst.aj ab<|.cells #[.int .i64 8,.int .i64 T.E,.string T.z,.slice (some ⟨g,off,none⟩) T.q cap] 25;have HN:=Z<|Pst.node ab (.int .i64 8) (.int .i64 T.E) (.string T.z) (.slice (some ⟨g,off,none⟩) T.q cap) 25;have cZ:=Z fun Y W(h:Pst ob own (w.alloc<|.cells #[.int .i64 8,.int .i64 T.E,.string T.z,.slice (some ⟨g,off,none⟩) T.q cap] 25) Y W)=>ey W<|h.aE ab;have lJ:=Z<|bb ab dR<|.cells #[.int .i64 8,.int .i64 T.E,.string T.z,.slice (some ⟨g,off,none⟩) T.q cap] 25;have qc:=Z<|lH<|T.f 0;have mX:=Z<|Nd.aa hf fy;have fU:=Z fun Y W(h:Pst ob own (w.alloc<|.cells #[.int .i64 8,.int .i64 T.E,.string T.z,.slice (some ⟨g,off,none⟩) T.q cap] 25) Y W)=>eO W<|h.aE ab;have rQ:=Z<|bb ab fQ<|.cells #[.int .i64 8,.int .i64 T.E,.string T.z,.slice (some ⟨g,off,none⟩) T.q cap] 25;have CI:=Z<|lH<|T.f 1;have vI:=Z<|Nd.aa hf gY;have HB:=Z I;clear hlen jv zn I hr hf ax ab z aE ey dR eO fQ aZ bo;obtain⟨ej,ei,eh,ef⟩:=cZ.o _ _ HP.o;obtain⟨jq,ja,jo,iZ⟩:=fU.o _ _ HP.o;generalize T.f 0=K0 at*
    generalize T.f 1=K1 at*
    have aql:=kk;exact Iz):G:=h
theorem MZ (h:G:=by
 generalize T.z=ts at*
 generalize T.E=tn at*
 go_enter func132,ntmps132
 first
 |clear aqb
  go_wp2_with(go_at_call 36;refine(HP.o.add _ HB.o).mono ?_;rintro e w1 ⟨rfl,y⟩;have HP:=Z y;clear y)
  go_end0;exact HP.o.ax rfl
 |clear aqc
  go_wp2_with(go_at_call 36;refine(HP.o.add _ abb).mono ?_;rintro e w1 ⟨rfl,y⟩;obtain⟨b0,b1,b2,b3⟩:=HN.o _ _ y;have HP:=Z y;clear y)
  go_loopw[6] (fun i wr=>∃j:Nat,j<=T.q/\i=.int .i64 j/\Hid (Pst ob own (w.alloc<|.cells #[.int .i64 25,.int .i64 tn,.string ts,.slice a T.q cap] 25) (X++(ts++⟨#[40]⟩:ByteArray).data.toList++ay F j) wr)) (fun i _=>T.q-(intOf i).toNat)
  case atStart=>exact⟨0,O,rfl,Z aaA⟩
  case round=>
   obtain⟨j,hj,rfl,HP⟩:=hrel;obtain⟨b0,b1,b2,b3⟩:=HN.o _ _ HP.o;by_cases be:j<T.q
   ·have ap2:=kk;exact afB
   ·obtain rfl:j=T.q:=O;go_wp2_with(first
     |(go_at_call 36;refine(HP.o.add _ abb).mono ?_;rintro e w2 ⟨rfl,y⟩;have HP:=Z y;clear y))
    go_end0;exact HP.o.ax M
 |clear aqd
  exact afH
 |clear aqe
  exact afu
 |clear aqf
  go_wp2_with(first
   |(go_at_call 36;refine(HP.o.add _ aag).mono ?_;rintro e w2 ⟨rfl,y⟩;obtain⟨b0,b1,b2,b3⟩:=HN.o _ _ y;obtain⟨ej,ei,eh,ef⟩:=cZ.o _ _ y;have HP:=Z y;clear y)
   |(go_at_call_of 132 u0;refine(HP.o.expr qc.o 6 u0 mX.o lJ.o nh.o J aag).mono ?_;rintro e w2 ⟨rfl,y⟩;obtain⟨b0,b1,b2,b3⟩:=HN.o _ _ y;obtain⟨ej,ei,eh,ef⟩:=cZ.o _ _ y;have HP:=Z y;clear y))
  go_end0;exact HP.o.ax M):G:=h
theorem Iz (h:G:=by
 generalize T.z=ts at*
 generalize T.E=tn at*
 go_enter func103,ntmps103
 first
 |clear aqg
  exact afH
 |clear aqh
  go_wp2_with(first
   |(go_at_call 131;refine(HW.o _ _ _ HP.o aag).mono ?_;rintro e w2 ⟨rfl,y⟩;obtain⟨b0,b1,b2,b3⟩:=HN.o _ _ y;have HP:=Z y;clear y)
   |(go_at_call 36;refine(HP.o.add _ aag).mono ?_;rintro e w2 ⟨rfl,y⟩;obtain⟨b0,b1,b2,b3⟩:=HN.o _ _ y;have HP:=Z y;clear y))
  go_end0;exact HP.o.ax M
 |clear aqi
  exact afw
 |clear aqj
  go_wp2_with(first
   |(go_at_call 131;refine(HW.o _ _ _ HP.o aag).mono ?_;rintro e w2 ⟨rfl,y⟩;obtain⟨b0,b1,b2,b3⟩:=HN.o _ _ y;have HP:=Z y;clear y))
  go_end0;exact HP.o.ax M
 |clear aqk
  go_wp2_with(first
   |(go_at_call_of 132 u0;refine(HP.o.expr qc.o 1 u0 mX.o lJ.o nh.o J aag).mono ?_;rintro e w2 ⟨rfl,y⟩;obtain⟨b0,b1,b2,b3⟩:=HN.o _ _ y;obtain⟨ej,ei,eh,ef⟩:=cZ.o _ _ y;have HP:=Z y;clear y))
  go_end0;exact HP.o.ax M
 |clear aql
  go_wp2_with(first
   |(go_at_call 36;refine(HP.o.add _ aag).mono ?_;rintro e w2 ⟨rfl,y⟩;obtain⟨b0,b1,b2,b3⟩:=HN.o _ _ y;obtain⟨ej,ei,eh,ef⟩:=cZ.o _ _ y;obtain⟨jq,ja,jo,iZ⟩:=fU.o _ _ y;have HP:=Z y;clear y)
   |(go_at_call_of 132 u0;refine(HP.o.expr qc.o 1 u0 mX.o lJ.o nh.o J aag).mono ?_;rintro e w2 ⟨rfl,y⟩;obtain⟨b0,b1,b2,b3⟩:=HN.o _ _ y;obtain⟨ej,ei,eh,ef⟩:=cZ.o _ _ y;obtain⟨jq,ja,jo,iZ⟩:=fU.o _ _ y;have HP:=Z y;clear y)
   |(go_at_call_of 132 u1;refine(HP.o.expr CI.o 1 u1 vI.o rQ.o tD.o J aag).mono ?_;rintro e w2 ⟨rfl,y⟩;obtain⟨b0,b1,b2,b3⟩:=HN.o _ _ y;obtain⟨ej,ei,eh,ef⟩:=cZ.o _ _ y;obtain⟨jq,ja,jo,iZ⟩:=fU.o _ _ y;have HP:=Z y;clear y))
  go_end0;exact HP.o.ax M):G:=h
def vU (l:List UInt8):List Value:=l.map fun b=>Value.int .u8 b.toNat
def Buf (ob:Nat)(w:World)(own:Option Nat)(X:List UInt8):Prop:=
 ∃v,w.heap[ob]?=some (.cells #[v] 78 (0,0))/\w.ownsRow (ob+1) 5 1 v X.length (vU X)/\v.ownBlock=own
structure Wrote (ob:Nat)(own fl:Option Nat)(w w':World):Prop where
 os:w'.os=w.os
 tape:w'.tape=w.tape
 output:w'.output=w.output
 size:w.heap.size<=w'.heap.size
 block:∀k,k<w.heap.size->k≠ob->some k≠own->w'.heap[k]?=w.heap[k]?
 fresh:fl=own\/∃k,fl=some k/\w.heap.size<=k
theorem Wrote.refl (ob:Nat)(own:Option Nat)(w:World):Wrote ob own own w w:=⟨rfl,rfl,rfl,avF _,fun _ _ _ _=>rfl,.inl rfl⟩
theorem Wrote.trans {o0 o1 o2:Option Nat}{a b c:World}(h:Wrote ob o0 o1 a b)(k:Wrote ob o1 o2 b c):Wrote ob o0 o2 a c:=by
 have hs:=h.size;refine⟨k.os.trans h.os,k.tape.trans h.tape,k.output.trans h.output,avK h.size k.size,fun i hi h1 h2=>?_,?_⟩
 ·refine(k.block i O h1 ?_).trans<|h.block i hi h1 h2;rcases h.fresh with e|⟨j,e,hj⟩
  ·rw[e];exact h2
  ·rw[e];intro e';injection e' with e';omega
 ·rcases k.fresh with e|⟨j,e,hj⟩
  ·rw[e];exact h.fresh
  ·exact .inr ⟨j,e,O⟩
theorem Wrote.alloc (ob:Nat)(own:Option Nat)(w:World)(o:Obj):Wrote ob own own w (w.alloc o):=
 ⟨rfl,rfl,rfl,M,fun k z _ _=>avI w o k z,.inl rfl⟩
theorem Buf.lt {own:Option Nat}(h:Buf ob w own X):ob<w.heap.size:=by obtain⟨v,hv,_⟩:=h;exact(avp.1 hv).1
theorem Buf.b0 {own:Option Nat}(h:Buf ob w own X):∀k,own=some k->ob<k/\k<w.heap.size:=by obtain⟨v,hv,ho,rfl⟩:=h;intro k z;have:=ho.lt k z;omega
theorem Wrote.below {own:Option Nat}(h:Wrote ob own fl w w')(I:Buf ob w own X):Below ob w w':=by have:=I.lt;refine⟨h.os,h.tape,h.output,h.size,fun k z=>h.block k O O ?_⟩;intro e;have:=(I.b0 k e.symm).1;omega
theorem Wrote.cell {own:Option Nat}(h:Wrote ob own fl w w'){p:Addr}(y:p.block<w.heap.size)(h1:p.block≠ob)(h2:some p.block≠own):w'.cell? p=w.cell? p:=
 avt (h.block p.block y h1 h2)
theorem Buf.alloc {own:Option Nat}(h:Buf ob w own X)(o:Obj):Buf ob (w.alloc o) own X:=by
 have hl:=h.lt;obtain⟨v,hv,ho,e⟩:=h
 exact⟨v,(avI w o ob hl).trans hv,ho.alloc o,e⟩
theorem Buf.new (w:World):Buf w.heap.size (w.alloc<|.cells #[.slice none 0 0] 78) none []:=
 ⟨.slice none 0 0,avv w _,awa _ _ _ _,rfl⟩
theorem EU :(prog.info? 5).map (fun i=>(i.zero,i.size,i.bytes))=some (some<|.int .u8 0,1,1):=by kernel_rfl
theorem mr (a b:List UInt8):vU (a++b)=vU a++vU b:=awE
def vK (ob:Nat)(X T:List UInt8)(own:Option Nat)(w:World)(e:Ending)(w':World):Prop:=
 e=.returned (.tuple #[])/\∃fl,Buf ob w' fl (X++T)/\Wrote ob own fl w w'
theorem Buf.put {w1:World}{v1:Value}{n m:Nat}(hv:w.heap[ob]?=some (.cells #[v] 78 (0,0)))(ho:w.ownsRow (ob+1) 5 1 v n (vU X))
  (h1:w1.ownsRow (ob+1) 5 1 v1 m (vU Y)) (hm:m=Y.length) (hg:w.grownBy w1 v.ownBlock) (hf:v1.ownBlock=v.ownBlock\/∃k,v1.ownBlock=some k/\w.heap.size<=k):
  Buf ob (w1.setCell ⟨ob,0,none⟩ v1) v1.ownBlock Y/\Wrote ob v.ownBlock v1.ownBlock w (w1.setCell ⟨ob,0,none⟩ v1):=by
 subst hm;have be:ob<w.heap.size:=(avp.1 hv).1;have bY:some ob≠v.ownBlock:=by intro e;have:=(ho.lt ob e.symm).1;omega
 have h2:w1.heap[ob]?=some (.cells #[v] 78 (0,0)):=(hg.block ob be bY).trans hv;refine⟨⟨v1,?_,av7 h1 (show ob<ob+1 by omega) v1,rfl⟩,⟨?_,?_,?_,?_,?_,hf⟩⟩
 ·exact(avD w1 ob 0 #[v] _ v1 h2).trans M
 ·simpa[World.setCell]using hg.os
 ·simpa[World.setCell]using hg.tape
 ·simpa[World.setCell]using hg.output
 ·simpa[World.setCell]using hg.size
 ·intro k z h3 h4;rw[avz w1 ⟨ob,0,none⟩ v1 k h3];exact hg.block k z h4
theorem zP (w:World)(base:Nat)(t u ty e:TypeId)(i:TypeInfo)(ht:P.underlying t=some (.slice e))(hu:P.underlying u=some .string)(hi:P.info? e=some i)(hz:i.zero=some (.int .u8 0))
  (iG:i.size=1) (th:i.bytes=1) (v:Value) (n:Nat) (xs:List Value) (dd:w.ownsRow base e 1 v n xs) (s:ByteArray) (I:n+s.size<=140737488355328) (ln:base<=w.heap.size):
  ∃v' w',(Builtin.append_ #[t,u] ty #[v,.string s]).run P w=.ok v' w'/\w'.ownsRow base e 1 v' (n+s.size) (xs++Lib.strCells s)/\w.grownBy w' v.ownBlock/\(v'.ownBlock=v.ownBlock\/∃k,v'.ownBlock=some k/\w.heap.size<=k)/\
   ∃a l c,v'=.slice a l c:=by
 have Qn:n+s.size<=maxLen:=by unfold maxLen;omega
 have PZ:xs.length=n:=by simpa using dd.1
 obtain⟨v',w',hr,h2,h3,h4⟩:=Lib.run_append_own_string (P:=P) w base t u ty e i ht hu hi hz iG th v n xs dd s Qn I ln;have ap7:=kk;exact afD
theorem jM (w:World){o:Oper}(NT:o.guard=none)(sl x:Operand)(t u:TypeId)
  (ho:o.op=.call {callee:=.builtin .append,args:=#[sl,x],argTypes:=#[t,u]})
  (base:Nat) (e:TypeId) (i:TypeInfo) (ht:P.underlying t=some (.slice e)) (hu:P.underlying u=some .string) (hi:P.info? e=some i) (hz:i.zero=some (.int .u8 0))
  (iG:i.size=1) (th:i.bytes=1)
  (v:Value) (n:Nat) (xs:List Value) (hs:a.eval sl=v) (dd:w.ownsRow base e 1 v n xs) (s:ByteArray) (hx:a.eval x=.string s)
  (uH:n+s.size<=140737488355328) (ln:base<=w.heap.size)
  (h:∀v' w',w'.ownsRow base e 1 v' (n+s.size) (xs++Lib.strCells s)->w.grownBy w' v.ownBlock->(v'.ownBlock=v.ownBlock\/∃k,v'.ownBlock=some k/\w.heap.size<=k)->Hid (∃a l c,v'=.slice a l c)->wpList P ops Q rest (a.put o.dst v') w'):wpList P ops Q (o::rest) a w:=by
 refine wpList_plain NT fun K hK=>?_;obtain⟨v',w',hr,h2,h3,h4,h5⟩:=zP (P:=P) w base t u o.type e i ht hu hi hz iG th v n xs dd s uH ln;exact afI
theorem RF (ob:Nat)(own:Option Nat)(X:List UInt8)(s:ByteArray)(w:World)(h:Buf ob w own X)(I:X.length+s.size<=1099511627776):
  Calls prog 36 #[.pointer<|some ⟨ob,0,none⟩,.string s] w (vK ob X s.data.toList own w):=by
 have be:=h.lt;obtain⟨i0,hi,mT,eu,ed⟩:=av0 EU;obtain⟨v,hv,ho,rfl⟩:=h
 have bY:some ob≠v.ownBlock:=by intro e;have:=(ho.lt ob e.symm).1;omega
 obtain⟨a0,l0,c0,rfl⟩:∃a l c,v=.slice a l c:=by
  exact afK
 have k0:w.cell? ⟨ob,0,none⟩=some (.slice a0 l0 c0):=by simp[World.cell?,hv]
 have HV:Hid (w.heap[ob]?=some (.cells #[.slice a0 l0 c0] 78 (0,0))):=hv;have HO:Hid (w.ownsRow (ob+1) 5 1 (.slice a0 l0 c0) X.length<|vU X):=ho;clear hv ho;go_enter func36,ntmps36
 go_wp2_with(at_builtin;refine jM _ rfl (.tmp 8) (.tmp 9) 22 9 rfl (ob+1) 5 i0 underlying22 underlying9 hi mT eu ed _ X.length (vU X) rfl HO.o s rfl O O ?_)
 intro v1 w1 h1 hg hf sq;obtain⟨sa,sn,sc,rfl⟩:=sq.o;have h2:w1.heap[ob]?=some (.cells #[.slice a0 l0 c0] 78 (0,0)):=(hg.block ob be bY).trans HV.o;have k1:w1.cell? ⟨ob,0,none⟩=some (.slice a0 l0 c0):=by simp[World.cell?,h2]
 have f1:=av3 w1 ob 0 _ _ h2;have H1:Hid (w1.ownsRow (ob+1) 5 1 (.slice sa sn sc) (X.length+s.size)<|vU<|X++s.data.toList):=by rw[mr];exact h1
 have HG:Hid (w.grownBy w1 (Value.slice a0 l0 c0).ownBlock):=hg;have HF:Hid ((Value.slice sa sn sc).ownBlock=(Value.slice a0 l0 c0).ownBlock\/∃k,(Value.slice sa sn sc).ownBlock=some k/\w.heap.size<=k):=hf;clear h1 hg hf h2;go_wp2;go_end0;exact⟨rfl,_,Buf.put HV.o HO.o H1.o abj HG.o HF.o⟩
theorem wR (w:World)(base:Nat)(t ty e:TypeId)(i:TypeInfo)(ht:P.underlying t=some (.slice e))(hi:P.info? e=some i)(hz:i.zero=some (.int .u8 0))
  (iG:i.size=1) (th:i.bytes=1) (v:Value) (n:Nat) (xs:List Value) (dd:w.ownsRow base e 1 v n xs)
  (a:Addr) (m c:Nat) (news:List Value) (hl:news.length=m*1) (kH:∀j u,news[j]?=some u->w.cell? (a.add j)=some u) (h1:∀u∈news,u.oneCell'=true) (I:n+m<=140737488355328) (ln:base<=w.heap.size):
  ∃v' w',(Builtin.append_ #[t,t] ty #[v,.slice (some a) m c]).run P w=.ok v' w'/\w'.ownsRow base e 1 v' (n+m) (xs++news)/\w.grownBy w' v.ownBlock/\(v'.ownBlock=v.ownBlock\/∃k,v'.ownBlock=some k/\w.heap.size<=k)/\
   ∃a l c,v'=.slice a l c:=by
 have Qn:n+m<=maxLen:=by unfold maxLen;omega
 have PZ:xs.length=n:=by simpa using dd.1
 obtain⟨v',w',hr,h2,h3,h4⟩:=run_append_own (P:=P) w base t ty e i (.int .u8 0) 1 1 ht hi hz iG th rfl J v n xs dd a m c news hl kH h1 Qn O ln;have ap8:=kk;exact afD
theorem jy (w:World){o:Oper}(NT:o.guard=none)(sl x:Operand)(t:TypeId)
  (ho:o.op=.call {callee:=.builtin .append,args:=#[sl,x],argTypes:=#[t,t]})
  (base:Nat) (e:TypeId) (i:TypeInfo) (ht:P.underlying t=some (.slice e)) (hi:P.info? e=some i) (hz:i.zero=some (.int .u8 0))
  (iG:i.size=1) (th:i.bytes=1)
  (v:Value) (n:Nat) (xs:List Value) (hs:a.eval sl=v) (dd:w.ownsRow base e 1 v n xs)
  (ad:Addr) (m c:Nat) (news:List Value) (hx:a.eval x=.slice (some ad) m c) (hl:news.length=m*1) (kH:∀j u,news[j]?=some u->w.cell? (ad.add j)=some u) (h1:∀u∈news,u.oneCell'=true)
  (uH:n+m<=140737488355328) (ln:base<=w.heap.size)
  (h:∀v' w',w'.ownsRow base e 1 v' (n+m) (xs++news)->w.grownBy w' v.ownBlock->(v'.ownBlock=v.ownBlock\/∃k,v'.ownBlock=some k/\w.heap.size<=k)->Hid (∃a l c,v'=.slice a l c)->wpList P ops Q rest (a.put o.dst v') w'):wpList P ops Q (o::rest) a w:=by
 refine wpList_plain NT fun K hK=>?_;obtain⟨v',w',hr,h2,h3,h4,h5⟩:=wR (P:=P) w base t o.type e i ht hi hz iG th v n xs dd ad m c news hl kH h1 uH ln;exact afI
theorem JW (ob:Nat)(own:Option Nat)(X:List UInt8)(d:Nat)(w:World)(h:Buf ob w own X)(I:X.length+d<=1099511627776):
  Calls prog 64 #[.pointer<|some ⟨ob,0,none⟩,.int .i64 d] w (vK ob X (List.replicate d 9) own w):=by
 obtain⟨i0,hi,mT,eu,ed⟩:=av0 EU;have H:=(show Hid (Buf ob w own X)from h);clear h;go_enter func64,ntmps64
 go_wp2;go_loopw[1] (fun i wr=>∃k:Nat,k<=d/\i=.int .i64 k/\∃fl,Buf ob wr fl (X++List.replicate (d-k) 9)/\Wrote ob own fl w wr) (fun i _=>(intOf i).toNat)
 case atStart=>exact⟨d,avF _,rfl,own,by simpa using H.o,Wrote.refl _ _ _⟩
 case round=>
  obtain⟨k,z,rfl,fl,oE,Hm⟩:=hrel;by_cases sN:k=0
  ·subst sN;have gi:Hid (Buf ob wr fl<|X++List.replicate d 9):=oE;have HW:Hid (Wrote ob own fl w wr):=Hm;clear oE Hm;go_wp2;go_end0;exact⟨rfl,fl,gi.o,HW.o⟩
  ·have be:=oE.lt;have eD:0<k:=O;obtain⟨v,hv,ho,rfl⟩:=oE;have bY:some ob≠v.ownBlock:=by intro e;have:=(ho.lt ob e.symm).1;omega
   have hYl:(X++List.replicate (d-k) 9).length+1<=1099511627776:=by rw[avu,awQ];omega
   have hYs:(X++List.replicate (d-k) 9)++[9]=X++List.replicate (d-(k-1)) 9:=by
    rw[avM,show d-(k-1)=(d-k)+1 by omega,replicate_succ']
   generalize X++List.replicate (d-k) 9=Y at*
   obtain⟨a0,l0,c0,rfl⟩:∃a l c,v=.slice a l c:=by
    exact afK
   have k0:wr.cell? ⟨ob,0,none⟩=some (.slice a0 l0 c0):=by simp[World.cell?,hv]
   have HV:Hid (∀o:Obj,(wr.alloc o).heap[ob]?=some (.cells #[.slice a0 l0 c0] 78 (0,0))):=fun o=>(avI wr o ob be).trans hv;have HO:Hid (∀o:Obj,(wr.alloc o).ownsRow (ob+1) 5 1 (.slice a0 l0 c0) Y.length<|vU Y):=fun o=>ho.alloc o;have HW:Hid (Wrote ob own (Value.slice a0 l0 c0).ownBlock w wr):=Hm;have HE:Hid (Y++[9]=X++List.replicate (d-(k-1)) 9):=hYs;clear hv ho Hm hYs;go_wp2_with(at_builtin;refine jy _ rfl (.tmp 12) (.tmp 13) 22 rfl (ob+1) 5 i0 underlying22 hi mT eu ed _ Y.length (vU Y) rfl (HO.o _) ⟨wr.heap.size,0,none⟩ 1 1 [.int .u8 9] rfl rfl aa9 aaN O aah ?_)
   intro v1 w1 h1 hg hf sq;obtain⟨sa,sn,sc,rfl⟩:=sq.o;have h2:w1.heap[ob]?=some (.cells #[.slice a0 l0 c0] 78 (0,0)):=(hg.block ob aah bY).trans<|HV.o _;have k1:w1.cell? ⟨ob,0,none⟩=some (.slice a0 l0 c0):=by simp[World.cell?,h2]
   have f1:=av3 w1 ob 0 _ _ h2;have y:=Buf.put (Y:=Y++[9]) (HV.o _) (HO.o _) (by rw[mr];exact h1) M hg (by simpa using hf);have HP:Hid (Buf ob (w1.setCell ⟨ob,0,none⟩<|.slice sa sn sc) (Value.slice sa sn sc).ownBlock (X++List.replicate (d-(k-1)) 9)/\Wrote ob own (Value.slice sa sn sc).ownBlock w (w1.setCell ⟨ob,0,none⟩<|.slice sa sn sc)):=
    ⟨HE.o▸y.1,HW.o.trans<|(Wrote.alloc _ _ _ _).trans y.2⟩
   clear h1 hg hf h2 y sq;go_wp2;exact⟨⟨k-1,O,by go_num,_,HP.o⟩,by simp[intOf];omega⟩
def bB (d:Nat):List UInt8:=List.replicate d 9
def cW (n:Int):List UInt8:=if n=1 then[105,110,116]else if n=2 then[98,111,111,108]else if n=3 then[99,104,97,110,32,105,110,116]else[]
def jJ (b:Bool)(t:List UInt8):List UInt8:=if b then 40::(t++[41])else t
structure X7 where
 ex:Nat->List UInt8
 st:Nat->List UInt8
 ad:Nat->List UInt8
 cs:Nat->List UInt8
def Vb (k n:Int)(s:List UInt8)(len:Nat)(kk:Nat->Int)(kn:Nat->List UInt8)(p:Nat->X7)(lv:Nat)(level:Nat):List UInt8:=
 if k=22 then bS 20 n.toNat
 else if k=23 then(if n=0 then[102,97,108,115,101]else[116,114,117,101])
 else if k=24 then s
 else if k=25 then s++40::(ay (fun i=>(if i=0 then[]else[44,32])++(p i).ex 1) len++[41])
 else if k=26 then[109,97,107,101,40,99,104,97,110,32,105,110,116]++((if len=0 then[]else[44,32]++(p 0).ex 1)++[41])
 else if k=27 then s++(if s=[45]/\kk 0=27/\kn 0=[45]then 40::((p 0).ex 1++[41])else(p 0).ex 6)
 else if k=29 then[60,45]++(p 0).ex 6
 else if k=28 then jJ (decide<|lv<level) ((p 0).ex lv++(32::(s++32::(p 1).ex (lv+1))))
 else[]
def aS (d:Nat)(inner:List UInt8):List UInt8:=[123,10]++(inner++(bB d++[125]))
def jN (w:List UInt8)(len:Nat)(p:Nat->X7):List UInt8:=w++(if len=0 then[]else(p 0).ex 1)
def my (k n:Int)(s:List UInt8)(len:Nat)(kk:Nat->Int)(p:Nat->X7)(d:Nat):List UInt8:=
 if k=4 then aS d (ay (fun i=>bB (d+1)++((p i).st (d+1)++[10])) len)
 else if k=5 then jN (s++[32,58,61,32]) len p
 else if k=6 then jN (s++[32,61,32]) len p
 else if k=7 then s++(if n=1 then[43,43]else[45,45])
 else if k=8 then(p 0).ex 1++([32,60,45,32]++(p 1).ex 1)
 else if k=9 then(p 0).ex 1
 else if k=10 then[105,102,32]++((p 0).ex 1++(32::(aS d ((p 1).ad<|d+1)++(if len=3 then[32,101,108,115,101,32]++(p 2).st d else[]))))
 else if k=11 then[102,111,114,32]++((if len=2 then(p 0).ex 1++[32]else[])++aS d ((p<|len-1).ad<|d+1))
 else if k=12 then(if len=0 then[114,101,116,117,114,110]else jN [114,101,116,117,114,110,32] len p)
 else if k=13 then jN [103,111,32] len p
 else if k=14 then jN [100,101,102,101,114,32] len p
 else if k=15 then[115,101,108,101,99,116,32,123,10]++(ay (fun i=>(p i).cs d) len++(bB d++[125]))
 else if k=17 then[98,114,101,97,107]
 else if k=18 then[99,111,110,116,105,110,117,101]
 else if k=19 then jN [99,108,111,115,101,40] len p++[41]
 else if k=20 then jN [112,114,105,110,116,40] len p++[41]
 else if k=21 then jN [112,97,110,105,99,40] len p++[41]
 else[]
def bG (n:Int)(s:List UInt8)(p:Nat->X7):List UInt8:=
 if n=0 then[100,101,102,97,117,108,116]
 else if n=1 then[99,97,115,101,32]++((if s=[]then[]else s++[32,58,61,32])++([60,45]++(p 0).ex 6))
 else[99,97,115,101,32]++((p 0).ex 1++([32,60,45,32]++(p 1).ex 1))
def aJ :Nd->X7
  | .nil=>⟨fun _=>[],fun _=>[],fun _=>[],fun _=>[]⟩
  | .mk k n s len kids=>
    ⟨Vb k n s.data.toList len (fun i=>(kids i).y) (fun i=>(kids i).z.data.toList) (fun i=>aJ (kids i)) (bV s),
     my k n s.data.toList len (fun i=>(kids i).y) (fun i=>aJ<|kids i),
     fun d=>ay (fun i=>bB d++((aJ<|kids i).st d++[10])) len,
     fun d=>bB d++(bG n s.data.toList (fun i=>aJ (kids i))++([58,10]++(aJ (kids (len-1))).ad (d+1)))⟩
theorem Va (T:Nd)(h:T.q≠0\/T.y≠0):(aJ T).ex=Vb T.y T.E T.z.data.toList T.q (fun i=>(T.f i).y) (fun i=>(T.f i).z.data.toList) (fun i=>aJ<|T.f i) (bV T.z):=by
 cases T with
 |nil=>simp[Nd.q,Nd.y]at h
 |mk=>rfl
theorem Kx (T:Nd)(h:T.q≠0\/T.y≠0):(aJ T).st=my T.y T.E T.z.data.toList T.q (fun i=>(T.f i).y) (fun i=>aJ<|T.f i):=by
 cases T with
 |nil=>simp[Nd.q,Nd.y]at h
 |mk=>rfl
theorem qz (T:Nd)(d:Nat):(aJ T).ad d=ay (fun i=>bB d++((aJ<|T.f i).st d++[10])) T.q:=by cases T<;>rfl
def lY (T:Nd):List UInt8:=
  [102,117,110,99,32]++(T.z.data.toList++(40::(ay (fun i=>(if i=0 then[]else[44,32])++((T.f i).z.data.toList++32::cW (T.f i).E)) (T.q-1)++([41,32]++
    ((if T.E=0 then[]else cW T.E++[32])++(aS 0 ((aJ (T.f (T.q-1))).ad 1)++[10]))))))
def eL (T:Nd):List UInt8:=ay (fun i=>(if i=0 then[]else[10])++lY (T.f i)) T.q
def rs (T:Nd):List UInt8:=if cJ T then eL T else[]
structure Pst (ob:Nat)(ai:Option Nat)(w0:World)(Y:List UInt8)(w:World):Prop where
 bI:∃own,Buf ob w own Y/\Wrote ob ai own w0 w
 below:Below ob w0 w
theorem Buf.calm {own:Option Nat}(h:Buf ob w own X)(I:Below w.heap.size w w'):Buf ob w' own X:=by
 have hl:=h.lt;obtain⟨v,hv,ho,e⟩:=h
 refine⟨v,(I.block ob hl).trans hv,⟨ho.1,?_⟩,e⟩;rcases ho.2 with h|⟨g,cap,cur,h1,h2,h3,h4⟩
 ·exact .inl h
 ·exact .inr ⟨g,cap,cur,h1,h2,(I.block g (avp.1 h3).1).trans h3,h4⟩
theorem Wrote.calm {own:Option Nat}(h:Wrote ob own fl w0 w)(I:Below w.heap.size w w'):Wrote ob own fl w0 w':=by have hs:=h.size;exact⟨I.os.trans h.os,I.tape.trans h.tape,I.output.trans h.output,avK h.size I.size,fun k z h1 h2=>(I.block k O).trans<|h.block k z h1 h2,h.fresh⟩
theorem Pst.start {own:Option Nat}(h:Buf ob w own X):Pst ob own w X w:=⟨⟨own,h,Wrote.refl _ _ _⟩,avB _ _⟩
theorem Pst.lt (h:Pst ob ai w0 Y w):ob<w.heap.size:=by obtain⟨own,I,_⟩:=h.bI;exact I.lt
theorem Pst.calm (h:Pst ob ai w0 Y w)(I:Below w.heap.size w w'):Pst ob ai w0 Y w':=by have hl:=h.lt;obtain⟨own,h1,h2⟩:=h.bI;exact⟨⟨own,h1.calm I,h2.calm I⟩,h.below.trans<|I.mono O⟩
theorem Pst.alloc (h:Pst ob ai w0 Y w)(o:Obj):Pst ob ai w0 Y (w.alloc o):=
 h.calm (bA)
theorem Pst.drew (h:Pst ob ai w0 Y w):Pst ob ai w0 Y w.drew:=
 h.calm ⟨rfl,rfl,rfl,avF _,fun _ _=>rfl⟩
theorem Pst.lift {f:FuncId}{args:Array Value}{t:List UInt8}(h:Pst ob ai w0 Y w)
  (H:∀own,Buf ob w own Y->Calls P f args w (vK ob Y t own w)):Calls P f args w fun e w'=>e=.returned (.tuple #[])/\Pst ob ai w0 (Y++t) w':=by
 obtain⟨own,h1,h2⟩:=h.bI;refine(H own h1).mono ?_;rintro e w'⟨he,fl,h3,h4⟩;exact⟨he,⟨fl,h3,h2.trans h4⟩,h.below.trans<|h4.below h1⟩
theorem Pst.add (h:Pst ob ai w0 Y w)(s:ByteArray)(I:Y.length+s.data.toList.length<=1099511627776):
  Calls prog 36 #[.pointer<|some ⟨ob,0,none⟩,.string s] w fun e w'=>e=.returned (.tuple #[])/\Pst ob ai w0 (Y++s.data.toList) w':=
 h.lift fun own ab=>RF ob own Y s w ab (by simpa using I)
theorem Pst.cZ (h:Pst ob ai w0 Y w)(d:Nat)(I:Y.length+d<=1099511627776):
  Calls prog 64 #[.pointer<|some ⟨ob,0,none⟩,.int .i64 d] w fun e w'=>e=.returned (.tuple #[])/\Pst ob ai w0 (Y++bB d) w':=
 h.lift fun own ab=>JW ob own Y d w ab I
def An (T:Nd):Prop:=∀(ob:Nat)(own:Option Nat)(X:List UInt8)(l:Nat)(w:World)(v:Value),Buf ob w own X->T.R->Row 0 ob w T v->T.Q=true->l<=6->
 X.length+((aJ T).ex l).length<=1099511627776->Calls prog 132 #[.pointer<|some ⟨ob,0,none⟩,T.val v,.int .i64 l] w (vK ob X ((aJ T).ex l) own w)
def vR (T:Nd):Prop:=∀(ob:Nat)(own:Option Nat)(X:List UInt8)(d:Nat)(w:World)(v:Value),Buf ob w own X->T.R->Row 0 ob w T v->T.U=true->
 X.length+((aJ T).st d).length<=1099511627776->Calls prog 103 #[.pointer<|some ⟨ob,0,none⟩,T.val v,.int .i64 d] w (vK ob X ((aJ T).st d) own w)
theorem Pst.expr (hT:An T)(h:Pst ob ai w0 Y w)(l:Nat)(v:Value)(hf:T.R)(hr:Row 0 ob w0 T v)(ax:T.Q=true)(hl:l<=6)(I:Y.length+((aJ T).ex l).length<=1099511627776):
  Calls prog 132 #[.pointer<|some ⟨ob,0,none⟩,T.val v,.int .i64 l] w fun e w'=>e=.returned (.tuple #[])/\Pst ob ai w0 (Y++(aJ T).ex l) w':=
 h.lift fun own ab=>hT ob own Y l w v ab hf (ah h.below lr hr) ax hl I
theorem Pst.stmt (hT:vR T)(h:Pst ob ai w0 Y w)(d:Nat)(v:Value)(hf:T.R)(hr:Row 0 ob w0 T v)(ax:T.U=true)(I:Y.length+((aJ T).st d).length<=1099511627776):
  Calls prog 103 #[.pointer<|some ⟨ob,0,none⟩,T.val v,.int .i64 d] w fun e w'=>e=.returned (.tuple #[])/\Pst ob ai w0 (Y++(aJ T).st d) w':=
 h.lift fun own ab=>hT ob own Y d w v ab hf (ah h.below lr hr) ax I
theorem gX (hr:Row 0 ob w0 T v)(h0:T.q≠0):∃g off cap,v=.slice (some ⟨g,off,none⟩) T.q cap/\g<ob/\(T.q<=cap/\cap<=9223372036854775807)/\∀i,i<T.q->
    ∃u,(∀W,Below ob w0 W->W.cell? ⟨g,off+i*4,none⟩=some (.int .i64 (T.f i).y)/\W.cell? ⟨g,off+i*4+1,none⟩=some (.int .i64 (T.f i).E)/\
        W.cell? ⟨g,off+i*4+2,none⟩=some (.string (T.f i).z)/\W.cell? ⟨g,off+i*4+3,none⟩=some u)/\Row 0 ob w0 (T.f i) u:=by
  obtain⟨a,cap,rfl,hc,h⟩:=ar.1 hr;rcases h with h|⟨g,off,rfl,_,h2,h3⟩
  · exact absurd h h0
  refine⟨g,off,cap,rfl,h2,hc,fun i hi=>?_⟩;obtain⟨u,e0,e1,e2,e3,hr⟩:=h3 i hi;refine⟨u,fun W I=>?_,hr⟩;have hc:∀o,W.cell? ⟨g,o,none⟩=w0.cell? ⟨g,o,none⟩:=fun o=>I.cell (p:=⟨g,o,none⟩) h2;exact⟨(hc _).trans e0,(hc _).trans e1,(hc _).trans e2,(hc _).trans e3⟩
theorem Pst.aj {own:Option Nat}(h:Buf ob w own X)(o:Obj):Pst ob own (w.alloc o) X (w.alloc o):=Pst.start<|h.alloc o
theorem Pst.box {own:Option Nat}(h0:Buf ob w own X)(h:Pst ob own (w.alloc o) Y W):W.heap[w.heap.size]?=some o:=by obtain⟨fl,I,hw⟩:=h.bI;have hl:=h0.lt;rw[hw.block w.heap.size M O (by intro e;have:=(h0.b0 _ e.symm).2;omega)];exact avv w o
theorem Pst.node {own:Option Nat}(h0:Buf ob w own X)(a b c d:Value)(t:TypeId):∀Y W,Pst ob own (w.alloc<|.cells #[a,b,c,d] t) Y W->
  W.cell? ⟨w.heap.size,0,none⟩=some a/\W.cell? ⟨w.heap.size,1,none⟩=some b/\W.cell? ⟨w.heap.size,2,none⟩=some c/\W.cell? ⟨w.heap.size,3,none⟩=some d:=by
 intro Y W h;have e:=h.box h0;refine⟨?_,?_,?_,?_⟩<;>simp[World.cell?,e]
theorem Pst.ax {own:Option Nat}{T:List UInt8}(h:Pst ob own (w.alloc o) Y W)(e:Y=X++T):vK ob X T own w (.returned<|.tuple #[]) W:=by obtain⟨fl,h1,h2⟩:=h.bI;exact⟨rfl,fl,e▸h1,(Wrote.alloc ob own w o).trans h2⟩
theorem Pst.aE {own:Option Nat}(h0:Buf ob w own X)(h:Pst ob own (w.alloc o) Y W):Below ob w W:=by have hl:=h0.lt;exact((avB ob w).alloc O o).trans h.below
theorem bb {own:Option Nat}(h0:Buf ob w own X)(h:Row 0 ob w T v)(o:Obj):Row 0 ob (w.alloc o) T v:=by have hl:=h0.lt;exact ah (bA) O h
theorem MH (f:Nat->List UInt8){a:Nat}(h:a<=b):(ay f a).length<=(ay f b).length:=by
 induction h with
 |refl=>exact avF _
 |step _ ih=>simp only[ay,avu];omega
theorem gO (f:Nat->List UInt8){a:Nat}(h:a<b):(ay f a).length+(f a).length<=(ay f b).length:=by have:=MH f<|show a+1<=b from h;simpa only[ay,avu]using this
theorem pT (T:Nd)(z:T.y=24)(l:Nat):(aJ T).ex l=T.z.data.toList:=by
 cases T with
 |nil=>simp[Nd.y]at z
 |mk k n s len kids=>obtain rfl:k=24:=z;rfl
theorem pS (T:Nd)(z:T.y=25)(l:Nat):(aJ T).ex l=T.z.data.toList++40::(ay (fun i=>(if i=0 then[]else[44,32])++(aJ<|T.f i).ex 1) T.q++[41]):=by
 cases T with
 |nil=>simp[Nd.y]at z
 |mk k n s len kids=>obtain rfl:k=25:=z;rfl
theorem mG (T:Nd)(z:T.y=26)(l:Nat):(aJ T).ex l=[109,97,107,101,40,99,104,97,110,32,105,110,116]++((if T.q=0 then[]else[44,32]++(aJ<|T.f 0).ex 1)++[41]):=by
 cases T with
 |nil=>simp[Nd.y]at z
 |mk k n s len kids=>obtain rfl:k=26:=z;rfl
theorem uZ (z:T.y=25)(h:T.Q=true):∀i,i<T.q->(T.f i).Q=true:=by rw[bD,z]at h;simp[bq]at h;exact bj.1 h.2.2
theorem nM (z:T.y=26)(h:T.Q=true):T.q<2/\∀i,i<T.q->(T.f i).Q=true:=by rw[bD,z]at h;simp[bq]at h;exact⟨h.2.1,bj.1 h.2.2⟩
theorem ex_24 (T:Nd)(z:T.y=24):An T:=by intro ob own X l w v ab hf hr ax hl I;obtain⟨a,cap,rfl,_⟩:=ar.1 hr;rw[pT T z]at I⊢;have HB:=Z I;unfold Nd.val;rw[z];have HP:=Z<|Pst.aj ab<|.cells #[.int .i64 24,.int .i64 T.E,.string T.z,.slice a T.q cap] 25;clear I hr hf ax ab z;have aqb:=kk;exact MZ
theorem ex_25 (T:Nd)(z:T.y=25)(ih:∀i,i<T.q->An (T.f i)):An T:=by
 intro ob own X l w v ab hf hr ax hl I;have hn:=T.I hf;obtain⟨a,cap,rfl,bo,_⟩:=ar.1 hr;rw[pS T z]at I⊢;have HE:=Z<|uZ z ax;unfold Nd.val;rw[z];have HP:=Z<|Pst.aj ab<|.cells #[.int .i64 25,.int .i64 T.E,.string T.z,.slice a T.q cap] 25;have HN:=Z<|Pst.node ab (.int .i64 25) (.int .i64 T.E) (.string T.z) (.slice a T.q cap) 25;have HR:=Z<|bb ab hr<|.cells #[.int .i64 25,.int .i64 T.E,.string T.z,.slice a T.q cap] 25;have HI:=Z ih;have HF:=Z hf;have hs:T.z.size<=1099511627776:=by
  have e:T.z.data.toList.length=T.z.size:=rfl;simp only[avu]at I;omega
 have HB:Hid (X.length+(T.z.size+(1+((ay (fun i=>(if i=0 then[]else[44,32])++(aJ<|T.f i).ex 1) T.q).length+1)))<=1099511627776):=by
  have e:T.z.data.toList.length=T.z.size:=rfl;unfold Hid;simp only[avu,length_cons,length_nil]at I;omega
 clear I hr hf ax ab z ih bo;generalize hF:(fun i=>(if i=0 then[]else[44,32])++(aJ<|T.f i).ex 1)=F at*
 have vH:=Z hF;have FJ:=Z fun i(h:i<T.q)=>gO F h;clear hF;have aqc:=kk;exact MZ
theorem pV (T:Nd)(z:T.y=22)(l:Nat):(aJ T).ex l=bS 20 T.E.toNat:=by
 cases T with
 |nil=>simp[Nd.y]at z
 |mk k n s len kids=>obtain rfl:k=22:=z;rfl
theorem pU (T:Nd)(z:T.y=23)(l:Nat):(aJ T).ex l=(if T.E=0 then[102,97,108,115,101]else[116,114,117,101]):=by
 cases T with
 |nil=>simp[Nd.y]at z
 |mk k n s len kids=>obtain rfl:k=23:=z;rfl
theorem pR (T:Nd)(z:T.y=27)(l:Nat):(aJ T).ex l=T.z.data.toList++(if T.z.data.toList=[45]/\(T.f 0).y=27/\(T.f 0).z.data.toList=[45]then 40::((aJ<|T.f 0).ex 1++[41])else(aJ<|T.f 0).ex 6):=by
 cases T with
 |nil=>simp[Nd.y]at z
 |mk k n s len kids=>obtain rfl:k=27:=z;rfl
theorem pQ (T:Nd)(z:T.y=29)(l:Nat):(aJ T).ex l=[60,45]++(aJ<|T.f 0).ex 6:=by
 cases T with
 |nil=>simp[Nd.y]at z
 |mk k n s len kids=>obtain rfl:k=29:=z;rfl
theorem kM (T:Nd)(z:T.y=28)(l:Nat):(aJ T).ex l=jJ (decide<|bV T.z<l) ((aJ<|T.f 0).ex (bV T.z)++(32::(T.z.data.toList++32::(aJ<|T.f 1).ex (bV T.z+1)))):=by
 cases T with
 |nil=>simp[Nd.y]at z
 |mk k n s len kids=>obtain rfl:k=28:=z;rfl
theorem jC {st:Nat->Bool}{kk:Nat->Int}(h:aG e st kk len ⟨#[101]⟩=true):len=1/\e 0=true:=by unfold aG at h;simp only[avw,avy]at h;refine⟨h.1,?_⟩;have:=bj.1 h.2 0 J;exact this
theorem Sz {st:Nat->Bool}{kk:Nat->Int}(h:aG e st kk len ⟨#[101,101]⟩=true):len=2/\e 0=true/\e 1=true:=by unfold aG at h;simp only[avw,avy]at h;exact⟨h.1,bj.1 h.2 0 J,bj.1 h.2 1 J⟩
theorem BQ (z:T.y=22)(h:T.Q=true):0<=T.E/\T.E<=999999999999999999:=by rw[bD,z]at h;simp[bq]at h;omega
theorem BP (z:T.y=23)(h:T.Q=true):T.E=0\/T.E=1:=by rw[bD,z]at h;simp[bq]at h;exact h.2.1
theorem uY (z:T.y=27)(h:T.Q=true):T.q=1/\(T.f 0).Q=true:=by rw[bD,z]at h;simp[bq]at h;exact jC h.2.2
theorem uX (z:T.y=29)(h:T.Q=true):T.q=1/\(T.f 0).Q=true:=by rw[bD,z]at h;simp[bq]at h;exact jC h.2
theorem nL (z:T.y=28)(h:T.Q=true):0<bV T.z/\T.q=2/\(T.f 0).Q=true/\(T.f 1).Q=true:=by rw[bD,z]at h;simp[bq]at h;exact⟨h.2.1,Sz h.2.2⟩
theorem Dj (s:ByteArray):bV s<=5:=by
 unfold bV;repeat' split
 all_goals omega
theorem ex_22 (T:Nd)(z:T.y=22):An T:=by
 intro ob own X l w v ab hf hr ax hl I;have hn:=T.I hf;rw[pV T z]at I⊢;obtain⟨h0,wN⟩:=BQ z ax;obtain⟨m,hm⟩:∃m:Nat,T.E=(m:Int):=⟨T.E.toNat,O⟩;rw[hm]at I⊢;have hm18:m<=999999999999999999:=O;obtain⟨a,cap,rfl,_⟩:=ar.1 hr;unfold Nd.val;rw[z,hm];have HP:=Z<|Pst.aj ab<|.cells #[.int .i64 22,.int .i64 (m:Int),.string T.z,.slice a T.q cap] 25;have HN:=Z<|Pst.node ab (.int .i64 22) (.int .i64 (m:Int)) (.string T.z) (.slice a T.q cap) 25;have HB:=Z I;clear I hr hf ax ab z;have HD:=Z fun W:World=>zB m W hm18;clear h0 wN hm;simp only[Int.toNat_natCast]at HB⊢;generalize T.z=ts at*
 generalize bS 20 m=dg at*
 go_enter func132,ntmps132
 go_wp2_with(first
  |(go_at_call 30;refine(HD.o _).mono ?_;rintro e w2 ⟨rfl,I⟩;have y:=HP.o.calm I;have HP:=Z y;clear y I)
  |(go_at_call 36;refine(HP.o.add _ HB.o).mono ?_;rintro e w2 ⟨rfl,y⟩;have HP:=Z y;clear y))
 go_end0;exact HP.o.ax rfl
theorem ex_23 (T:Nd)(z:T.y=23):An T:=by
 intro ob own X l w v ab hf hr ax hl I;have hn:=T.I hf;rw[pU T z]at I⊢;have hb2:=BP z ax;obtain⟨a,cap,rfl,_⟩:=ar.1 hr;unfold Nd.val;rw[z];have HP:=Z<|Pst.aj ab<|.cells #[.int .i64 23,.int .i64 T.E,.string T.z,.slice a T.q cap] 25;have HN:=Z<|Pst.node ab (.int .i64 23) (.int .i64 T.E) (.string T.z) (.slice a T.q cap) 25;have HB:=Z I;clear I hr hf ax ab z;generalize T.z=ts at*
 generalize T.E=tn at*
 rcases hb2 with rfl|rfl;all_goals simp only[if_true,Int.reduceEq,if_false]at HB⊢
 all_goals go_enter func132,ntmps132
 all_goals go_wp2_with(first
  |(go_at_call 36;refine((HP.o.alloc _).add _ HB.o).mono ?_;rintro e w2 ⟨rfl,y⟩;have HP:=Z y;clear y))
 all_goals go_end0
 all_goals exact HP.o.ax rfl
theorem ex_29 (T:Nd)(z:T.y=29)(ih:∀i,i<T.q->An (T.f i)):An T:=by intro ob own X l w v ab hf hr ax hl I;have hn:=T.I hf;rw[pQ T z]at I⊢;obtain⟨hlen,jv⟩:=uX z ax;have ap0:=kk;exact afA
theorem ex_27 (T:Nd)(z:T.y=27)(ih:∀i,i<T.q->An (T.f i)):An T:=by intro ob own X l w v ab hf hr ax hl I;have hn:=T.I hf;rw[pR T z]at I⊢;obtain⟨hlen,jv⟩:=uY z ax;have ap1:=kk;exact afA
theorem ex_28 (T:Nd)(z:T.y=28)(ih:∀i,i<T.q->An (T.f i)):An T:=by intro ob own X l w v ab hf hr ax hl I;have hn:=T.I hf;rw[kM T z]at I⊢;obtain⟨Br,hlen,jv,zn⟩:=nL z ax;have hlv5:=Dj T.z;have apY:=kk;exact afz
theorem Wo (T:Nd)(z:T.y=26)(h0:T.q=0):An T:=by intro ob own X l w v ab hf hr ax hl I;have hn:=T.I hf;rw[mG T z]at I⊢;obtain⟨_,hE⟩:=nM z ax;rw[avA h0]at I⊢;obtain⟨a,cap,rfl,_⟩:=ar.1 hr;unfold Nd.val;rw[z,h0];have HP:=Z<|Pst.aj ab<|.cells #[.int .i64 26,.int .i64 T.E,.string T.z,.slice a 0 cap] 25;have HN:=Z<|Pst.node ab (.int .i64 26) (.int .i64 T.E) (.string T.z) (.slice a 0 cap) 25;have HB:=Z I;clear hE I hr hf ax ab z;have aqd:=kk;exact MZ
theorem Wm (T:Nd)(z:T.y=26)(h0:¬T.q=0)(ih:∀i,i<T.q->An (T.f i)):An T:=by intro ob own X l w v ab hf hr ax hl I;have hn:=T.I hf;rw[mG T z]at I⊢;obtain⟨LQ,hE⟩:=nM z ax;have hlen:T.q=1:=O;rw[avo h0]at I⊢;have nh:=Z<|hE 0 O;have ap4:=kk;exact Xi
theorem lH (T:Nd):An T:=by
 have step:∀T:Nd,(∀i,i<T.q->An (T.f i))->An T:=by
  intro T ih;by_cases Af:T.y=22
  ·exact ex_22 T Af
  by_cases vP:T.y=23
  ·exact ex_23 T vP
  by_cases zp:T.y=24
  ·exact ex_24 T zp
  by_cases wJ:T.y=25
  ·exact ex_25 T wJ ih
  by_cases ti:T.y=26
  ·by_cases h0:T.q=0
   ·exact Wo T ti h0
   ·exact Wm T ti h0 ih
  by_cases wy:T.y=27
  ·exact ex_27 T wy ih
  by_cases zo:T.y=28
  ·exact ex_28 T zo ih
  by_cases vO:T.y=29
  ·exact ex_29 T vO ih
  intro ob own X l w v _ _ _ ax;rw[bD]at ax;simp[bq,Af,vP,zp,wJ,ti,wy,zo,vO]at ax
 induction T with
 |nil=>exact step .nil fun i hi=>absurd hi<|avJ _
 |mk k n s len kids ih=>exact step _ fun i _=>ih i
def qY (T:Nd):Prop:=∀(ob:Nat)(own:Option Nat)(X:List UInt8)(d:Nat)(w:World)(v:Value),Buf ob w own X->T.R->Row 0 ob w T v->(∀i,i<T.q->(T.f i).U=true)->
 X.length+((aJ T).ad d).length<=1099511627776->Calls prog 63 #[.pointer<|some ⟨ob,0,none⟩,T.val v,.int .i64 d] w (vK ob X ((aJ T).ad d) own w)
def BkC (T:Nd):Prop:=∀(ob:Nat)(own:Option Nat)(X:List UInt8)(d:Nat)(w:World)(v:Value),Buf ob w own X->T.R->Row 0 ob w T v->(∀i,i<T.q->(T.f i).U=true)->
 X.length+(aS d<|(aJ T).ad<|d+1).length<=1099511627776->Calls prog 38 #[.pointer<|some ⟨ob,0,none⟩,T.val v,.int .i64 d] w (vK ob X (aS d<|(aJ T).ad<|d+1) own w)
theorem Pst.ad (hT:qY T)(h:Pst ob ai w0 Y w)(d:Nat)(v:Value)(hf:T.R)(hr:Row 0 ob w0 T v)(ax:∀i,i<T.q->(T.f i).U=true)(I:Y.length+((aJ T).ad d).length<=1099511627776):
  Calls prog 63 #[.pointer<|some ⟨ob,0,none⟩,T.val v,.int .i64 d] w fun e w'=>e=.returned (.tuple #[])/\Pst ob ai w0 (Y++(aJ T).ad d) w':=
 h.lift fun own ab=>hT ob own Y d w v ab hf (ah h.below lr hr) ax I
theorem Pst.block (hT:BkC T)(h:Pst ob ai w0 Y w)(d:Nat)(v:Value)(hf:T.R)(hr:Row 0 ob w0 T v)(ax:∀i,i<T.q->(T.f i).U=true)(I:Y.length+(aS d<|(aJ T).ad<|d+1).length<=1099511627776):
  Calls prog 38 #[.pointer<|some ⟨ob,0,none⟩,T.val v,.int .i64 d] w fun e w'=>e=.returned (.tuple #[])/\Pst ob ai w0 (Y++aS d ((aJ T).ad<|d+1)) w':=
 h.lift fun own ab=>hT ob own Y d w v ab hf (ah h.below lr hr) ax I
theorem JY (T:Nd)(ih:∀i,i<T.q->vR (T.f i)):qY T:=by intro ob own X d w v ab hf hr hE I;have hn:=T.I hf;obtain⟨a,cap,rfl,bo,_⟩:=ar.1 hr;rw[qz]at I⊢;have HE:=Z hE;unfold Nd.val;have apV:=kk;exact afy
theorem nT (T:Nd)(ih:qY T):BkC T:=by
 intro ob own X d w v ab hf hr hE I;have hn:=T.I hf;have hd:d<=1099511627776:=by have:=I;simp[aS,bB]at this;omega
 obtain⟨a,cap,rfl,bo,_⟩:=ar.1 hr;have apX:=kk;exact afy
theorem FN (T:Nd)(s:ByteArray)(ob:Nat)(own:Option Nat)(X:List UInt8)(w:World)(v:Value)(ab:Buf ob w own X)(hf:T.R)(hr:Row 0 ob w T v)(hE:∀i,i<T.q->i=0->(T.f i).Q=true)
  (I:X.length+(s.data.toList++(if T.q=0 then[]else(aJ<|T.f 0).ex 1)).length<=1099511627776):
  Calls prog 131 #[.pointer<|some ⟨ob,0,none⟩,.string s,T.val v] w (vK ob X (s.data.toList++(if T.q=0 then[]else(aJ<|T.f 0).ex 1)) own w):=by
 have hn:=T.I hf;by_cases h0:T.q=0
 ·obtain⟨a,cap,rfl,bo,_⟩:=ar.1 hr;rw[avA h0]at I⊢;unfold Nd.val;rw[h0];have HP:=Z<|Pst.aj ab<|.cells #[.int .i64 T.y,.int .i64 T.E,.string T.z,.slice a 0 cap] 25;have HN:=Z<|Pst.node ab (.int .i64 T.y) (.int .i64 T.E) (.string T.z) (.slice a 0 cap) 25;have HB:=Z I;clear I hr hf hE ab bo h0;generalize T.z=ts at*
  generalize T.E=tn at*
  generalize T.y=tk at*
  go_enter func131,ntmps131
  go_wp2_with(go_at_call 36;refine(HP.o.add _ aag).mono ?_;rintro e w2 ⟨rfl,y⟩;obtain⟨b0,b1,b2,b3⟩:=HN.o _ _ y;have HP:=Z y;clear y)
  go_end0;exact HP.o.ax M
 ·obtain⟨g,off,cap,rfl,hg,bo,aZ⟩:=gX hr h0;obtain⟨u0,ey,dR⟩:=aZ 0 O;simp only[Nat.zero_mul,Nat.add_zero]at ey;have fy:0<T.q:=O;rw[avo h0]at I⊢;unfold Nd.val;have HP:=Z<|Pst.aj ab<|.cells #[.int .i64 T.y,.int .i64 T.E,.string T.z,.slice (some ⟨g,off,none⟩) T.q cap] 25;have HN:=Z<|Pst.node ab (.int .i64 T.y) (.int .i64 T.E) (.string T.z) (.slice (some ⟨g,off,none⟩) T.q cap) 25;have cZ:=Z fun Y W(h:Pst ob own (w.alloc<|.cells #[.int .i64 T.y,.int .i64 T.E,.string T.z,.slice (some ⟨g,off,none⟩) T.q cap] 25) Y W)=>ey W<|h.aE ab;have lJ:=Z<|bb ab dR<|.cells #[.int .i64 T.y,.int .i64 T.E,.string T.z,.slice (some ⟨g,off,none⟩) T.q cap] 25;have qc:=Z<|lH<|T.f 0;have mX:=Z<|Nd.aa hf fy;have nh:=Z<|hE 0 fy rfl;have HB:=Z I;clear I hr hf hE ab bo h0 ey dR aZ;generalize T.f 0=K0 at*
  generalize T.z=ts at*
  generalize T.E=tn at*
  generalize T.y=tk at*
  go_enter func131,ntmps131
  exact afu
theorem Pst.word (h:Pst ob ai w0 Y w)(s:ByteArray)(v:Value)(hf:T.R)(hr:Row 0 ob w0 T v)(hE:∀i,i<T.q->i=0->(T.f i).Q=true)(I:Y.length+(s.data.toList++(if T.q=0 then[]else(aJ<|T.f 0).ex 1)).length<=1099511627776):
  Calls prog 131 #[.pointer<|some ⟨ob,0,none⟩,.string s,T.val v] w fun e w'=>e=.returned (.tuple #[])/\Pst ob ai w0 (Y++(s.data.toList++(if T.q=0 then[]else(aJ<|T.f 0).ex 1))) w':=
 h.lift fun own ab=>FN T s ob own Y w v ab hf (ah h.below lr hr) hE I
theorem rq (T:Nd)(z:T.y=5)(d:Nat):(aJ T).st d=(T.z.data.toList++[32,58,61,32])++(if T.q=0 then[]else(aJ<|T.f 0).ex 1):=by
 cases T with
 |nil=>simp[Nd.y]at z
 |mk k n s len kids=>obtain rfl:k=5:=z;rfl
theorem rp (T:Nd)(z:T.y=6)(d:Nat):(aJ T).st d=(T.z.data.toList++[32,61,32])++(if T.q=0 then[]else(aJ<|T.f 0).ex 1):=by
 cases T with
 |nil=>simp[Nd.y]at z
 |mk k n s len kids=>obtain rfl:k=6:=z;rfl
theorem rn (T:Nd)(z:T.y=7)(d:Nat):(aJ T).st d=T.z.data.toList++(if T.E=1 then[43,43]else[45,45]):=by
 cases T with
 |nil=>simp[Nd.y]at z
 |mk k n s len kids=>obtain rfl:k=7:=z;rfl
theorem rm (T:Nd)(z:T.y=8)(d:Nat):(aJ T).st d=(aJ<|T.f 0).ex 1++([32,60,45,32]++(aJ<|T.f 1).ex 1):=by
 cases T with
 |nil=>simp[Nd.y]at z
 |mk k n s len kids=>obtain rfl:k=8:=z;rfl
theorem rl (T:Nd)(z:T.y=9)(d:Nat):(aJ T).st d=(aJ<|T.f 0).ex 1:=by
 cases T with
 |nil=>simp[Nd.y]at z
 |mk k n s len kids=>obtain rfl:k=9:=z;rfl
theorem mw (T:Nd)(z:T.y=12)(d:Nat):(aJ T).st d=(if T.q=0 then[114,101,116,117,114,110]else[114,101,116,117,114,110,32]++(if T.q=0 then[]else(aJ<|T.f 0).ex 1)):=by
 cases T with
 |nil=>simp[Nd.y]at z
 |mk k n s len kids=>obtain rfl:k=12:=z;rfl
theorem pz (T:Nd)(z:T.y=13)(d:Nat):(aJ T).st d=[103,111,32]++(if T.q=0 then[]else(aJ<|T.f 0).ex 1):=by
 cases T with
 |nil=>simp[Nd.y]at z
 |mk k n s len kids=>obtain rfl:k=13:=z;rfl
theorem py (T:Nd)(z:T.y=14)(d:Nat):(aJ T).st d=[100,101,102,101,114,32]++(if T.q=0 then[]else(aJ<|T.f 0).ex 1):=by
 cases T with
 |nil=>simp[Nd.y]at z
 |mk k n s len kids=>obtain rfl:k=14:=z;rfl
theorem pv (T:Nd)(z:T.y=17)(d:Nat):(aJ T).st d=[98,114,101,97,107]:=by
 cases T with
 |nil=>simp[Nd.y]at z
 |mk k n s len kids=>obtain rfl:k=17:=z;rfl
theorem pt (T:Nd)(z:T.y=18)(d:Nat):(aJ T).st d=[99,111,110,116,105,110,117,101]:=by
 cases T with
 |nil=>simp[Nd.y]at z
 |mk k n s len kids=>obtain rfl:k=18:=z;rfl
theorem pr (T:Nd)(z:T.y=19)(d:Nat):(aJ T).st d=([99,108,111,115,101,40]++(if T.q=0 then[]else(aJ<|T.f 0).ex 1))++[41]:=by
 cases T with
 |nil=>simp[Nd.y]at z
 |mk k n s len kids=>obtain rfl:k=19:=z;rfl
theorem pq (T:Nd)(z:T.y=20)(d:Nat):(aJ T).st d=([112,114,105,110,116,40]++(if T.q=0 then[]else(aJ<|T.f 0).ex 1))++[41]:=by
 cases T with
 |nil=>simp[Nd.y]at z
 |mk k n s len kids=>obtain rfl:k=20:=z;rfl
theorem po (T:Nd)(z:T.y=21)(d:Nat):(aJ T).st d=([112,97,110,105,99,40]++(if T.q=0 then[]else(aJ<|T.f 0).ex 1))++[41]:=by
 cases T with
 |nil=>simp[Nd.y]at z
 |mk k n s len kids=>obtain rfl:k=21:=z;rfl
theorem KK {st:Nat->Bool}{kk:Nat->Int}(h:aG e st kk len ⟨#[99]⟩=true):len=1/\e 0=true:=by unfold aG at h;simp only[avw,avy]at h;refine⟨h.1,?_⟩;have:=bj.1 h.2 0 J;simp[bT]at this;exact this.2
theorem yz {P:Nat->Prop}(h:P 0):∀i,i<T.q->i=0->P i:=fun i _ e=>e▸h
theorem yN (z:T.y=5)(h:T.U=true):∀i,i<T.q->i=0->(T.f i).Q=true:=by exact M0
theorem yM (z:T.y=6)(h:T.U=true):∀i,i<T.q->i=0->(T.f i).Q=true:=by exact M0
theorem Pd (z:T.y=7)(h:T.U=true):T.E=1\/T.E=-1:=by rw[aM,z]at h;simp[aL]at h;exact h.2.1
theorem yL (z:T.y=8)(h:T.U=true):T.q=2/\(T.f 0).Q=true/\(T.f 1).Q=true:=by rw[aM,z]at h;simp[aL]at h;exact Sz h.2
theorem yK (z:T.y=9)(h:T.U=true):T.q=1/\(T.f 0).Q=true:=by rw[aM,z]at h;simp[aL]at h;exact jC h.2.1
theorem tQ (z:T.y=12)(h:T.U=true):∀i,i<T.q->i=0->(T.f i).Q=true:=by
 rw[aM,z]at h;simp[aL]at h;rcases h.2 with h|h
 ·intro i hi;omega
 ·exact yz (P:=fun i=>(T.f i).Q=true) (jC h).2
theorem tP (z:T.y=13)(h:T.U=true):∀i,i<T.q->i=0->(T.f i).Q=true:=by exact afL
theorem tO (z:T.y=14)(h:T.U=true):∀i,i<T.q->i=0->(T.f i).Q=true:=by exact afL
theorem tM (z:T.y=19)(h:T.U=true):∀i,i<T.q->i=0->(T.f i).Q=true:=by exact M0
theorem tL (z:T.y=20)(h:T.U=true):∀i,i<T.q->i=0->(T.f i).Q=true:=by exact M0
theorem tK (z:T.y=21)(h:T.U=true):∀i,i<T.q->i=0->(T.f i).Q=true:=by exact M0
theorem pst_5 (T:Nd)(z:T.y=5):vR T:=by
 intro ob own X d w v ab hf hr ax I;have hn:=T.I hf;rw[rq T z]at I⊢;have hE:=yN z ax;obtain⟨a,cap,rfl,_⟩:=ar.1 hr;have aE:T.val (.slice a T.q cap)=.agg #[.int .i64 5,.int .i64 T.E,.string T.z,.slice a T.q cap]:=by unfold Nd.val;rw[z]
 rw[aE];have HP:=Z<|Pst.aj ab<|.cells #[.int .i64 5,.int .i64 T.E,.string T.z,.slice a T.q cap] 25;have HN:=Z<|Pst.node ab (.int .i64 5) (.int .i64 T.E) (.string T.z) (.slice a T.q cap) 25;have HW:=Z fun Y W s(h:Pst ob own (w.alloc<|.cells #[.int .i64 5,.int .i64 T.E,.string T.z,.slice a T.q cap] 25) Y W)I=>h.word (T:=T) s (.slice a T.q cap) hf (bb ab hr<|.cells #[.int .i64 5,.int .i64 T.E,.string T.z,.slice a T.q cap] 25) hE I;exact afC
theorem pst_6 (T:Nd)(z:T.y=6):vR T:=by
 intro ob own X d w v ab hf hr ax I;have hn:=T.I hf;rw[rp T z]at I⊢;have hE:=yM z ax;obtain⟨a,cap,rfl,_⟩:=ar.1 hr;have aE:T.val (.slice a T.q cap)=.agg #[.int .i64 6,.int .i64 T.E,.string T.z,.slice a T.q cap]:=by unfold Nd.val;rw[z]
 rw[aE];have HP:=Z<|Pst.aj ab<|.cells #[.int .i64 6,.int .i64 T.E,.string T.z,.slice a T.q cap] 25;have HN:=Z<|Pst.node ab (.int .i64 6) (.int .i64 T.E) (.string T.z) (.slice a T.q cap) 25;have HW:=Z fun Y W s(h:Pst ob own (w.alloc<|.cells #[.int .i64 6,.int .i64 T.E,.string T.z,.slice a T.q cap] 25) Y W)I=>h.word (T:=T) s (.slice a T.q cap) hf (bb ab hr<|.cells #[.int .i64 6,.int .i64 T.E,.string T.z,.slice a T.q cap] 25) hE I;exact afC
theorem U6 (T:Nd)(z:T.y=13):vR T:=by
 intro ob own X d w v ab hf hr ax I;have hn:=T.I hf;rw[pz T z]at I⊢;have hE:=tP z ax;obtain⟨a,cap,rfl,_⟩:=ar.1 hr;have aE:T.val (.slice a T.q cap)=.agg #[.int .i64 13,.int .i64 T.E,.string T.z,.slice a T.q cap]:=by unfold Nd.val;rw[z]
 rw[aE];have HP:=Z<|Pst.aj ab<|.cells #[.int .i64 13,.int .i64 T.E,.string T.z,.slice a T.q cap] 25;have HN:=Z<|Pst.node ab (.int .i64 13) (.int .i64 T.E) (.string T.z) (.slice a T.q cap) 25;have HW:=Z fun Y W s(h:Pst ob own (w.alloc<|.cells #[.int .i64 13,.int .i64 T.E,.string T.z,.slice a T.q cap] 25) Y W)I=>h.word (T:=T) s (.slice a T.q cap) hf (bb ab hr<|.cells #[.int .i64 13,.int .i64 T.E,.string T.z,.slice a T.q cap] 25) hE I;exact afF
theorem U5 (T:Nd)(z:T.y=14):vR T:=by
 intro ob own X d w v ab hf hr ax I;have hn:=T.I hf;rw[py T z]at I⊢;have hE:=tO z ax;obtain⟨a,cap,rfl,_⟩:=ar.1 hr;have aE:T.val (.slice a T.q cap)=.agg #[.int .i64 14,.int .i64 T.E,.string T.z,.slice a T.q cap]:=by unfold Nd.val;rw[z]
 rw[aE];have HP:=Z<|Pst.aj ab<|.cells #[.int .i64 14,.int .i64 T.E,.string T.z,.slice a T.q cap] 25;have HN:=Z<|Pst.node ab (.int .i64 14) (.int .i64 T.E) (.string T.z) (.slice a T.q cap) 25;have HW:=Z fun Y W s(h:Pst ob own (w.alloc<|.cells #[.int .i64 14,.int .i64 T.E,.string T.z,.slice a T.q cap] 25) Y W)I=>h.word (T:=T) s (.slice a T.q cap) hf (bb ab hr<|.cells #[.int .i64 14,.int .i64 T.E,.string T.z,.slice a T.q cap] 25) hE I;exact afF
theorem U1 (T:Nd)(z:T.y=19):vR T:=by
 intro ob own X d w v ab hf hr ax I;have hn:=T.I hf;rw[pr T z]at I⊢;have hE:=tM z ax;obtain⟨a,cap,rfl,_⟩:=ar.1 hr;have aE:T.val (.slice a T.q cap)=.agg #[.int .i64 19,.int .i64 T.E,.string T.z,.slice a T.q cap]:=by unfold Nd.val;rw[z]
 rw[aE];have HP:=Z<|Pst.aj ab<|.cells #[.int .i64 19,.int .i64 T.E,.string T.z,.slice a T.q cap] 25;have HN:=Z<|Pst.node ab (.int .i64 19) (.int .i64 T.E) (.string T.z) (.slice a T.q cap) 25;have HW:=Z fun Y W s(h:Pst ob own (w.alloc<|.cells #[.int .i64 19,.int .i64 T.E,.string T.z,.slice a T.q cap] 25) Y W)I=>h.word (T:=T) s (.slice a T.q cap) hf (bb ab hr<|.cells #[.int .i64 19,.int .i64 T.E,.string T.z,.slice a T.q cap] 25) hE I;exact aft
theorem U0 (T:Nd)(z:T.y=20):vR T:=by
 intro ob own X d w v ab hf hr ax I;have hn:=T.I hf;rw[pq T z]at I⊢;have hE:=tL z ax;obtain⟨a,cap,rfl,_⟩:=ar.1 hr;have aE:T.val (.slice a T.q cap)=.agg #[.int .i64 20,.int .i64 T.E,.string T.z,.slice a T.q cap]:=by unfold Nd.val;rw[z]
 rw[aE];have HP:=Z<|Pst.aj ab<|.cells #[.int .i64 20,.int .i64 T.E,.string T.z,.slice a T.q cap] 25;have HN:=Z<|Pst.node ab (.int .i64 20) (.int .i64 T.E) (.string T.z) (.slice a T.q cap) 25;have HW:=Z fun Y W s(h:Pst ob own (w.alloc<|.cells #[.int .i64 20,.int .i64 T.E,.string T.z,.slice a T.q cap] 25) Y W)I=>h.word (T:=T) s (.slice a T.q cap) hf (bb ab hr<|.cells #[.int .i64 20,.int .i64 T.E,.string T.z,.slice a T.q cap] 25) hE I;exact aft
theorem UZ (T:Nd)(z:T.y=21):vR T:=by
 intro ob own X d w v ab hf hr ax I;have hn:=T.I hf;rw[po T z]at I⊢;have hE:=tK z ax;obtain⟨a,cap,rfl,_⟩:=ar.1 hr;have aE:T.val (.slice a T.q cap)=.agg #[.int .i64 21,.int .i64 T.E,.string T.z,.slice a T.q cap]:=by unfold Nd.val;rw[z]
 rw[aE];have HP:=Z<|Pst.aj ab<|.cells #[.int .i64 21,.int .i64 T.E,.string T.z,.slice a T.q cap] 25;have HN:=Z<|Pst.node ab (.int .i64 21) (.int .i64 T.E) (.string T.z) (.slice a T.q cap) 25;have HW:=Z fun Y W s(h:Pst ob own (w.alloc<|.cells #[.int .i64 21,.int .i64 T.E,.string T.z,.slice a T.q cap] 25) Y W)I=>h.word (T:=T) s (.slice a T.q cap) hf (bb ab hr<|.cells #[.int .i64 21,.int .i64 T.E,.string T.z,.slice a T.q cap] 25) hE I;exact aft
theorem U3 (T:Nd)(z:T.y=17):vR T:=by
 intro ob own X d w v ab hf hr ax I;have hn:=T.I hf;rw[pv T z]at I⊢;obtain⟨a,cap,rfl,_⟩:=ar.1 hr;have aE:T.val (.slice a T.q cap)=.agg #[.int .i64 17,.int .i64 T.E,.string T.z,.slice a T.q cap]:=by unfold Nd.val;rw[z]
 rw[aE];have HP:=Z<|Pst.aj ab<|.cells #[.int .i64 17,.int .i64 T.E,.string T.z,.slice a T.q cap] 25;have HN:=Z<|Pst.node ab (.int .i64 17) (.int .i64 T.E) (.string T.z) (.slice a T.q cap) 25;exact afG
theorem U2 (T:Nd)(z:T.y=18):vR T:=by
 intro ob own X d w v ab hf hr ax I;have hn:=T.I hf;rw[pt T z]at I⊢;obtain⟨a,cap,rfl,_⟩:=ar.1 hr;have aE:T.val (.slice a T.q cap)=.agg #[.int .i64 18,.int .i64 T.E,.string T.z,.slice a T.q cap]:=by unfold Nd.val;rw[z]
 rw[aE];have HP:=Z<|Pst.aj ab<|.cells #[.int .i64 18,.int .i64 T.E,.string T.z,.slice a T.q cap] 25;have HN:=Z<|Pst.node ab (.int .i64 18) (.int .i64 T.E) (.string T.z) (.slice a T.q cap) 25;exact afG
theorem pst_8 (T:Nd)(z:T.y=8):vR T:=by intro ob own X d w v ab hf hr ax I;have hn:=T.I hf;rw[rm T z]at I⊢;obtain⟨hlen,jv,zn⟩:=yL z ax;have apZ:=kk;exact afz
theorem pst_9 (T:Nd)(z:T.y=9):vR T:=by intro ob own X d w v ab hf hr ax I;have hn:=T.I hf;rw[rl T z]at I⊢;obtain⟨hlen,jv⟩:=yK z ax;have nh:=Z jv;have ap5:=kk;exact Xi
theorem Ps (T:Nd)(z:T.y=12)(h0:T.q=0):vR T:=by
 intro ob own X d w v ab hf hr ax I;have hn:=T.I hf;rw[mw T z]at I⊢;rw[avA h0]at I⊢;obtain⟨a,cap,rfl,_⟩:=ar.1 hr;have aE:T.val (.slice a T.q cap)=.agg #[.int .i64 12,.int .i64 T.E,.string T.z,.slice a 0 cap]:=by unfold Nd.val;rw[z,h0]
 rw[aE];have HP:=Z<|Pst.aj ab<|.cells #[.int .i64 12,.int .i64 T.E,.string T.z,.slice a 0 cap] 25;have HN:=Z<|Pst.node ab (.int .i64 12) (.int .i64 T.E) (.string T.z) (.slice a 0 cap) 25;have HB:=Z I;clear h0 I hr hf ax ab z aE;have aqg:=kk;exact Iz
theorem Pr (T:Nd)(z:T.y=12)(h0:¬T.q=0):vR T:=by
 intro ob own X d w v ab hf hr ax I;have hn:=T.I hf;rw[mw T z]at I⊢;have hE:=tQ z ax;rw[avo h0]at I⊢;have be:0<T.q:=O;obtain⟨a,cap,rfl,_⟩:=ar.1 hr;have aE:T.val (.slice a T.q cap)=.agg #[.int .i64 12,.int .i64 T.E,.string T.z,.slice a T.q cap]:=by unfold Nd.val;rw[z]
 rw[aE];have HP:=Z<|Pst.aj ab<|.cells #[.int .i64 12,.int .i64 T.E,.string T.z,.slice a T.q cap] 25;have HN:=Z<|Pst.node ab (.int .i64 12) (.int .i64 T.E) (.string T.z) (.slice a T.q cap) 25;have HW:=Z fun Y W s(h:Pst ob own (w.alloc<|.cells #[.int .i64 12,.int .i64 T.E,.string T.z,.slice a T.q cap] 25) Y W)I=>h.word (T:=T) s (.slice a T.q cap) hf (bb ab hr<|.cells #[.int .i64 12,.int .i64 T.E,.string T.z,.slice a T.q cap] 25) hE I;rw[aE]at HW;have HB:=Z I;clear hE h0 I hr hf ax ab z aE;exact afx
theorem pst_7 (T:Nd)(z:T.y=7):vR T:=by
 intro ob own X d w v ab hf hr ax I;have hn:=T.I hf;rw[rn T z]at I⊢;have bm:=Pd z ax;obtain⟨a,cap,rfl,_⟩:=ar.1 hr;have aE:T.val (.slice a T.q cap)=.agg #[.int .i64 7,.int .i64 T.E,.string T.z,.slice a T.q cap]:=by unfold Nd.val;rw[z]
 rw[aE];have HP:=Z<|Pst.aj ab<|.cells #[.int .i64 7,.int .i64 T.E,.string T.z,.slice a T.q cap] 25;have HN:=Z<|Pst.node ab (.int .i64 7) (.int .i64 T.E) (.string T.z) (.slice a T.q cap) 25;have hs:T.z.size<=1099511627776:=by
  have:=I;simp at this;omega
 have HB:=Z I;clear I hr hf ax ab z aE;generalize T.z=ts at*
 generalize T.E=tn at*
 rcases bm with rfl|rfl;all_goals simp only[if_true,Int.reduceEq,if_false,Int.reduceNeg]at HB⊢
 all_goals go_enter func103,ntmps103
 all_goals go_wp2
 all_goals go_region_with(go_at_call 36;refine((HP.o.alloc _).drew.add _ aag).mono ?_;rintro e w2 ⟨rfl,y⟩;obtain⟨b0,b1,b2,b3⟩:=HN.o _ _ y;have HP:=Z y;clear y)
 all_goals go_wp2
 all_goals go_end0
 all_goals exact HP.o.ax M
end Go.Proofs.YtgcmhaghebhjnaaGreatDoor
