import Derived.Test.YtgcmhaghebhjnaaGreatDoorPIA
set_option linter.unusedVariables false
set_option maxHeartbeats 16000000
set_option maxRecDepth 100000
namespace Go.Proofs.YtgcmhaghebhjnaaGreatDoor
open Go.RowKit Tryz List
variable {T :Nd} {Y:List UInt8} {ai:Option Nat} {b:Bool} {d pb:Nat} {w w0:World}
variable {G :Prop}
theorem agl (h:G:=by
 go_wp2_with(first
  |(go_at_call 154;refine(N0.o _ _ _ HP.o aag).mono ?_;rintro e w2 ⟨⟨r,rfl⟩,y⟩;obtain⟨b0,b1,b2,b3⟩:=HN.o _ _ _ _ y;obtain⟨ej,ei,eh,ef⟩:=cZ.o _ _ _ _ y;obtain⟨jq,ja,jo,iZ⟩:=fU.o _ _ _ _ y;have HP:=Z y;clear y)
  |(go_at_call_of 57 w2;refine(HP.o.putAt [⟨#[32]⟩] _ 1 _ M rfl rfl J aad).mono ?_;rintro e w3 ⟨⟨r,rfl⟩,y⟩;obtain⟨b0,b1,b2,b3⟩:=HN.o _ _ _ _ y;obtain⟨ej,ei,eh,ef⟩:=cZ.o _ _ _ _ y;obtain⟨jq,ja,jo,iZ⟩:=fU.o _ _ _ _ y;have HP:=Z y;clear y)
  |(go_at_call_of 60 u1;refine(HP.o.fn kT.o u1 HG.o vI.o rQ.o aad).mono ?_;rintro e w4 ⟨⟨r,rfl⟩,y⟩;obtain⟨b0,b1,b2,b3⟩:=HN.o _ _ _ _ y;obtain⟨ej,ei,eh,ef⟩:=cZ.o _ _ _ _ y;obtain⟨jq,ja,jo,iZ⟩:=fU.o _ _ _ _ y;have HP:=Z y;clear y))
 go_end0;exact L.au dC.o HP.o aal _):G:=h
theorem agm (h:G:=by
 have HB:=Z I;clear z h1 ih ax I hr hf ab hg aE aR;generalize ay (fun i=>(if i=0 then[]else[44,32])++(aJ<|T.f i).ex 1) T.q=tx at*
 have asu:=kk;exact Iw):G:=h
theorem agx (h:G:=by
 have HB:=Z I;clear z h1 hW I hr hf ab hg aE aR;generalize ay (fun i=>[32]++(aJ<|T.f i).ex 1) T.q=tx at*
 have asv:=kk;exact Iw):G:=h
theorem agE (h:G:=by rw[aE]at HV;have HB:=Z I;clear z h0 ih ax I hr hf ab hg aE aR;have asw:=kk;exact Iw):G:=h
theorem agH (h:G:=by
 induction T with
 |nil=>exact step .nil fun i hi=>absurd hi<|avJ _
 |mk k n s len kids ih=>exact step _ fun i _=>ih i):G:=h
theorem agI (h:G:=by clear hv ho Hy hg;exact agJ):G:=h
theorem agJ (h:G:=by
 go_enter func13,ntmps13
 go_wp2;go_region
 all_goals(go_wp2;go_ret;exact⟨rfl,HB.o⟩)):G:=h
theorem agK (h:G:=by have arF:=kk;exact agt):G:=h
theorem agL (h:G:=by rw[vY]at I⊢;have asb:=kk;exact Xc):G:=h
theorem agM (h:G:=by have art:=kk;exact agn):G:=h
theorem agn (h:G:=by
 have hs:T.z.size<=1099511627776:=by
  have:=I;simp at this;omega
 have V2:m+1<=cap:=O;have zi:cap<=9223372036854775807:=O;have HB:=Z I;clear I ab hr hg qZ hf pH hc aZ hP hB bm aE bo TD;clear hm;generalize ay (eI T) m=ps at*
 generalize T.f m=K at*
 generalize T.z=ts at*
 generalize T.y=tk at*
 go_enter func34,ntmps34
 go_wp2;go_region_with(go_at_call_of 57 w;refine(HP.o.bm [⟨#[102,117,110,99,32]⟩,ts,⟨#[40]⟩] _ 3 _ M rfl rfl J aad).mono ?_;rintro e w2 ⟨⟨r,rfl⟩,y⟩;obtain⟨b0,b1,b2,b3⟩:=HN.o _ _ _ _ y;obtain⟨c0,c1,c2,c3⟩:=HC.o _ _ _ _ y;have t3:=HT.o _ _ _ _ y;have HP:=Z y;clear y)
 first
 |clear ars
  go_wp2_with(first
   |(go_at_call 58;refine(Uc.o _ _ HP.o aad).mono ?_;rintro e w3 ⟨⟨r,rfl⟩,y⟩;obtain⟨b0,b1,b2,b3⟩:=HN.o _ _ _ _ y;obtain⟨c0,c1,c2,c3⟩:=HC.o _ _ _ _ y;have t3:=HT.o _ _ _ _ y;have HP:=Z y;clear y)
   |(go_at_call_of 57 w3;refine(HP.o.putAt [⟨#[41,32]⟩] _ 1 _ M rfl rfl J aad).mono ?_;rintro e w4 ⟨⟨r,rfl⟩,y⟩;obtain⟨b0,b1,b2,b3⟩:=HN.o _ _ _ _ y;obtain⟨c0,c1,c2,c3⟩:=HC.o _ _ _ _ y;have t3:=HT.o _ _ _ _ y;have HP:=Z y;clear y)
   |(go_at_call 60;refine(HP.o.fn gU.o u HG.o NA.o FF.o aad).mono ?_;rintro e w5 ⟨⟨r,rfl⟩,y⟩;obtain⟨b0,b1,b2,b3⟩:=HN.o _ _ _ _ y;obtain⟨c0,c1,c2,c3⟩:=HC.o _ _ _ _ y;have t3:=HT.o _ _ _ _ y;have HP:=Z y;clear y))
  go_end0;exact HP.o.ax aal _
 |clear art
  go_wp2_with(first
   |(go_at_call 58;refine(Uc.o _ _ HP.o aad).mono ?_;rintro e w3 ⟨⟨r,rfl⟩,y⟩;obtain⟨b0,b1,b2,b3⟩:=HN.o _ _ _ _ y;obtain⟨c0,c1,c2,c3⟩:=HC.o _ _ _ _ y;have t3:=HT.o _ _ _ _ y;have HP:=Z y;clear y)
   |(go_at_call_of 57 w3;refine(HP.o.putAt [⟨#[41,32]⟩] _ 1 _ M rfl rfl J aad).mono ?_;rintro e w4 ⟨⟨r,rfl⟩,y⟩;obtain⟨b0,b1,b2,b3⟩:=HN.o _ _ _ _ y;obtain⟨c0,c1,c2,c3⟩:=HC.o _ _ _ _ y;have t3:=HT.o _ _ _ _ y;have HP:=Z y;clear y))
  first
  |clear as7
   go_region_held3 (fun W=>W.cell? ⟨w.heap.size,1,none⟩=some (.int .i64 1)/\W.cell? ⟨0,1,none⟩=some (.string ⟨#[105,110,116]⟩)) (go_keep) (first
    |(go_at_call_of 57 w4;refine(HP.o.bm [⟨#[105,110,116]⟩,⟨#[32]⟩] _ 2 _ M rfl rfl J aad).mono ?_;rintro e w5 ⟨⟨r,rfl⟩,y⟩;obtain⟨b0,b1,b2,b3⟩:=HN.o _ _ _ _ y;obtain⟨c0,c1,c2,c3⟩:=HC.o _ _ _ _ y;have t3:=HT.o _ _ _ _ y;have HP:=Z y;clear y))
   all_goals go_wp2_with(first
    |(go_at_call 60;refine(HP.o.fn gU.o u HG.o NA.o FF.o aad).mono ?_;rintro e w6 ⟨⟨r,rfl⟩,y⟩;obtain⟨b0,b1,b2,b3⟩:=HN.o _ _ _ _ y;obtain⟨c0,c1,c2,c3⟩:=HC.o _ _ _ _ y;have t3:=HT.o _ _ _ _ y;have HP:=Z y;clear y))
   all_goals go_end0
   all_goals exact HP.o.ax aal _
  |clear as8
   go_region_held3 (fun W=>W.cell? ⟨w.heap.size,1,none⟩=some (.int .i64 2)/\W.cell? ⟨0,2,none⟩=some (.string ⟨#[98,111,111,108]⟩)) (go_keep) (first
    |(go_at_call_of 57 w4;refine(HP.o.bm [⟨#[98,111,111,108]⟩,⟨#[32]⟩] _ 2 _ M rfl rfl J aad).mono ?_;rintro e w5 ⟨⟨r,rfl⟩,y⟩;obtain⟨b0,b1,b2,b3⟩:=HN.o _ _ _ _ y;obtain⟨c0,c1,c2,c3⟩:=HC.o _ _ _ _ y;have t3:=HT.o _ _ _ _ y;have HP:=Z y;clear y))
   all_goals go_wp2_with(first
    |(go_at_call 60;refine(HP.o.fn gU.o u HG.o NA.o FF.o aad).mono ?_;rintro e w6 ⟨⟨r,rfl⟩,y⟩;obtain⟨b0,b1,b2,b3⟩:=HN.o _ _ _ _ y;obtain⟨c0,c1,c2,c3⟩:=HC.o _ _ _ _ y;have t3:=HT.o _ _ _ _ y;have HP:=Z y;clear y))
   all_goals go_end0
   all_goals exact HP.o.ax aal _
  |clear as9
   go_region_held3 (fun W=>W.cell? ⟨w.heap.size,1,none⟩=some (.int .i64 3)/\W.cell? ⟨0,3,none⟩=some (.string ⟨#[99,104,97,110,32,105,110,116]⟩)) (go_keep) (first
    |(go_at_call_of 57 w4;refine(HP.o.bm [⟨#[99,104,97,110,32,105,110,116]⟩,⟨#[32]⟩] _ 2 _ M rfl rfl J aad).mono ?_;rintro e w5 ⟨⟨r,rfl⟩,y⟩;obtain⟨b0,b1,b2,b3⟩:=HN.o _ _ _ _ y;obtain⟨c0,c1,c2,c3⟩:=HC.o _ _ _ _ y;have t3:=HT.o _ _ _ _ y;have HP:=Z y;clear y))
   all_goals go_wp2_with(first
    |(go_at_call 60;refine(HP.o.fn gU.o u HG.o NA.o FF.o aad).mono ?_;rintro e w6 ⟨⟨r,rfl⟩,y⟩;obtain⟨b0,b1,b2,b3⟩:=HN.o _ _ _ _ y;obtain⟨c0,c1,c2,c3⟩:=HC.o _ _ _ _ y;have t3:=HT.o _ _ _ _ y;have HP:=Z y;clear y))
   all_goals go_end0
   all_goals exact HP.o.ax aal _):G:=h
theorem ago (h:G:=by
 go_wp2_with(first
  |(go_at_call 34;refine(HP.o.fn RM.o _ Ny.o ng.o Nu.o aaY).mono ?_;rintro e w3 ⟨⟨r,rfl⟩,y⟩;obtain⟨b0,b1,b2,b3⟩:=rb.o _ _ _ _ y;have HP:=Z y;clear y)
  |(go_at_call 33;refine(HP.o.cI aaY).mono ?_;rintro e w4 ⟨⟨r,rfl⟩,y⟩;obtain⟨b0,b1,b2,b3⟩:=rb.o _ _ _ _ y;have HP:=Z y;clear y))
 first
 |clear aru
  exact⟨⟨j+1,O,by go_num,Z<|HJ.o _ _ (by rw[HX.o];simpa[ahead_zero]using HP.o)⟩,by simp[intOf];omega⟩
 |clear arv
  exact⟨⟨1,O,by go_num,Z (HJ.o _ _ (by rw[HX.o];simpa[ahead_zero]using HP.o))⟩,by simp[intOf];omega⟩):G:=h
theorem agp (h:G:=by have arQ:=kk;exact agA):G:=h
theorem agq (h:G:=by
 have Nu:=Z<|dS oE (ah HP.o.below lr pH)<|.cells #[.int .i64 (T.f j).y,.int .i64 (T.f j).E,.string (T.f j).z,.slice au lu cu] 25;have Ny:=Z<|(HG.o.keep HP.o.below).alloc oE.lt<|.cells #[.int .i64 (T.f j).y,.int .i64 (T.f j).E,.string (T.f j).z,.slice au lu cu] 25;have IL:=Z<|L.aj oE<|.cells #[.int .i64 (T.f j).y,.int .i64 (T.f j).E,.string (T.f j).z,.slice au lu cu] 25;first
 |clear ary
  have HJ:=Z fun Y W(h:L pb own1 (wr.alloc<|.cells #[.int .i64 (T.f j).y,.int .i64 (T.f j).E,.string (T.f j).z,.slice au lu cu] 25) ((d+1:Nat):Int) false Y W)=>lV _ _ Y W _ h;rw[ic.o,avu,avu]at iX;clear HP z hc pH hv bo oE lV ic;have HP:=IL;clear IL;generalize T.f j=K at*
  go_wp2_with(first
   |(go_at_call 127;refine(HP.o.fn RM.o _ Ny.o ng.o Nu.o abc).mono ?_;rintro e w2 ⟨⟨r,rfl⟩,y⟩;have HP:=Z y;clear y)
   |(go_at_call 33;refine(HP.o.cI abc).mono ?_;rintro e w2 ⟨⟨r,rfl⟩,y⟩;have HP:=Z y;clear y))
  exact⟨⟨j+1,O,by go_num,Z<|HJ.o _ _ (by rw[HX.o];simpa[dM]using HP.o)⟩,by simp[intOf];omega⟩
 |clear arz
  have rb:=Z<|L.node oE (.int .i64 (T.f j).y) (.int .i64 (T.f j).E) (.string (T.f j).z) (.slice au lu cu) 25;have HJ:=Z fun Y W(h:L pb own1 (wr.alloc<|.cells #[.int .i64 (T.f j).y,.int .i64 (T.f j).E,.string (T.f j).z,.slice au lu cu] 25) ((0:Nat):Int) false Y W)=>lV _ _ Y W _ h;rw[ic.o,avu,avu]at iX;clear HP z hc pH hv bo oE lV ic;have HP:=IL;clear IL;generalize T.f j=K at*
  generalize t j=tj at*
  by_cases hj0:0<j
  ·have I5:j≠0:=O;rw[avo I5]at iX HX;have aru:=kk;exact ago
  ·obtain rfl:j=0:=O;simp only[Nat.zero_mul,Nat.add_zero]at c0 c1 c2 c3;rw[avA rfl]at iX HX;have arv:=kk;exact ago):G:=h
theorem agr (h:G:=by obtain⟨a,cap,rfl,_⟩:=ar.1 hr;have arD:=kk;exact ags):G:=h
theorem ags (h:G:=by unfold Nd.val;have HP:=Z (L.aj ab (.cells #[.int .i64 T.y,.int .i64 T.E,.string T.z,.slice a T.q cap] 25));have arP:=kk;exact agz):G:=h
theorem agt (h:G:=by intro pb own X d b w v ab hg hf hr I;have hn:=T.I hf;have arK:=kk;exact agw):G:=h
theorem agu (h:G:=by have arL:=kk;exact agw):G:=h
theorem agv (h:G:=by
 have HM:Hid (∀d' b' Y W,L pb own (w.alloc<|.cells #[.int .i64 T.y,.int .i64 T.E,.string T.z,.slice a T.q cap] 25) d' b' Y W->W.cell? ⟨w.heap.size,3,none⟩=some (.slice a T.q cap)):=fun d' b' Y W h=>(L.node ab (.int .i64 T.y) (.int .i64 T.E) (.string T.z) (.slice a T.q cap) 25 d' b' Y W h).2.2.2;first
 |clear arI
  have HB:=Z I;have HC:=Z hC;have HH:=Z hH;have HS:=Z hS;have HF:=Z hf;clear I ab hr hC hH hS hg hf;generalize hF:(fun i=>(aJ<|T.f i).cs d)=F at*
  have asf:=kk;exact Xb
 |clear arJ
  have b3:=HM.o _ _ _ _<|y.deep<|d+1;have HPD:Hid (L pb own (w.alloc<|.cells #[.int .i64 T.y,.int .i64 T.E,.string T.z,.slice a T.q cap] 25) ((d+1:Nat):Int) false X<|(w.alloc<|.cells #[.int .i64 T.y,.int .i64 T.E,.string T.z,.slice a T.q cap] 25).setCell ⟨pb,2,none⟩<|.int .i64<|(d:Int)+1):=by
   have e:((d+1:Nat):Int)=(d:Int)+1:=O;rw[e];exact y.deep _
  have HB:=Z I;have HW:=Z hW;have HF:=Z hf;have HL:=Z ab.lt;clear I ab hr hW hg hf y;generalize hF:(fun i=>bB (d+1)++((aJ<|T.f i).st (d+1)++[10]))=F at*
  have asg:=kk;exact Xb):G:=h
theorem agw (h:G:=by have asc:=kk;exact Xc):G:=h
theorem agy (h:G:=by have rQ:=Z (cw ab aR fQ);have vI:=Z (Nd.aa hf gY);have asl:=kk;exact Rc):G:=h
theorem agz (h:G:=by
 have HR:=Z<|dS ab hr<|.cells #[.int .i64 T.y,.int .i64 T.E,.string T.z,.slice a T.q cap] 25;have HG:=Z<|hg.alloc ab.lt<|.cells #[.int .i64 T.y,.int .i64 T.E,.string T.z,.slice a T.q cap] 25;first
 |clear arO
  have HB:=Z I;have HI:=Z ih;have HF:=Z hf;clear I ab hr hg hf ih;unfold Nd.val;go_enter func60,ntmps60
  go_wp2_with(first
   |(go_at_call_of 57 w;refine(HP.o.putAt [⟨#[123]⟩] _ 1 _ M rfl rfl J aaF).mono ?_;rintro e w2 ⟨⟨r,rfl⟩,y⟩;obtain⟨b0,b1,b2,b3⟩:=HN.o _ _ _ _ y;have HP:=Z y;clear y)
   |(go_at_call 33;refine(HP.o.cI aaF).mono ?_;rintro e w3 ⟨⟨r,rfl⟩,y⟩;obtain⟨b0,b1,b2,b3⟩:=HN.o _ _ _ _ y;have HP:=Z y;clear y)
   |(go_at_call 97;refine(HP.o.ad HI.o _ HG.o HF.o HR.o hd aaF).mono ?_;rintro e w4 ⟨⟨r,rfl⟩,y⟩;have HP:=Z y;clear y)
   |(go_at_call_of 57 w4;refine(HP.o.putAt [⟨#[125]⟩] _ 1 _ M rfl rfl J (by have:=HB.o;simp[dN,aS,dM]at this⊢;omega)).mono ?_;rintro e w5 ⟨⟨r,rfl⟩,y⟩;have HP:=Z y;clear y))
  go_end0;exact HP.o.ax (by simp[dN,aS,dM]) _
 |clear arP
  first
  |clear arC
   have y:=HP.o;obtain⟨k2,k3,f2,f3⟩:=y.cells;have arJ:=kk;exact agv
  |clear arD
   first
   |clear arA
    have HB:=Z I;have HW:=Z hW;have HF:=Z hf;clear I ab hr hW hg hf;generalize hF:(fun i=>(if i=0 then[]else[10])++(t i 0++[10]))=F at*
    have ash:=kk;exact Xb
   |clear arB
    have arI:=kk;exact agv):G:=h
theorem agA (h:G:=by
 obtain⟨g,off,nR,hv,hgp,bo,z⟩:=gX HR.o O;obtain rfl:a=some ⟨g,off,none⟩:=by injection hv
 obtain⟨u,hc,pH⟩:=z j O;obtain⟨c0,c1,c2,c3⟩:=hc _ HP.o.below;first
 |clear arQ
  obtain⟨au,lu,cu,rfl⟩:∃a l c,u=.slice a l c:=by obtain⟨a,c,h,_⟩:=ar.1 pH;exact⟨a,_,c,h⟩
  obtain⟨own1,oE,lV⟩:=HP.o.join;have iX:=FJ.o j be;have RM:=Z<|HW.o j be;have ng:=Z (Nd.aa HF.o<|show j<T.q by omega);first
  |clear arw
   have ic:Hid (F j=bB (d+1)++((aJ<|T.f j).st (d+1)++[10])):=by rw[<-vH.o];rfl
   have HX:Hid (ay F (j+1)=ay F j++(bB (d+1)++((aJ<|T.f j).st (d+1)++[10]))):=by unfold Hid;rw[<-ic.o];rfl
   have ary:=kk;exact agq
  |clear arx
   have ic:Hid (F j=(if j=0 then[]else[10])++(t j 0++[10])):=by rw[<-vH.o];rfl
   have HX:Hid (ay F (j+1)=ay F j++((if j=0 then[]else[10])++(t j 0++[10]))):=by unfold Hid;rw[<-ic.o];rfl
   have arz:=kk;exact agq
 |clear arR
  have Hx:=HC.o j be;obtain⟨LX,h3,xR,pG⟩:=vi Hx;have hL:(T.f j).q=1\/(T.f j).q=2\/(T.f j).q=3:=by rcases h3 with h|h|h<;>omega
  obtain⟨g2,vW,zG,rfl,_,zi,_⟩:=gX pH O;obtain⟨own1,oE,lV⟩:=HP.o.join;have zb:=dS oE (ah HP.o.below lr pH)<|.cells #[.int .i64 (T.f j).y,.int .i64 (T.f j).E,.string (T.f j).z,.slice (some ⟨g2,vW,none⟩) (T.f j).q zG] 25;obtain⟨g3,jW,me,he3,oD,hcap3,iR⟩:=gX zb O;obtain⟨rfl,rfl,rfl⟩:g3=g2/\jW=vW/\me=zG:=by
   injection he3 with e1 e2 e3;injection e1 with e1;injection e1 with e1 e4;exact⟨e1.symm,e4.symm,e3.symm⟩
  obtain⟨u2,jQ,hru3⟩:=iR ((T.f j).q-1) O;have L0:=Nd.aa HF.o (show j<T.q by omega);have iX:=FJ.o j be;have HHJ:=Z<|HH.o j be;have HSJ:=Z<|HS.o j be;have ng:=Z L0;have HFG:=Z<|Nd.aa L0 (i:=(T.f j).q-1) O;have ic:Hid (F j=bB d++(bG (T.f j).E (T.f j).z.data.toList (fun i=>aJ<|(T.f j).f i)++([58,10]++(aJ<|(T.f j).f<|(T.f j).q-1).ad (d+1)))):=by
   rw[<-vH.o];exact zD _ LX d
  have HX:=Z<|show ay F (j+1)=ay F j++F j from rfl;rw[ic.o]at HX iX;have Nu:=Z zb;have HRG:=Z hru3;have Ny:=Z<|(HG.o.keep HP.o.below).alloc oE.lt<|.cells #[.int .i64 (T.f j).y,.int .i64 (T.f j).E,.string (T.f j).z,.slice (some ⟨g3,jW,none⟩) (T.f j).q me] 25;have IL:=Z<|L.aj oE<|.cells #[.int .i64 (T.f j).y,.int .i64 (T.f j).E,.string (T.f j).z,.slice (some ⟨g3,jW,none⟩) (T.f j).q me] 25;have rb:=Z<|L.node oE (.int .i64 (T.f j).y) (.int .i64 (T.f j).E) (.string (T.f j).z) (.slice (some ⟨g3,jW,none⟩) (T.f j).q me) 25;have HCG:=Z fun d' b' Y W(h:L pb own1 (wr.alloc<|.cells #[.int .i64 (T.f j).y,.int .i64 (T.f j).E,.string (T.f j).z,.slice (some ⟨g3,jW,none⟩) (T.f j).q me] 25) d' b' Y W)=>jQ W h.below;have HJ:=Z fun Y W(h:L pb own1 (wr.alloc<|.cells #[.int .i64 (T.f j).y,.int .i64 (T.f j).E,.string (T.f j).z,.slice (some ⟨g3,jW,none⟩) (T.f j).q me] 25) (d:Int) false Y W)=>lV _ _ Y W _ h;have HVAL:Hid ((T.f j).val (.slice (some ⟨g3,jW,none⟩) (T.f j).q me)=.agg #[.int .i64 (T.f j).y,.int .i64 (T.f j).E,.string (T.f j).z,.slice (some ⟨g3,jW,none⟩) (T.f j).q me]):=rfl;clear HP z hc pH zb hru3 hv bo oE lV ic jQ iR he3 Hx h3 xR pG L0 LX;have HP:=IL;clear IL;generalize T.f j=K at*
  generalize bG K.E K.z.data.toList (fun i=>aJ<|K.f i)=CT at*
  have zk:(ay F j).length+(d+(CT.length+(2+((aJ<|K.f<|K.q-1).ad<|d+1).length)))<=(ay F T.q).length:=by
   simp only[avu,bB,awQ,length_cons,length_nil]at iX;omega
  have HCV:=Z fun b' Y W(h:L pb own1 (wr.alloc<|.cells #[.int .i64 K.y,.int .i64 K.E,.string K.z,.slice (some ⟨g3,jW,none⟩) K.q me] 25) d b' Y W)I=>h.fn HHJ.o _ Ny.o ng.o Nu.o I;rw[HVAL.o]at HCV;clear HVAL iX HHJ Nu;generalize K.f (K.q-1)=G at*
  generalize K.q=axf at*
  rcases hL with rfl|rfl|rfl;all_goals simp only[Nat.reduceSub,Nat.zero_mul,Nat.add_zero,awg,Nat.reduceMul]at HCG
  all_goals go_wp2_with(first
   |(go_at_call 179;refine(HCV.o _ _ _ HP.o (by have:=HB.o;simp[dM,bB]at this⊢;omega)).mono ?_;rintro e w2 ⟨⟨r,rfl⟩,y⟩;have HP:=Z y;clear y)
   |(go_at_call 57;refine(HP.o.putAt [⟨#[58]⟩] _ 1 _ M rfl rfl J aaC).mono ?_;rintro e w2 ⟨⟨r,rfl⟩,y⟩;have HP:=Z y;clear y)
   |(go_at_call 33;refine(HP.o.cI aaC).mono ?_;rintro e w2 ⟨⟨r,rfl⟩,y⟩;obtain⟨x0,x1,x2,x3⟩:=rb.o _ _ _ _ y;obtain⟨d0,d1,d2,d3⟩:=HCG.o _ _ _ _ y;have HP:=Z y;clear y)
   |(go_at_call 97;refine(HP.o.ad HSJ.o u2 Ny.o HFG.o HRG.o hd aaC).mono ?_;rintro e w5 ⟨⟨r,rfl⟩,y⟩;obtain⟨x0,x1,x2,x3⟩:=rb.o _ _ _ _ y;obtain⟨d0,d1,d2,d3⟩:=HCG.o _ _ _ _ y;have HP:=Z y;clear y))
  all_goals exact⟨⟨j+1,O,by go_num,Z (HJ.o _ _ (by rw[HX.o];simpa[dN,dM]using HP.o))⟩,by simp[intOf];omega⟩):G:=h
theorem agB (h:G:=by have hn:=T.I hf;have asi:=kk;exact agG):G:=h
theorem Xd (h:G:=by
 have t3:=HT.o _ ni.o;clear bm S3 I hr hf ab hg aE aR;generalize T.z=ts at*
 generalize T.y=tk at*
 obtain⟨b0,b1,b2,b3⟩:=HN.o _ _ _ _ HP.o;go_enter func59,ntmps59
 go_wp2;first
 |clear arU
  go_region_held3 (fun W=>W.cell? ⟨w.heap.size,1,none⟩=some (.int .i64 1)/\W.cell? ⟨w.heap.size,2,none⟩=some (.string ts)/\W.cell? ⟨0,1,none⟩=some (.string ⟨#[105,110,116]⟩)) (go_keep) (first
   |(go_at_call_of 57 w;refine(HP.o.bm [ts,⟨#[32]⟩,⟨#[105,110,116]⟩] _ 3 _ M rfl rfl J aad).mono ?_;rintro e w2 ⟨⟨r,rfl⟩,y⟩;obtain⟨b0,b1,b2,b3⟩:=HN.o _ _ _ _ y;have t3:=HT.o _ (ni.o.trans y.below);have HP:=Z y;clear y))
  all_goals go_wp2
  all_goals go_end0
  all_goals exact L.au dC.o HP.o aal _
 |clear arV
  go_region_held3 (fun W=>W.cell? ⟨w.heap.size,1,none⟩=some (.int .i64 2)/\W.cell? ⟨w.heap.size,2,none⟩=some (.string ts)/\W.cell? ⟨0,2,none⟩=some (.string ⟨#[98,111,111,108]⟩)) (go_keep) (first
   |(go_at_call_of 57 w;refine(HP.o.bm [ts,⟨#[32]⟩,⟨#[98,111,111,108]⟩] _ 3 _ M rfl rfl J aad).mono ?_;rintro e w2 ⟨⟨r,rfl⟩,y⟩;obtain⟨b0,b1,b2,b3⟩:=HN.o _ _ _ _ y;have t3:=HT.o _ (ni.o.trans y.below);have HP:=Z y;clear y))
  all_goals go_wp2
  all_goals go_end0
  all_goals exact L.au dC.o HP.o aal _
 |clear arW
  go_region_held3 (fun W=>W.cell? ⟨w.heap.size,1,none⟩=some (.int .i64 3)/\W.cell? ⟨w.heap.size,2,none⟩=some (.string ts)/\W.cell? ⟨0,3,none⟩=some (.string ⟨#[99,104,97,110,32,105,110,116]⟩)) (go_keep) (first
   |(go_at_call_of 57 w;refine(HP.o.bm [ts,⟨#[32]⟩,⟨#[99,104,97,110,32,105,110,116]⟩] _ 3 _ M rfl rfl J aad).mono ?_;rintro e w2 ⟨⟨r,rfl⟩,y⟩;obtain⟨b0,b1,b2,b3⟩:=HN.o _ _ _ _ y;have t3:=HT.o _ (ni.o.trans y.below);have HP:=Z y;clear y))
  all_goals go_wp2
  all_goals go_end0
  all_goals exact L.au dC.o HP.o aal _):G:=h
theorem agC (h:G:=by have asZ:=kk;exact Iu):G:=h
theorem Rd (h:G:=by have asI:=kk;exact nW):G:=h
theorem MX (h:G:=by
 rw[aE]at HV;have HB:=Z I;clear z hW I hr hf ab hg aE aR;generalize (aJ T).st d=tx at*
 have asy:=kk;exact Iw):G:=h
theorem agD (h:G:=by
 have hUS:∀(W:World)(q:Option Addr),(Builtin.unsafeString_ #[75,3] 9 #[.pointer q,.int .i64 0]).run prog W=.ok (.string .empty) W:=fun W q=>Lib.run_unsafeString_none W _ _ _ q;first
 |clear ar8
  have c1:w.drew.cell? ⟨pb,1,none⟩=some (.slice none 0 0):=by
   have:w.drew.heap[pb]?=some (.cells #[q,.slice none 0 0,.int .i64 d,.bool b] 43 (0,0)):=hv;rw[Lib.cell_of_heap this];rfl
  have hSD:(Builtin.unsafeSliceData_ #[22] 75 #[.slice none 0 0]).run prog w.drew=.ok (.pointer none) w.drew:=rfl;have HB:=(show Hid (Below pb w w.drew)from Hy);clear hv ho Hy;exact agJ
 |clear ar9
  have c1:w.drew.cell? ⟨pb,1,none⟩=some (.slice (some ⟨g,0,none⟩) 0 cap):=by
   have:w.drew.heap[pb]?=some (.cells #[q,.slice (some ⟨g,0,none⟩) 0 cap,.int .i64 d,.bool b] 43 (0,0)):=hv;rw[Lib.cell_of_heap this];rfl
  by_cases ey:cap=0
  ·subst ey;have hSD:(Builtin.unsafeSliceData_ #[22] 75 #[.slice (some ⟨g,0,none⟩) 0 0]).run prog w.drew=.ok (.pointer<|some ⟨w.drew.heap.size,0,none⟩) (w.drew.alloc<|.view ⟨g,0,none⟩ 5):=
    Lib.run_unsafeSliceData_zero w.drew _ _ 5 underlying75 ⟨g,0,none⟩ 0 (5,cur.size) (by have sO:w.drew.heap[g]?=some (.cells cur 5 (0,0)):=hg;simp[World.shape?,sO])
   have c2:(w.drew.alloc<|.view ⟨g,0,none⟩ 5).cell? ⟨pb,1,none⟩=some (.slice (some ⟨g,0,none⟩) 0 0):=by
    have:(w.drew.alloc<|.view ⟨g,0,none⟩ 5).heap[pb]?=_:=(avI w.drew _ pb be).trans hv;rw[Lib.cell_of_heap this];rfl
   have c3:(w.alloc<|.view ⟨g,0,none⟩ 5).drew.cell? ⟨pb,1,none⟩=some (.slice (some ⟨g,0,none⟩) 0 0):=c2;have c0:w.cell? ⟨pb,1,none⟩=some (.slice (some ⟨g,0,none⟩) 0 0):=c1;have HB:=(show Hid (Below pb w<|w.drew.alloc<|.view ⟨g,0,none⟩ 5)from Hy.alloc (by show pb<=w.heap.size;omega) _);exact agI
  ·have hSD:(Builtin.unsafeSliceData_ #[22] 75 #[.slice (some ⟨g,0,none⟩) 0 cap]).run prog w.drew=.ok (.pointer<|some ⟨g,0,none⟩) w.drew:=
    Lib.run_unsafeSliceData_row _ _ _ _ _ _ ey
   have HB:=(show Hid (Below pb w w.drew)from Hy);exact agI):G:=h
theorem Xc (h:G:=by have asj:=kk;exact agG):G:=h
theorem agF (h:G:=by
 have lJ:=Z<|cw ab aR dR;have mX:=Z<|Nd.aa hf fy;have HB:=Z I;obtain⟨ej,ei,eh,ef⟩:=cZ.o _ _ _ _ HP.o;have qc:=Z ih;have nh:=Z ax;first
 |clear asd
  clear ih ax h0 I hr hf ab hg aE aR ey dR aZ bo;generalize T.f 0=K0 at*
  generalize T.z=ts at*
  generalize T.E=tn at*
  generalize T.y=tk at*
  go_enter func148,ntmps148
  go_wp2;go_region_with(first
   |(go_at_call_of 57 w;refine(HP.o.bm [ts,s] _ 2 _ M rfl rfl J aad).mono ?_;rintro e w2 ⟨⟨r,rfl⟩,y⟩;obtain⟨b0,b1,b2,b3⟩:=HN.o _ _ _ _ y;obtain⟨ej,ei,eh,ef⟩:=cZ.o _ _ _ _ y;have HP:=Z y;clear y))
  go_wp2_with(first
   |(go_at_call_of 151 u0;refine(HP.o.expr qc.o u0 HG.o mX.o lJ.o nh.o aad).mono ?_;rintro e w3 ⟨⟨r,rfl⟩,y⟩;obtain⟨b0,b1,b2,b3⟩:=HN.o _ _ _ _ y;obtain⟨ej,ei,eh,ef⟩:=cZ.o _ _ _ _ y;have HP:=Z y;clear y))
  go_end0;exact L.au dC.o HP.o aal _
 |clear ase
  clear z h0 ih ax I hr hf ab hg aE aR ey dR aZ bo;generalize T.f 0=K0 at*
  have asz:=kk;exact Iw):G:=h
theorem Xb (h:G:=by
 have vH:=Z hF;have FJ:=Z fun i(h:i<T.q)=>gO F h;clear hF;generalize T.z=ts at*
 generalize T.E=tn at*
 generalize T.y=tk at*
 first
 |clear asf
  go_enter func155,ntmps155
  go_wp2_with(first
   |(go_at_call_of 57 w;refine(HP.o.putAt [⟨#[115,101,108,101,99,116,32,123]⟩] _ 1 _ M rfl rfl J aad).mono ?_;rintro e w2 ⟨⟨r,rfl⟩,y⟩;have HP:=Z y;clear y)
   |(go_at_call 33;refine(HP.o.cI aad).mono ?_;rintro e w3 ⟨⟨r,rfl⟩,y⟩;have b3:=HM.o _ _ _ _ y;have HP:=Z y;clear y))
  go_loopw[18] (fun i wr=>∃j:Nat,j<=T.q/\i=.int .i64 j/\Hid (L pb own (w.alloc<|.cells #[.int .i64 tk,.int .i64 tn,.string ts,.slice a T.q cap] 25) (d:Int) false (X++(ahead d b++[115,101,108,101,99,116,32,123,10])++ay F j) wr)) (fun i _=>T.q-(intOf i).toNat)
  case atStart=>exact⟨0,O,rfl,Z aba⟩
  case round=>
   obtain⟨j,hj,rfl,HP⟩:=hrel;by_cases be:j<T.q
   ·have arR:=kk;exact agA
   ·obtain rfl:j=T.q:=O;go_wp2_with(go_at_call 57;refine(HP.o.putAt [⟨#[125]⟩] _ 1 _ M rfl rfl J (by have:=HB.o;simp[dN,dM]at this⊢;omega)).mono ?_;rintro e w4 ⟨⟨r,rfl⟩,y⟩;have HP:=Z y;clear y)
    go_end0;exact HP.o.ax (by simp[dN,dM]) _
 |clear asg
  go_enter func97,ntmps97
  go_wp2;go_loopw[18] (fun i wr=>∃j:Nat,j<=T.q/\i=.int .i64 j/\Hid (L pb own (w.alloc<|.cells #[.int .i64 tk,.int .i64 tn,.string ts,.slice a T.q cap] 25) ((d+1:Nat):Int) false (X++ay F j) wr)) (fun i _=>T.q-(intOf i).toNat)
  case atStart=>exact⟨0,O,rfl,Z (by simpa[ay]using HPD.o)⟩
  case round=>
   obtain⟨j,hj,rfl,HP⟩:=hrel;by_cases be:j<T.q
   ·have arw:=kk;exact agp
   ·obtain rfl:j=T.q:=O;obtain⟨k2,k3,f2,f3⟩:=HP.o.cells;have HPE:=Z<|HP.o.deep (d:Int);clear HP;go_wp2;go_end0;exact HPE.o.ax rfl _
 |clear ash
  go_enter func12,ntmps12
  go_wp2;go_loopw[9] (fun i wr=>∃j:Nat,j<=T.q/\i=.int .i64 j/\Hid (L pb own (w.alloc<|.cells #[.int .i64 tk,.int .i64 tn,.string ts,.slice a T.q cap] 25) ((0:Nat):Int) false (X++ay F j) wr)) (fun i _=>T.q-(intOf i).toNat)
  case atStart=>exact⟨0,O,rfl,Z aaA⟩
  case round=>
   obtain⟨j,hj,rfl,HP⟩:=hrel;by_cases be:j<T.q
   ·have arx:=kk;exact agp
   ·obtain rfl:j=T.q:=O;go_wp2;go_end0;exact HP.o.ax rfl _):G:=h
theorem agG (h:G:=by
  obtain⟨g,off,cap,rfl,hgp,bo,aZ⟩:=gX hr O;obtain⟨u0,ey,dR⟩:=aZ 0 O;simp only[Nat.zero_mul,Nat.add_zero]at ey;have fy:0<T.q:=O;first
  | clear asi
    first
    | clear arS
      have aE:T.val (.slice (some ⟨g,off,none⟩) T.q cap)=.agg #[.int .i64 T.y,.int .i64 T.E,.string T.z,.slice (some ⟨g,off,none⟩) T.q cap]:=by unfold Nd.val;rfl
      rw[aE];have aR:Below w.heap.size w (w.alloc (.cells #[.int .i64 T.y,.int .i64 T.E,.string T.z,.slice (some ⟨g,off,none⟩) T.q cap] 25)):=(bO w _);have HP:=Z (L.af ab aR);have HN:=Z (fun d' b' Y W(h:L pb own (w.alloc (.cells #[.int .i64 T.y,.int .i64 T.E,.string T.z,.slice (some ⟨g,off,none⟩) T.q cap] 25)) d' b' Y W)=>(show W.cell? ⟨w.heap.size,0,none⟩=some (.int .i64 T.y)/\W.cell? ⟨w.heap.size,1,none⟩=some (.int .i64 T.E)/\W.cell? ⟨w.heap.size,2,none⟩=some (.string T.z)/\W.cell? ⟨w.heap.size,3,none⟩=some (.slice (some ⟨g,off,none⟩) T.q cap) by
        have e:=h.kept ab w.heap.size lr M
        rw[e,e,e,e];refine⟨?_,?_,?_,?_⟩<;>simp[go_sem]))
      have HG:=Z<|bU ab aR hg;have dC:=Z aR;have cZ:=Z fun d' b' Y W(h:L pb own (w.alloc<|.cells #[.int .i64 T.y,.int .i64 T.E,.string T.z,.slice (some ⟨g,off,none⟩) T.q cap] 25) d' b' Y W)=>ey W<|h.aQ ab aR;have asd:=kk;exact agF
    | clear arT
      have aE:T.val (.slice (some ⟨g,off,none⟩) T.q cap)=.agg #[.int .i64 T.y,.int .i64 T.E,.string T.z,.slice (some ⟨g,off,none⟩) 1 cap]:=by unfold Nd.val;rw[h0]
      rw[aE];have aR:Below w.heap.size w (w.alloc (.cells #[.int .i64 T.y,.int .i64 T.E,.string T.z,.slice (some ⟨g,off,none⟩) 1 cap] 25)):=(bO w _);have HP:=Z (L.af ab aR);have HN:=Z (fun d' b' Y W(h:L pb own (w.alloc (.cells #[.int .i64 T.y,.int .i64 T.E,.string T.z,.slice (some ⟨g,off,none⟩) 1 cap] 25)) d' b' Y W)=>(show W.cell? ⟨w.heap.size,0,none⟩=some (.int .i64 T.y)/\W.cell? ⟨w.heap.size,1,none⟩=some (.int .i64 T.E)/\W.cell? ⟨w.heap.size,2,none⟩=some (.string T.z)/\W.cell? ⟨w.heap.size,3,none⟩=some (.slice (some ⟨g,off,none⟩) 1 cap) by
        have e:=h.kept ab w.heap.size lr M
        rw[e,e,e,e];refine⟨?_,?_,?_,?_⟩<;>simp[go_sem]))
      have HG:=Z<|bU ab aR hg;have dC:=Z aR;have cZ:=Z fun d' b' Y W(h:L pb own (w.alloc<|.cells #[.int .i64 T.y,.int .i64 T.E,.string T.z,.slice (some ⟨g,off,none⟩) 1 cap] 25) d' b' Y W)=>ey W<|h.aQ ab aR;have asS:=kk;exact Iv
  | clear asj
    first
    | clear asa
      have aE:T.val (.slice (some ⟨g,off,none⟩) T.q cap)=.agg #[.int .i64 9,.int .i64 T.E,.string T.z,.slice (some ⟨g,off,none⟩) T.q cap]:=by unfold Nd.val;rw[z]
      rw[aE];have aR:Below w.heap.size w (w.alloc (.cells #[.int .i64 9,.int .i64 T.E,.string T.z,.slice (some ⟨g,off,none⟩) T.q cap] 25)):=(bO w _);have HP:=Z (L.af ab aR);have HN:=Z (fun d' b' Y W(h:L pb own (w.alloc (.cells #[.int .i64 9,.int .i64 T.E,.string T.z,.slice (some ⟨g,off,none⟩) T.q cap] 25)) d' b' Y W)=>(show W.cell? ⟨w.heap.size,0,none⟩=some (.int .i64 9)/\W.cell? ⟨w.heap.size,1,none⟩=some (.int .i64 T.E)/\W.cell? ⟨w.heap.size,2,none⟩=some (.string T.z)/\W.cell? ⟨w.heap.size,3,none⟩=some (.slice (some ⟨g,off,none⟩) T.q cap) by
        have e:=h.kept ab w.heap.size lr M
        rw[e,e,e,e];refine⟨?_,?_,?_,?_⟩<;>simp[go_sem]))
      have HG:=Z<|bU ab aR hg;have dC:=Z aR;have cZ:=Z fun d' b' Y W(h:L pb own (w.alloc<|.cells #[.int .i64 9,.int .i64 T.E,.string T.z,.slice (some ⟨g,off,none⟩) T.q cap] 25) d' b' Y W)=>ey W<|h.aQ ab aR;have ase:=kk;exact agF
    | clear asb
      have aE:T.val (.slice (some ⟨g,off,none⟩) T.q cap)=.agg #[.int .i64 16,.int .i64 1,.string T.z,.slice (some ⟨g,off,none⟩) 2 cap]:=by unfold Nd.val;rw[z,bm,h0]
      rw[aE];have aR:Below w.heap.size w (w.alloc (.cells #[.int .i64 16,.int .i64 1,.string T.z,.slice (some ⟨g,off,none⟩) 2 cap] 25)):=(bO w _);have HP:=Z (L.af ab aR);have HN:=Z (fun d' b' Y W(h:L pb own (w.alloc (.cells #[.int .i64 16,.int .i64 1,.string T.z,.slice (some ⟨g,off,none⟩) 2 cap] 25)) d' b' Y W)=>(show W.cell? ⟨w.heap.size,0,none⟩=some (.int .i64 16)/\W.cell? ⟨w.heap.size,1,none⟩=some (.int .i64 1)/\W.cell? ⟨w.heap.size,2,none⟩=some (.string T.z)/\W.cell? ⟨w.heap.size,3,none⟩=some (.slice (some ⟨g,off,none⟩) 2 cap) by
        have e:=h.kept ab w.heap.size lr M
        rw[e,e,e,e];refine⟨?_,?_,?_,?_⟩<;>simp[go_sem]))
      have HG:=Z<|bU ab aR hg;have dC:=Z aR;have cZ:=Z fun d' b' Y W(h:L pb own (w.alloc<|.cells #[.int .i64 16,.int .i64 1,.string T.z,.slice (some ⟨g,off,none⟩) 2 cap] 25) d' b' Y W)=>ey W<|h.aQ ab aR;have asR:=kk;exact Iv
    | clear asc
      obtain⟨u1,eO,fQ⟩:=aZ 1 O;simp only[awg]at eO;have gY:1<T.q:=O;first
      | clear arK
        first
        | clear arE
          obtain⟨u2,jQ,qg⟩:=aZ 2 O;simp only[Nat.reduceMul]at jQ;have sM:2<T.q:=O;have aE:T.val (.slice (some ⟨g,off,none⟩) T.q cap)=.agg #[.int .i64 T.y,.int .i64 T.E,.string T.z,.slice (some ⟨g,off,none⟩) 3 cap]:=by unfold Nd.val;rw[h0]
          rw[aE];have aR:Below w.heap.size w (w.alloc (.cells #[.int .i64 T.y,.int .i64 T.E,.string T.z,.slice (some ⟨g,off,none⟩) 3 cap] 25)):=(bO w _);have HP:=Z (L.af ab aR);have HN:=Z (fun d' b' Y W(h:L pb own (w.alloc (.cells #[.int .i64 T.y,.int .i64 T.E,.string T.z,.slice (some ⟨g,off,none⟩) 3 cap] 25)) d' b' Y W)=>(show W.cell? ⟨w.heap.size,0,none⟩=some (.int .i64 T.y)/\W.cell? ⟨w.heap.size,1,none⟩=some (.int .i64 T.E)/\W.cell? ⟨w.heap.size,2,none⟩=some (.string T.z)/\W.cell? ⟨w.heap.size,3,none⟩=some (.slice (some ⟨g,off,none⟩) 3 cap) by
            have e:=h.kept ab w.heap.size lr M
            rw[e,e,e,e];refine⟨?_,?_,?_,?_⟩<;>simp[go_sem]))
          have HG:=Z<|bU ab aR hg;have dC:=Z aR;have cZ:=Z fun d' b' Y W(h:L pb own (w.alloc<|.cells #[.int .i64 T.y,.int .i64 T.E,.string T.z,.slice (some ⟨g,off,none⟩) 3 cap] 25) d' b' Y W)=>ey W<|h.aQ ab aR;have asT:=kk;exact Iv
        | clear arF
          have aE:T.val (.slice (some ⟨g,off,none⟩) T.q cap)=.agg #[.int .i64 T.y,.int .i64 T.E,.string T.z,.slice (some ⟨g,off,none⟩) 2 cap]:=by unfold Nd.val;rw[h0]
          rw[aE];have aR:Below w.heap.size w (w.alloc (.cells #[.int .i64 T.y,.int .i64 T.E,.string T.z,.slice (some ⟨g,off,none⟩) 2 cap] 25)):=(bO w _);have HP:=Z (L.af ab aR);have HN:=Z (fun d' b' Y W(h:L pb own (w.alloc (.cells #[.int .i64 T.y,.int .i64 T.E,.string T.z,.slice (some ⟨g,off,none⟩) 2 cap] 25)) d' b' Y W)=>(show W.cell? ⟨w.heap.size,0,none⟩=some (.int .i64 T.y)/\W.cell? ⟨w.heap.size,1,none⟩=some (.int .i64 T.E)/\W.cell? ⟨w.heap.size,2,none⟩=some (.string T.z)/\W.cell? ⟨w.heap.size,3,none⟩=some (.slice (some ⟨g,off,none⟩) 2 cap) by
            have e:=h.kept ab w.heap.size lr M
            rw[e,e,e,e];refine⟨?_,?_,?_,?_⟩<;>simp[go_sem]))
          have HG:=Z<|bU ab aR hg;have dC:=Z aR;have cZ:=Z fun d' b' Y W(h:L pb own (w.alloc<|.cells #[.int .i64 T.y,.int .i64 T.E,.string T.z,.slice (some ⟨g,off,none⟩) 2 cap] 25) d' b' Y W)=>ey W<|h.aQ ab aR;have asU:=kk;exact Iv
      | clear arL
        first
        | clear arG
          have aE:T.val (.slice (some ⟨g,off,none⟩) T.q cap)=.agg #[.int .i64 16,.int .i64 2,.string T.z,.slice (some ⟨g,off,none⟩) 3 cap]:=by unfold Nd.val;rw[z,bm,h0]
          rw[aE];have aR:Below w.heap.size w (w.alloc (.cells #[.int .i64 16,.int .i64 2,.string T.z,.slice (some ⟨g,off,none⟩) 3 cap] 25)):=(bO w _);have HP:=Z (L.af ab aR);have HN:=Z (fun d' b' Y W(h:L pb own (w.alloc (.cells #[.int .i64 16,.int .i64 2,.string T.z,.slice (some ⟨g,off,none⟩) 3 cap] 25)) d' b' Y W)=>(show W.cell? ⟨w.heap.size,0,none⟩=some (.int .i64 16)/\W.cell? ⟨w.heap.size,1,none⟩=some (.int .i64 2)/\W.cell? ⟨w.heap.size,2,none⟩=some (.string T.z)/\W.cell? ⟨w.heap.size,3,none⟩=some (.slice (some ⟨g,off,none⟩) 3 cap) by
            have e:=h.kept ab w.heap.size lr M
            rw[e,e,e,e];refine⟨?_,?_,?_,?_⟩<;>simp[go_sem]))
          have HG:=Z<|bU ab aR hg;have dC:=Z aR;have cZ:=Z fun d' b' Y W(h:L pb own (w.alloc<|.cells #[.int .i64 16,.int .i64 2,.string T.z,.slice (some ⟨g,off,none⟩) 3 cap] 25) d' b' Y W)=>ey W<|h.aQ ab aR;have asV:=kk;exact Iv
        | clear arH
          have aE:T.val (.slice (some ⟨g,off,none⟩) T.q cap)=.agg #[.int .i64 8,.int .i64 T.E,.string T.z,.slice (some ⟨g,off,none⟩) 2 cap]:=by unfold Nd.val;rw[z,h2]
          rw[aE];have aR:Below w.heap.size w (w.alloc (.cells #[.int .i64 8,.int .i64 T.E,.string T.z,.slice (some ⟨g,off,none⟩) 2 cap] 25)):=(bO w _);have HP:=Z (L.af ab aR);have HN:=Z (fun d' b' Y W(h:L pb own (w.alloc (.cells #[.int .i64 8,.int .i64 T.E,.string T.z,.slice (some ⟨g,off,none⟩) 2 cap] 25)) d' b' Y W)=>(show W.cell? ⟨w.heap.size,0,none⟩=some (.int .i64 8)/\W.cell? ⟨w.heap.size,1,none⟩=some (.int .i64 T.E)/\W.cell? ⟨w.heap.size,2,none⟩=some (.string T.z)/\W.cell? ⟨w.heap.size,3,none⟩=some (.slice (some ⟨g,off,none⟩) 2 cap) by
            have e:=h.kept ab w.heap.size lr M
            rw[e,e,e,e];refine⟨?_,?_,?_,?_⟩<;>simp[go_sem]))
          have HG:=Z (bU ab aR hg);have dC:=Z aR;have cZ:=Z (fun d' b' Y W(h:L pb own (w.alloc (.cells #[.int .i64 8,.int .i64 T.E,.string T.z,.slice (some ⟨g,off,none⟩) 2 cap] 25)) d' b' Y W)=>ey W (h.aQ ab aR));have asW:=kk;exact Iv):G:=h
theorem Rc (h:G:=by
 have HB:=Z I;obtain⟨ej,ei,eh,ef⟩:=cZ.o _ _ _ _ HP.o;obtain⟨jq,ja,jo,iZ⟩:=fU.o _ _ _ _ HP.o;first
 |clear asl
  have qc:=Z i0;have CI:=Z i1;have nh:=Z e0;have tD:=Z e1;first
  |clear arM
   clear vY z bm h0 i0 i1 e0 e1 fy gY I hr hf ab hg aE aR ey dR eO fQ aZ bo;generalize T.f 0=K0 at*
   generalize T.f 1=K1 at*
   generalize T.z=ts at*
   go_enter func179,ntmps179
   go_wp2_with(first
    |(go_at_call_of 57 w;refine(HP.o.putAt [⟨#[99,97,115,101,32]⟩] _ 1 _ M rfl rfl J aad).mono ?_;rintro e w2 ⟨⟨r,rfl⟩,y⟩;obtain⟨b0,b1,b2,b3⟩:=HN.o _ _ _ _ y;obtain⟨ej,ei,eh,ef⟩:=cZ.o _ _ _ _ y;obtain⟨jq,ja,jo,iZ⟩:=fU.o _ _ _ _ y;have HP:=Z y;clear y))
   go_region_held3 (fun W=>W.cell? ⟨w.heap.size,3,none⟩=some (.slice (some ⟨g,off,none⟩) 3 cap)/\W.cell? ⟨g,off,none⟩=some (.int .i64 K0.y)/\W.cell? ⟨g,off+1,none⟩=some (.int .i64 K0.E)/\W.cell? ⟨g,off+2,none⟩=some (.string K0.z)/\W.cell? ⟨g,off+3,none⟩=some (u0)/\W.cell? ⟨g,off+4,none⟩=some (.int .i64 K1.y)/\W.cell? ⟨g,off+4+1,none⟩=some (.int .i64 K1.E)/\W.cell? ⟨g,off+4+2,none⟩=some (.string K1.z)/\W.cell? ⟨g,off+4+3,none⟩=some (u1)) (go_keep) (first
    |(go_at_call 150;refine(HP.o.drew.send qc.o CI.o nh.o tD.o u0 u1 HG.o mX.o vI.o lJ.o rQ.o aad).mono ?_;rintro e w3 ⟨⟨r,rfl⟩,y⟩;obtain⟨b0,b1,b2,b3⟩:=HN.o _ _ _ _ y;obtain⟨ej,ei,eh,ef⟩:=cZ.o _ _ _ _ y;obtain⟨jq,ja,jo,iZ⟩:=fU.o _ _ _ _ y;have HP:=Z y;clear y))
   all_goals go_wp2
   all_goals go_end0
   all_goals exact L.au dC.o HP.o aal _
  |clear arN
   clear z h2 fy gY i0 i1 e0 e1 I hr hf ab hg aE aR ey dR eO fQ aZ bo;generalize T.f 0=K0 at*
   generalize T.f 1=K1 at*
   generalize T.z=ts at*
   generalize T.E=tn at*
   obtain⟨b0,b1,b2,b3⟩:=HN.o _ _ _ _ HP.o;go_enter func127,ntmps127
   go_wp2;go_region_held3 (fun W=>W.cell? ⟨w.heap.size,3,none⟩=some (.slice (some ⟨g,off,none⟩) 2 cap)/\W.cell? ⟨g,off,none⟩=some (.int .i64 K0.y)/\W.cell? ⟨g,off+1,none⟩=some (.int .i64 K0.E)/\W.cell? ⟨g,off+2,none⟩=some (.string K0.z)/\W.cell? ⟨g,off+3,none⟩=some (u0)/\W.cell? ⟨g,off+4,none⟩=some (.int .i64 K1.y)/\W.cell? ⟨g,off+4+1,none⟩=some (.int .i64 K1.E)/\W.cell? ⟨g,off+4+2,none⟩=some (.string K1.z)/\W.cell? ⟨g,off+4+3,none⟩=some (u1)) (go_keep) (first
    |(go_at_call 150;refine(HP.o.drew.send qc.o CI.o nh.o tD.o u0 u1 HG.o mX.o vI.o lJ.o rQ.o aag).mono ?_;rintro e w3 ⟨⟨r,rfl⟩,y⟩;obtain⟨b0,b1,b2,b3⟩:=HN.o _ _ _ _ y;obtain⟨ej,ei,eh,ef⟩:=cZ.o _ _ _ _ y;obtain⟨jq,ja,jo,iZ⟩:=fU.o _ _ _ _ y;have HP:=Z y;clear y))
   all_goals go_wp2
   all_goals go_end0
   all_goals exact L.au dC.o HP.o M _
 |clear asm
  obtain⟨Ah,Ag,vu,vt⟩:=oR.o _ _ _ _ HP.o;have kT:=Z Wd;have eF:=Z V9;simp only[ay,nil_append]at N0;clear sw Wd V9 h0 fy gY sM I hr hf ab hg aE aR ey dR eO fQ jQ qg aZ bo;generalize T.f 0=K0 at*
  generalize T.f 1=K1 at*
  generalize T.f 2=K2 at*
  generalize T.y=tk at*
  generalize T.z=ts at*
  generalize T.E=tn at*
  go_enter func152,ntmps152
  go_wp2_with(first
   |(go_at_call 154;refine(N0.o _ _ _ HP.o aag).mono ?_;rintro e w2 ⟨⟨r,rfl⟩,y⟩;obtain⟨b0,b1,b2,b3⟩:=HN.o _ _ _ _ y;obtain⟨ej,ei,eh,ef⟩:=cZ.o _ _ _ _ y;obtain⟨jq,ja,jo,iZ⟩:=fU.o _ _ _ _ y;obtain⟨Ah,Ag,vu,vt⟩:=oR.o _ _ _ _ y;have HP:=Z y;clear y)
   |(go_at_call_of 57 w2;refine(HP.o.putAt [⟨#[32]⟩] _ 1 _ M rfl rfl J aad).mono ?_;rintro e w3 ⟨⟨r,rfl⟩,y⟩;obtain⟨b0,b1,b2,b3⟩:=HN.o _ _ _ _ y;obtain⟨ej,ei,eh,ef⟩:=cZ.o _ _ _ _ y;obtain⟨jq,ja,jo,iZ⟩:=fU.o _ _ _ _ y;obtain⟨Ah,Ag,vu,vt⟩:=oR.o _ _ _ _ y;have HP:=Z y;clear y)
   |(go_at_call_of 60 u1;refine(HP.o.fn kT.o u1 HG.o vI.o rQ.o aad).mono ?_;rintro e w4 ⟨⟨r,rfl⟩,y⟩;obtain⟨b0,b1,b2,b3⟩:=HN.o _ _ _ _ y;obtain⟨ej,ei,eh,ef⟩:=cZ.o _ _ _ _ y;obtain⟨jq,ja,jo,iZ⟩:=fU.o _ _ _ _ y;obtain⟨Ah,Ag,vu,vt⟩:=oR.o _ _ _ _ y;have HP:=Z y;clear y)
   |(go_at_call_of 57 w4;refine(HP.o.putAt [⟨#[32,101,108,115,101,32]⟩] _ 1 _ M rfl rfl J aad).mono ?_;rintro e w5 ⟨⟨r,rfl⟩,y⟩;obtain⟨b0,b1,b2,b3⟩:=HN.o _ _ _ _ y;obtain⟨ej,ei,eh,ef⟩:=cZ.o _ _ _ _ y;obtain⟨jq,ja,jo,iZ⟩:=fU.o _ _ _ _ y;obtain⟨Ah,Ag,vu,vt⟩:=oR.o _ _ _ _ y;have HP:=Z y;clear y)
   |(go_at_call_of 127 u2;refine(HP.o.fn eF.o u2 HG.o R9.o El.o aad).mono ?_;rintro e w6 ⟨⟨r,rfl⟩,y⟩;obtain⟨b0,b1,b2,b3⟩:=HN.o _ _ _ _ y;obtain⟨ej,ei,eh,ef⟩:=cZ.o _ _ _ _ y;obtain⟨jq,ja,jo,iZ⟩:=fU.o _ _ _ _ y;obtain⟨Ah,Ag,vu,vt⟩:=oR.o _ _ _ _ y;have HP:=Z y;clear y))
  go_end0;exact L.au dC.o HP.o aal _
 |clear asn
  have kT:=Z Wd;simp only[ay,nil_append]at N0;clear sw Wd h0 fy gY I hr hf ab hg aE aR ey dR eO fQ aZ bo;generalize T.f 0=K0 at*
  generalize T.f 1=K1 at*
  generalize T.y=tk at*
  generalize T.z=ts at*
  generalize T.E=tn at*
  go_enter func152,ntmps152
  exact agl
 |clear aso
  have kT:=Z hB;simp only[ay,nil_append]at N0;clear sw hB h0 fy gY I hr hf ab hg aE aR ey dR eO fQ aZ bo;generalize T.f 0=K0 at*
  generalize T.f 1=K1 at*
  generalize T.y=tk at*
  generalize T.z=ts at*
  generalize T.E=tn at*
  go_enter func153,ntmps153
  exact agl):G:=h
theorem MV (h:G:=by have asA:=kk;exact nW):G:=h
theorem Iw (h:G:=by
 generalize T.z=ts at*
 generalize T.E=tn at*
 go_enter func127,ntmps127
 first
 |clear asu
  go_wp2_with(go_at_call 156;refine(HV.o _ _ _ HP.o HB.o).mono ?_;rintro e w2 ⟨⟨r,rfl⟩,y⟩;have HP:=Z y;clear y)
  go_end0;exact L.au dC.o HP.o rfl _
 |clear asv
  go_wp2_with(go_at_call 154;refine(HV.o _ _ _ HP.o HB.o).mono ?_;rintro e w2 ⟨⟨r,rfl⟩,y⟩;have HP:=Z y;clear y)
  go_end0;exact L.au dC.o HP.o rfl _
 |clear asw
  go_wp2_with(go_at_call 148;refine(HV.o _ _ _ HP.o HB.o).mono ?_;rintro e w2 ⟨⟨r,rfl⟩,y⟩;have HP:=Z y;clear y)
  go_end0;exact L.au dC.o HP.o rfl _
 |clear asx
  first
  |clear arX
   go_wp2_with(first
    |(go_at_call_of 57 w;refine(HP.o.putAt [⟨#[98,114,101,97,107]⟩] _ 1 _ M rfl rfl J aad).mono ?_;rintro e w2 ⟨⟨r,rfl⟩,y⟩;obtain⟨b0,b1,b2,b3⟩:=HN.o _ _ _ _ y;have HP:=Z y;clear y))
   go_end0;exact L.au dC.o HP.o aal _
  |clear arY
   go_wp2_with(first
    |(go_at_call_of 57 w;refine(HP.o.putAt [⟨#[99,111,110,116,105,110,117,101]⟩] _ 1 _ M rfl rfl J aad).mono ?_;rintro e w2 ⟨⟨r,rfl⟩,y⟩;obtain⟨b0,b1,b2,b3⟩:=HN.o _ _ _ _ y;have HP:=Z y;clear y))
   go_end0;exact L.au dC.o HP.o aal _
 |clear asy
  first
  |clear ar3
   go_wp2_with(go_at_call 60;refine(HV.o _ _ _ HP.o HB.o).mono ?_;rintro e w2 ⟨⟨r,rfl⟩,y⟩;have HP:=Z y;clear y)
   go_end0;exact L.au dC.o HP.o rfl _
  |clear ar4
   go_wp2_with(go_at_call 149;refine(HV.o _ _ _ HP.o HB.o).mono ?_;rintro e w2 ⟨⟨r,rfl⟩,y⟩;have HP:=Z y;clear y)
   go_end0;exact L.au dC.o HP.o rfl _
  |clear ar5
   go_wp2_with(go_at_call 152;refine(HV.o _ _ _ HP.o HB.o).mono ?_;rintro e w2 ⟨⟨r,rfl⟩,y⟩;have HP:=Z y;clear y)
   go_end0;exact L.au dC.o HP.o rfl _
  |clear ar6
   go_wp2_with(go_at_call 153;refine(HV.o _ _ _ HP.o HB.o).mono ?_;rintro e w2 ⟨⟨r,rfl⟩,y⟩;have HP:=Z y;clear y)
   go_end0;exact L.au dC.o HP.o rfl _
  |clear ar7
   go_wp2_with(go_at_call 155;refine(HV.o _ _ _ HP.o HB.o).mono ?_;rintro e w2 ⟨⟨r,rfl⟩,y⟩;have HP:=Z y;clear y)
   go_end0;exact L.au dC.o HP.o rfl _
 |clear asz
  go_wp2_with(first
   |(go_at_call_of 151 u0;refine(HP.o.expr qc.o u0 HG.o mX.o lJ.o nh.o aag).mono ?_;rintro e w2 ⟨⟨r,rfl⟩,y⟩;obtain⟨b0,b1,b2,b3⟩:=HN.o _ _ _ _ y;obtain⟨ej,ei,eh,ef⟩:=cZ.o _ _ _ _ y;have HP:=Z y;clear y))
  go_end0;exact L.au dC.o HP.o M _):G:=h
theorem nW (h:G:=by
  intro pb own X d b w v ab hg hf hr I;dsimp only at I⊢;have hn:=T.I hf;first
  | clear asA
    obtain⟨a,cap,rfl,_⟩:=ar.1 hr;first
    | clear asp
      have aE:T.val (.slice a T.q cap)=.agg #[.int .i64 4,.int .i64 T.E,.string T.z,.slice a T.q cap]:=by unfold Nd.val;rw[z]
      rw[aE];have aR:Below w.heap.size w (w.alloc (.cells #[.int .i64 4,.int .i64 T.E,.string T.z,.slice a T.q cap] 25)):=(bO w _);have HP:=Z (L.af ab aR);have HN:=Z (fun d' b' Y W(h:L pb own (w.alloc (.cells #[.int .i64 4,.int .i64 T.E,.string T.z,.slice a T.q cap] 25)) d' b' Y W)=>(show W.cell? ⟨w.heap.size,0,none⟩=some (.int .i64 4)/\W.cell? ⟨w.heap.size,1,none⟩=some (.int .i64 T.E)/\W.cell? ⟨w.heap.size,2,none⟩=some (.string T.z)/\W.cell? ⟨w.heap.size,3,none⟩=some (.slice a T.q cap) by
        have e:=h.kept ab w.heap.size lr M
        rw[e,e,e,e];refine⟨?_,?_,?_,?_⟩<;>simp[go_sem]))
      have HG:=Z<|bU ab aR hg;have dC:=Z aR;have HV:=Z fun b' Y W(h:L pb own (w.alloc<|.cells #[.int .i64 4,.int .i64 T.E,.string T.z,.slice a T.q cap] 25) d b' Y W)I=>h.fn hW (.slice a T.q cap) (bU ab aR hg) hf (cw ab aR hr) I;have ar3:=kk;exact MX
    | clear asq
      have aE:T.val (.slice a T.q cap)=.agg #[.int .i64 7,.int .i64 T.E,.string T.z,.slice a T.q cap]:=by unfold Nd.val;rw[z]
      rw[aE];have aR:Below w.heap.size w (w.alloc (.cells #[.int .i64 7,.int .i64 T.E,.string T.z,.slice a T.q cap] 25)):=(bO w _);have HP:=Z (L.af ab aR);have HN:=Z (fun d' b' Y W(h:L pb own (w.alloc (.cells #[.int .i64 7,.int .i64 T.E,.string T.z,.slice a T.q cap] 25)) d' b' Y W)=>(show W.cell? ⟨w.heap.size,0,none⟩=some (.int .i64 7)/\W.cell? ⟨w.heap.size,1,none⟩=some (.int .i64 T.E)/\W.cell? ⟨w.heap.size,2,none⟩=some (.string T.z)/\W.cell? ⟨w.heap.size,3,none⟩=some (.slice a T.q cap) by
        have e:=h.kept ab w.heap.size lr M
        rw[e,e,e,e];refine⟨?_,?_,?_,?_⟩<;>simp[go_sem]))
      have HG:=Z<|bU ab aR hg;have dC:=Z aR;have HV:=Z fun b' Y W(h:L pb own (w.alloc<|.cells #[.int .i64 7,.int .i64 T.E,.string T.z,.slice a T.q cap] 25) d b' Y W)I=>h.fn hW (.slice a T.q cap) (bU ab aR hg) hf (cw ab aR hr) I;have ar4:=kk;exact MX
    | clear asr
      have aE:T.val (.slice a T.q cap)=.agg #[.int .i64 10,.int .i64 T.E,.string T.z,.slice a T.q cap]:=by unfold Nd.val;rw[z]
      rw[aE];have aR:Below w.heap.size w (w.alloc (.cells #[.int .i64 10,.int .i64 T.E,.string T.z,.slice a T.q cap] 25)):=(bO w _);have HP:=Z (L.af ab aR);have HN:=Z (fun d' b' Y W(h:L pb own (w.alloc (.cells #[.int .i64 10,.int .i64 T.E,.string T.z,.slice a T.q cap] 25)) d' b' Y W)=>(show W.cell? ⟨w.heap.size,0,none⟩=some (.int .i64 10)/\W.cell? ⟨w.heap.size,1,none⟩=some (.int .i64 T.E)/\W.cell? ⟨w.heap.size,2,none⟩=some (.string T.z)/\W.cell? ⟨w.heap.size,3,none⟩=some (.slice a T.q cap) by
        have e:=h.kept ab w.heap.size lr M
        rw[e,e,e,e];refine⟨?_,?_,?_,?_⟩<;>simp[go_sem]))
      have HG:=Z<|bU ab aR hg;have dC:=Z aR;have HV:=Z fun b' Y W(h:L pb own (w.alloc<|.cells #[.int .i64 10,.int .i64 T.E,.string T.z,.slice a T.q cap] 25) d b' Y W)I=>h.fn hW (.slice a T.q cap) (bU ab aR hg) hf (cw ab aR hr) I;have ar5:=kk;exact MX
    | clear ass
      have aE:T.val (.slice a T.q cap)=.agg #[.int .i64 11,.int .i64 T.E,.string T.z,.slice a T.q cap]:=by unfold Nd.val;rw[z]
      rw[aE];have aR:Below w.heap.size w (w.alloc (.cells #[.int .i64 11,.int .i64 T.E,.string T.z,.slice a T.q cap] 25)):=(bO w _);have HP:=Z (L.af ab aR);have HN:=Z (fun d' b' Y W(h:L pb own (w.alloc (.cells #[.int .i64 11,.int .i64 T.E,.string T.z,.slice a T.q cap] 25)) d' b' Y W)=>(show W.cell? ⟨w.heap.size,0,none⟩=some (.int .i64 11)/\W.cell? ⟨w.heap.size,1,none⟩=some (.int .i64 T.E)/\W.cell? ⟨w.heap.size,2,none⟩=some (.string T.z)/\W.cell? ⟨w.heap.size,3,none⟩=some (.slice a T.q cap) by
        have e:=h.kept ab w.heap.size lr M
        rw[e,e,e,e];refine⟨?_,?_,?_,?_⟩<;>simp[go_sem]))
      have HG:=Z<|bU ab aR hg;have dC:=Z aR;have HV:=Z fun b' Y W(h:L pb own (w.alloc<|.cells #[.int .i64 11,.int .i64 T.E,.string T.z,.slice a T.q cap] 25) d b' Y W)I=>h.fn hW (.slice a T.q cap) (bU ab aR hg) hf (cw ab aR hr) I;have ar6:=kk;exact MX
    | clear ast
      have aE:T.val (.slice a T.q cap)=.agg #[.int .i64 15,.int .i64 T.E,.string T.z,.slice a T.q cap]:=by unfold Nd.val;rw[z]
      rw[aE];have aR:Below w.heap.size w (w.alloc (.cells #[.int .i64 15,.int .i64 T.E,.string T.z,.slice a T.q cap] 25)):=(bO w _);have HP:=Z (L.af ab aR);have HN:=Z (fun d' b' Y W(h:L pb own (w.alloc (.cells #[.int .i64 15,.int .i64 T.E,.string T.z,.slice a T.q cap] 25)) d' b' Y W)=>(show W.cell? ⟨w.heap.size,0,none⟩=some (.int .i64 15)/\W.cell? ⟨w.heap.size,1,none⟩=some (.int .i64 T.E)/\W.cell? ⟨w.heap.size,2,none⟩=some (.string T.z)/\W.cell? ⟨w.heap.size,3,none⟩=some (.slice a T.q cap) by
        have e:=h.kept ab w.heap.size lr M
        rw[e,e,e,e];refine⟨?_,?_,?_,?_⟩<;>simp[go_sem]))
      have HG:=Z<|bU ab aR hg;have dC:=Z aR;have HV:=Z fun b' Y W(h:L pb own (w.alloc<|.cells #[.int .i64 15,.int .i64 T.E,.string T.z,.slice a T.q cap] 25) d b' Y W)I=>h.fn hW (.slice a T.q cap) (bU ab aR hg) hf (cw ab aR hr) I;have ar7:=kk;exact MX
  | clear asB
    rw[C6 z h0]at I⊢;obtain⟨a,cap,rfl,_⟩:=ar.1 hr;have aE:T.val (.slice a T.q cap)=.agg #[.int .i64 5,.int .i64 T.E,.string T.z,.slice a T.q cap]:=by unfold Nd.val;rw[z]
    rw[aE];have aR:Below w.heap.size w (w.alloc (.cells #[.int .i64 5,.int .i64 T.E,.string T.z,.slice a T.q cap] 25)):=(bO w _);have HP:=Z (L.af ab aR);have HN:=Z (fun d' b' Y W(h:L pb own (w.alloc (.cells #[.int .i64 5,.int .i64 T.E,.string T.z,.slice a T.q cap] 25)) d' b' Y W)=>(show W.cell? ⟨w.heap.size,0,none⟩=some (.int .i64 5)/\W.cell? ⟨w.heap.size,1,none⟩=some (.int .i64 T.E)/\W.cell? ⟨w.heap.size,2,none⟩=some (.string T.z)/\W.cell? ⟨w.heap.size,3,none⟩=some (.slice a T.q cap) by
      have e:=h.kept ab w.heap.size lr M
      rw[e,e,e,e];refine⟨?_,?_,?_,?_⟩<;>simp[go_sem]))
    have HG:=Z<|bU ab aR hg;have dC:=Z aR;have HV:=Z fun b' Y W(h:L pb own (w.alloc<|.cells #[.int .i64 5,.int .i64 T.E,.string T.z,.slice a T.q cap] 25) d b' Y W)I=>h.du ⟨#[32,58,61,32]⟩ h0 ih ax (.slice a T.q cap) (bU ab aR hg) hf (cw ab aR hr) I;exact agE
  | clear asJ
    rw[C5 z h0]at I⊢;obtain⟨a,cap,rfl,_⟩:=ar.1 hr;have aE:T.val (.slice a T.q cap)=.agg #[.int .i64 6,.int .i64 T.E,.string T.z,.slice a T.q cap]:=by unfold Nd.val;rw[z]
    rw[aE];have aR:Below w.heap.size w (w.alloc (.cells #[.int .i64 6,.int .i64 T.E,.string T.z,.slice a T.q cap] 25)):=(bO w _);have HP:=Z (L.af ab aR);have HN:=Z (fun d' b' Y W(h:L pb own (w.alloc (.cells #[.int .i64 6,.int .i64 T.E,.string T.z,.slice a T.q cap] 25)) d' b' Y W)=>(show W.cell? ⟨w.heap.size,0,none⟩=some (.int .i64 6)/\W.cell? ⟨w.heap.size,1,none⟩=some (.int .i64 T.E)/\W.cell? ⟨w.heap.size,2,none⟩=some (.string T.z)/\W.cell? ⟨w.heap.size,3,none⟩=some (.slice a T.q cap) by
      have e:=h.kept ab w.heap.size lr M
      rw[e,e,e,e];refine⟨?_,?_,?_,?_⟩<;>simp[go_sem]))
    have HG:=Z<|bU ab aR hg;have dC:=Z aR;have HV:=Z fun b' Y W(h:L pb own (w.alloc<|.cells #[.int .i64 6,.int .i64 T.E,.string T.z,.slice a T.q cap] 25) d b' Y W)I=>h.du ⟨#[32,61,32]⟩ h0 ih ax (.slice a T.q cap) (bU ab aR hg) hf (cw ab aR hr) I;exact agE
  | clear asK
    rw[yC z h1]at I⊢;obtain⟨a,cap,rfl,_⟩:=ar.1 hr;have aE:T.val (.slice a T.q cap)=.agg #[.int .i64 12,.int .i64 T.E,.string T.z,.slice a T.q cap]:=by unfold Nd.val;rw[z]
    rw[aE];have aR:Below w.heap.size w (w.alloc (.cells #[.int .i64 12,.int .i64 T.E,.string T.z,.slice a T.q cap] 25)):=(bO w _);have HP:=Z (L.af ab aR);have HN:=Z (fun d' b' Y W(h:L pb own (w.alloc (.cells #[.int .i64 12,.int .i64 T.E,.string T.z,.slice a T.q cap] 25)) d' b' Y W)=>(show W.cell? ⟨w.heap.size,0,none⟩=some (.int .i64 12)/\W.cell? ⟨w.heap.size,1,none⟩=some (.int .i64 T.E)/\W.cell? ⟨w.heap.size,2,none⟩=some (.string T.z)/\W.cell? ⟨w.heap.size,3,none⟩=some (.slice a T.q cap) by
      have e:=h.kept ab w.heap.size lr M
      rw[e,e,e,e];refine⟨?_,?_,?_,?_⟩<;>simp[go_sem]))
    have HG:=Z<|bU ab aR hg;have dC:=Z aR;have HV:=Z fun b' Y W(h:L pb own (w.alloc<|.cells #[.int .i64 12,.int .i64 T.E,.string T.z,.slice a T.q cap] 25) d b' Y W)I=>h.worded ⟨#[114,101,116,117,114,110]⟩ (avF T.q) hW a cap (bU ab aR hg) hf (cw ab aR hr) I;exact agx
  | clear asL
    rw[yB z h1]at I⊢;obtain⟨a,cap,rfl,_⟩:=ar.1 hr;have aE:T.val (.slice a T.q cap)=.agg #[.int .i64 13,.int .i64 T.E,.string T.z,.slice a T.q cap]:=by unfold Nd.val;rw[z]
    rw[aE];have aR:Below w.heap.size w (w.alloc (.cells #[.int .i64 13,.int .i64 T.E,.string T.z,.slice a T.q cap] 25)):=(bO w _);have HP:=Z (L.af ab aR);have HN:=Z (fun d' b' Y W(h:L pb own (w.alloc (.cells #[.int .i64 13,.int .i64 T.E,.string T.z,.slice a T.q cap] 25)) d' b' Y W)=>(show W.cell? ⟨w.heap.size,0,none⟩=some (.int .i64 13)/\W.cell? ⟨w.heap.size,1,none⟩=some (.int .i64 T.E)/\W.cell? ⟨w.heap.size,2,none⟩=some (.string T.z)/\W.cell? ⟨w.heap.size,3,none⟩=some (.slice a T.q cap) by
      have e:=h.kept ab w.heap.size lr M
      rw[e,e,e,e];refine⟨?_,?_,?_,?_⟩<;>simp[go_sem]))
    have HG:=Z<|bU ab aR hg;have dC:=Z aR;have HV:=Z fun b' Y W(h:L pb own (w.alloc<|.cells #[.int .i64 13,.int .i64 T.E,.string T.z,.slice a T.q cap] 25) d b' Y W)I=>h.worded ⟨#[103,111]⟩ (avF T.q) hW a cap (bU ab aR hg) hf (cw ab aR hr) I;exact agx
  | clear asM
    rw[yA z h1]at I⊢;obtain⟨a,cap,rfl,_⟩:=ar.1 hr;have aE:T.val (.slice a T.q cap)=.agg #[.int .i64 14,.int .i64 T.E,.string T.z,.slice a T.q cap]:=by unfold Nd.val;rw[z]
    rw[aE];have aR:Below w.heap.size w (w.alloc (.cells #[.int .i64 14,.int .i64 T.E,.string T.z,.slice a T.q cap] 25)):=(bO w _);have HP:=Z (L.af ab aR);have HN:=Z (fun d' b' Y W(h:L pb own (w.alloc (.cells #[.int .i64 14,.int .i64 T.E,.string T.z,.slice a T.q cap] 25)) d' b' Y W)=>(show W.cell? ⟨w.heap.size,0,none⟩=some (.int .i64 14)/\W.cell? ⟨w.heap.size,1,none⟩=some (.int .i64 T.E)/\W.cell? ⟨w.heap.size,2,none⟩=some (.string T.z)/\W.cell? ⟨w.heap.size,3,none⟩=some (.slice a T.q cap) by
      have e:=h.kept ab w.heap.size lr M
      rw[e,e,e,e];refine⟨?_,?_,?_,?_⟩<;>simp[go_sem]))
    have HG:=Z<|bU ab aR hg;have dC:=Z aR;have HV:=Z fun b' Y W(h:L pb own (w.alloc<|.cells #[.int .i64 14,.int .i64 T.E,.string T.z,.slice a T.q cap] 25) d b' Y W)I=>h.worded ⟨#[100,101,102,101,114]⟩ (avF T.q) hW a cap (bU ab aR hg) hf (cw ab aR hr) I;exact agx
  | clear asN
    rw[zJ z h1]at I⊢;obtain⟨a,cap,rfl,_⟩:=ar.1 hr;have aE:T.val (.slice a T.q cap)=.agg #[.int .i64 19,.int .i64 T.E,.string T.z,.slice a T.q cap]:=by unfold Nd.val;rw[z]
    rw[aE];have aR:Below w.heap.size w (w.alloc (.cells #[.int .i64 19,.int .i64 T.E,.string T.z,.slice a T.q cap] 25)):=(bO w _);have HP:=Z (L.af ab aR);have HN:=Z (fun d' b' Y W(h:L pb own (w.alloc (.cells #[.int .i64 19,.int .i64 T.E,.string T.z,.slice a T.q cap] 25)) d' b' Y W)=>(show W.cell? ⟨w.heap.size,0,none⟩=some (.int .i64 19)/\W.cell? ⟨w.heap.size,1,none⟩=some (.int .i64 T.E)/\W.cell? ⟨w.heap.size,2,none⟩=some (.string T.z)/\W.cell? ⟨w.heap.size,3,none⟩=some (.slice a T.q cap) by
      have e:=h.kept ab w.heap.size lr M
      rw[e,e,e,e];refine⟨?_,?_,?_,?_⟩<;>simp[go_sem]))
    have HG:=Z<|bU ab aR hg;have dC:=Z aR;have HV:=Z fun b' Y W(h:L pb own (w.alloc<|.cells #[.int .i64 19,.int .i64 T.E,.string T.z,.slice a T.q cap] 25) d b' Y W)I=>h.cz ⟨#[99,108,111,115,101]⟩ ih ax (.slice a T.q cap) (bU ab aR hg) hf (cw ab aR hr) I;exact agm
  | clear asO
    rw[zI z h1]at I⊢;obtain⟨a,cap,rfl,_⟩:=ar.1 hr;have aE:T.val (.slice a T.q cap)=.agg #[.int .i64 20,.int .i64 T.E,.string T.z,.slice a T.q cap]:=by unfold Nd.val;rw[z]
    rw[aE];have aR:Below w.heap.size w (w.alloc (.cells #[.int .i64 20,.int .i64 T.E,.string T.z,.slice a T.q cap] 25)):=(bO w _);have HP:=Z (L.af ab aR);have HN:=Z (fun d' b' Y W(h:L pb own (w.alloc (.cells #[.int .i64 20,.int .i64 T.E,.string T.z,.slice a T.q cap] 25)) d' b' Y W)=>(show W.cell? ⟨w.heap.size,0,none⟩=some (.int .i64 20)/\W.cell? ⟨w.heap.size,1,none⟩=some (.int .i64 T.E)/\W.cell? ⟨w.heap.size,2,none⟩=some (.string T.z)/\W.cell? ⟨w.heap.size,3,none⟩=some (.slice a T.q cap) by
      have e:=h.kept ab w.heap.size lr M
      rw[e,e,e,e];refine⟨?_,?_,?_,?_⟩<;>simp[go_sem]))
    have HG:=Z<|bU ab aR hg;have dC:=Z aR;have HV:=Z fun b' Y W(h:L pb own (w.alloc<|.cells #[.int .i64 20,.int .i64 T.E,.string T.z,.slice a T.q cap] 25) d b' Y W)I=>h.cz ⟨#[112,114,105,110,116]⟩ ih ax (.slice a T.q cap) (bU ab aR hg) hf (cw ab aR hr) I;exact agm
  | clear asP
    rw[zH z h1]at I⊢;obtain⟨a,cap,rfl,_⟩:=ar.1 hr;have aE:T.val (.slice a T.q cap)=.agg #[.int .i64 21,.int .i64 T.E,.string T.z,.slice a T.q cap]:=by unfold Nd.val;rw[z]
    rw[aE];have aR:Below w.heap.size w (w.alloc (.cells #[.int .i64 21,.int .i64 T.E,.string T.z,.slice a T.q cap] 25)):=(bO w _);have HP:=Z (L.af ab aR);have HN:=Z (fun d' b' Y W(h:L pb own (w.alloc (.cells #[.int .i64 21,.int .i64 T.E,.string T.z,.slice a T.q cap] 25)) d' b' Y W)=>(show W.cell? ⟨w.heap.size,0,none⟩=some (.int .i64 21)/\W.cell? ⟨w.heap.size,1,none⟩=some (.int .i64 T.E)/\W.cell? ⟨w.heap.size,2,none⟩=some (.string T.z)/\W.cell? ⟨w.heap.size,3,none⟩=some (.slice a T.q cap) by
      have e:=h.kept ab w.heap.size lr M
      rw[e,e,e,e];refine⟨?_,?_,?_,?_⟩<;>simp[go_sem]))
    have HG:=Z<|bU ab aR hg;have dC:=Z aR;have HV:=Z fun b' Y W(h:L pb own (w.alloc<|.cells #[.int .i64 21,.int .i64 T.E,.string T.z,.slice a T.q cap] 25) d b' Y W)I=>h.cz ⟨#[112,97,110,105,99]⟩ ih ax (.slice a T.q cap) (bU ab aR hg) hf (cw ab aR hr) I;exact agm
  | clear asQ
    rw[pv T z]at I⊢;obtain⟨a,cap,rfl,_⟩:=ar.1 hr;have aE:T.val (.slice a T.q cap)=.agg #[.int .i64 17,.int .i64 T.E,.string T.z,.slice a T.q cap]:=by unfold Nd.val;rw[z]
    rw[aE];have aR:Below w.heap.size w (w.alloc (.cells #[.int .i64 17,.int .i64 T.E,.string T.z,.slice a T.q cap] 25)):=(bO w _);have HP:=Z (L.af ab aR);have HN:=Z (fun d' b' Y W(h:L pb own (w.alloc (.cells #[.int .i64 17,.int .i64 T.E,.string T.z,.slice a T.q cap] 25)) d' b' Y W)=>(show W.cell? ⟨w.heap.size,0,none⟩=some (.int .i64 17)/\W.cell? ⟨w.heap.size,1,none⟩=some (.int .i64 T.E)/\W.cell? ⟨w.heap.size,2,none⟩=some (.string T.z)/\W.cell? ⟨w.heap.size,3,none⟩=some (.slice a T.q cap) by
      have e:=h.kept ab w.heap.size lr M
      rw[e,e,e,e];refine⟨?_,?_,?_,?_⟩<;>simp[go_sem]))
    have arX:=kk;exact agC
  | clear asC
    rw[pt T z]at I⊢;obtain⟨a,cap,rfl,_⟩:=ar.1 hr;have aE:T.val (.slice a T.q cap)=.agg #[.int .i64 18,.int .i64 T.E,.string T.z,.slice a T.q cap]:=by unfold Nd.val;rw[z]
    rw[aE];have aR:Below w.heap.size w (w.alloc (.cells #[.int .i64 18,.int .i64 T.E,.string T.z,.slice a T.q cap] 25)):=(bO w _);have HP:=Z (L.af ab aR);have HN:=Z (fun d' b' Y W(h:L pb own (w.alloc (.cells #[.int .i64 18,.int .i64 T.E,.string T.z,.slice a T.q cap] 25)) d' b' Y W)=>(show W.cell? ⟨w.heap.size,0,none⟩=some (.int .i64 18)/\W.cell? ⟨w.heap.size,1,none⟩=some (.int .i64 T.E)/\W.cell? ⟨w.heap.size,2,none⟩=some (.string T.z)/\W.cell? ⟨w.heap.size,3,none⟩=some (.slice a T.q cap) by
      have e:=h.kept ab w.heap.size lr M
      rw[e,e,e,e];refine⟨?_,?_,?_,?_⟩<;>simp[go_sem]))
    have arY:=kk;exact agC
  | clear asD
    rw[rl T z]at I⊢;have asa:=kk;exact Xc
  | clear asE
    rw[rm T z]at I⊢;have arH:=kk;exact agu
  | clear asF
    rw[bm]at I⊢;have S3:cW 1=[105,110,116]:=rfl;rw[S3]at I⊢;obtain⟨a,cap,rfl,_⟩:=ar.1 hr;have aE:T.val (.slice a T.q cap)=.agg #[.int .i64 T.y,.int .i64 1,.string T.z,.slice a T.q cap]:=by unfold Nd.val;rw[bm]
    rw[aE];have aR:Below w.heap.size w (w.alloc (.cells #[.int .i64 T.y,.int .i64 1,.string T.z,.slice a T.q cap] 25)):=(bO w _);have HP:=Z (L.af ab aR);have HN:=Z (fun d' b' Y W(h:L pb own (w.alloc (.cells #[.int .i64 T.y,.int .i64 1,.string T.z,.slice a T.q cap] 25)) d' b' Y W)=>(show W.cell? ⟨w.heap.size,0,none⟩=some (.int .i64 T.y)/\W.cell? ⟨w.heap.size,1,none⟩=some (.int .i64 1)/\W.cell? ⟨w.heap.size,2,none⟩=some (.string T.z)/\W.cell? ⟨w.heap.size,3,none⟩=some (.slice a T.q cap) by
      have e:=h.kept ab w.heap.size lr M
      rw[e,e,e,e];refine⟨?_,?_,?_,?_⟩<;>simp[go_sem]))
    have as0:=kk;exact Iu
  | clear asG
    rw[bm]at I⊢;have S3:cW 2=[98,111,111,108]:=rfl;rw[S3]at I⊢;obtain⟨a,cap,rfl,_⟩:=ar.1 hr;have aE:T.val (.slice a T.q cap)=.agg #[.int .i64 T.y,.int .i64 2,.string T.z,.slice a T.q cap]:=by unfold Nd.val;rw[bm]
    rw[aE];have aR:Below w.heap.size w (w.alloc (.cells #[.int .i64 T.y,.int .i64 2,.string T.z,.slice a T.q cap] 25)):=(bO w _);have HP:=Z (L.af ab aR);have HN:=Z (fun d' b' Y W(h:L pb own (w.alloc (.cells #[.int .i64 T.y,.int .i64 2,.string T.z,.slice a T.q cap] 25)) d' b' Y W)=>(show W.cell? ⟨w.heap.size,0,none⟩=some (.int .i64 T.y)/\W.cell? ⟨w.heap.size,1,none⟩=some (.int .i64 2)/\W.cell? ⟨w.heap.size,2,none⟩=some (.string T.z)/\W.cell? ⟨w.heap.size,3,none⟩=some (.slice a T.q cap) by
      have e:=h.kept ab w.heap.size lr M
      rw[e,e,e,e];refine⟨?_,?_,?_,?_⟩<;>simp[go_sem]))
    have as1:=kk;exact Iu
  | clear asH
    rw[bm]at I⊢;have S3:cW 3=[99,104,97,110,32,105,110,116]:=rfl;rw[S3]at I⊢;obtain⟨a,cap,rfl,_⟩:=ar.1 hr;have aE:T.val (.slice a T.q cap)=.agg #[.int .i64 T.y,.int .i64 3,.string T.z,.slice a T.q cap]:=by unfold Nd.val;rw[bm]
    rw[aE];have aR:Below w.heap.size w (w.alloc (.cells #[.int .i64 T.y,.int .i64 3,.string T.z,.slice a T.q cap] 25)):=(bO w _);have HP:=Z (L.af ab aR);have HN:=Z (fun d' b' Y W(h:L pb own (w.alloc (.cells #[.int .i64 T.y,.int .i64 3,.string T.z,.slice a T.q cap] 25)) d' b' Y W)=>(show W.cell? ⟨w.heap.size,0,none⟩=some (.int .i64 T.y)/\W.cell? ⟨w.heap.size,1,none⟩=some (.int .i64 3)/\W.cell? ⟨w.heap.size,2,none⟩=some (.string T.z)/\W.cell? ⟨w.heap.size,3,none⟩=some (.slice a T.q cap) by
      have e:=h.kept ab w.heap.size lr M
      rw[e,e,e,e];refine⟨?_,?_,?_,?_⟩<;>simp[go_sem]))
    have as2:=kk;exact Iu
  | clear asI
    obtain⟨g,off,cap,rfl,hgp,bo,aZ⟩:=gX hr O;obtain⟨u,hc,pH⟩:=aZ m O;first
    | clear arZ
      have aE:T.val (.slice (some ⟨g,off,none⟩) T.q cap)=.agg #[.int .i64 T.y,.int .i64 0,.string T.z,.slice (some ⟨g,off,none⟩) (m+1) cap]:=by unfold Nd.val;rw[bm,hm]
      rw[aE];have HP:=Z<|L.aj ab<|.cells #[.int .i64 T.y,.int .i64 0,.string T.z,.slice (some ⟨g,off,none⟩) (m+1) cap] 25;have HN:=Z<|L.node ab (.int .i64 T.y) (.int .i64 0) (.string T.z) (.slice (some ⟨g,off,none⟩) (m+1) cap) 25;have qZ:=hg.alloc ab.lt<|.cells #[.int .i64 T.y,.int .i64 0,.string T.z,.slice (some ⟨g,off,none⟩) (m+1) cap] 25;have HG:=Z qZ;have HT:Hid (∀d' b' Y W,L pb own (w.alloc<|.cells #[.int .i64 T.y,.int .i64 0,.string T.z,.slice (some ⟨g,off,none⟩) (m+1) cap] 25) d' b' Y W->W.cell? ⟨0,0,none⟩=some (.string ⟨#[]⟩)):=fun d' b' Y W h=>(qZ W h.below).2 0 J;have HC:=Z fun d' b' Y W(h:L pb own (w.alloc<|.cells #[.int .i64 T.y,.int .i64 0,.string T.z,.slice (some ⟨g,off,none⟩) (m+1) cap] 25) d' b' Y W)=>hc W<|h.aE ab;have FF:=Z<|dS ab pH<|.cells #[.int .i64 T.y,.int .i64 0,.string T.z,.slice (some ⟨g,off,none⟩) (m+1) cap] 25;have NA:=Z (Nd.aa hf<|show m<T.q by omega);have gU:=Z hB;have TD:=fun Y W(h:L pb own (w.alloc<|.cells #[.int .i64 T.y,.int .i64 0,.string T.z,.slice (some ⟨g,off,none⟩) (m+1) cap] 25) d true Y W)I=>h.bF (n:=m) O hP (some ⟨g,off,none⟩) cap qZ hf (dS ab hr<|.cells #[.int .i64 T.y,.int .i64 0,.string T.z,.slice (some ⟨g,off,none⟩) (m+1) cap] 25) I;have Uc:Hid (∀Y W,L pb own (w.alloc<|.cells #[.int .i64 T.y,.int .i64 0,.string T.z,.slice (some ⟨g,off,none⟩) (m+1) cap] 25) d true Y W->Y.length+(ay (eI T) m).length<=1099511627776->Calls prog 58 #[.pointer<|some ⟨pb,0,none⟩,.slice (some ⟨g,off,none⟩) m cap,.func (.func 59) #[.pointer<|some ⟨pb,0,none⟩] #[]] W fun e w'=>(∃r,e=.returned r)/\L pb own (w.alloc<|.cells #[.int .i64 T.y,.int .i64 0,.string T.z,.slice (some ⟨g,off,none⟩) (m+1) cap] 25) d true (Y++ay (eI T) m) w'):=TD;have ars:=kk;exact agn
    | clear ar0
      have aE:T.val (.slice (some ⟨g,off,none⟩) T.q cap)=.agg #[.int .i64 T.y,.int .i64 1,.string T.z,.slice (some ⟨g,off,none⟩) (m+1) cap]:=by unfold Nd.val;rw[bm,hm]
      rw[aE];have HP:=Z<|L.aj ab<|.cells #[.int .i64 T.y,.int .i64 1,.string T.z,.slice (some ⟨g,off,none⟩) (m+1) cap] 25;have HN:=Z<|L.node ab (.int .i64 T.y) (.int .i64 1) (.string T.z) (.slice (some ⟨g,off,none⟩) (m+1) cap) 25;have qZ:=hg.alloc ab.lt<|.cells #[.int .i64 T.y,.int .i64 1,.string T.z,.slice (some ⟨g,off,none⟩) (m+1) cap] 25;have HG:=Z qZ;have HT:Hid (∀d' b' Y W,L pb own (w.alloc<|.cells #[.int .i64 T.y,.int .i64 1,.string T.z,.slice (some ⟨g,off,none⟩) (m+1) cap] 25) d' b' Y W->W.cell? ⟨0,1,none⟩=some (.string ⟨#[105,110,116]⟩)):=fun d' b' Y W h=>(qZ W h.below).2 1 J;have HC:=Z fun d' b' Y W(h:L pb own (w.alloc<|.cells #[.int .i64 T.y,.int .i64 1,.string T.z,.slice (some ⟨g,off,none⟩) (m+1) cap] 25) d' b' Y W)=>hc W<|h.aE ab;have FF:=Z<|dS ab pH<|.cells #[.int .i64 T.y,.int .i64 1,.string T.z,.slice (some ⟨g,off,none⟩) (m+1) cap] 25;have NA:=Z (Nd.aa hf<|show m<T.q by omega);have gU:=Z hB;have TD:=fun Y W(h:L pb own (w.alloc<|.cells #[.int .i64 T.y,.int .i64 1,.string T.z,.slice (some ⟨g,off,none⟩) (m+1) cap] 25) d true Y W)I=>h.bF (n:=m) O hP (some ⟨g,off,none⟩) cap qZ hf (dS ab hr<|.cells #[.int .i64 T.y,.int .i64 1,.string T.z,.slice (some ⟨g,off,none⟩) (m+1) cap] 25) I;have Uc:Hid (∀Y W,L pb own (w.alloc<|.cells #[.int .i64 T.y,.int .i64 1,.string T.z,.slice (some ⟨g,off,none⟩) (m+1) cap] 25) d true Y W->Y.length+(ay (eI T) m).length<=1099511627776->Calls prog 58 #[.pointer<|some ⟨pb,0,none⟩,.slice (some ⟨g,off,none⟩) m cap,.func (.func 59) #[.pointer<|some ⟨pb,0,none⟩] #[]] W fun e w'=>(∃r,e=.returned r)/\L pb own (w.alloc<|.cells #[.int .i64 T.y,.int .i64 1,.string T.z,.slice (some ⟨g,off,none⟩) (m+1) cap] 25) d true (Y++ay (eI T) m) w'):=TD;have as7:=kk;exact agM
    | clear ar1
      have aE:T.val (.slice (some ⟨g,off,none⟩) T.q cap)=.agg #[.int .i64 T.y,.int .i64 2,.string T.z,.slice (some ⟨g,off,none⟩) (m+1) cap]:=by unfold Nd.val;rw[bm,hm]
      rw[aE];have HP:=Z<|L.aj ab<|.cells #[.int .i64 T.y,.int .i64 2,.string T.z,.slice (some ⟨g,off,none⟩) (m+1) cap] 25;have HN:=Z<|L.node ab (.int .i64 T.y) (.int .i64 2) (.string T.z) (.slice (some ⟨g,off,none⟩) (m+1) cap) 25;have qZ:=hg.alloc ab.lt<|.cells #[.int .i64 T.y,.int .i64 2,.string T.z,.slice (some ⟨g,off,none⟩) (m+1) cap] 25;have HG:=Z qZ;have HT:Hid (∀d' b' Y W,L pb own (w.alloc<|.cells #[.int .i64 T.y,.int .i64 2,.string T.z,.slice (some ⟨g,off,none⟩) (m+1) cap] 25) d' b' Y W->W.cell? ⟨0,2,none⟩=some (.string ⟨#[98,111,111,108]⟩)):=fun d' b' Y W h=>(qZ W h.below).2 2 J;have HC:=Z fun d' b' Y W(h:L pb own (w.alloc<|.cells #[.int .i64 T.y,.int .i64 2,.string T.z,.slice (some ⟨g,off,none⟩) (m+1) cap] 25) d' b' Y W)=>hc W<|h.aE ab;have FF:=Z<|dS ab pH<|.cells #[.int .i64 T.y,.int .i64 2,.string T.z,.slice (some ⟨g,off,none⟩) (m+1) cap] 25;have NA:=Z (Nd.aa hf<|show m<T.q by omega);have gU:=Z hB;have TD:=fun Y W(h:L pb own (w.alloc<|.cells #[.int .i64 T.y,.int .i64 2,.string T.z,.slice (some ⟨g,off,none⟩) (m+1) cap] 25) d true Y W)I=>h.bF (n:=m) O hP (some ⟨g,off,none⟩) cap qZ hf (dS ab hr<|.cells #[.int .i64 T.y,.int .i64 2,.string T.z,.slice (some ⟨g,off,none⟩) (m+1) cap] 25) I;have Uc:Hid (∀Y W,L pb own (w.alloc<|.cells #[.int .i64 T.y,.int .i64 2,.string T.z,.slice (some ⟨g,off,none⟩) (m+1) cap] 25) d true Y W->Y.length+(ay (eI T) m).length<=1099511627776->Calls prog 58 #[.pointer<|some ⟨pb,0,none⟩,.slice (some ⟨g,off,none⟩) m cap,.func (.func 59) #[.pointer<|some ⟨pb,0,none⟩] #[]] W fun e w'=>(∃r,e=.returned r)/\L pb own (w.alloc<|.cells #[.int .i64 T.y,.int .i64 2,.string T.z,.slice (some ⟨g,off,none⟩) (m+1) cap] 25) d true (Y++ay (eI T) m) w'):=TD;have as8:=kk;exact agM
    | clear ar2
      have aE:T.val (.slice (some ⟨g,off,none⟩) T.q cap)=.agg #[.int .i64 T.y,.int .i64 3,.string T.z,.slice (some ⟨g,off,none⟩) (m+1) cap]:=by unfold Nd.val;rw[bm,hm]
      rw[aE];have HP:=Z (L.aj ab (.cells #[.int .i64 T.y,.int .i64 3,.string T.z,.slice (some ⟨g,off,none⟩) (m+1) cap] 25));have HN:=Z (L.node ab (.int .i64 T.y) (.int .i64 3) (.string T.z) (.slice (some ⟨g,off,none⟩) (m+1) cap) 25);have qZ:=hg.alloc ab.lt (.cells #[.int .i64 T.y,.int .i64 3,.string T.z,.slice (some ⟨g,off,none⟩) (m+1) cap] 25);have HG:=Z qZ;have HT:Hid (∀d' b' Y W,L pb own (w.alloc (.cells #[.int .i64 T.y,.int .i64 3,.string T.z,.slice (some ⟨g,off,none⟩) (m+1) cap] 25)) d' b' Y W->W.cell? ⟨0,3,none⟩=some (.string ⟨#[99,104,97,110,32,105,110,116]⟩)):=fun d' b' Y W h=>(qZ W h.below).2 3 J;have HC:=Z (fun d' b' Y W(h:L pb own (w.alloc (.cells #[.int .i64 T.y,.int .i64 3,.string T.z,.slice (some ⟨g,off,none⟩) (m+1) cap] 25)) d' b' Y W)=>hc W (h.aE ab));have FF:=Z (dS ab pH (.cells #[.int .i64 T.y,.int .i64 3,.string T.z,.slice (some ⟨g,off,none⟩) (m+1) cap] 25));have NA:=Z (Nd.aa hf (show m<T.q by omega));have gU:=Z hB;have TD:=fun Y W(h:L pb own (w.alloc (.cells #[.int .i64 T.y,.int .i64 3,.string T.z,.slice (some ⟨g,off,none⟩) (m+1) cap] 25)) d true Y W)I=>h.bF (n:=m) O hP (some ⟨g,off,none⟩) cap qZ hf (dS ab hr (.cells #[.int .i64 T.y,.int .i64 3,.string T.z,.slice (some ⟨g,off,none⟩) (m+1) cap] 25)) I;have Uc:Hid (∀Y W,L pb own (w.alloc (.cells #[.int .i64 T.y,.int .i64 3,.string T.z,.slice (some ⟨g,off,none⟩) (m+1) cap] 25)) d true Y W->Y.length+(ay (eI T) m).length<=1099511627776->Calls prog 58 #[.pointer (some ⟨pb,0,none⟩),.slice (some ⟨g,off,none⟩) m cap,.func (.func 59) #[.pointer (some ⟨pb,0,none⟩)] #[]] W fun e w'=>(∃r,e=.returned r)/\L pb own (w.alloc (.cells #[.int .i64 T.y,.int .i64 3,.string T.z,.slice (some ⟨g,off,none⟩) (m+1) cap] 25)) d true (Y++ay (eI T) m) w'):=TD;have as9:=kk;exact agM):G:=h
theorem Iv (h:G:=by
 have lJ:=Z<|cw ab aR dR;have mX:=Z<|Nd.aa hf fy;first
 |clear asR
  have HB:=Z I;obtain⟨ej,ei,eh,ef⟩:=cZ.o _ _ _ _ HP.o;have HV:=Z hR;clear vY z bm h0 hR fy I hr hf ab hg aE aR ey dR aZ bo;generalize T.f 0=K0 at*
  generalize T.z=ts at*
  go_enter func179,ntmps179
  first
  |clear as5
   go_wp2_with(first
    |(go_at_call_of 57 w;refine(HP.o.putAt [⟨#[99,97,115,101,32]⟩] _ 1 _ M rfl rfl J aad).mono ?_;rintro e w2 ⟨⟨r,rfl⟩,y⟩;obtain⟨b0,b1,b2,b3⟩:=HN.o _ _ _ _ y;obtain⟨ej,ei,eh,ef⟩:=cZ.o _ _ _ _ y;have HP:=Z y;clear y)
    |(go_at_call_of 178 u0;refine(HP.o.fn HV.o u0 HG.o mX.o lJ.o aad).mono ?_;rintro e w3 ⟨⟨r,rfl⟩,y⟩;obtain⟨b0,b1,b2,b3⟩:=HN.o _ _ _ _ y;obtain⟨ej,ei,eh,ef⟩:=cZ.o _ _ _ _ y;have HP:=Z y;clear y))
   go_end0;exact L.au dC.o HP.o aal _
  |clear as6
   go_wp2_with(first
    |(go_at_call_of 57 w;refine(HP.o.putAt [⟨#[99,97,115,101,32]⟩] _ 1 _ M rfl rfl J aad).mono ?_;rintro e w2 ⟨⟨r,rfl⟩,y⟩;obtain⟨b0,b1,b2,b3⟩:=HN.o _ _ _ _ y;obtain⟨ej,ei,eh,ef⟩:=cZ.o _ _ _ _ y;have HP:=Z y;clear y))
   go_region_with(first
    |(go_at_call_of 57 w2;refine(HP.o.bm [ts,⟨#[32,58,61,32]⟩] _ 2 _ M rfl rfl J aad).mono ?_;rintro e w3 ⟨⟨r,rfl⟩,y⟩;obtain⟨b0,b1,b2,b3⟩:=HN.o _ _ _ _ y;obtain⟨ej,ei,eh,ef⟩:=cZ.o _ _ _ _ y;have HP:=Z y;clear y))
   go_wp2_with(first
    |(go_at_call_of 178 u0;refine(HP.o.fn HV.o u0 HG.o mX.o lJ.o aad).mono ?_;rintro e w4 ⟨⟨r,rfl⟩,y⟩;obtain⟨b0,b1,b2,b3⟩:=HN.o _ _ _ _ y;obtain⟨ej,ei,eh,ef⟩:=cZ.o _ _ _ _ y;have HP:=Z y;clear y))
   go_end0;exact L.au dC.o HP.o aal _
 |clear asS
  have V2:1<=cap:=O;have zi:cap<=9223372036854775807:=O;have N0:=Z fun b' Y W(h:L pb own (w.alloc<|.cells #[.int .i64 T.y,.int .i64 T.E,.string T.z,.slice (some ⟨g,off,none⟩) 1 cap] 25) d b' Y W)I=>h.worded ⟨#[102,111,114]⟩ (show 0<=T.q by omega) (fun i hi=>by omega) (some ⟨g,off,none⟩) cap (bU ab aR hg) hf (cw ab aR hr) I;have HB:=Z I;obtain⟨ej,ei,eh,ef⟩:=cZ.o _ _ _ _ HP.o;have YB:=Z hB;simp only[ay,awG]at N0;clear hB h0 fy I hr hf ab hg aE aR ey dR aZ bo;generalize T.f 0=K0 at*
  generalize T.y=tk at*
  generalize T.z=ts at*
  generalize T.E=tn at*
  go_enter func153,ntmps153
  go_wp2_with(first
   |(go_at_call 154;refine(N0.o _ _ _ HP.o aag).mono ?_;rintro e w2 ⟨⟨r,rfl⟩,y⟩;obtain⟨b0,b1,b2,b3⟩:=HN.o _ _ _ _ y;obtain⟨ej,ei,eh,ef⟩:=cZ.o _ _ _ _ y;have HP:=Z y;clear y)
   |(go_at_call_of 57 w2;refine(HP.o.putAt [⟨#[32]⟩] _ 1 _ M rfl rfl J aad).mono ?_;rintro e w3 ⟨⟨r,rfl⟩,y⟩;obtain⟨b0,b1,b2,b3⟩:=HN.o _ _ _ _ y;obtain⟨ej,ei,eh,ef⟩:=cZ.o _ _ _ _ y;have HP:=Z y;clear y)
   |(go_at_call_of 60 u0;refine(HP.o.fn YB.o u0 HG.o mX.o lJ.o aad).mono ?_;rintro e w4 ⟨⟨r,rfl⟩,y⟩;obtain⟨b0,b1,b2,b3⟩:=HN.o _ _ _ _ y;obtain⟨ej,ei,eh,ef⟩:=cZ.o _ _ _ _ y;have HP:=Z y;clear y))
  go_end0;exact L.au dC.o HP.o aal _
 |clear asT
  have fU:=Z fun d' b' Y W(h:L pb own (w.alloc<|.cells #[.int .i64 T.y,.int .i64 T.E,.string T.z,.slice (some ⟨g,off,none⟩) 3 cap] 25) d' b' Y W)=>eO W<|h.aQ ab aR;have rQ:=Z<|cw ab aR fQ;have vI:=Z<|Nd.aa hf gY;have oR:=Z fun d' b' Y W(h:L pb own (w.alloc<|.cells #[.int .i64 T.y,.int .i64 T.E,.string T.z,.slice (some ⟨g,off,none⟩) 3 cap] 25) d' b' Y W)=>jQ W<|h.aQ ab aR;have El:=Z<|cw ab aR qg;have R9:=Z<|Nd.aa hf sM;have V2:3<=cap:=O;have zi:cap<=9223372036854775807:=O;have N0:=Z fun b' Y W(h:L pb own (w.alloc<|.cells #[.int .i64 T.y,.int .i64 T.E,.string T.z,.slice (some ⟨g,off,none⟩) 3 cap] 25) d b' Y W)I=>h.worded ⟨#[105,102]⟩ (show 1<=T.q by omega) (re (P:=fun i=>IW 151 (T.f i) fun _=>(aJ<|T.f i).ex 1) sw) (some ⟨g,off,none⟩) cap (bU ab aR hg) hf (cw ab aR hr) I;have asm:=kk;exact Rc
 |clear asU
  have fU:=Z fun d' b' Y W(h:L pb own (w.alloc<|.cells #[.int .i64 T.y,.int .i64 T.E,.string T.z,.slice (some ⟨g,off,none⟩) 2 cap] 25) d' b' Y W)=>eO W<|h.aQ ab aR;have rQ:=Z<|cw ab aR fQ;have vI:=Z<|Nd.aa hf gY;have V2:2<=cap:=O;have zi:cap<=9223372036854775807:=O;first
  |clear as3
   have N0:=Z fun b' Y W(h:L pb own (w.alloc<|.cells #[.int .i64 T.y,.int .i64 T.E,.string T.z,.slice (some ⟨g,off,none⟩) 2 cap] 25) d b' Y W)I=>h.worded ⟨#[105,102]⟩ (show 1<=T.q by omega) (re (P:=fun i=>IW 151 (T.f i) fun _=>(aJ<|T.f i).ex 1) sw) (some ⟨g,off,none⟩) cap (bU ab aR hg) hf (cw ab aR hr) I;have asn:=kk;exact Rc
  |clear as4
   have N0:=Z fun b' Y W(h:L pb own (w.alloc<|.cells #[.int .i64 T.y,.int .i64 T.E,.string T.z,.slice (some ⟨g,off,none⟩) 2 cap] 25) d b' Y W)I=>h.worded ⟨#[102,111,114]⟩ (show 1<=T.q by omega) (re (P:=fun i=>IW 151 (T.f i) fun _=>(aJ<|T.f i).ex 1) sw) (some ⟨g,off,none⟩) cap (bU ab aR hg) hf (cw ab aR hr) I;have aso:=kk;exact Rc
 |clear asV
  have fU:=Z fun d' b' Y W(h:L pb own (w.alloc<|.cells #[.int .i64 16,.int .i64 2,.string T.z,.slice (some ⟨g,off,none⟩) 3 cap] 25) d' b' Y W)=>eO W<|h.aQ ab aR;have arM:=kk;exact agy
 |clear asW
  have fU:=Z (fun d' b' Y W(h:L pb own (w.alloc (.cells #[.int .i64 8,.int .i64 T.E,.string T.z,.slice (some ⟨g,off,none⟩) 2 cap] 25)) d' b' Y W)=>eO W (h.aQ ab aR));have arN:=kk;exact agy):G:=h
theorem Iu (h:G:=by
 have HG:=Z<|bU ab aR hg;have dC:=Z aR;have HB:=Z I;first
 |clear asX
  clear I hr hf ab hg aE aR;generalize T.z=ts at*
  generalize T.E=tn at*
  generalize T.y=tk at*
  by_cases h1:tn=1
  ·subst h1;rw[avA rfl]at HB⊢;go_enter func149,ntmps149
   go_wp2;go_region_with(first
   |(go_at_call_of 57 w;refine(HP.o.bm [ts,⟨#[43,43]⟩] _ 2 _ M rfl rfl J aad).mono ?_;rintro e w2 ⟨⟨r,rfl⟩,y⟩;obtain⟨b0,b1,b2,b3⟩:=HN.o _ _ _ _ y;have HP:=Z y;clear y))
   go_wp2;go_end0;exact L.au dC.o HP.o aal _
  ·rw[avo h1]at HB⊢;have hb1:(tn==1)=false:=bn h1;clear h1;go_enter func149,ntmps149
   go_wp2;go_region_with(first
   |(go_at_call_of 57 w;refine(HP.o.bm [ts,⟨#[45,45]⟩] _ 2 _ M rfl rfl J aad).mono ?_;rintro e w2 ⟨⟨r,rfl⟩,y⟩;obtain⟨b0,b1,b2,b3⟩:=HN.o _ _ _ _ y;have HP:=Z y;clear y))
   go_wp2;go_end0;exact L.au dC.o HP.o aal _
 |clear asY
  clear vY z bm h0 I hr hf ab hg aE aR;generalize T.z=ts at*
  go_enter func179,ntmps179
  go_wp2_with(first
   |(go_at_call_of 57 w;refine(HP.o.putAt [⟨#[100,101,102,97,117,108,116]⟩] _ 1 _ M rfl rfl J aad).mono ?_;rintro e w2 ⟨⟨r,rfl⟩,y⟩;obtain⟨b0,b1,b2,b3⟩:=HN.o _ _ _ _ y;have HP:=Z y;clear y))
  go_end0;exact L.au dC.o HP.o aal _
 |clear asZ
  clear z I hr hf ab hg aE aR;have asx:=kk;exact Iw
 |clear as0
  have HT:Hid (∀W,Below pb w W->W.cell? ⟨0,1,none⟩=some (.string ⟨#[105,110,116]⟩)):=fun W hW=>(hg W hW).2 1 J;have ni:Hid (Below pb w<|w.alloc<|.cells #[.int .i64 T.y,.int .i64 1,.string T.z,.slice a T.q cap] 25):=Z<|aR.mono aaX;have arU:=kk;exact Xd
 |clear as1
  have HT:Hid (∀W,Below pb w W->W.cell? ⟨0,2,none⟩=some (.string ⟨#[98,111,111,108]⟩)):=fun W hW=>(hg W hW).2 2 J;have ni:Hid (Below pb w<|w.alloc<|.cells #[.int .i64 T.y,.int .i64 2,.string T.z,.slice a T.q cap] 25):=Z<|aR.mono aaX;have arV:=kk;exact Xd
 |clear as2
  have HT:Hid (∀W,Below pb w W->W.cell? ⟨0,3,none⟩=some (.string ⟨#[99,104,97,110,32,105,110,116]⟩)):=fun W hW=>(hg W hW).2 3 J;have ni:Hid (Below pb w (w.alloc (.cells #[.int .i64 T.y,.int .i64 3,.string T.z,.slice a T.q cap] 25))):=Z (aR.mono aaX);have arW:=kk;exact Xd):G:=h
theorem US (T:Nd)(s:ByteArray)(h0:T.q≠0)(ih:pg (T.f 0))(ax:(T.f 0).Q=true)(pb:Nat)(own:Option Nat)(X:List UInt8)(d:Nat)(b:Bool)(w:World)(v:Value)(ab:IBuf pb w own d b X)(hg:Gl pb w)(hf:T.R)(hr:Row 0 pb w T v)(I:X.length+((ahead d b).length+(T.z.data.toList++(s.data.toList++(aJ<|T.f 0).ex 1)).length)<=1099511627776):
  Calls prog 148 #[.pointer<|some ⟨pb,0,none⟩,T.val v,.string s] w (im pb X (ahead d b++(T.z.data.toList++(s.data.toList++(aJ<|T.f 0).ex 1))) d true own w):=by
 have arS:=kk;exact agB
theorem Pc (T:Nd):IW 149 T (fun d=>T.z.data.toList++(if T.E=1 then[43,43]else[45,45])):=by
  intro pb own X d b w v ab hg hf hr I;have hn:=T.I hf;obtain⟨a,cap,rfl,_⟩:=ar.1 hr;have aE:T.val (.slice a T.q cap)=.agg #[.int .i64 T.y,.int .i64 T.E,.string T.z,.slice a T.q cap]:=by unfold Nd.val;rfl
  rw[aE];have aR:Below w.heap.size w (w.alloc (.cells #[.int .i64 T.y,.int .i64 T.E,.string T.z,.slice a T.q cap] 25)):=(bO w _);have HP:=Z (L.af ab aR);have HN:=Z (fun d' b' Y W(h:L pb own (w.alloc (.cells #[.int .i64 T.y,.int .i64 T.E,.string T.z,.slice a T.q cap] 25)) d' b' Y W)=>(show W.cell? ⟨w.heap.size,0,none⟩=some (.int .i64 T.y)/\W.cell? ⟨w.heap.size,1,none⟩=some (.int .i64 T.E)/\W.cell? ⟨w.heap.size,2,none⟩=some (.string T.z)/\W.cell? ⟨w.heap.size,3,none⟩=some (.slice a T.q cap) by
    have e:=h.kept ab w.heap.size lr M
    rw[e,e,e,e];refine⟨?_,?_,?_,?_⟩<;>simp[go_sem]))
  have asX:=kk;exact Iu
theorem Ph (C V:Nd)(ihC:pg C)(ihV:pg V)(hC:C.Q=true)(hV:V.Q=true)(pb:Nat)(own:Option Nat)(X:List UInt8)(d:Nat)(b:Bool)(w:World)(v1 v2:Value)(ab:IBuf pb w own d b X)(hg:Gl pb w)(su:C.R)(wi:V.R)(fQ:Row 0 pb w C v1)(qg:Row 0 pb w V v2)
  (I:X.length+((ahead d b).length+((aJ C).ex 1++([32,60,45,32]++(aJ V).ex 1)).length)<=1099511627776):
  Calls prog 150 #[.pointer<|some ⟨pb,0,none⟩,C.val v1,V.val v2] w (im pb X (ahead d b++((aJ C).ex 1++([32,60,45,32]++(aJ V).ex 1))) d true own w):=by
 obtain⟨a1,c1,rfl,_⟩:=ar.1 fQ;obtain⟨a2,c2,rfl,_⟩:=ar.1 qg;have aR:Below w.heap.size w ((w.alloc<|.cells #[.int .i64 C.y,.int .i64 C.E,.string C.z,.slice a1 C.q c1] 25).alloc<|.cells #[.int .i64 V.y,.int .i64 V.E,.string V.z,.slice a2 V.q c2] 25):=(bO w _).alloc M _;have HP:=Z<|L.af ab aR;have HX:Hid (∀d' b' Y W,L pb own ((w.alloc<|.cells #[.int .i64 C.y,.int .i64 C.E,.string C.z,.slice a1 C.q c1] 25).alloc<|.cells #[.int .i64 V.y,.int .i64 V.E,.string V.z,.slice a2 V.q c2] 25) d' b' Y W->W.cell? ⟨w.heap.size+1,0,none⟩=some (.int .i64 V.y)/\W.cell? ⟨w.heap.size+1,1,none⟩=some (.int .i64 V.E)/\W.cell? ⟨w.heap.size+1,2,none⟩=some (.string V.z)/\W.cell? ⟨w.heap.size+1,3,none⟩=some (.slice a2 V.q c2)):=by
  intro d' b' Y W h;have e:=h.kept ab (w.heap.size+1) O M;rw[e,e,e,e];refine⟨?_,?_,?_,?_⟩<;>simp[go_sem]
 have HG:=Z<|bU ab aR hg;have rQ:=Z<|cw ab aR fQ;have El:=Z<|cw ab aR qg;have CI:=Z ihC;have HI2:=Z ihV;have tD:=Z hC;have NC:=Z hV;have vI:=Z su;have R9:=Z wi;have HB:=Z I;have dC:=Z aR;clear I aR ab hg su wi fQ qg ihC ihV hC hV;unfold Nd.val;go_enter func150,ntmps150
 go_wp2_with(first
  |(go_at_call_of 151 a1;refine(HP.o.expr CI.o _ HG.o vI.o rQ.o tD.o aag).mono ?_;rintro e w2 ⟨⟨r,rfl⟩,y⟩;obtain⟨x0,x1,x2,x3⟩:=HX.o _ _ _ _ y;have HP:=Z y;clear y)
  |(go_at_call_of 57 w2;refine(HP.o.putAt [⟨#[32,60,45,32]⟩] _ 1 _ M rfl rfl J aad).mono ?_;rintro e w3 ⟨⟨r,rfl⟩,y⟩;obtain⟨x0,x1,x2,x3⟩:=HX.o _ _ _ _ y;have HP:=Z y;clear y)
  |(go_at_call_of 151 a2;refine(HP.o.expr HI2.o _ HG.o R9.o El.o NC.o aad).mono ?_;rintro e w4 ⟨⟨r,rfl⟩,y⟩;have HP:=Z y;clear y))
 go_end0;exact L.au dC.o HP.o aal _
theorem L.send {C V:Nd}(ihC:pg C)(ihV:pg V)(hC:C.Q=true)(hV:V.Q=true)(h:L pb ai w0 d b Y w)(v1 v2:Value)(hg:Gl pb w0)(su:C.R)(wi:V.R)(fQ:Row 0 pb w0 C v1)(qg:Row 0 pb w0 V v2)(I:Y.length+((ahead d b).length+((aJ C).ex 1++([32,60,45,32]++(aJ V).ex 1)).length)<=1099511627776):
  Calls prog 150 #[.pointer<|some ⟨pb,0,none⟩,C.val v1,V.val v2] w fun e w'=>(∃r,e=.returned r)/\L pb ai w0 d true (Y++(ahead d b++((aJ C).ex 1++([32,60,45,32]++(aJ V).ex 1)))) w':=
 h.lift fun own ab=>Ph C V ihC ihV hC hV pb own Y d b w v1 v2 ab (hg.keep h.below) su wi (ah h.below lr fQ) (ah h.below lr qg) I
def Ef (T:Nd):Prop:=∀(pb:Nat)(own:Option Nat)(X:List UInt8)(d:Nat)(w:World)(v:Value),IBuf pb w own d false X->Gl pb w->T.R->Row 0 pb w T v->d<=1099511627776->
 X.length+((aJ T).ad<|d+1).length<=1099511627776->Calls prog 97 #[.pointer<|some ⟨pb,0,none⟩,T.val v] w (im pb X ((aJ T).ad<|d+1) d false own w)
theorem L.ad (hT:Ef T)(h:L pb ai w0 d false Y w)(v:Value)(hg:Gl pb w0)(hf:T.R)(hr:Row 0 pb w0 T v)(hd:d<=1099511627776)(I:Y.length+((aJ T).ad<|d+1).length<=1099511627776):
  Calls prog 97 #[.pointer<|some ⟨pb,0,none⟩,T.val v] w fun e w'=>(∃r,e=.returned r)/\L pb ai w0 d false (Y++(aJ T).ad (d+1)) w':=
 h.lift fun own ab=>hT pb own Y d w v ab (hg.keep h.below) hf (ah h.below lr hr) hd I
theorem dM (d:Nat):ahead d false=bB d:=rfl
theorem UA (T:Nd)(hW:∀i,i<T.q->IW 127 (T.f i) (fun d=>(aJ<|T.f i).st d)):Ef T:=by intro pb own X d w v ab hg hf hr hd I;have Bn:=T.I hf;obtain⟨a,cap,rfl,_⟩:=ar.1 hr;rw[qz]at I⊢;have arC:=kk;exact ags
theorem yR (T:Nd)(ih:Ef T):IW 60 T (fun d=>aS d<|(aJ T).ad<|d+1):=by
 intro pb own X d b w v ab hg hf hr I;have Bn:=T.I hf;have hd:d<=1099511627776:=by have:=I;simp[aS,bB]at this;omega
 obtain⟨a,cap,rfl,_⟩:=ar.1 hr;have HP:=Z<|L.aj ab<|.cells #[.int .i64 T.y,.int .i64 T.E,.string T.z,.slice a T.q cap] 25;have HN:=Z<|L.node ab (.int .i64 T.y) (.int .i64 T.E) (.string T.z) (.slice a T.q cap) 25;have arO:=kk;exact agz
theorem re {P:Nat->Prop}(h:P 0):∀i,i<1->P i:=fun i hi=>by
 have:i=0:=O
 rw[this];exact h
theorem Vv (T:Nd)(sw:IW 151 (T.f 0) (fun _=>(aJ<|T.f 0).ex 1))(Wd:IW 60 (T.f 1) (fun d=>aS d<|(aJ<|T.f 1).ad<|d+1))(h0:T.q=2):IW 152 T (fun d=>[105,102,32]++((aJ<|T.f 0).ex 1++(32::(aS d ((aJ<|T.f 1).ad<|d+1)++[])))):=by have as3:=kk;exact agK
theorem Lo (T:Nd)(sw:IW 151 (T.f 0) (fun _=>(aJ<|T.f 0).ex 1))(Wd:IW 60 (T.f 1) (fun d=>aS d<|(aJ<|T.f 1).ad<|d+1))(V9:IW 127 (T.f 2) (fun d=>(aJ<|T.f 2).st d))(h0:T.q=3):IW 152 T (fun d=>[105,102,32]++((aJ<|T.f 0).ex 1++(32::(aS d ((aJ<|T.f 1).ad<|d+1)++([32,101,108,115,101,32]++(aJ<|T.f 2).st d))))):=by have arE:=kk;exact agt
theorem Qx (T:Nd)(hB:IW 60 (T.f 0) (fun d=>aS d<|(aJ<|T.f 0).ad<|d+1))(h0:T.q=1):IW 153 T (fun d=>[102,111,114,32]++aS d ((aJ<|T.f 0).ad<|d+1)):=by intro pb own X d b w v ab hg hf hr I;have arT:=kk;exact agB
theorem Qw (T:Nd)(sw:IW 151 (T.f 0) (fun _=>(aJ<|T.f 0).ex 1))(hB:IW 60 (T.f 1) (fun d=>aS d<|(aJ<|T.f 1).ad<|d+1))(h0:T.q=2):IW 153 T (fun d=>[102,111,114,32]++((aJ<|T.f 0).ex 1++([32]++aS d ((aJ<|T.f 1).ad<|d+1)))):=by have as4:=kk;exact agK
theorem ch_0 (T:Nd)(z:T.y=16)(bm:T.E=0)(h0:T.q=1):IW 179 T (fun d=>bG T.E T.z.data.toList fun i=>aJ<|T.f i):=by
  intro pb own X d b w v ab hg hf hr I;have hn:=T.I hf;have vY:bG T.E T.z.data.toList (fun i=>aJ<|T.f i)=[100,101,102,97,117,108,116]:=by rw[bm];exact rfl
  rw[vY]at I⊢;obtain⟨a,cap,rfl,_⟩:=ar.1 hr;have aE:T.val (.slice a T.q cap)=.agg #[.int .i64 16,.int .i64 0,.string T.z,.slice a 1 cap]:=by unfold Nd.val;rw[z,bm,h0]
  rw[aE];have aR:Below w.heap.size w (w.alloc (.cells #[.int .i64 16,.int .i64 0,.string T.z,.slice a 1 cap] 25)):=(bO w _);have HP:=Z (L.af ab aR);have HN:=Z (fun d' b' Y W(h:L pb own (w.alloc (.cells #[.int .i64 16,.int .i64 0,.string T.z,.slice a 1 cap] 25)) d' b' Y W)=>(show W.cell? ⟨w.heap.size,0,none⟩=some (.int .i64 16)/\W.cell? ⟨w.heap.size,1,none⟩=some (.int .i64 0)/\W.cell? ⟨w.heap.size,2,none⟩=some (.string T.z)/\W.cell? ⟨w.heap.size,3,none⟩=some (.slice a 1 cap) by
    have e:=h.kept ab w.heap.size lr M
    rw[e,e,e,e];refine⟨?_,?_,?_,?_⟩<;>simp[go_sem]))
  have asY:=kk;exact Iu
theorem ch_1a (T:Nd)(z:T.y=16)(bm:T.E=1)(h0:T.q=2)(he:T.z.toList.isEmpty=true)(hR:IW 178 (T.f 0) (fun _=>[60,45]++(aJ<|T.f 0).ex 6)):IW 179 T (fun d=>bG T.E T.z.data.toList fun i=>aJ<|T.f i):=by
 intro pb own X d b w v ab hg hf hr I;have hn:=T.I hf;have vY:bG T.E T.z.data.toList (fun i=>aJ<|T.f i)=[99,97,115,101,32]++([60,45]++(aJ<|T.f 0).ex 6):=by rw[bm];exact vn he _
 have as5:=kk;exact agL
theorem ch_1b (T:Nd)(z:T.y=16)(bm:T.E=1)(h0:T.q=2)(he:T.z.toList.isEmpty=false)(hR:IW 178 (T.f 0) (fun _=>[60,45]++(aJ<|T.f 0).ex 6)):IW 179 T (fun d=>bG T.E T.z.data.toList fun i=>aJ<|T.f i):=by
 intro pb own X d b w v ab hg hf hr I;have hn:=T.I hf;have vY:bG T.E T.z.data.toList (fun i=>aJ<|T.f i)=[99,97,115,101,32]++((T.z.data.toList++[32,58,61,32])++([60,45]++(aJ<|T.f 0).ex 6)):=by rw[bm];exact vk he _
 have as6:=kk;exact agL
theorem ch_2 (T:Nd)(z:T.y=16)(bm:T.E=2)(h0:T.q=3)(i0:pg (T.f 0))(i1:pg (T.f 1))(e0:(T.f 0).Q=true)(e1:(T.f 1).Q=true):IW 179 T (fun d=>bG T.E T.z.data.toList fun i=>aJ<|T.f i):=by
 intro pb own X d b w v ab hg hf hr I;have hn:=T.I hf;have vY:bG T.E T.z.data.toList (fun i=>aJ<|T.f i)=[99,97,115,101,32]++((aJ<|T.f 0).ex 1++([32,60,45,32]++(aJ<|T.f 1).ex 1)):=by rw[bm];exact rfl
 rw[vY]at I⊢;have arG:=kk;exact agu
theorem Ip (T:Nd)(hC:∀i,i<T.q->(T.f i).aH=true)(hH:∀i,i<T.q->IW 179 (T.f i) (fun _=>bG (T.f i).E (T.f i).z.data.toList fun k=>aJ<|(T.f i).f k))(hS:∀i,i<T.q->Ef ((T.f i).f<|(T.f i).q-1)):
  IW 155 T (fun d=>[115,101,108,101,99,116,32,123,10]++(ay (fun i=>(aJ<|T.f i).cs d) T.q++(bB d++[125]))):=by
 intro pb own X d b w v ab hg hf hr I;dsimp only at I⊢;have Bn:=T.I hf;have hd:d<=1099511627776:=by have:=I;simp[bB]at this;omega
 have arB:=kk;exact agr
theorem L.du (s:ByteArray)(h0:T.q≠0)(ih:pg (T.f 0))(ax:(T.f 0).Q=true)(h:L pb ai w0 d b Y w)(v:Value)(hg:Gl pb w0)(hf:T.R)(hr:Row 0 pb w0 T v)(I:Y.length+((ahead d b).length+(T.z.data.toList++(s.data.toList++(aJ<|T.f 0).ex 1)).length)<=1099511627776):
  Calls prog 148 #[.pointer<|some ⟨pb,0,none⟩,T.val v,.string s] w fun e w'=>(∃r,e=.returned r)/\L pb ai w0 d true (Y++(ahead d b++(T.z.data.toList++(s.data.toList++(aJ<|T.f 0).ex 1)))) w':=
 h.lift fun own ab=>US T s h0 ih ax pb own Y d b w v ab (hg.keep h.below) hf (ah h.below lr hr) I
theorem is_4 (T:Nd)(z:T.y=4)(hW:IW 60 T (fun d=>(aJ T).st d)):IW 127 T (fun d=>(aJ T).st d):=by have asp:=kk;exact MV
theorem is_7 (T:Nd)(z:T.y=7)(hW:IW 149 T (fun d=>(aJ T).st d)):IW 127 T (fun d=>(aJ T).st d):=by have asq:=kk;exact MV
theorem is_10 (T:Nd)(z:T.y=10)(hW:IW 152 T (fun d=>(aJ T).st d)):IW 127 T (fun d=>(aJ T).st d):=by have asr:=kk;exact MV
theorem is_11 (T:Nd)(z:T.y=11)(hW:IW 153 T (fun d=>(aJ T).st d)):IW 127 T (fun d=>(aJ T).st d):=by have ass:=kk;exact MV
theorem is_15 (T:Nd)(z:T.y=15)(hW:IW 155 T (fun d=>(aJ T).st d)):IW 127 T (fun d=>(aJ T).st d):=by have ast:=kk;exact MV
theorem C6 (z:T.y=5)(h0:T.q≠0)(d:Nat):(aJ T).st d=T.z.data.toList++([32,58,61,32]++(aJ<|T.f 0).ex 1):=by rw[rq T z,avo h0];simp
theorem is_5 (T:Nd)(z:T.y=5)(h0:T.q≠0)(ih:pg (T.f 0))(ax:(T.f 0).Q=true):IW 127 T (fun d=>(aJ T).st d):=by have asB:=kk;exact nW
theorem C5 (z:T.y=6)(h0:T.q≠0)(d:Nat):(aJ T).st d=T.z.data.toList++([32,61,32]++(aJ<|T.f 0).ex 1):=by rw[rp T z,avo h0];simp
theorem is_6 (T:Nd)(z:T.y=6)(h0:T.q≠0)(ih:pg (T.f 0))(ax:(T.f 0).Q=true):IW 127 T (fun d=>(aJ T).st d):=by have asJ:=kk;exact nW
theorem yC (z:T.y=12)(h1:T.q<=1)(d:Nat):(aJ T).st d=[114,101,116,117,114,110]++ay (fun i=>[32]++(aJ<|T.f i).ex 1) T.q:=by rw[mw T z];have h:T.q=0\/T.q=1:=O;rcases h with h|h<;>simp[h,ay]
theorem is_12 (T:Nd)(z:T.y=12)(h1:T.q<=1)(hW:∀i,i<T.q->IW 151 (T.f i) (fun _=>(aJ<|T.f i).ex 1)):IW 127 T (fun d=>(aJ T).st d):=by have asK:=kk;exact nW
theorem yB (z:T.y=13)(h1:T.q=1)(d:Nat):(aJ T).st d=[103,111]++ay (fun i=>[32]++(aJ<|T.f i).ex 1) T.q:=by
 rw[pz T z];have h:T.q=0\/T.q=1:=O;rcases h with h|h
 ·omega
 ·simp[h,ay]
theorem is_13 (T:Nd)(z:T.y=13)(h1:T.q=1)(hW:∀i,i<T.q->IW 151 (T.f i) (fun _=>(aJ<|T.f i).ex 1)):IW 127 T (fun d=>(aJ T).st d):=by have asL:=kk;exact nW
theorem yA (z:T.y=14)(h1:T.q=1)(d:Nat):(aJ T).st d=[100,101,102,101,114]++ay (fun i=>[32]++(aJ<|T.f i).ex 1) T.q:=by
 rw[py T z];have h:T.q=0\/T.q=1:=O;rcases h with h|h
 ·omega
 ·simp[h,ay]
theorem is_14 (T:Nd)(z:T.y=14)(h1:T.q=1)(hW:∀i,i<T.q->IW 151 (T.f i) (fun _=>(aJ<|T.f i).ex 1)):IW 127 T (fun d=>(aJ T).st d):=by have asM:=kk;exact nW
theorem zJ (z:T.y=19)(h1:T.q=1)(d:Nat):(aJ T).st d=[99,108,111,115,101]++40::(ay (fun i=>(if i=0 then[]else[44,32])++(aJ<|T.f i).ex 1) T.q++[41]):=by rw[pr T z];simp[h1,ay]
theorem is_19 (T:Nd)(z:T.y=19)(h1:T.q=1)(ih:∀i,i<T.q->pg (T.f i))(ax:∀i,i<T.q->(T.f i).Q=true):IW 127 T (fun d=>(aJ T).st d):=by have asN:=kk;exact nW
theorem zI (z:T.y=20)(h1:T.q=1)(d:Nat):(aJ T).st d=[112,114,105,110,116]++40::(ay (fun i=>(if i=0 then[]else[44,32])++(aJ<|T.f i).ex 1) T.q++[41]):=by rw[pq T z];simp[h1,ay]
theorem is_20 (T:Nd)(z:T.y=20)(h1:T.q=1)(ih:∀i,i<T.q->pg (T.f i))(ax:∀i,i<T.q->(T.f i).Q=true):IW 127 T (fun d=>(aJ T).st d):=by have asO:=kk;exact nW
theorem zH (z:T.y=21)(h1:T.q=1)(d:Nat):(aJ T).st d=[112,97,110,105,99]++40::(ay (fun i=>(if i=0 then[]else[44,32])++(aJ<|T.f i).ex 1) T.q++[41]):=by rw[po T z];simp[h1,ay]
theorem is_21 (T:Nd)(z:T.y=21)(h1:T.q=1)(ih:∀i,i<T.q->pg (T.f i))(ax:∀i,i<T.q->(T.f i).Q=true):IW 127 T (fun d=>(aJ T).st d):=by have asP:=kk;exact nW
theorem is_17 (T:Nd)(z:T.y=17):IW 127 T (fun d=>(aJ T).st d):=by have asQ:=kk;exact nW
theorem is_18 (T:Nd)(z:T.y=18):IW 127 T (fun d=>(aJ T).st d):=by have asC:=kk;exact nW
theorem is_9 (T:Nd)(z:T.y=9)(h0:T.q≠0)(ih:pg (T.f 0))(ax:(T.f 0).Q=true):IW 127 T (fun d=>(aJ T).st d):=by have asD:=kk;exact nW
theorem is_8 (T:Nd)(z:T.y=8)(h2:T.q=2)(i0:pg (T.f 0))(i1:pg (T.f 1))(e0:(T.f 0).Q=true)(e1:(T.f 1).Q=true):IW 127 T (fun d=>(aJ T).st d):=by have asE:=kk;exact nW
theorem par_1 (T:Nd)(bm:T.E=1):IW 59 T (fun d=>T.z.data.toList++32::cW T.E):=by have asF:=kk;exact nW
theorem par_2 (T:Nd)(bm:T.E=2):IW 59 T (fun d=>T.z.data.toList++32::cW T.E):=by have asG:=kk;exact nW
theorem par_3 (T:Nd)(bm:T.E=3):IW 59 T (fun d=>T.z.data.toList++32::cW T.E):=by have asH:=kk;exact nW
theorem fun_0 (T:Nd)(m:Nat)(hm:T.q=m+1)(bm:T.E=0)(hP:∀i,i<m->IW 59 (T.f i) (fun _=>(T.f i).z.data.toList++32::cW (T.f i).E))(hB:IW 60 (T.f m) (fun d=>aS d<|(aJ<|T.f m).ad<|d+1)):IW 34 T (fun d=>[102,117,110,99,32]++(T.z.data.toList++(40::(ay (eI T) m++([41,32]++(aS d<|(aJ<|T.f m).ad<|d+1)))))):=by have arZ:=kk;exact Rd
theorem fun_1 (T:Nd)(m:Nat)(hm:T.q=m+1)(bm:T.E=1)(hP:∀i,i<m->IW 59 (T.f i) (fun _=>(T.f i).z.data.toList++32::cW (T.f i).E))(hB:IW 60 (T.f m) (fun d=>aS d<|(aJ<|T.f m).ad<|d+1)):IW 34 T (fun d=>[102,117,110,99,32]++(T.z.data.toList++(40::(ay (eI T) m++([41,32]++(([105,110,116]++[32])++aS d ((aJ<|T.f m).ad<|d+1))))))):=by have ar0:=kk;exact Rd
theorem fun_2 (T:Nd)(m:Nat)(hm:T.q=m+1)(bm:T.E=2)(hP:∀i,i<m->IW 59 (T.f i) (fun _=>(T.f i).z.data.toList++32::cW (T.f i).E))(hB:IW 60 (T.f m) (fun d=>aS d<|(aJ<|T.f m).ad<|d+1)):IW 34 T (fun d=>[102,117,110,99,32]++(T.z.data.toList++(40::(ay (eI T) m++([41,32]++(([98,111,111,108]++[32])++aS d ((aJ<|T.f m).ad<|d+1))))))):=by have ar1:=kk;exact Rd
theorem fun_3 (T:Nd)(m:Nat)(hm:T.q=m+1)(bm:T.E=3)(hP:∀i,i<m->IW 59 (T.f i) (fun _=>(T.f i).z.data.toList++32::cW (T.f i).E))(hB:IW 60 (T.f m) (fun d=>aS d<|(aJ<|T.f m).ad<|d+1)):IW 34 T (fun d=>[102,117,110,99,32]++(T.z.data.toList++(40::(ay (eI T) m++([41,32]++(([99,104,97,110,32,105,110,116]++[32])++aS d ((aJ<|T.f m).ad<|d+1))))))):=by have ar2:=kk;exact Rd
theorem ahead_zero :ahead 0 false=[]:=rfl
theorem Kz (T:Nd)(t:Nat->Nat->List UInt8)(hW:∀i,i<T.q->IW 34 (T.f i) (t i))(pb:Nat)(own:Option Nat)(X:List UInt8)(w:World)(v:Value)(ab:IBuf pb w own (0:Nat) false X)(hg:Gl pb w)(hf:T.R)(hr:Row 0 pb w T v)
  (I:X.length+(ay (fun i=>(if i=0 then[]else[10])++(t i 0++[10])) T.q).length<=1099511627776):
  Calls prog 12 #[.pointer<|some ⟨pb,0,none⟩,T.val v] w (im pb X (ay (fun i=>(if i=0 then[]else[10])++(t i 0++[10])) T.q) (0:Nat) false own w):=by
 have Bn:=T.I hf;have arA:=kk;exact agr
def qd :Prop:=∀T:Nd,T.y=28->(∀i,i<T.q->pg (T.f i))->T.Q=true->IW 177 T (fun _=>(aJ T).ex 1)
theorem Vw (h:T.Q=true->IW 151 T (fun _=>(aJ T).ex 1)):pg T:=
 fun pb own X d b w v ab hg hf hr ax I=>h ax pb own X d b w v ab hg hf hr I
theorem qH (pM:qd)(T:Nd):pg T:=by
 have step:∀T:Nd,(∀i,i<T.q->pg (T.f i))->pg T:=by
  intro T ih;refine Vw fun ax=>?_;by_cases Af:T.y=22
  ·exact ie_22 T Af ax
  by_cases vP:T.y=23
  ·exact ie_23 T vP ax
  by_cases zp:T.y=24
  ·exact ie_24 T zp ax
  by_cases wJ:T.y=25
  ·exact ie_25 T wJ ax ih
  by_cases ti:T.y=26
  ·refine ie_26 T ti ?_;have:=QZ T fun i hi=>sh (ih i hi)<|(nM ti ax).2 i hi;rw[<-Iq ti ax]at this;exact this
  by_cases wy:T.y=27
  ·exact ie_27 T wy<|Zs T wy ih ax
  by_cases zo:T.y=28
  ·exact ie_28 T zo<|pM T zo ih ax
  by_cases vO:T.y=29
  ·exact ie_29 T vO ax ih
  rw[bD]at ax;simp[bq,Af,vP,zp,wJ,ti,wy,zo,vO]at ax
 exact agH
theorem Wu (pM:qd)(T:Nd)(h:T.aH=true):IW 179 T (fun _=>bG T.E T.z.data.toList fun k=>aJ<|T.f k):=by
 obtain⟨z,h3,_⟩:=vi h;rcases h3 with⟨a,b⟩|⟨a,b,c⟩|⟨a,b,c,d⟩
 ·exact ch_0 T z a b
 ·cases he:T.z.toList.isEmpty
  ·exact ch_1b T z a b he<|yQ _ (qH pM _) c
  ·exact ch_1a T z a b he<|yQ _ (qH pM _) c
 ·exact ch_2 T z a b (qH pM _) (qH pM _) c d
structure IPr (T:Nd):Prop where
 sm:T.U=true->IW 127 T (fun d=>(aJ T).st d)
 ad:(∀i,i<T.q->(T.f i).U=true)->Ef T
 gr:∀i,i<T.q->(∀k,k<(T.f i).q->((T.f i).f k).U=true)->Ef (T.f i)
theorem PU (pM:qd)(T:Nd):IPr T:=by
  have E:=qH pM;have step:∀T:Nd,(∀i,i<T.q->IPr (T.f i))->IPr T:=by
    intro T ih;have Bf:(∀i,i<T.q->(T.f i).U=true)->Ef T:=fun h=>UA T fun i hi=>(ih i hi).sm<|h i hi;have blk:∀i,i<T.q->(T.f i).y=4->(T.f i).U=true->IW 60 (T.f i) (fun d=>aS d<|(aJ<|T.f i).ad<|d+1):=fun i hi h4 hs=>yR _<|(ih i hi).ad<|iy h4 hs;refine⟨?_,Bf,fun i hi=>(ih i hi).ad⟩;intro ax;by_cases h4:T.y=4
    · refine is_4 T h4 ?_;have:=yR T<|Bf<|iy h4 ax;simpa only[<-gl T h4]using this
    by_cases h5:T.y=5
    · have h0:T.q≠0:=by
        have:=ax;rw[aM,h5]at this;simp[aL]at this;have:=(jC this.2).1;omega
      exact is_5 T h5 h0 (E _)<|yN h5 ax 0 O rfl
    by_cases h6:T.y=6
    · have h0:T.q≠0:=by
        have:=ax;rw[aM,h6]at this;simp[aL]at this;have:=(jC this.2).1;omega
      exact is_6 T h6 h0 (E _)<|yM h6 ax 0 O rfl
    by_cases h7:T.y=7
    · refine is_7 T h7 ?_;have:=Pc T;simpa only[rn T h7]using this
    by_cases h8:T.y=8
    · obtain⟨hl,e0,e1⟩:=yL h8 ax;exact is_8 T h8 hl (E _) (E _) e0 e1
    by_cases h9:T.y=9
    · obtain⟨hl,e0⟩:=yK h9 ax;exact is_9 T h9 O (E _) e0
    by_cases kK:T.y=10
    · refine is_10 T kK ?_;obtain⟨hl,e0,k1,k2⟩:=lO kK ax;rcases hl with hl|hl
      · have:=Vv T (sh (E _) e0) (blk 1 O k1.1 k1.2) hl;simpa only[kz T kK,avo<|show¬T.q=3 by omega]using this
      · have:=Lo T (sh (E _) e0) (blk 1 O k1.1 k1.2) ((ih 2 O).sm (k2 hl).2) hl;simpa only[kz T kK,avA hl]using this
    by_cases nH:T.y=11
    · refine is_11 T nH ?_;rcases np nH ax with⟨hl,k0⟩|⟨hl,e0,k1⟩
      · have:=Qx T (blk 0 O k0.1 k0.2) hl;simpa[ky T nH,hl]using this
      · have:=Qw T (sh (E _) e0) (blk 1 O k1.1 k1.2) hl;simpa[ky T nH,hl]using this
    by_cases qM:T.y=12
    · have hl:T.q<=1:=by
        have:=ax;rw[aM,qM]at this;simp[aL]at this;rcases this.2 with h|h
        · omega
        · have:=(jC h).1;omega
      exact is_12 T qM hl fun i hi=>sh (E _)<|tQ qM ax i hi O
    by_cases zr:T.y=13
    · have hl:T.q=1:=by
        have:=ax;rw[aM,zr]at this;simp[aL]at this;exact(KK this.2).1
      exact is_13 T zr hl fun i hi=>sh (E _)<|tP zr ax i hi O
    by_cases zq:T.y=14
    · have hl:T.q=1:=by
        have:=ax;rw[aM,zq]at this;simp[aL]at this;exact(KK this.2).1
      exact is_14 T zq hl fun i hi=>sh (E _)<|tO zq ax i hi O
    by_cases rF:T.y=15
    · refine is_15 T rF ?_;have hc:=tN rF ax;have:=Ip T hc (fun i hi=>Wu pM _ (hc i hi)) (fun i hi=>by
        obtain⟨_,h3,xT,hs⟩:=vi<|hc i hi
        exact(ih i hi).gr _ (by rcases h3 with h|h|h<;>omega) (iy xT hs))
      simpa only[<-px T rF]using this
    by_cases sQ:T.y=17
    · exact is_17 T sQ
    by_cases wN:T.y=18
    · exact is_18 T wN
    by_cases wM:T.y=19
    · have hl:T.q=1:=by
        have:=ax;rw[aM,wM]at this;simp[aL]at this;exact(jC this.2).1
      exact is_19 T wM hl (fun i _=>E _) fun i hi=>tM wM ax i hi O
    by_cases wK:T.y=20
    · have hl:T.q=1:=by
        have:=ax;rw[aM,wK]at this;simp[aL]at this;exact(jC this.2).1
      exact is_20 T wK hl (fun i _=>E _) fun i hi=>tL wK ax i hi O
    by_cases uK:T.y=21
    · have hl:T.q=1:=by
        have:=ax;rw[aM,uK]at this;simp[aL]at this;exact(jC this.2).1
      exact is_21 T uK hl (fun i _=>E _) fun i hi=>tK uK ax i hi O
    rw[aM]at ax;simp[aL,h4,h5,h6,h7,h8,h9,kK,nH,qM,zr,zq,rF,sQ,wN,wM,wK,uK]at ax
  exact agH
theorem FR (l:List UInt8):vU l=Lib.byteCells l:=rfl
theorem Wy :prog.cellsOf 5=1:=by kernel_rfl
theorem UB (pb:Nat)(w:World)(own:Option Nat)(d:Int)(b:Bool)(Y:List UInt8)(h:IBuf pb w own d b Y):
  Calls prog 13 #[.pointer<|some ⟨pb,0,none⟩] w fun e w'=>e=.returned (.string<|cP Y)/\Below pb w w':=by
 have be:=h.lt;obtain⟨q,v,hv,_,ho,_⟩:=h
 have Hy:Below pb w w.drew:=⟨rfl,rfl,rfl,avF _,fun _ _=>rfl⟩;rcases ho.2 with⟨rfl,hz⟩|⟨g,cap,cur,rfl,hbg,hg,hnc,Ac,q8,S4⟩
 ·obtain rfl:Y=[]:=avY hz;have ar8:=kk;exact agD
 ·by_cases h0:Y=[]
  ·subst h0;have ar9:=kk;exact agD
  ·have o7:Y.length≠0:=by simpa using h0
   have c1:w.drew.cell? ⟨pb,1,none⟩=some (.slice (some ⟨g,0,none⟩) Y.length cap):=by
    have:w.drew.heap[pb]?=some (.cells #[q,.slice (some ⟨g,0,none⟩) Y.length cap,.int .i64 d,.bool b] 43 (0,0)):=hv;rw[Lib.cell_of_heap this];rfl
   have hSD:(Builtin.unsafeSliceData_ #[22] 75 #[.slice (some ⟨g,0,none⟩) Y.length cap]).run prog w.drew=.ok (.pointer<|some ⟨g,0,none⟩) w.drew:=
    Lib.run_unsafeSliceData_row _ _ _ _ _ _ O
   have hUS:(Builtin.unsafeString_ #[75,3] 9 #[.pointer<|some ⟨g,0,none⟩,.int .i64 Y.length]).run prog w.drew=.ok (.string ⟨Y.toArray⟩) (w.drew.freeze ⟨g,0,none⟩ Y.length):=by
    refine Lib.run_unsafeString_row w.drew 75 3 9 5 underlying75 Wy g cur.size (by have sO:w.drew.heap[g]?=some (.cells cur 5 (0,0)):=hg;simp[World.shape?,sO]) Y h0 O (by unfold maxLen at Ac;omega) ?_;intro j x hx;have:=ho.cells (g:=g) rfl j (.int .u8 x.toNat) (by rw[FR];simp[Lib.byteCells,hx]);exact this
   have HB:=(show Hid (Below pb w<|w.drew.freeze ⟨g,0,none⟩ Y.length)from Lib.below_freeze Hy (p:=⟨g,0,none⟩) (by show pb<=g;omega) _);exact agI
def Fh (K:Nd)(d:Nat):List UInt8:=[102,117,110,99,32]++(K.z.data.toList++(40::(ay (eI K) (K.q-1)++([41,32]++((if K.E=0 then[]else cW K.E++[32])++aS d ((aJ<|K.f<|K.q-1).ad<|d+1))))))
theorem Qv (K:Nd):Fh K 0++[10]=lY K:=by rw[uM];unfold Fh;simp
theorem Vc (h:b6 T=true)(i:Nat)(hi:i<T.q-1):(T.f i).E=1\/(T.f i).E=2\/(T.f i).E=3:=by unfold b6 at h;simp only[avw,avy]at h;have:=bj.1 h.2.1 i hi;unfold fh at this;simp only[avw,avy]at this;omega
theorem Qu (pM:qd)(K:Nd)(h:b6 K=true):IW 34 K (Fh K):=by
 obtain⟨⟨h0,h3⟩,hL,_,z,hs⟩:=zu h;have hP:∀i,i<K.q-1->IW 59 (K.f i) (fun _=>(K.f i).z.data.toList++32::cW (K.f i).E):=by
  intro i hi;rcases Vc h i hi with e|e|e
  ·exact par_1 _ e
  ·exact par_2 _ e
  ·exact par_3 _ e
 have hB:=yR _<|(PU pM<|K.f<|K.q-1).ad<|iy z hs;have hm:K.q=(K.q-1)+1:=O;have hn:K.E=0\/K.E=1\/K.E=2\/K.E=3:=O;rcases hn with e|e|e|e
 ·have:=fun_0 K (K.q-1) hm e hP hB;refine(show IW 34 K (Fh K)from ?_);have q:Fh K=fun d=>[102,117,110,99,32]++(K.z.data.toList++(40::(ay (eI K) (K.q-1)++([41,32]++(aS d<|(aJ<|K.f<|K.q-1).ad<|d+1))))):=by
   funext d;unfold Fh;rw[avA e];rfl
  rw[q];exact this
 ·have:=fun_1 K (K.q-1) hm e hP hB;have q:Fh K=fun d=>[102,117,110,99,32]++(K.z.data.toList++(40::(ay (eI K) (K.q-1)++([41,32]++(([105,110,116]++[32])++aS d ((aJ<|K.f<|K.q-1).ad<|d+1)))))):=by
   funext d;unfold Fh;rw[e];rfl
  rw[q];exact this
 ·have:=fun_2 K (K.q-1) hm e hP hB;have q:Fh K=fun d=>[102,117,110,99,32]++(K.z.data.toList++(40::(ay (eI K) (K.q-1)++([41,32]++(([98,111,111,108]++[32])++aS d ((aJ<|K.f<|K.q-1).ad<|d+1)))))):=by
   funext d;unfold Fh;rw[e];rfl
  rw[q];exact this
 ·have:=fun_3 K (K.q-1) hm e hP hB;have q:Fh K=fun d=>[102,117,110,99,32]++(K.z.data.toList++(40::(ay (eI K) (K.q-1)++([41,32]++(([99,104,97,110,32,105,110,116]++[32])++aS d ((aJ<|K.f<|K.q-1).ad<|d+1)))))):=by
   funext d;unfold Fh;rw[e];rfl
  rw[q];exact this
theorem GX (pM:qd)(T:Nd)(ax:∀i,i<T.q->b6 (T.f i)=true)(pb:Nat)(own:Option Nat)(w:World)(v:Value)(ab:IBuf pb w own (0:Nat) false [])(hg:Gl pb w)(hf:T.R)(hr:Row 0 pb w T v)(I:(eL T).length<=1099511627776):
  Calls prog 12 #[.pointer<|some ⟨pb,0,none⟩,T.val v] w (im pb [] (eL T) (0:Nat) false own w):=by
 have e:eL T=ay (fun i=>(if i=0 then[]else[10])++(Fh (T.f i) 0++[10])) T.q:=by
  unfold eL;congr 1;funext i;rw[Qv]
 rw[e]at I⊢;exact Kz T (fun i=>Fh<|T.f i) (fun i hi=>Qu pM _<|ax i hi) pb own [] w v ab hg hf hr (by simpa using I)
theorem Dr (pM:qd)(T:Nd)(w:World)(u:Value)(hf:T.R)(hr:Row 0 w.heap.size w T u)(hc:T.cost<=1048576)(ht:Ci w)(hg:Gl w.heap.size w)(hlen:cJ T=true->(eL T).length<=1099511627776):
    Calls prog 5 #[T.val u] w fun e w'=>e=.returned (.tuple #[.string<|cP<|rs T,.int .i64<|yl T])/\Below w.heap.size w w':=by
  obtain⟨a,cap,rfl,_⟩:=ar.1 hr;have aR:Below w.heap.size w (w.alloc (.cells #[.int .i64 T.y,.int .i64 T.E,.string T.z,.slice a T.q cap] 25)):=bA;have IM:=Z (fun W(hW:Below w.heap.size w W)=>by have:=xJ T W (.slice a T.q cap) hf (aY (ah hW lr hr) lr hW.size) hc (gW ht hW);rw[Aw]at this;exact this);have PF:=Z (fun(h:cJ T=true)W(hW:Below w.heap.size w W)=>GX pM T (ph h) W.heap.size none (W.alloc (.cells #[.pointer none,.slice none 0 0,.int .i64 0,.bool false] 43)) (.slice a T.q cap) (IBuf.new W) (fun V hV=>hg V ((hW.trans (((bO W _).trans hV).mono hW.size)))) hf
    (aY (ah (hW.trans ((bO W _).mono hW.size)) lr hr) lr hW.size) (hlen h))
  have HQ:Hid (∀W,Below (w.heap.size+1) (w.alloc<|.cells #[.int .i64 T.y,.int .i64 T.E,.string T.z,.slice a T.q cap] 25) W->W.cell? ⟨w.heap.size,0,none⟩=some (.int .i64 T.y)/\W.cell? ⟨w.heap.size,1,none⟩=some (.int .i64 T.E)/\W.cell? ⟨w.heap.size,2,none⟩=some (.string T.z)/\W.cell? ⟨w.heap.size,3,none⟩=some (.slice a T.q cap)):=by
    intro W h;have e:∀o,W.cell? ⟨w.heap.size,o,none⟩=(w.alloc<|.cells #[.int .i64 T.y,.int .i64 T.E,.string T.z,.slice a T.q cap] 25).cell? ⟨w.heap.size,o,none⟩:=fun o=>h.cell (p:=⟨w.heap.size,o,none⟩) (by show w.heap.size<w.heap.size+1;omega);rw[e,e,e,e];refine⟨?_,?_,?_,?_⟩<;>simp[go_sem]
  have dC:=Z aR;have HE:Hid (rs T=if cJ T then eL T else[]):=rfl;have HC:Hid (yl T=if cJ T then 0 else 1):=rfl;clear hf hr hlen aR hg ht;unfold Nd.val at*
  cases NV:cJ T
  · rw[NV]at IM;rw[HE.o,HC.o,NV];clear PF HE HC;go_enter func5,ntmps5
    go_wp2_with(go_at_call 8;refine(IM.o _ dC.o).mono ?_;rintro e w2 ⟨rfl,hb2⟩;have gi:=Z hb2;clear hb2)
    refine avr (v:=.tuple #[.string<|cP [],.int .i64 1]) (by simp[results,results5,go_sem,cP]) rfl ⟨rfl,?_⟩;exact dC.o.trans<|gi.o.mono M
  · rw[NV]at IM;have PF:=Z<|PF.o NV;rw[HE.o,HC.o,NV];simp only[if_true];clear HE HC;go_enter func5,ntmps5
    go_wp2_with(first
      | (go_at_call 8;refine(IM.o _ dC.o).mono ?_;rintro e w2 ⟨rfl,hb2⟩;have gi:=Z<|dC.o.trans<|hb2.mono M;have ed:=hb2.size;obtain⟨p0,p1,p2,p3⟩:=HQ.o (w2.alloc<|.cells #[.pointer none,.slice none 0 0,.int .i64 0,.bool false] 43)<|(hb2.mono M).trans<|(bO w2 _).mono abe;clear hb2)
      | (go_at_call 12;refine(PF.o _ gi.o).mono ?_;rintro e w3 ⟨⟨r,rfl⟩,fk,hb3,SZ⟩;have HIB:=Z hb3;have lC:=Z<|gi.o.trans<|((bO w2 _).trans<|SZ.ch<|IBuf.new w2).mono abe;clear hb3 SZ)
      | (go_at_call 13;refine(UB _ _ _ _ _ _ HIB.o).mono ?_;rintro e w4 ⟨rfl,eA⟩;have mh:=Z (lC.o.trans (eA.mono abe));clear eA))
    refine avr (v:=.tuple #[.string<|cP<|eL T,.int .i64 0]) (by simp[results,results5,go_sem]) rfl ⟨rfl,?_⟩;exact mh.o
theorem Q9 :qd:=fun T z ih ax=>WM T z ih ax
end Go.Proofs.YtgcmhaghebhjnaaGreatDoor
