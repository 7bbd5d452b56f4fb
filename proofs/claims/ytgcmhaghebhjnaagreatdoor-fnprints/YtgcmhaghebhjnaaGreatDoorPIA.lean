import Derived.Test.YtgcmhaghebhjnaaGreatDoorPTC
import Derived.Test.YtgcmhaghebhjnaaGreatDoorShelf
import Derived.Test.YtgcmhaghebhjnaaGreatDoorPKcA
import Derived.Deep.RegionHeld3
set_option linter.unusedVariables false
set_option maxHeartbeats 16000000
set_option maxRecDepth 100000
namespace Go.Proofs.YtgcmhaghebhjnaaGreatDoor
open Go.RowKit Tryz List
variable {T :Nd} {W w w' w0:World} {X Y:List UInt8} {ai:Option Nat} {b b':Bool} {d d':Int} {f:FuncId} {mV n pb:Nat} {o:Obj} {t:Nat->List UInt8} {v:Value}
variable {G :Prop}
theorem af3 (h:G:=by
 clear FG IR HGA HR0A HR1A HB0A HV rS Ys RQ RP;have HP:=CG;have y:=CG.o.drew;obtain⟨⟨b0,b1,b2,b3⟩,⟨x0,x1,x2,x3⟩,⟨y0,y1,y2,y3⟩⟩:=Yl.o _ _ _ _ y;have HP:=Z y;clear y;go_region_held3 (fun W=>W.cell? ⟨w.heap.size+1+1,0,none⟩=some (.int .i64 K0.y)/\W.cell? ⟨w.heap.size+1+1,1,none⟩=some (.int .i64 K0.E)/\W.cell? ⟨w.heap.size+1+1,2,none⟩=some (.string K0.z)/\W.cell? ⟨w.heap.size+1+1,3,none⟩=some (.slice a0 l0 q0)) (go_keep) (first
  |(go_at_call 188;refine(HBB0.o _ _ _ _).mono ?_;rintro e w3a ⟨rfl,xV⟩;have y:=HP.o.drew.calm xV;obtain⟨⟨b0,b1,b2,b3⟩,⟨x0,x1,x2,x3⟩,⟨y0,y1,y2,y3⟩⟩:=Yl.o _ _ _ _ y;have HP:=Z y;clear y xV)
  |(go_at_call 186;refine(HP.o.group qc.o _ _ HGB.o mX.o HR0B.o nh.o aag).mono ?_;rintro e w3 ⟨⟨r,rfl⟩,y⟩;obtain⟨⟨b0,b1,b2,b3⟩,⟨x0,x1,x2,x3⟩,⟨y0,y1,y2,y3⟩⟩:=Yl.o _ _ _ _ y;have HP:=Z y;clear y))
 all_goals go_wp2
 all_goals go_region_with(go_at_call_of 57 w3;refine(HP.o.bm [⟨#[32]⟩,ts,⟨#[32]⟩] _ 3 _ M rfl rfl J aad).mono ?_;rintro e w4 ⟨⟨r,rfl⟩,y⟩;obtain⟨⟨b0,b1,b2,b3⟩,⟨x0,x1,x2,x3⟩,⟨y0,y1,y2,y3⟩⟩:=Yl.o _ _ _ _ y;have HP:=Z y;clear y)
 all_goals go_wp2
 all_goals go_region_held3 (fun W=>W.cell? ⟨w.heap.size+1,0,none⟩=some (.int .i64 K1.y)/\W.cell? ⟨w.heap.size+1,1,none⟩=some (.int .i64 K1.E)/\W.cell? ⟨w.heap.size+1,2,none⟩=some (.string K1.z)/\W.cell? ⟨w.heap.size+1,3,none⟩=some (.slice a1 l1 q1)) (go_keep) (first
  |(go_at_call 188;refine(HBB1.o _ _ _ _).mono ?_;rintro e w5a ⟨rfl,xV⟩;have y:=HP.o.drew.calm xV;obtain⟨⟨b0,b1,b2,b3⟩,⟨x0,x1,x2,x3⟩,⟨y0,y1,y2,y3⟩⟩:=Yl.o _ _ _ _ y;have HP:=Z y;clear y xV)
  |(go_at_call 186;refine(HP.o.group CI.o _ _ HGB.o vI.o HR1B.o tD.o aad).mono ?_;rintro e w5 ⟨⟨r,rfl⟩,y⟩;obtain⟨⟨b0,b1,b2,b3⟩,⟨x0,x1,x2,x3⟩,⟨y0,y1,y2,y3⟩⟩:=Yl.o _ _ _ _ y;have HP:=Z y;clear y))
 all_goals go_wp2
 all_goals go_end0
 all_goals exact L.au HB0B.o HP.o aal _):G:=h
theorem af4 (h:G:=by
 clear CG Yl HGB HR0B HR1B HB0B HV rS Ys RQ RP;have HP:=FG;have y:=FG.o.drew;obtain⟨⟨b0,b1,b2,b3⟩,⟨x0,x1,x2,x3⟩,⟨y0,y1,y2,y3⟩⟩:=IR.o _ _ _ _ y;have HP:=Z y;clear y;go_region_held3 (fun W=>W.cell? ⟨w.heap.size+1,0,none⟩=some (.int .i64 K0.y)/\W.cell? ⟨w.heap.size+1,1,none⟩=some (.int .i64 K0.E)/\W.cell? ⟨w.heap.size+1,2,none⟩=some (.string K0.z)/\W.cell? ⟨w.heap.size+1,3,none⟩=some (.slice a0 l0 q0)) (go_keep) (first
  |(go_at_call 188;refine(HBB0.o _ _ _ _).mono ?_;rintro e w3a ⟨rfl,xV⟩;have y:=HP.o.drew.calm xV;obtain⟨⟨b0,b1,b2,b3⟩,⟨x0,x1,x2,x3⟩,⟨y0,y1,y2,y3⟩⟩:=IR.o _ _ _ _ y;have HP:=Z y;clear y xV)
  |(go_at_call 186;refine(HP.o.group qc.o _ _ HGA.o mX.o HR0A.o nh.o aag).mono ?_;rintro e w3 ⟨⟨r,rfl⟩,y⟩;obtain⟨⟨b0,b1,b2,b3⟩,⟨x0,x1,x2,x3⟩,⟨y0,y1,y2,y3⟩⟩:=IR.o _ _ _ _ y;have HP:=Z y;clear y))
 all_goals go_wp2
 all_goals go_region_with(go_at_call_of 57 w3;refine(HP.o.bm [⟨#[32]⟩,ts,⟨#[32]⟩] _ 3 _ M rfl rfl J aad).mono ?_;rintro e w4 ⟨⟨r,rfl⟩,y⟩;obtain⟨⟨b0,b1,b2,b3⟩,⟨x0,x1,x2,x3⟩,⟨y0,y1,y2,y3⟩⟩:=IR.o _ _ _ _ y;have HP:=Z y;clear y)
 all_goals go_wp2
 all_goals go_region_held3 (fun W=>W.cell? ⟨w.heap.size+1+1,0,none⟩=some (.int .i64 K1.y)/\W.cell? ⟨w.heap.size+1+1,1,none⟩=some (.int .i64 K1.E)/\W.cell? ⟨w.heap.size+1+1,2,none⟩=some (.string K1.z)/\W.cell? ⟨w.heap.size+1+1,3,none⟩=some (.slice a1 l1 q1)) (go_keep) (first
  |(go_at_call 188;refine(HBB1.o _ _ _ _).mono ?_;rintro e w5a ⟨rfl,xV⟩;have y:=HP.o.drew.calm xV;obtain⟨⟨b0,b1,b2,b3⟩,⟨x0,x1,x2,x3⟩,⟨y0,y1,y2,y3⟩⟩:=IR.o _ _ _ _ y;have HP:=Z y;clear y xV)
  |(go_at_call 186;refine(HP.o.group CI.o _ _ HGA.o vI.o HR1A.o tD.o aad).mono ?_;rintro e w5 ⟨⟨r,rfl⟩,y⟩;obtain⟨⟨b0,b1,b2,b3⟩,⟨x0,x1,x2,x3⟩,⟨y0,y1,y2,y3⟩⟩:=IR.o _ _ _ _ y;have HP:=Z y;clear y))
 all_goals go_wp2
 all_goals go_end0
 all_goals exact L.au HB0A.o HP.o aal _):G:=h
theorem agb (h:G:=by
 obtain⟨k,z,rfl,HP⟩:=hrel;by_cases be:k<xs.length
 ·have c0:=HC.o _ _ _ _ HP.o k be;have iX:(j7 xs k).length+(xs.getD k ⟨#[]⟩).data.toList.length<=(j7 xs xs.length).length:=HL.o k be;have HX:Hid (j7 xs (k+1)=j7 xs k++(xs.getD k ⟨#[]⟩).data.toList):=rfl;generalize xs.getD k ⟨#[]⟩=s at*
  go_wp2_with(go_at_call 95;refine(HP.o.ws _ (by have:=HB.o;simp only[avu];omega)).mono ?_;rintro e w1 ⟨⟨r,rfl⟩,y⟩;have HP:=Z y;clear y)
  exact⟨⟨k+1,O,by go_num,Z (by rw[HX.o,<-avM];exact HP.o)⟩,by simp[intOf];omega⟩
 ·obtain rfl:k=xs.length:=O;go_wp2;go_end0;exact HP.o.ax M _):G:=h
theorem agd (h:G:=by
 go_wp2_with(first
  |(go_at_call 57;refine(HP.o.putAt [⟨#[44,32]⟩] _ 1 _ M rfl rfl J aak).mono ?_;rintro e w2 ⟨⟨r,rfl⟩,y⟩;obtain⟨b0,b1,b2,b3⟩:=rb.o _ _ _ _ y;have HP:=Z y;clear y)
  |(go_at_call 151;refine(HP.o.fn RM.o _ Ny.o ng.o Nu.o aak).mono ?_;rintro e w2 ⟨⟨r,rfl⟩,y⟩;have HP:=Z y;clear y))
 exact af5):G:=h
theorem age (h:G:=by
 simp only[Bool.true_or]at HB⊢;have hund:undef=Value.tuple #[]:=rfl;first
  |go_region_with(first|(go_at_call 186;refine(HP.o.drew.group qc.o true _ HG.o mX.o lJ.o nh.o aad).mono ?_;rintro e w5 ⟨⟨r,rfl⟩,y⟩;obtain⟨b0,b1,b2,b3⟩:=HN.o _ _ _ _ y;obtain⟨ej,ei,eh,ef⟩:=cZ.o _ _ _ _ y;obtain⟨x0,x1,x2,x3⟩:=Eh.o _ _ _ _ y;have HP:=Z y;clear y))
  |fail
 all_goals go_wp2
 all_goals go_end0
 all_goals exact L.au dC.o HP.o aal _):G:=h
theorem agf (h:G:=by intro d' b' Y W h;have e1:=h.kept rS.o w.heap.size lr aah;have e2:=h.kept rS.o (w.heap.size+1) O M;have e3:=h.kept rS.o (w.heap.size+1+1) O M;rw[e1,e1,e1,e1,e2,e2,e2,e2,e3,e3,e3,e3];refine⟨⟨?_,?_,?_,?_⟩,⟨?_,?_,?_,?_⟩,⟨?_,?_,?_,?_⟩⟩<;>simp[go_sem]):G:=h
theorem agh (h:G:=by exact af5):G:=h
theorem agi (h:G:=by exact⟨⟨1,O,by go_num,Z (HJ.o _ _ (by rw[HX.o];simpa[dN]using HP.o))⟩,by simp[intOf];omega⟩):G:=h
theorem agj (h:G:=by
 rcases ho.2 with⟨rfl,_⟩|⟨g,cap,cur,rfl,_⟩
 ·exact⟨_,_,_,rfl⟩
 ·exact⟨_,_,_,rfl⟩):G:=h
theorem agk (h:G:=by rintro e w' ⟨he,fl,h3,h4⟩;exact⟨he,⟨fl,h3,h2.trans h4⟩,h.below.trans (h4.ch h1)⟩):G:=h
theorem Xh (h:G:=by go_wp2;go_end0;exact L.au dC.o HP.o aal _):G:=h
theorem af5 (h:G:=by exact⟨⟨j+1,O,by go_num,Z (HJ.o _ _ (by rw[HX.o];simpa[dN]using HP.o))⟩,by simp[intOf];omega⟩):G:=h
theorem af6 (h:G:=by have aq8:=kk;exact af9):G:=h
theorem Xg (h:G:=by
 have Nu:=Z<|dS oE (ah HP.o.below lr pH)<|.cells #[.int .i64 (T.f j).y,.int .i64 (T.f j).E,.string (T.f j).z,.slice au lu cu] 25;have Ny:=Z<|(HG.o.keep HP.o.below).alloc oE.lt<|.cells #[.int .i64 (T.f j).y,.int .i64 (T.f j).E,.string (T.f j).z,.slice au lu cu] 25;have IL:=Z<|L.aj oE<|.cells #[.int .i64 (T.f j).y,.int .i64 (T.f j).E,.string (T.f j).z,.slice au lu cu] 25;have rb:=Z<|L.node oE (.int .i64 (T.f j).y) (.int .i64 (T.f j).E) (.string (T.f j).z) (.slice au lu cu) 25;have HJ:=Z fun Y W(h:L pb own1 (wr.alloc<|.cells #[.int .i64 (T.f j).y,.int .i64 (T.f j).E,.string (T.f j).z,.slice au lu cu] 25) d true Y W)=>lV _ _ Y W _ h;rw[ic.o,avu]at iX;clear HP z hc pH hv bo oE lV ic;have HP:=IL;clear IL;generalize T.f j=K at*
 first
 |clear aq1
  go_wp2_with(first
   |(go_at_call 57;refine(HP.o.putAt [⟨#[32]⟩] _ 1 _ M rfl rfl J aak).mono ?_;rintro e w2 ⟨⟨r,rfl⟩,y⟩;obtain⟨b0,b1,b2,b3⟩:=rb.o _ _ _ _ y;have HP:=Z y;clear y)
   |(go_at_call 151;refine(HP.o.fn RM.o _ Ny.o ng.o Nu.o aak).mono ?_;rintro e w2 ⟨⟨r,rfl⟩,y⟩;have HP:=Z y;clear y))
  exact agh
 |clear aq2
  exact agd
 |clear aq3
  generalize t j=tj at*
  by_cases hj0:0<j;first
  |clear aqZ
   ·have I5:j≠0:=O;rw[avo I5]at iX HX;exact agd
   ·obtain rfl:j=0:=O;simp only[Nat.zero_mul,Nat.add_zero]at c0 c1 c2 c3;rw[avA rfl]at iX HX;go_wp2_with(go_at_call 151;refine(HP.o.fn RM.o _ Ny.o ng.o Nu.o aak).mono ?_;rintro e w2 ⟨⟨r,rfl⟩,y⟩;have HP:=Z y;clear y)
    exact agi
  |clear aq0
   ·have I5:j≠0:=O;rw[avo I5]at iX HX;go_wp2_with(first
     |(go_at_call 57;refine(HP.o.putAt [⟨#[44,32]⟩] _ 1 _ M rfl rfl J aak).mono ?_;rintro e w2 ⟨⟨r,rfl⟩,y⟩;obtain⟨b0,b1,b2,b3⟩:=rb.o _ _ _ _ y;have HP:=Z y;clear y)
     |(go_at_call 59;refine(HP.o.fn RM.o _ Ny.o ng.o Nu.o aak).mono ?_;rintro e w2 ⟨⟨r,rfl⟩,y⟩;have HP:=Z y;clear y))
    exact agh
   ·obtain rfl:j=0:=O;simp only[Nat.zero_mul,Nat.add_zero]at c0 c1 c2 c3;rw[avA rfl]at iX HX;go_wp2_with(go_at_call 59;refine(HP.o.fn RM.o _ Ny.o ng.o Nu.o aak).mono ?_;rintro e w2 ⟨⟨r,rfl⟩,y⟩;have HP:=Z y;clear y)
    exact agi):G:=h
theorem af7 (h:G:=by have ark:=kk;exact agc):G:=h
theorem af8 (h:G:=by have aq9:=kk;exact af9):G:=h
theorem af9 (h:G:=by
 obtain⟨g,off,nR,hv,hgp,bo,z⟩:=gX HR.o O;obtain rfl:a=some ⟨g,off,none⟩:=by injection hv
 obtain⟨u,hc,pH⟩:=z j O;obtain⟨c0,c1,c2,c3⟩:=hc _ HP.o.below;obtain⟨au,lu,cu,rfl⟩:∃a l c,u=.slice a l c:=by obtain⟨a,c,h,_⟩:=ar.1 pH;exact⟨a,_,c,h⟩
 obtain⟨own1,oE,lV⟩:=HP.o.join;have iX:=FJ.o j be;first
 |clear aq8
  have ic:Hid (F j=(if j=0 then[]else[44,32])++t j):=by rw[<-vH.o];rfl
  have RM:=Z<|HW.o j be;have ng:=Z (Nd.aa HF.o<|show j<T.q by omega);have HX:Hid (ay F (j+1)=ay F j++((if j=0 then[]else[44,32])++t j)):=by unfold Hid;rw[<-ic.o];rfl
  have aq3:=kk;exact Xg
 |clear aq9
  have RM:=Z<|HW.o j be;have ng:=Z (Nd.aa HF.o<|show j<T.q by omega);first
  |clear aq6
   have ic:Hid (F j=[32]++(aJ<|T.f j).ex 1):=by rw[<-vH.o];rfl
   have HX:Hid (ay F (j+1)=ay F j++([32]++(aJ<|T.f j).ex 1)):=by unfold Hid;rw[<-ic.o];rfl
   have aq1:=kk;exact Xg
  |clear aq7
   have ic:Hid (F j=[44,32]++(aJ<|T.f j).ex 1):=by rw[<-vH.o];rfl
   have HX:Hid (ay F (j+1)=ay F j++([44,32]++(aJ<|T.f j).ex 1)):=by unfold Hid;rw[<-ic.o];rfl
   have aq2:=kk;exact Xg):G:=h
theorem aga (h:G:=by
 have HP:=Z<|L.aj ab<|.cells #[.int .i64 T.y,.int .i64 T.E,.string T.z,.slice a T.q cap] 25;have HN:=Z<|L.node ab (.int .i64 T.y) (.int .i64 T.E) (.string T.z) (.slice a T.q cap) 25;have HR:=Z<|dS ab hr<|.cells #[.int .i64 T.y,.int .i64 T.E,.string T.z,.slice a T.q cap] 25;first
 |clear ara
  have HG:=Z<|hg.alloc ab.lt<|.cells #[.int .i64 T.y,.int .i64 T.E,.string T.z,.slice a T.q cap] 25;have HI:=Z ih;have HF:=Z hf;have HE:=Z ax;have HB:=Z I;clear ab hg hf hr ax I ih;unfold Nd.val;cases par
  ·go_enter func186,ntmps186
   go_wp2_with(go_at_call 151;refine(HP.o.expr HI.o _ HG.o HF.o HR.o HE.o HB.o).mono ?_;rintro e w2 ⟨⟨r,rfl⟩,y⟩;have HP:=Z y;clear y)
   go_end0;exact HP.o.ax rfl _
  ·go_enter func186,ntmps186
   go_wp2_with(first
    |(go_at_call_of 57 w;refine(HP.o.putAt [⟨#[40]⟩] _ _ _ M rfl rfl J (by have:=HB.o;simp[j7,ay,jJ]at this⊢;omega)).mono ?_;rintro e w2 ⟨⟨r,rfl⟩,y⟩;obtain⟨b0,b1,b2,b3⟩:=HN.o _ _ _ _ y;have HP:=Z y;clear y)
    |(go_at_call 151;refine(HP.o.expr HI.o _ HG.o HF.o HR.o HE.o abd).mono ?_;rintro e w3 ⟨⟨r,rfl⟩,y⟩;have HP:=Z y;clear y)
    |(go_at_call_of 57 w3;refine(HP.o.putAt [⟨#[41]⟩] _ _ _ rfl rfl rfl J abd).mono ?_;rintro e w4 ⟨⟨r,rfl⟩,y⟩;have HP:=Z y;clear y))
   go_end0;exact HP.o.ax (by simp[j7,ay,jJ,pZ]) _
 |clear arb
  have qZ:=hg.alloc ab.lt<|.cells #[.int .i64 T.y,.int .i64 T.E,.string T.z,.slice a T.q cap] 25;have HG:=Z qZ;have HT:Hid (∀W,Below pb (w.alloc<|.cells #[.int .i64 T.y,.int .i64 T.E,.string T.z,.slice a T.q cap] 25) W->W.cell? ⟨0,3,none⟩=some (.string ⟨#[99,104,97,110,32,105,110,116]⟩)):=fun W hW=>(qZ W hW).2 3 J;have t3:=HT.o _<|avB _ _;have HB:=Z I;have HW:=Z hW;have HF:=Z hf;have HM:Hid (∀d' b' Y W,L pb own (w.alloc<|.cells #[.int .i64 T.y,.int .i64 T.E,.string T.z,.slice a T.q cap] 25) d' b' Y W->W.cell? ⟨w.heap.size,3,none⟩=some (.slice a T.q cap)):=fun d' b' Y W h=>(L.node ab (.int .i64 T.y) (.int .i64 T.E) (.string T.z) (.slice a T.q cap) 25 d' b' Y W h).2.2.2;clear I ab hr hW hg hf qZ;generalize hF:(fun i=>[44,32]++(aJ<|T.f i).ex 1)=F at*
  have vH:=Z hF;have FJ:=Z fun i(h:i<T.q)=>gO F h;clear hF;generalize T.z=ts at*
  generalize T.E=tn at*
  generalize T.y=tk at*
  go_enter func175,ntmps175
  go_wp2;go_region_with(go_at_call_of 57 w;refine(HP.o.bm [⟨#[109,97,107,101,40]⟩,⟨#[99,104,97,110,32,105,110,116]⟩] _ 2 _ M rfl rfl J aad).mono ?_;rintro e w2 ⟨⟨r,rfl⟩,y⟩;have b3:=HM.o _ _ _ _ y;have HP:=Z y;clear y)
  go_wp2;go_loopw[16] (fun i wr=>∃j:Nat,j<=T.q/\i=.int .i64 j/\Hid (L pb own (w.alloc<|.cells #[.int .i64 tk,.int .i64 tn,.string ts,.slice a T.q cap] 25) d true ((X++(ahead d b++[109,97,107,101,40,99,104,97,110,32,105,110,116]))++ay F j) wr)) (fun i _=>T.q-(intOf i).toNat)
  case atStart=>exact⟨0,O,rfl,Z aba⟩
  case round=>
   obtain⟨j,hj,rfl,HP⟩:=hrel;by_cases be:j<T.q
   ·have aq7:=kk;exact af8
   ·obtain rfl:j=T.q:=O;go_wp2_with(go_at_call 57;refine(HP.o.putAt [⟨#[41]⟩] _ 1 _ M rfl rfl J aad).mono ?_;rintro e w4 ⟨⟨r,rfl⟩,y⟩;have HP:=Z y;clear y)
    go_end0;exact HP.o.ax aal _):G:=h
theorem Xf (h:G:=by
  obtain⟨g,off,cap,rfl,hgp,bo,aZ⟩:=gX hr O;obtain⟨u0,ey,dR⟩:=aZ 0 O;simp only[Nat.zero_mul,Nat.add_zero]at ey;have fy:0<T.q:=O;first
  | clear arc
    have aE:T.val (.slice (some ⟨g,off,none⟩) T.q cap)=.agg #[.int .i64 27,.int .i64 T.E,.string T.z,.slice (some ⟨g,off,none⟩) T.q cap]:=by unfold Nd.val;rw[z]
    rw[aE];obtain⟨a0,l0,c0,hu0⟩:∃a l c,u0=.slice a l c:=by obtain⟨a,c,h,_⟩:=ar.1 dR;exact⟨a,_,c,h⟩
    subst hu0;have aR:Below w.heap.size w ((w.alloc (.cells #[.int .i64 27,.int .i64 T.E,.string T.z,.slice (some ⟨g,off,none⟩) T.q cap] 25)).alloc (.cells #[.int .i64 (T.f 0).y,.int .i64 (T.f 0).E,.string (T.f 0).z,.slice a0 l0 c0] 25)):=((bO w _).alloc M _);have HP:=Z (L.af ab aR);have HN:=Z (fun d' b' Y W(h:L pb own ((w.alloc (.cells #[.int .i64 27,.int .i64 T.E,.string T.z,.slice (some ⟨g,off,none⟩) T.q cap] 25)).alloc (.cells #[.int .i64 (T.f 0).y,.int .i64 (T.f 0).E,.string (T.f 0).z,.slice a0 l0 c0] 25)) d' b' Y W)=>(show W.cell? ⟨w.heap.size,0,none⟩=some (.int .i64 27)/\W.cell? ⟨w.heap.size,1,none⟩=some (.int .i64 T.E)/\W.cell? ⟨w.heap.size,2,none⟩=some (.string T.z)/\W.cell? ⟨w.heap.size,3,none⟩=some (.slice (some ⟨g,off,none⟩) T.q cap) by
      have e:=h.kept ab w.heap.size lr aah
      rw[e,e,e,e];refine⟨?_,?_,?_,?_⟩<;>simp[go_sem]))
    have HG:=Z (bU ab aR hg);have dC:=Z aR;have Eh:=Z (fun d' b' Y W(h:L pb own ((w.alloc (.cells #[.int .i64 27,.int .i64 T.E,.string T.z,.slice (some ⟨g,off,none⟩) T.q cap] 25)).alloc (.cells #[.int .i64 (T.f 0).y,.int .i64 (T.f 0).E,.string (T.f 0).z,.slice a0 l0 c0] 25)) d' b' Y W)=>(show W.cell? ⟨w.heap.size+1,0,none⟩=some (.int .i64 (T.f 0).y)/\W.cell? ⟨w.heap.size+1,1,none⟩=some (.int .i64 (T.f 0).E)/\W.cell? ⟨w.heap.size+1,2,none⟩=some (.string (T.f 0).z)/\W.cell? ⟨w.heap.size+1,3,none⟩=some (.slice a0 l0 c0) by
      have e:=h.kept ab (w.heap.size+1) O M
      rw[e,e,e,e];refine⟨?_,?_,?_,?_⟩<;>simp[go_sem]))
    have cZ:=Z fun d' b' Y W(h:L pb own ((w.alloc<|.cells #[.int .i64 27,.int .i64 T.E,.string T.z,.slice (some ⟨g,off,none⟩) T.q cap] 25).alloc<|.cells #[.int .i64 (T.f 0).y,.int .i64 (T.f 0).E,.string (T.f 0).z,.slice a0 l0 c0] 25) d' b' Y W)=>ey W<|h.aQ ab aR;have lJ:=Z<|cw ab aR dR;have mX:=Z<|Nd.aa hf fy;have HB:=Z I;obtain⟨ej,ei,eh,ef⟩:=cZ.o _ _ _ _ HP.o;obtain⟨e00,e01,e02,e03⟩:=ey (w.alloc<|.cells #[.int .i64 27,.int .i64 T.E,.string T.z,.slice (some ⟨g,off,none⟩) T.q cap] 25)<|(avB pb w).alloc aaX _;have qc:=Z<|ih 0 fy;have nh:=Z jv;clear ih jv ax z hlen I hr hf ab hg aE aR ey dR aZ bo;generalize T.f 0=K0 at*
    have HM:=Z fun W:World=>xA K0 W a0 l0 c0;have HMT:Hid (∀W:World,Calls prog 187 #[.agg #[.int .i64 27,.int .i64 T.E,.string T.z,.slice (some ⟨g,off,none⟩) T.q cap]] W fun e w'=>e=.returned (.bool<|T.z.toList==[45])/\Below W.heap.size W w'):=by
      intro W;have:=xA (.mk 27 T.E T.z T.q T.f) W (some ⟨g,off,none⟩) T.q cap;simpa[Nd.val,Nd.y,Nd.E,Nd.z]using this
    unfold Nd.val at HM;generalize T.z=ts at*
    generalize T.E=tn at*
    cases h1:(K0.y==28);all_goals cases h2:(ts.toList==[45])
    all_goals rw[h1,h2]at HB
    all_goals rw[h2]at HMT
    all_goals go_enter func176,ntmps176
    all_goals go_wp2
    all_goals go_region_with(go_at_call_of 57 w;refine(HP.o.bm [ts] _ 1 _ M rfl rfl J aad).mono ?_;rintro e w2 ⟨⟨r,rfl⟩,y⟩;obtain⟨b0,b1,b2,b3⟩:=HN.o _ _ _ _ y;obtain⟨ej,ei,eh,ef⟩:=cZ.o _ _ _ _ y;obtain⟨x0,x1,x2,x3⟩:=Eh.o _ _ _ _ y;have HP:=Z y;clear y)
    all_goals go_wp2
    · simp only[Bool.false_or,aw2]at HB⊢;go_region_with(first
        | (go_at_call_of 187 tn;refine(HMT.o _).mono ?_;rintro e w3 ⟨rfl,xV⟩;have y:=HP.o.drew.calm xV;obtain⟨b0,b1,b2,b3⟩:=HN.o _ _ _ _ y;obtain⟨ej,ei,eh,ef⟩:=cZ.o _ _ _ _ y;obtain⟨x0,x1,x2,x3⟩:=Eh.o _ _ _ _ y;have HP:=Z y;clear y xV)
        | (go_at_call 186;refine(HP.o.group qc.o false _ HG.o mX.o lJ.o nh.o aad).mono ?_;rintro e w5 ⟨⟨r,rfl⟩,y⟩;obtain⟨b0,b1,b2,b3⟩:=HN.o _ _ _ _ y;obtain⟨ej,ei,eh,ef⟩:=cZ.o _ _ _ _ y;obtain⟨x0,x1,x2,x3⟩:=Eh.o _ _ _ _ y;have HP:=Z y;clear y))
      all_goals go_wp2
      all_goals go_end0
      all_goals exact L.au dC.o HP.o aal _
    · simp only[Bool.false_or,Bool.true_and]at HB⊢;generalize ((K0.y==27)&&(K0.z.toList==[45]))=par at*
      go_region_held3 (fun W=>W.cell? ⟨w.heap.size,0,none⟩=some (.int .i64 27)/\W.cell? ⟨w.heap.size,1,none⟩=some (.int .i64 tn)/\W.cell? ⟨w.heap.size,2,none⟩=some (.string ts)/\W.cell? ⟨w.heap.size,3,none⟩=some (.slice (some ⟨g,off,none⟩) T.q cap)/\W.cell? ⟨w.heap.size+1,0,none⟩=some (.int .i64 K0.y)/\W.cell? ⟨w.heap.size+1,1,none⟩=some (.int .i64 K0.E)/\W.cell? ⟨w.heap.size+1,2,none⟩=some (.string K0.z)/\W.cell? ⟨w.heap.size+1,3,none⟩=some (.slice a0 l0 c0)) (go_keep) (first
        | (go_at_call_of 187 tn;refine(HMT.o _).mono ?_;rintro e w3 ⟨rfl,xV⟩;have y:=HP.o.drew.calm xV;obtain⟨b0,b1,b2,b3⟩:=HN.o _ _ _ _ y;obtain⟨ej,ei,eh,ef⟩:=cZ.o _ _ _ _ y;obtain⟨x0,x1,x2,x3⟩:=Eh.o _ _ _ _ y;have HP:=Z y;clear y xV)
        | (go_at_call_of 187 K0;refine(HM.o _).mono ?_;rintro e w4 ⟨rfl,xV⟩;have y:=HP.o.calm xV;obtain⟨b0,b1,b2,b3⟩:=HN.o _ _ _ _ y;obtain⟨ej,ei,eh,ef⟩:=cZ.o _ _ _ _ y;obtain⟨x0,x1,x2,x3⟩:=Eh.o _ _ _ _ y;have HP:=Z y;clear y xV)
        | (go_at_call 186;refine(HP.o.group qc.o par _ HG.o mX.o lJ.o nh.o aad).mono ?_;rintro e w5 ⟨⟨r,rfl⟩,y⟩;obtain⟨b0,b1,b2,b3⟩:=HN.o _ _ _ _ y;obtain⟨ej,ei,eh,ef⟩:=cZ.o _ _ _ _ y;obtain⟨x0,x1,x2,x3⟩:=Eh.o _ _ _ _ y;have HP:=Z y;clear y))
      all_goals go_wp2
      all_goals go_end0
      all_goals exact L.au dC.o HP.o aal _
    · exact age
    · exact age
  | clear ard
    have aE:T.val (.slice (some ⟨g,off,none⟩) T.q cap)=.agg #[.int .i64 29,.int .i64 T.E,.string T.z,.slice (some ⟨g,off,none⟩) T.q cap]:=by unfold Nd.val;rw[z]
    rw[aE];have aR:Below w.heap.size w (w.alloc (.cells #[.int .i64 29,.int .i64 T.E,.string T.z,.slice (some ⟨g,off,none⟩) T.q cap] 25)):=(bO w _);have HP:=Z (L.af ab aR);have HN:=Z (fun d' b' Y W(h:L pb own (w.alloc (.cells #[.int .i64 29,.int .i64 T.E,.string T.z,.slice (some ⟨g,off,none⟩) T.q cap] 25)) d' b' Y W)=>(show W.cell? ⟨w.heap.size,0,none⟩=some (.int .i64 29)/\W.cell? ⟨w.heap.size,1,none⟩=some (.int .i64 T.E)/\W.cell? ⟨w.heap.size,2,none⟩=some (.string T.z)/\W.cell? ⟨w.heap.size,3,none⟩=some (.slice (some ⟨g,off,none⟩) T.q cap) by
      have e:=h.kept ab w.heap.size lr M
      rw[e,e,e,e];refine⟨?_,?_,?_,?_⟩<;>simp[go_sem]))
    have HG:=Z<|bU ab aR hg;have dC:=Z aR;have cZ:=Z fun d' b' Y W(h:L pb own (w.alloc<|.cells #[.int .i64 29,.int .i64 T.E,.string T.z,.slice (some ⟨g,off,none⟩) T.q cap] 25) d' b' Y W)=>ey W<|h.aQ ab aR;have lJ:=Z<|cw ab aR dR;have mX:=Z<|Nd.aa hf fy;have HB:=Z I;obtain⟨ej,ei,eh,ef⟩:=cZ.o _ _ _ _ HP.o;have HV:=Z<|yQ (T.f 0) (ih 0 fy) jv;clear ih ax z hlen jv I hr hf ab hg aE aR ey dR aZ bo;generalize T.f 0=K0 at*
    have arp:=kk;exact MY
  | clear are
    obtain⟨u1,eO,fQ⟩:=aZ 1 O;simp only[awg]at eO;have gY:1<T.q:=O;have aE:T.val (.slice (some ⟨g,off,none⟩) T.q cap)=.agg #[.int .i64 28,.int .i64 T.E,.string T.z,.slice (some ⟨g,off,none⟩) 2 cap]:=by unfold Nd.val;rw[z,hlen]
    rw[aE];have aR:Below w.heap.size w (w.alloc (.cells #[.int .i64 28,.int .i64 T.E,.string T.z,.slice (some ⟨g,off,none⟩) 2 cap] 25)):=(bO w _);have HP:=Z (L.af ab aR);have HN:=Z (fun d' b' Y W(h:L pb own (w.alloc (.cells #[.int .i64 28,.int .i64 T.E,.string T.z,.slice (some ⟨g,off,none⟩) 2 cap] 25)) d' b' Y W)=>(show W.cell? ⟨w.heap.size,0,none⟩=some (.int .i64 28)/\W.cell? ⟨w.heap.size,1,none⟩=some (.int .i64 T.E)/\W.cell? ⟨w.heap.size,2,none⟩=some (.string T.z)/\W.cell? ⟨w.heap.size,3,none⟩=some (.slice (some ⟨g,off,none⟩) 2 cap) by
      have e:=h.kept ab w.heap.size lr M
      rw[e,e,e,e];refine⟨?_,?_,?_,?_⟩<;>simp[go_sem]))
    have HG:=Z<|bU ab aR hg;have dC:=Z aR;have cZ:=Z fun d' b' Y W(h:L pb own (w.alloc<|.cells #[.int .i64 28,.int .i64 T.E,.string T.z,.slice (some ⟨g,off,none⟩) 2 cap] 25) d' b' Y W)=>ey W<|h.aQ ab aR;have lJ:=Z<|cw ab aR dR;have mX:=Z<|Nd.aa hf fy;have fU:=Z fun d' b' Y W(h:L pb own (w.alloc<|.cells #[.int .i64 28,.int .i64 T.E,.string T.z,.slice (some ⟨g,off,none⟩) 2 cap] 25) d' b' Y W)=>eO W<|h.aQ ab aR;have rQ:=Z<|cw ab aR fQ;have vI:=Z<|Nd.aa hf gY;have HB:=Z I;obtain⟨ej,ei,eh,ef⟩:=cZ.o _ _ _ _ HP.o;obtain⟨jq,ja,jo,iZ⟩:=fU.o _ _ _ _ HP.o;have qc:=Z<|ih 0 fy;have CI:=Z<|ih 1 gY;have nh:=Z jv;have tD:=Z zn;have HV:=Z fun W:World=>lA T.z W;have rS:=Z ab;have Ys:=Z hg;have RQ:=Z dR;have RP:=Z fQ;clear ih jv zn ax z hlen fy gY I hr hf ab hg aE aR ey dR eO fQ aZ bo;generalize T.f 0=K0 at*
    generalize T.f 1=K1 at*
    generalize bV T.z=lv at*
    generalize T.z=ts at*
    generalize T.E=tn at*
    have HBB0:Hid (∀W:World,∀a l c,Calls prog 188 #[K0.val<|.slice a l c,.int .i64 lv] W fun e w'=>e=.returned (.bool<|decide (K0.y=28)&&decide (bV K0.z<lv))/\Below W.heap.size W w'):=fun W a l c=>yo K0 W a l c lv;have HBB1:Hid (∀W:World,∀a l c,Calls prog 188 #[K1.val<|.slice a l c,.int .i64<|(lv:Int)+1] W fun e w'=>e=.returned (.bool<|decide (K1.y=28)&&decide (bV K1.z<lv+1))/\Below W.heap.size W w'):=fun W a l c=>yo K1 W a l c<|lv+1;obtain⟨a0,l0,q0,rfl⟩:∃a l c,u0=.slice a l c:=by obtain⟨a,c,h,_⟩:=ar.1 lJ.o;exact⟨a,_,c,h⟩
    obtain⟨a1,l1,q1,rfl⟩:∃a l c,u1=.slice a l c:=by obtain⟨a,c,h,_⟩:=ar.1 rQ.o;exact⟨a,_,c,h⟩
    obtain⟨b0,b1,b2,b3⟩:=HN.o _ _ _ _ HP.o;have bM:Below w.heap.size w (((w.alloc<|.cells #[.int .i64 28,.int .i64 tn,.string ts,.slice (some ⟨g,off,none⟩) 2 cap] 25).alloc<|.cells #[.int .i64 K0.y,.int .i64 K0.E,.string K0.z,.slice a0 l0 q0] 25).alloc<|.cells #[.int .i64 K1.y,.int .i64 K1.E,.string K1.z,.slice a1 l1 q1] 25):=((bO w _).alloc M _).alloc aah _;have FG:=Z<|L.af rS.o bM;have HB0A:=Z bM;have HGA:=Z<|bU rS.o bM Ys.o;have HR0A:=Z<|cw rS.o bM RQ.o;have HR1A:=Z<|cw rS.o bM RP.o;have IR:Hid (∀d' b' Y W,L pb own (((w.alloc<|.cells #[.int .i64 28,.int .i64 tn,.string ts,.slice (some ⟨g,off,none⟩) 2 cap] 25).alloc<|.cells #[.int .i64 K0.y,.int .i64 K0.E,.string K0.z,.slice a0 l0 q0] 25).alloc<|.cells #[.int .i64 K1.y,.int .i64 K1.E,.string K1.z,.slice a1 l1 q1] 25) d' b' Y W->(W.cell? ⟨w.heap.size,0,none⟩=some (.int .i64 28)/\W.cell? ⟨w.heap.size,1,none⟩=some (.int .i64 tn)/\W.cell? ⟨w.heap.size,2,none⟩=some (.string ts)/\W.cell? ⟨w.heap.size,3,none⟩=some (.slice (some ⟨g,off,none⟩) 2 cap))/\(W.cell? ⟨w.heap.size+1,0,none⟩=some (.int .i64 K0.y)/\W.cell? ⟨w.heap.size+1,1,none⟩=some (.int .i64 K0.E)/\W.cell? ⟨w.heap.size+1,2,none⟩=some (.string K0.z)/\W.cell? ⟨w.heap.size+1,3,none⟩=some (.slice a0 l0 q0))/\(W.cell? ⟨w.heap.size+1+1,0,none⟩=some (.int .i64 K1.y)/\W.cell? ⟨w.heap.size+1+1,1,none⟩=some (.int .i64 K1.E)/\W.cell? ⟨w.heap.size+1+1,2,none⟩=some (.string K1.z)/\W.cell? ⟨w.heap.size+1+1,3,none⟩=some (.slice a1 l1 q1))):=by
      exact agf
    clear bM;have Fe:Below w.heap.size w (((w.alloc<|.cells #[.int .i64 28,.int .i64 tn,.string ts,.slice (some ⟨g,off,none⟩) 2 cap] 25).alloc<|.cells #[.int .i64 K1.y,.int .i64 K1.E,.string K1.z,.slice a1 l1 q1] 25).alloc<|.cells #[.int .i64 K0.y,.int .i64 K0.E,.string K0.z,.slice a0 l0 q0] 25):=((bO w _).alloc M _).alloc aah _;have CG:=Z<|L.af rS.o Fe;have HB0B:=Z Fe;have HGB:=Z<|bU rS.o Fe Ys.o;have HR0B:=Z<|cw rS.o Fe RQ.o;have HR1B:=Z<|cw rS.o Fe RP.o;have Yl:Hid (∀d' b' Y W,L pb own (((w.alloc<|.cells #[.int .i64 28,.int .i64 tn,.string ts,.slice (some ⟨g,off,none⟩) 2 cap] 25).alloc<|.cells #[.int .i64 K1.y,.int .i64 K1.E,.string K1.z,.slice a1 l1 q1] 25).alloc<|.cells #[.int .i64 K0.y,.int .i64 K0.E,.string K0.z,.slice a0 l0 q0] 25) d' b' Y W->(W.cell? ⟨w.heap.size,0,none⟩=some (.int .i64 28)/\W.cell? ⟨w.heap.size,1,none⟩=some (.int .i64 tn)/\W.cell? ⟨w.heap.size,2,none⟩=some (.string ts)/\W.cell? ⟨w.heap.size,3,none⟩=some (.slice (some ⟨g,off,none⟩) 2 cap))/\(W.cell? ⟨w.heap.size+1+1,0,none⟩=some (.int .i64 K0.y)/\W.cell? ⟨w.heap.size+1+1,1,none⟩=some (.int .i64 K0.E)/\W.cell? ⟨w.heap.size+1+1,2,none⟩=some (.string K0.z)/\W.cell? ⟨w.heap.size+1+1,3,none⟩=some (.slice a0 l0 q0))/\(W.cell? ⟨w.heap.size+1,0,none⟩=some (.int .i64 K1.y)/\W.cell? ⟨w.heap.size+1,1,none⟩=some (.int .i64 K1.E)/\W.cell? ⟨w.heap.size+1,2,none⟩=some (.string K1.z)/\W.cell? ⟨w.heap.size+1,3,none⟩=some (.slice a1 l1 q1))):=by
      exact agf
    clear Fe;have hwl:IntKind.i64.wrap ((lv:Int)+1)=(lv:Int)+1:=by simp[IntKind.wrap,IntKind.bits,IntKind.signed];omega
    go_enter func177,ntmps177
    go_wp2;first
      | go_region_held3 (fun W=>W.cell? ⟨w.heap.size,2,none⟩=some (.string ts)/\W.cell? ⟨w.heap.size,3,none⟩=some (.slice (some ⟨g,off,none⟩) 2 cap)/\W.cell? ⟨g,off,none⟩=some (.int .i64 K0.y)/\W.cell? ⟨g,off+1,none⟩=some (.int .i64 K0.E)/\W.cell? ⟨g,off+2,none⟩=some (.string K0.z)/\W.cell? ⟨g,off+3,none⟩=some (.slice a0 l0 q0)/\W.cell? ⟨g,off+4,none⟩=some (.int .i64 K1.y)/\W.cell? ⟨g,off+4+1,none⟩=some (.int .i64 K1.E)/\W.cell? ⟨g,off+4+2,none⟩=some (.string K1.z)/\W.cell? ⟨g,off+4+3,none⟩=some (.slice a1 l1 q1)) (go_keep) (first|(go_at_call 83;refine(HV.o _).mono ?_;rintro e w2 ⟨rfl,rfl⟩))
      | fail
    all_goals go_wp2_with fail
    · exact af4
    · exact af3
    · exact af4
    · exact af4
    · exact af3
    · exact af3):G:=h
theorem Xe (h:G:=by
 rw[aE]at HV;have HB:=Z I;clear z I hr hf ab hg aE aR;generalize (aJ T).ex 1=tx at*
 have arq:=kk;exact MY):G:=h
theorem agc (h:G:=by
 have Bn:=T.I hf;have HP:=Z<|L.start ab;have HB:=Z I;have HR:=Z hr;have HW:=Z hW;have HG:=Z hg;have HF:=Z hf;clear I ab hr hW hg hf;first
 |clear arj
  generalize hF:(fun i=>[32]++(aJ<|T.f i).ex 1)=F at*
  have vH:=Z hF;have FJ:=Z fun i(h:i<n)=>gO F h;clear hF;go_enter func154,ntmps154
  go_wp2_with(go_at_call_of 57 w;refine(HP.o.putAt [s] _ 1 _ M rfl rfl J aad).mono ?_;rintro e w2 ⟨⟨r,rfl⟩,y⟩;have HP:=Z y;clear y)
  go_loopw[16] (fun i wr=>∃j:Nat,j<=n/\i=.int .i64 j/\Hid (L pb own w d true ((X++(ahead d b++s.data.toList))++ay F j) wr)) (fun i _=>n-(intOf i).toNat)
  case atStart=>exact⟨0,O,rfl,Z aba⟩
  case round=>
   obtain⟨j,hj,rfl,HP⟩:=hrel;by_cases be:j<n
   ·have aq6:=kk;exact af8
   ·obtain rfl:j=n:=O;go_wp2;go_end0;exact HP.o.cU M _
 |clear ark
  generalize hF:(fun i=>(if i=0 then[]else[44,32])++t i)=F at*
  have vH:=Z hF;have FJ:=Z fun i(h:i<n)=>gO F h;clear hF;go_enter func58,ntmps58
  go_wp2;go_loopw[10] (fun i wr=>∃j:Nat,j<=n/\i=.int .i64 j/\Hid (L pb own w d true (X++ay F j) wr)) (fun i _=>n-(intOf i).toNat)
  case atStart=>exact⟨0,O,rfl,Z aaA⟩
  first
  |clear aq4
   case round=>
    obtain⟨j,hj,rfl,HP⟩:=hrel;by_cases be:j<n
    ·have aqZ:=kk;exact af6
    ·obtain rfl:j=n:=O;go_wp2;go_end0;exact HP.o.cU rfl _
  |clear aq5
   case round=>
    obtain⟨j,hj,rfl,HP⟩:=hrel;by_cases be:j<n
    ·have aq0:=kk;exact af6
    ·obtain rfl:j=n:=O;go_wp2;go_end0;exact HP.o.cU rfl _):G:=h
theorem MY (h:G:=by
 generalize T.z=ts at*
 generalize T.E=tn at*
 go_enter func151,ntmps151
 first
 |clear arl
  go_wp2;go_region_with(first
   |(go_at_call_of 57 w;refine(HP.o.bm [ts] _ 1 _ M rfl rfl J aad).mono ?_;rintro e w2 ⟨⟨r,rfl⟩,y⟩;obtain⟨b0,b1,b2,b3⟩:=HN.o _ _ _ _ y;have HP:=Z y;clear y))
  exact Xh
 |clear arn
  go_wp2;go_region_with(first
   |(go_at_call 174;refine(HV.o _).mono ?_;rintro e w2 ⟨rfl,rfl⟩)
   |(go_at_call_of 57 w;refine(HP.o.bm [fb] _ 1 _ M rfl rfl J aad).mono ?_;rintro e w3 ⟨⟨r,rfl⟩,y⟩;obtain⟨b0,b1,b2,b3⟩:=HN.o _ _ _ _ y;have HP:=Z y;clear y))
  exact Xh
 |clear aro
  go_wp2_with(go_at_call 156;refine(HV.o _ _ _ HP.o HB.o).mono ?_;rintro e w2 ⟨⟨r,rfl⟩,y⟩;have HP:=Z y;clear y)
  go_end0;exact L.au dC.o HP.o rfl _
 |clear arp
  go_wp2_with(first
   |(go_at_call_of 178 u0;refine(HP.o.fn HV.o u0 HG.o mX.o lJ.o aag).mono ?_;rintro e w2 ⟨⟨r,rfl⟩,y⟩;obtain⟨b0,b1,b2,b3⟩:=HN.o _ _ _ _ y;obtain⟨ej,ei,eh,ef⟩:=cZ.o _ _ _ _ y;have HP:=Z y;clear y))
  go_end0;exact L.au dC.o HP.o M _
 |clear arq
  first
  |clear arf
   go_wp2_with(go_at_call 175;refine(HV.o _ _ _ HP.o HB.o).mono ?_;rintro e w2 ⟨⟨r,rfl⟩,y⟩;have HP:=Z y;clear y)
   go_end0;exact L.au dC.o HP.o rfl _
  |clear arh
   go_wp2_with(go_at_call 176;refine(HV.o _ _ _ HP.o HB.o).mono ?_;rintro e w2 ⟨⟨r,rfl⟩,y⟩;have HP:=Z y;clear y)
   go_end0;exact L.au dC.o HP.o rfl _
  |clear ari
   go_wp2_with(go_at_call 177;refine(HV.o _ _ _ HP.o HB.o).mono ?_;rintro e w2 ⟨⟨r,rfl⟩,y⟩;have HP:=Z y;clear y)
   go_end0;exact L.au dC.o HP.o rfl _):G:=h
def IBuf (pb:Nat)(w:World)(own:Option Nat)(d:Int)(b:Bool)(Y:List UInt8):Prop:=
 ∃q v,w.heap[pb]?=some (.cells #[q,v,.int .i64 d,.bool b] 43 (0,0))/\(q=.pointer none\/q=.pointer (some ⟨pb,0,none⟩))/\w.ownsRow (pb+1) 5 1 v Y.length (vU Y)/\v.ownBlock=own
theorem bsize :(prog.info? 39).map (·.size)=some 2:=by kernel_rfl
theorem blies :liesAt prog prog.depth 43 (4/ prog.cellsOf 43) 0 39 1=true:=by kernel_rfl
theorem Im (pb:Nat)(w:World)(h:w.cell? ⟨pb,0,none⟩=some (.pointer<|some ⟨pb,0,none⟩)):
  Calls prog 94 #[.pointer<|some ⟨pb,0,none⟩] w fun e w'=>e=.returned (.tuple #[])/\w'=w:=by
 obtain⟨j,hj,_⟩:=awn.1 bsize;go_enter func94,ntmps94
 go_wp2;rw[Lib.run_neq_ptr_same w _ underlying37 hj];go_wp2;go_end0;exact⟨rfl,rfl⟩
theorem MA (pb:Nat)(w:World)(h:w.cell? ⟨pb,0,none⟩=some (.pointer none))(sq:w.shape? pb=some (43,4))(hf:w.frozen? ⟨pb,0,none⟩=false):
  Calls prog 94 #[.pointer<|some ⟨pb,0,none⟩] w fun e w'=>e=.returned (.tuple #[])/\w'=w.setCell ⟨pb,0,none⟩ (.pointer<|some ⟨pb,0,none⟩):=by
 obtain⟨j,hj,VT⟩:=awn.1 bsize;go_enter func94,ntmps94
 go_wp2;rw[Lib.run_to_unsafe w ⟨pb,0,none⟩ underlying37 underlying145 hj (by rw[VT];decide) sq<|show 0<4 by decide];simp only[Result.andThen];rw[Oper.upon_value];go_wp2;rw[run_callFunc_extern func123 aaf aaf aaf (e:=Extern.AbiNoEscape.same) aaf];rw[Lib.run_noEscape];simp only[Result.andThen];rw[Oper.upon_value];go_wp2;rw[Lib.run_from_unsafe w ⟨pb,0,none⟩ underlying145 underlying37 hj sq blies];simp only[Result.andThen];rw[Oper.upon_value];go_wp2;go_end0;exact⟨rfl,rfl⟩
theorem IBuf.lt {own:Option Nat}(h:IBuf pb w own d b Y):pb<w.heap.size:=by obtain⟨q,v,hv,_⟩:=h;exact(avp.1 hv).1
theorem IBuf.b0 {own:Option Nat}(h:IBuf pb w own d b Y):∀k,own=some k->pb<k/\k<w.heap.size:=by obtain⟨q,v,hv,_,ho,rfl⟩:=h;intro k z;have:=ho.lt k z;omega
theorem IBuf.calm {own:Option Nat}(h:IBuf pb w own d b Y)(I:Below w.heap.size w w'):IBuf pb w' own d b Y:=by
 have hl:=h.lt;obtain⟨q,v,hv,hq,ho,e⟩:=h
 refine⟨q,v,(I.block pb hl).trans hv,hq,⟨ho.1,?_⟩,e⟩;rcases ho.2 with h|⟨g,cap,cur,h1,h2,h3,h4⟩
 ·exact .inl h
 ·exact .inr ⟨g,cap,cur,h1,h2,(I.block g (avp.1 h3).1).trans h3,h4⟩
theorem IBuf.new (w:World):IBuf w.heap.size (w.alloc<|.cells #[.pointer none,.slice none 0 0,.int .i64 0,.bool false] 43) none 0 false []:=
 ⟨.pointer none,.slice none 0 0,avv w _,.inl rfl,awa _ _ _ _,rfl⟩
theorem Wrote.ch {own fl:Option Nat}(h:Wrote pb own fl w w')(I:IBuf pb w own d b Y):Below pb w w':=by have:=I.lt;refine⟨h.os,h.tape,h.output,h.size,fun k z=>h.block k O O ?_⟩;intro e;have:=(I.b0 k e.symm).1;omega
def IBufS (pb:Nat)(w:World)(own:Option Nat)(d:Int)(b:Bool)(Y:List UInt8):Prop:=
 ∃v,w.heap[pb]?=some (.cells #[.pointer<|some ⟨pb,0,none⟩,v,.int .i64 d,.bool b] 43 (0,0))/\w.ownsRow (pb+1) 5 1 v Y.length (vU Y)/\v.ownBlock=own
theorem rh {own:Option Nat}(i:Nat)(x:Value):Wrote pb own own w (w.setCell ⟨pb,i,none⟩ x):=by refine⟨?_,?_,?_,?_,fun k z h1 h2=>avz w ⟨pb,i,none⟩ x k h1,.inl rfl⟩<;>simp[World.setCell]
theorem BY (pb:Nat)(w:World)(own:Option Nat)(d:Int)(b:Bool)(Y:List UInt8)(h:IBuf pb w own d b Y):
  Calls prog 94 #[.pointer<|some ⟨pb,0,none⟩] w fun e w'=>e=.returned (.tuple #[])/\IBufS pb w' own d b Y/\Wrote pb own own w w':=by
 obtain⟨q,v,hv,hq,ho,e⟩:=h
 rcases hq with rfl|rfl
 ·refine(MA pb w (by simp[World.cell?,hv]) (by simp[World.shape?,hv])<|av3 w pb 0 _ _ hv).mono ?_;rintro e w'⟨rfl,rfl⟩;refine⟨rfl,⟨v,?_,av7 ho (show pb<pb+1 by omega) _,‹_›⟩,rh 0 _⟩;exact(avD w pb 0 _ _ _ hv).trans M
 ·refine(Im pb w (by simp[World.cell?,hv])).mono ?_;rintro e w'⟨rfl,rfl⟩;exact⟨rfl,⟨v,hv,ho,‹_›⟩,Wrote.refl _ _ _⟩
theorem IBufS.put {w1:World}{v1:Value}{m:Nat}(hv:w.heap[pb]?=some (.cells #[.pointer<|some ⟨pb,0,none⟩,v,.int .i64 d,.bool b] 43 (0,0)))(ho:w.ownsRow (pb+1) 5 1 v n (vU X))
  (h1:w1.ownsRow (pb+1) 5 1 v1 m (vU Y)) (hm:m=Y.length) (hg:w.grownBy w1 v.ownBlock) (hf:v1.ownBlock=v.ownBlock\/∃k,v1.ownBlock=some k/\w.heap.size<=k):
  IBuf pb (w1.setCell ⟨pb,1,none⟩ v1) v1.ownBlock d b Y/\Wrote pb v.ownBlock v1.ownBlock w (w1.setCell ⟨pb,1,none⟩ v1):=by
 subst hm;have be:pb<w.heap.size:=(avp.1 hv).1;have bY:some pb≠v.ownBlock:=by intro e;have:=(ho.lt pb e.symm).1;omega
 have h2:=(hg.block pb be bY).trans hv;refine⟨⟨_,v1,(avD w1 pb 1 _ _ v1 h2).trans M,.inr rfl,av7 h1 (show pb<pb+1 by omega) v1,rfl⟩,⟨?_,?_,?_,?_,?_,hf⟩⟩
 ·simpa[World.setCell]using hg.os
 ·simpa[World.setCell]using hg.tape
 ·simpa[World.setCell]using hg.output
 ·simpa[World.setCell]using hg.size
 ·intro k z h3 h4;rw[avz w1 ⟨pb,1,none⟩ v1 k h3];exact hg.block k z h4
def im (pb:Nat)(X T:List UInt8)(d:Int)(b:Bool)(own:Option Nat)(w:World)(e:Ending)(w':World):Prop:=
 (∃r,e=.returned r)/\∃fl,IBuf pb w' fl d b (X++T)/\Wrote pb own fl w w'
theorem Uk (pb:Nat)(own:Option Nat)(d:Int)(b:Bool)(X:List UInt8)(s:ByteArray)(w:World)(h:IBuf pb w own d b X)(I:X.length+s.size<=1099511627776):
  Calls prog 95 #[.pointer<|some ⟨pb,0,none⟩,.string s] w (im pb X s.data.toList d b own w):=by
 have HC:=Z<|BY pb w own d b X h;have be:=h.lt;obtain⟨i0,hi,mT,eu,ed⟩:=av0 EU;clear h;go_enter func95,ntmps95
 have jS:Hid (∀w1,IBufS pb w1 own d b X->∃a0 l0 c0,w1.cell? ⟨pb,1,none⟩=some (.slice a0 l0 c0)/\w1.heap[pb]?=some (.cells #[.pointer<|some ⟨pb,0,none⟩,.slice a0 l0 c0,.int .i64 d,.bool b] 43 (0,0))/\w1.ownsRow (pb+1) 5 1 (.slice a0 l0 c0) X.length (vU X)/\(Value.slice a0 l0 c0).ownBlock=own):=by
  rintro w1⟨v,hv,ho,e⟩;obtain⟨a0,l0,c0,rfl⟩:∃a l c,v=.slice a l c:=by
   exact agj
  exact⟨a0,l0,c0,by simp[World.cell?,hv],hv,ho,e⟩
 go_wp2_with(first
  |(go_at_call 94;refine HC.o.mono ?_;rintro e w1 ⟨rfl,hs,hw⟩;obtain⟨a0,l0,c0,k0,hv,ho,he⟩:=jS.o _ hs;have HV:=Z hv;have HO:=Z ho;have HE:=Z he;have HW:=Z hw;have gY:=hw.size;clear hv ho he hs hw)
  |(at_builtin;refine jM _ rfl (.tmp 12) (.tmp 13) 22 9 rfl (pb+1) 5 i0 underlying22 underlying9 hi mT eu ed _ X.length (vU X) rfl HO.o s rfl O O ?_))
 intro v1 w2 h1 hg hf sq;obtain⟨sa,sn,sc,rfl⟩:=sq.o;have bY:some pb≠(Value.slice a0 l0 c0).ownBlock:=by intro e;have:=(HO.o.lt pb e.symm).1;omega
 have h2:=(hg.block pb O bY).trans HV.o;have k1:w2.cell? ⟨pb,1,none⟩=some (.slice a0 l0 c0):=by simp[World.cell?,h2]
 have f1:=av3 w2 pb 1 _ _ h2;have y:=IBufS.put (Y:=X++s.data.toList) HV.o HO.o (by rw[mr];exact h1) abj hg hf;have HP:=Z y;clear h1 hg hf h2 y sq HV HO;go_wp2;refine avr (v:=.tuple #[.int .i64 s.size,.nilIface]) (by simp[results,results95,go_sem]) rfl ?_;refine⟨⟨_,rfl⟩,_,HP.o.1,HW.o.trans ?_⟩;rw[<-HE.o];exact HP.o.2
structure L (pb:Nat)(ai:Option Nat)(w0:World)(d:Int)(b:Bool)(Y:List UInt8)(w:World):Prop where
 bI:∃own,IBuf pb w own d b Y/\Wrote pb ai own w0 w
 below:Below pb w0 w
theorem IBuf.alloc {own:Option Nat}(h:IBuf pb w own d b Y)(o:Obj):IBuf pb (w.alloc o) own d b Y:=
 h.calm (bA)
theorem L.start {own:Option Nat}(h:IBuf pb w own d b X):L pb own w d b X w:=⟨⟨own,h,Wrote.refl _ _ _⟩,avB _ _⟩
theorem L.lt (h:L pb ai w0 d b Y w):pb<w.heap.size:=by obtain⟨own,I,_⟩:=h.bI;exact I.lt
theorem L.calm (h:L pb ai w0 d b Y w)(I:Below w.heap.size w w'):L pb ai w0 d b Y w':=by have hl:=h.lt;obtain⟨own,h1,h2⟩:=h.bI;exact⟨⟨own,h1.calm I,h2.calm I⟩,h.below.trans<|I.mono O⟩
theorem L.drew (h:L pb ai w0 d b Y w):L pb ai w0 d b Y w.drew:=
 h.calm ⟨rfl,rfl,rfl,avF _,fun _ _=>rfl⟩
theorem L.lift {P:Program}{args:Array Value}{t:List UInt8}(h:L pb ai w0 d b Y w)
  (H:∀own,IBuf pb w own d b Y->Calls P f args w (im pb Y t d' b' own w)):Calls P f args w fun e w'=>(∃r,e=.returned r)/\L pb ai w0 d' b' (Y++t) w':=by
 obtain⟨own,h1,h2⟩:=h.bI;refine(H own h1).mono ?_;exact agk
theorem L.cU {T:List UInt8}(h:L pb ai w0 d b Y w)(e:Y=X++T)(v:Value):im pb X T d b ai w0 (.returned v) w:=by obtain⟨own,h1,h2⟩:=h.bI;exact⟨⟨v,rfl⟩,own,e▸h1,h2⟩
theorem L.aj {own:Option Nat}(h:IBuf pb w own d b X)(o:Obj):L pb own (w.alloc o) d b X (w.alloc o):=L.start<|h.alloc o
theorem L.box {own:Option Nat}(h0:IBuf pb w own d b X)(h:L pb own (w.alloc o) d' b' Y W):W.heap[w.heap.size]?=some o:=by obtain⟨fl,I,hw⟩:=h.bI;have hl:=h0.lt;rw[hw.block w.heap.size M O (by intro e;have:=(h0.b0 _ e.symm).2;omega)];exact avv w o
theorem L.node {own:Option Nat}(h0:IBuf pb w own d b X)(x axd axa t:Value)(ty:TypeId):∀d' b' Y W,L pb own (w.alloc<|.cells #[x,axd,axa,t] ty) d' b' Y W->
  W.cell? ⟨w.heap.size,0,none⟩=some x/\W.cell? ⟨w.heap.size,1,none⟩=some axd/\W.cell? ⟨w.heap.size,2,none⟩=some axa/\W.cell? ⟨w.heap.size,3,none⟩=some t:=by
 intro d' b' Y W h;have e:=h.box h0;refine⟨?_,?_,?_,?_⟩<;>simp[World.cell?,e]
theorem L.ax {own:Option Nat}{T:List UInt8}(h:L pb own (w.alloc o) d b Y W)(e:Y=X++T)(v:Value):im pb X T d b own w (.returned v) W:=by obtain⟨fl,h1,h2⟩:=h.bI;exact⟨⟨v,rfl⟩,fl,e▸h1,(Wrote.alloc pb own w o).trans h2⟩
theorem L.aE {own:Option Nat}(h0:IBuf pb w own d b X)(h:L pb own (w.alloc o) d' b' Y W):Below pb w W:=by have hl:=h0.lt;exact((avB pb w).alloc O o).trans h.below
theorem dS {own:Option Nat}(h0:IBuf pb w own d b X)(h:Row 0 pb w T v)(o:Obj):Row 0 pb (w.alloc o) T v:=by have hl:=h0.lt;exact ah (bA) O h
theorem L.join {wr:World}(h:L pb ai w0 d b Y wr):∃own,IBuf pb wr own d b Y/\∀d' b' Y' W o,L pb own (wr.alloc o) d' b' Y' W->L pb ai w0 d' b' Y' W:=by obtain⟨own,h1,h2⟩:=h.bI;refine⟨own,h1,fun d' b' Y' W o h'=>?_⟩;obtain⟨fl,h3,h4⟩:=h'.bI;exact⟨⟨fl,h3,h2.trans<|(Wrote.alloc pb own wr o).trans h4⟩,h.below.trans<|h'.aE h1⟩
theorem L.cells (h:L pb ai w0 d b Y w):w.cell? ⟨pb,2,none⟩=some (.int .i64 d)/\w.cell? ⟨pb,3,none⟩=some (.bool b)/\w.frozen? ⟨pb,2,none⟩=false/\w.frozen? ⟨pb,3,none⟩=false:=by obtain⟨own,⟨q,v,hv,_⟩,_⟩:=h.bI;exact⟨by simp[World.cell?,hv],by simp[World.cell?,hv],av3 w pb 2 _ _ hv,av3 w pb 3 _ _ hv⟩
theorem L.deep (h:L pb ai w0 d b Y w)(d':Int):L pb ai w0 d' b Y (w.setCell ⟨pb,2,none⟩<|.int .i64 d'):=by have hl:=h.lt;obtain⟨own,I,hw⟩:=h.bI;have Hn:=rh (pb:=pb) (own:=own) (w:=w) 2<|.int .i64 d';refine⟨⟨own,?_,hw.trans Hn⟩,h.below.trans<|Hn.ch I⟩;obtain⟨q,v,hv,hq,ho,e⟩:=I;exact⟨q,v,(avD w pb 2 _ _ _ hv).trans M,hq,av7 ho (show pb<pb+1 by omega) _,e⟩
theorem L.begun (h:L pb ai w0 d b Y w)(b':Bool):L pb ai w0 d b' Y (w.setCell ⟨pb,3,none⟩<|.bool b'):=by have hl:=h.lt;obtain⟨own,I,hw⟩:=h.bI;have Hn:=rh (pb:=pb) (own:=own) (w:=w) 3<|.bool b';refine⟨⟨own,?_,hw.trans Hn⟩,h.below.trans<|Hn.ch I⟩;obtain⟨q,v,hv,hq,ho,e⟩:=I;exact⟨q,v,(avD w pb 3 _ _ _ hv).trans M,hq,av7 ho (show pb<pb+1 by omega) _,e⟩
theorem L.ws (h:L pb ai w0 d b Y w)(s:ByteArray)(I:Y.length+s.data.toList.length<=1099511627776):
  Calls prog 95 #[.pointer<|some ⟨pb,0,none⟩,.string s] w fun e w'=>(∃r,e=.returned r)/\L pb ai w0 d b (Y++s.data.toList) w':=
 h.lift fun own ab=>Uk pb own d b Y s w ab (by simpa using I)
theorem Ul (pb:Nat)(own:Option Nat)(d:Int)(b:Bool)(X:List UInt8)(w:World)(h:IBuf pb w own d b X)(I:X.length+1<=1099511627776):
  Calls prog 56 #[.pointer<|some ⟨pb,0,none⟩,.int .u8 10] w (im pb X [10] d b own w):=by
 have HC:=Z<|BY pb w own d b X h;have be:=h.lt;obtain⟨i0,hi,mT,eu,ed⟩:=av0 EU;clear h;have jS:Hid (∀w1,IBufS pb w1 own d b X->∃a0 l0 c0,w1.cell? ⟨pb,1,none⟩=some (.slice a0 l0 c0)/\(∀o,(w1.alloc o).heap[pb]?=some (.cells #[.pointer<|some ⟨pb,0,none⟩,.slice a0 l0 c0,.int .i64 d,.bool b] 43 (0,0)))/\(∀o,(w1.alloc o).ownsRow (pb+1) 5 1 (.slice a0 l0 c0) X.length<|vU X)/\(Value.slice a0 l0 c0).ownBlock=own):=by
  rintro w1⟨v,hv,ho,e⟩;obtain⟨a0,l0,c0,rfl⟩:∃a l c,v=.slice a l c:=by
   exact agj
  exact⟨a0,l0,c0,by simp[World.cell?,hv],fun o=>(avI w1 o pb (avp.1 hv).1).trans hv,fun o=>ho.alloc o,e⟩
 go_enter func56,ntmps56
 go_wp2_with(first
  |(go_at_call 94;refine HC.o.mono ?_;rintro e w1 ⟨rfl,hs,hw⟩;obtain⟨a0,l0,c0,k0,hv,ho,he⟩:=jS.o _ hs;have HV:=Z hv;have HO:=Z ho;have HE:=Z he;have HW:=Z hw;have gY:=hw.size;clear hv ho he hs hw)
  |(at_builtin;refine jy _ rfl (.tmp 11) (.tmp 13) 22 rfl (pb+1) 5 i0 underlying22 hi mT eu ed _ X.length (vU X) rfl (HO.o _) ⟨w1.heap.size,0,none⟩ 1 1 [.int .u8 10] rfl rfl aa9 aaN O aah ?_))
 intro v1 w2 h1 hg hf sq;obtain⟨sa,sn,sc,rfl⟩:=sq.o;have bY:some pb≠(Value.slice a0 l0 c0).ownBlock:=by intro e;have:=((HO.o<|.cells #[] 0).lt pb e.symm).1;omega
 have h2:=(hg.block pb aah bY).trans<|HV.o _;have k1:w2.cell? ⟨pb,1,none⟩=some (.slice a0 l0 c0):=by simp[World.cell?,h2]
 have f1:=av3 w2 pb 1 _ _ h2;have y:=IBufS.put (Y:=X++[10]) (HV.o _) (HO.o _) (by rw[mr];exact h1) M hg (by simpa using hf);have HP:=Z y;clear h1 hg hf h2 y sq HV HO;go_wp2;go_ret;refine⟨⟨_,rfl⟩,_,HP.o.1,HW.o.trans ?_⟩;rw[<-HE.o];exact(Wrote.alloc _ _ _ _).trans HP.o.2
theorem L.wb (h:L pb ai w0 d b Y w)(I:Y.length+1<=1099511627776):
  Calls prog 56 #[.pointer<|some ⟨pb,0,none⟩,.int .u8 10] w fun e w'=>(∃r,e=.returned r)/\L pb ai w0 d b (Y++[10]) w':=
 h.lift fun own ab=>Ul pb own d b Y w ab I
theorem QR (pb:Nat)(own:Option Nat)(d:Int)(b:Bool)(X:List UInt8)(w:World)(h:IBuf pb w own d b X)(I:X.length+1<=1099511627776):
  Calls prog 33 #[.pointer<|some ⟨pb,0,none⟩] w (im pb X [10] d false own w):=by
 have HP:=Z<|L.start h;clear h;go_enter func33,ntmps33
 go_wp2_with(go_at_call 56;refine(HP.o.wb I).mono ?_;rintro e w1 ⟨⟨r,rfl⟩,y⟩;obtain⟨k2,k3,f2,f3⟩:=y.cells;have HP:=Z<|y.begun false;clear y)
 go_end0;exact HP.o.cU rfl _
theorem L.cI (h:L pb ai w0 d b Y w)(I:Y.length+1<=1099511627776):
  Calls prog 33 #[.pointer<|some ⟨pb,0,none⟩] w fun e w'=>(∃r,e=.returned r)/\L pb ai w0 d false (Y++[10]) w':=
 h.lift fun own ab=>QR pb own d b Y w ab I
def j7 (xs:List ByteArray)(k:Nat):List UInt8:=ay (fun i=>(xs.getD i ⟨#[]⟩).data.toList) k
def ahead (d:Nat)(b:Bool):List UInt8:=if b then[]else bB d
theorem Kt (d:Nat):Lib.repeatL [9] d=bB d:=by
 induction d with
 |zero=>rfl
 |succ d ih=>show[9]++Lib.repeatL [9] d=_;rw[ih];rfl
theorem JV (d:Nat)(w:World)(h:d<=1099511627776):Calls prog 96 #[.string ⟨#[9]⟩,.int .i64 d] w fun e w'=>e=.returned (.string<|cP<|bB d)/\Below w.heap.size w w':=by have:=strings_Repeat ⟨#[9]⟩ d w O (by show 1*d<=_;omega);rw[show(⟨#[9]⟩:ByteArray).data.toList=[9]from rfl,Kt]at this;exact this
theorem Pq (pb:Nat)(own:Option Nat)(d:Nat)(b:Bool)(X:List UInt8)(W:World)(xs:List ByteArray)(h:IBuf pb W own d b X)(hx:xs.length<=1000)(I:X.length+((ahead d b).length+(j7 xs xs.length).length)<=1099511627776):
  Calls prog 57 #[.pointer<|some ⟨pb,0,none⟩,.slice (some ⟨W.heap.size,0,none⟩) xs.length xs.length] (W.alloc<|.cells (xs.map Value.string).toArray 9) (im pb X (ahead d b++j7 xs xs.length) d true own W):=by
 have HC:Hid (∀d' b' Y V,L pb own (W.alloc<|.cells (xs.map Value.string).toArray 9) d' b' Y V->∀i,i<xs.length->V.cell? ⟨W.heap.size,i,none⟩=some (.string<|xs.getD i ⟨#[]⟩)):=by
  intro d' b' Y V y i hi;have e:=y.box h;simp[World.cell?,e,hi,List.getD]
 have HP:=Z<|L.aj h<|.cells (xs.map Value.string).toArray 9;have HB:=Z I;have hd:d<=1099511627776\/b=true:=by
  cases b
  ·left;have:=I;simp[ahead,bB]at this;omega
  ·right;rfl
 have HL:=Z fun i(h:i<xs.length)=>gO (fun i=>(xs.getD i ⟨#[]⟩).data.toList) h;have y:=HP.o;obtain⟨k2,k3,f2,f3⟩:=y.cells;clear h I y;cases b
 ·have hd:d<=1099511627776:=by rcases hd with h|h;exact h;cases h
  have HT:=Z fun V:World=>JV d V hd;go_enter func57,ntmps57
  go_wp2;go_region_with(first
   |(go_at_call 96;refine(HT.o _).mono ?_;rintro e w1 ⟨rfl,hb1⟩;have y:=HP.o.drew.calm hb1;obtain⟨k2,k3,f2,f3⟩:=y.cells;have HP:=Z y;clear y hb1)
   |(go_at_call 95;refine(HP.o.ws _ (by have:=HB.o;simp[ahead]at this;simp[cP];omega)).mono ?_;rintro e w1 ⟨⟨r,rfl⟩,y⟩;obtain⟨k2,k3,f2,f3⟩:=y.cells;have HP:=Z (y.begun true);clear y))
  go_wp2;go_loopw[25] (fun i V=>∃k:Nat,k<=xs.length/\i=.int .i64 k/\Hid (L pb own (W.alloc<|.cells (xs.map Value.string).toArray 9) d true (X++ahead d false++j7 xs k) V)) (fun i _=>xs.length-(intOf i).toNat)
  case atStart=>exact⟨0,O,rfl,Z (by simpa[j7,ay,ahead,cP]using HP.o)⟩
  case round=>
   exact agb
 ·go_enter func57,ntmps57
  go_wp2;go_loopw[25] (fun i V=>∃k:Nat,k<=xs.length/\i=.int .i64 k/\Hid (L pb own (W.alloc<|.cells (xs.map Value.string).toArray 9) d true (X++ahead d true++j7 xs k) V)) (fun i _=>xs.length-(intOf i).toNat)
  case atStart=>exact⟨0,O,rfl,Z (by simpa[j7,ay,ahead,cP]using HP.o)⟩
  case round=>
   exact agb
theorem L.put {d:Nat}(h:L pb ai w0 d b Y w)(xs:List ByteArray)(hx:xs.length<=1000)(I:Y.length+((ahead d b).length+(j7 xs xs.length).length)<=1099511627776):
  Calls prog 57 #[.pointer<|some ⟨pb,0,none⟩,.slice (some ⟨w.heap.size,0,none⟩) xs.length xs.length] (w.alloc<|.cells (xs.map Value.string).toArray 9) fun e w'=>(∃r,e=.returned r)/\L pb ai w0 d true (Y++(ahead d b++j7 xs xs.length)) w':=by
 obtain⟨own,h1,h2⟩:=h.bI;refine(Pq pb own d b Y w xs h1 hx I).mono ?_;exact agk
def Gl (pb : Nat) (w : World) : Prop := ∀ W, Below pb w W → Lib.TabIs prog W "internal/strconv.uint64pow10" .u64 Lib.pow10Tab ∧ bX W 0 [⟨#[]⟩, ⟨#[105, 110, 116]⟩, ⟨#[98, 111, 111, 108]⟩, ⟨#[99, 104, 97, 110, 32, 105, 110, 116]⟩]
theorem Gl.keep (h:Gl pb w)(I:Below pb w w'):Gl pb w':=fun W hW=>h W<|I.trans hW
theorem Gl.alloc (h:Gl pb w)(y:pb<w.heap.size)(o:Obj):Gl pb (w.alloc o):=h.keep<|(avB _ _).alloc O _
def pg (T:Nd):Prop:=∀(pb:Nat)(own:Option Nat)(X:List UInt8)(d:Nat)(b:Bool)(w:World)(v:Value),IBuf pb w own d b X->Gl pb w->T.R->Row 0 pb w T v->T.Q=true->
 X.length+((ahead d b).length+((aJ T).ex 1).length)<=1099511627776->Calls prog 151 #[.pointer<|some ⟨pb,0,none⟩,T.val v] w (im pb X (ahead d b++(aJ T).ex 1) d true own w)
theorem L.expr (hT:pg T){d:Nat}(h:L pb ai w0 d b Y w)(v:Value)(hg:Gl pb w0)(hf:T.R)(hr:Row 0 pb w0 T v)(ax:T.Q=true)(I:Y.length+((ahead d b).length+((aJ T).ex 1).length)<=1099511627776):
  Calls prog 151 #[.pointer<|some ⟨pb,0,none⟩,T.val v] w fun e w'=>(∃r,e=.returned r)/\L pb ai w0 d true (Y++(ahead d b++(aJ T).ex 1)) w':=
 h.lift fun own ab=>hT pb own Y d b w v ab (hg.keep h.below) hf (ah h.below lr hr) ax I
theorem pZ (d:Nat):ahead d true=[]:=rfl
theorem L.putAt {d:Nat}(h:L pb ai w0 d b Y w)(xs:List ByteArray)(t n:Nat)(A:Array Value)(ht:w.heap.size=t)(hn:xs.length=n)(hA:(xs.map Value.string).toArray=A)(hx:n<=1000)(I:Y.length+((ahead d b).length+(j7 xs n).length)<=1099511627776):
  Calls prog 57 #[.pointer<|some ⟨pb,0,none⟩,.slice (some ⟨t,0,none⟩) n n] (w.alloc<|.cells A 9) fun e w'=>(∃r,e=.returned r)/\L pb ai w0 d true (Y++(ahead d b++j7 xs n)) w':=by
 subst ht hn hA;exact h.put xs hx I
theorem u5 (h:T.Q=true)(l:Nat)(hl:1<=l):(aJ T).ex l=jJ (decide (T.y=28)&&decide (bV T.z<l)) ((aJ T).ex 1):=by
 by_cases z:T.y=28
 ·have Br:0<bV T.z:=(nL z h).1;rw[kM T z,kM T z];have h1:decide (bV T.z<1)=false:=by simp;omega
  rw[h1];simp[z,jJ]
 ·have e:decide (T.y=28)=false:=by simp[z]
  rw[e];simp only[aw2,jJ,awH,if_false];rw[bD]at h;cases T with
  |nil=>rfl
  |mk k n s len kids=>
   have z:¬k=28:=z;simp only[aJ,Vb,z,if_false]
theorem xA (T:Nd)(w:World)(a:Option Addr)(l c:Nat):Calls prog 187 #[T.val<|.slice a l c] w fun e w'=>e=.returned (.bool<|(T.y==27)&&(T.z.toList==[45]))/\Below w.heap.size w w':=by
 have HB:Hid (∀o,Below w.heap.size w<|w.alloc o):=fun o=>bA;unfold Nd.val;generalize T.z=ts at*
 generalize T.E=tn at*
 generalize T.y=tk at*
 cases h1:(tk==27);all_goals cases h2:(ts.toList==[45])
 all_goals go_enter func187,ntmps187
 all_goals go_wp2
 all_goals go_ret
 all_goals exact⟨rfl,HB.o _⟩
theorem yo (T:Nd)(w:World)(a:Option Addr)(l c:Nat)(n:Nat):Calls prog 188 #[T.val<|.slice a l c,.int .i64 n] w fun e w'=>e=.returned (.bool<|decide (T.y=28)&&decide (bV T.z<n))/\Below w.heap.size w w':=by
 have HB:Hid (∀o,Below w.heap.size w<|w.alloc o):=fun o=>bA;have HV:=Z fun W:World=>lA T.z W;unfold Nd.val;generalize T.z=ts at*
 generalize T.E=tn at*
 generalize T.y=tk at*
 generalize bV ts=lv at*
 by_cases h1:tk=28
 ·subst h1;by_cases h2:lv<n;all_goals go_enter func188,ntmps188
  all_goals go_wp2_with(go_at_call 83;refine(HV.o _).mono ?_;rintro e w1 ⟨rfl,rfl⟩)
  all_goals go_ret
  all_goals exact⟨aw (by simp[h2]),HB.o _⟩
 ·have I:(tk==28)=false:=bn h1;have HD:Hid (decide (tk=28)=false):=by unfold Hid;simp[h1]
  clear h1;go_enter func188,ntmps188
  go_wp2;go_ret;exact⟨aw (by rw[HD.o];rfl),HB.o _⟩
theorem Me (T:Nd)(ih:pg T)(par:Bool)(pb:Nat)(own:Option Nat)(X:List UInt8)(d:Nat)(b:Bool)(w:World)(v:Value)(ab:IBuf pb w own d b X)(hg:Gl pb w)(hf:T.R)(hr:Row 0 pb w T v)(ax:T.Q=true)
  (I:X.length+((ahead d b).length+(jJ par<|(aJ T).ex 1).length)<=1099511627776):
  Calls prog 186 #[.pointer<|some ⟨pb,0,none⟩,T.val v,.bool par] w (im pb X (ahead d b++jJ par ((aJ T).ex 1)) d true own w):=by
 have hn:=T.I hf;obtain⟨a,cap,rfl,_⟩:=ar.1 hr;have ara:=kk;exact aga
def IW (f:FuncId)(T:Nd)(t:Nat->List UInt8):Prop:=∀(pb:Nat)(own:Option Nat)(X:List UInt8)(d:Nat)(b:Bool)(w:World)(v:Value),IBuf pb w own d b X->Gl pb w->T.R->Row 0 pb w T v->
 X.length+((ahead d b).length+(t d).length)<=1099511627776->Calls prog f #[.pointer<|some ⟨pb,0,none⟩,T.val v] w (im pb X (ahead d b++t d) d true own w)
theorem L.fn (hT:IW f T t){d:Nat}(h:L pb ai w0 d b Y w)(v:Value)(hg:Gl pb w0)(hf:T.R)(hr:Row 0 pb w0 T v)(I:Y.length+((ahead d b).length+(t d).length)<=1099511627776):
  Calls prog f #[.pointer<|some ⟨pb,0,none⟩,T.val v] w fun e w'=>(∃r,e=.returned r)/\L pb ai w0 d true (Y++(ahead d b++t d)) w':=
 h.lift fun own ab=>hT pb own Y d b w v ab (hg.keep h.below) hf (ah h.below lr hr) I
theorem L.group (hT:pg T)(par:Bool){d:Nat}(h:L pb ai w0 d b Y w)(v:Value)(hg:Gl pb w0)(hf:T.R)(hr:Row 0 pb w0 T v)(ax:T.Q=true)(I:Y.length+((ahead d b).length+(jJ par<|(aJ T).ex 1).length)<=1099511627776):
  Calls prog 186 #[.pointer<|some ⟨pb,0,none⟩,T.val v,.bool par] w fun e w'=>(∃r,e=.returned r)/\L pb ai w0 d true (Y++(ahead d b++jJ par ((aJ T).ex 1))) w':=
 h.lift fun own ab=>Me T hT par pb own Y d b w v ab (hg.keep h.below) hf (ah h.below lr hr) ax I
theorem L.af {own:Option Nat}(h:IBuf pb w own d b X)(I:Below w.heap.size w w0):L pb own w0 d b X w0:=L.start<|h.calm I
theorem L.kept {own:Option Nat}(h0:IBuf pb w own d b X)(h:L pb own w0 d' b' Y W)(k:Nat)(h1:w.heap.size<=k)(h2:k<w0.heap.size)(o:Nat):W.cell? ⟨k,o,none⟩=w0.cell? ⟨k,o,none⟩:=by obtain⟨fl,I,hw⟩:=h.bI;have hl:=h0.lt;exact hw.cell (p:=⟨k,o,none⟩) h2 (by show k≠pb;omega) (by intro e;have:=(h0.b0 k e.symm).2;omega)
theorem L.au {own:Option Nat}{T:List UInt8}(I:Below w.heap.size w w0)(h:L pb own w0 d b Y W)(e:Y=X++T)(v:Value):im pb X T d b own w (.returned v) W:=by obtain⟨fl,h1,h2⟩:=h.bI;exact⟨⟨v,rfl⟩,fl,e▸h1,((Wrote.refl pb own w).calm I).trans h2⟩
theorem L.aQ {own:Option Nat}(h0:IBuf pb w own d b X)(I:Below w.heap.size w w0)(h:L pb own w0 d' b' Y W):Below pb w W:=by have hl:=h0.lt;exact(I.mono O).trans h.below
theorem cw {own:Option Nat}(h0:IBuf pb w own d b X)(I:Below w.heap.size w w0)(h:Row 0 pb w T v):Row 0 pb w0 T v:=by have hl:=h0.lt;exact ah I O h
theorem bU {own:Option Nat}(h0:IBuf pb w own d b X)(I:Below w.heap.size w w0)(h:Gl pb w):Gl pb w0:=by have hl:=h0.lt;exact h.keep<|I.mono O
theorem L.bm {d:Nat}(h:L pb ai w0 d b Y w)(xs:List ByteArray)(t n:Nat)(A:Array Value)(ht:w.heap.size=t)(hn:xs.length=n)(hA:(xs.map Value.string).toArray=A)(hx:n<=1000)(I:Y.length+((ahead d b).length+(j7 xs n).length)<=1099511627776):
  Calls prog 57 #[.pointer<|some ⟨pb,0,none⟩,.slice (some ⟨t,0,none⟩) n n] (w.alloc<|.cells A 9).drew fun e w'=>(∃r,e=.returned r)/\L pb ai w0 d true (Y++(ahead d b++j7 xs n)) w':=
 h.drew.putAt xs t n A ht hn hA hx I
theorem dN :(∀d,ahead d true=[])/\(∀a:ByteArray,j7 [a] 1=a.data.toList)/\(∀a b:ByteArray,j7 [a,b] 2=a.data.toList++b.data.toList)/\(∀a b c:ByteArray,j7 [a,b,c] 3=a.data.toList++(b.data.toList++c.data.toList))/\(∀a b:List UInt8,(a++b).length=a.length+b.length)/\(∀a b c:List UInt8,a++b++c=a++(b++c)):=by refine⟨fun _=>rfl,fun a=>?_,fun a b=>?_,fun a b c=>?_,fun a b=>avu,fun a b c=>avM a b c⟩<;>simp[j7,ay]
theorem xl (h:T.Q=true):jJ (T.y==28) ((aJ T).ex 1)=(aJ T).ex 6:=by have:=Dj T.z;rw[u5 h 6 O];congr 1;rw[avN];simp;omega
theorem Om (z:T.y=27)(hE:(T.f 0).Q=true):(aJ T).ex 1=T.z.data.toList++jJ (((T.f 0).y==28)||((T.z.toList==[45])&&(((T.f 0).y==27)&&((T.f 0).z.toList==[45])))) ((aJ<|T.f 0).ex 1):=by
 rw[pR T z];congr 1;by_cases hc:T.z.data.toList=[45]/\(T.f 0).y=27/\(T.f 0).z.data.toList=[45]
 ·rw[avA hc];obtain⟨h1,h2,h3⟩:=hc;have e:(((T.f 0).y==28)||((T.z.toList==[45])&&(((T.f 0).y==27)&&((T.f 0).z.toList==[45]))))=true:=by
   rw[avx,avx,h1,h2,h3];rfl
  rw[e];rfl
 ·rw[avo hc,<-xl hE];congr 1;rw[avx,avx];rw[avN];simp only[av2,avw,avV];constructor
  ·exact fun h=>.inl h
  ·rintro(h|h)
   ·exact h
   ·exact absurd h hc
theorem Zs (T:Nd)(z:T.y=27)(ih:∀i,i<T.q->pg (T.f i))(ax:T.Q=true):IW 176 T (fun d=>(aJ T).ex 1):=by intro pb own X d b w v ab hg hf hr I;have hn:=T.I hf;obtain⟨hlen,jv⟩:=uY z ax;rw[Om z jv]at I⊢;have arc:=kk;exact Xf
theorem sh (h:pg T)(ax:T.Q=true):IW 151 T (fun _=>(aJ T).ex 1):=
 fun pb own X d b w v ab hg hf hr I=>h pb own X d b w v ab hg hf hr ax I
theorem Lc (T:Nd)(n mV:Nat)(hn:n<=T.q)(t:Nat->List UInt8)(hW:∀i,i<n->IW 151 (T.f i) (fun _=>t i))(pb:Nat)(own:Option Nat)(X:List UInt8)(d:Nat)(w:World)(a:Option Addr)(cap:Nat)(ab:IBuf pb w own d true X)(hg:Gl pb w)(hf:T.R)(hr:Row 0 pb w T (.slice a T.q mV))
  (I:X.length+(ay (fun i=>(if i=0 then[]else[44,32])++t i) n).length<=1099511627776):
  Calls prog 58 #[.pointer<|some ⟨pb,0,none⟩,.slice a n cap,.func (.func 151) #[.pointer<|some ⟨pb,0,none⟩] #[]] w (im pb X (ay (fun i=>(if i=0 then[]else[44,32])++t i) n) d true own w):=by
 have aq4:=kk;exact af7
theorem Hb (T:Nd)(n mV:Nat)(hn:n<=T.q)(t:Nat->List UInt8)(hW:∀i,i<n->IW 59 (T.f i) (fun _=>t i))(pb:Nat)(own:Option Nat)(X:List UInt8)(d:Nat)(w:World)(a:Option Addr)(cap:Nat)(ab:IBuf pb w own d true X)(hg:Gl pb w)(hf:T.R)(hr:Row 0 pb w T (.slice a T.q mV))
  (I:X.length+(ay (fun i=>(if i=0 then[]else[44,32])++t i) n).length<=1099511627776):
  Calls prog 58 #[.pointer<|some ⟨pb,0,none⟩,.slice a n cap,.func (.func 59) #[.pointer<|some ⟨pb,0,none⟩] #[]] w (im pb X (ay (fun i=>(if i=0 then[]else[44,32])++t i) n) d true own w):=by
 have aq5:=kk;exact af7
theorem L.cY (hn:n<=T.q)(hW:∀i,i<n->IW 151 (T.f i) (fun _=>t i)){d:Nat}(h:L pb ai w0 d true Y w)(a:Option Addr)(cap:Nat)(hg:Gl pb w0)(hf:T.R)(hr:Row 0 pb w0 T (.slice a T.q mV))(I:Y.length+(ay (fun i=>(if i=0 then[]else[44,32])++t i) n).length<=1099511627776):
  Calls prog 58 #[.pointer<|some ⟨pb,0,none⟩,.slice a n cap,.func (.func 151) #[.pointer<|some ⟨pb,0,none⟩] #[]] w fun e w'=>(∃r,e=.returned r)/\L pb ai w0 d true (Y++ay (fun i=>(if i=0 then[]else[44,32])++t i) n) w':=
 h.lift fun own ab=>Lc T n mV hn t hW pb own Y d w a cap ab (hg.keep h.below) hf (ah h.below lr hr) I
theorem L.bF (hn:n<=T.q)(hW:∀i,i<n->IW 59 (T.f i) (fun _=>t i)){d:Nat}(h:L pb ai w0 d true Y w)(a:Option Addr)(cap:Nat)(hg:Gl pb w0)(hf:T.R)(hr:Row 0 pb w0 T (.slice a T.q mV))(I:Y.length+(ay (fun i=>(if i=0 then[]else[44,32])++t i) n).length<=1099511627776):
  Calls prog 58 #[.pointer<|some ⟨pb,0,none⟩,.slice a n cap,.func (.func 59) #[.pointer<|some ⟨pb,0,none⟩] #[]] w fun e w'=>(∃r,e=.returned r)/\L pb ai w0 d true (Y++ay (fun i=>(if i=0 then[]else[44,32])++t i) n) w':=
 h.lift fun own ab=>Hb T n mV hn t hW pb own Y d w a cap ab (hg.keep h.below) hf (ah h.below lr hr) I
theorem Q3 (T:Nd)(s:ByteArray)(ih:∀i,i<T.q->pg (T.f i))(ax:∀i,i<T.q->(T.f i).Q=true)(pb:Nat)(own:Option Nat)(X:List UInt8)(d:Nat)(b:Bool)(w:World)(v:Value)(ab:IBuf pb w own d b X)(hg:Gl pb w)(hf:T.R)(hr:Row 0 pb w T v)
  (I:X.length+((ahead d b).length+(s.data.toList++40::(ay (fun i=>(if i=0 then[]else[44,32])++(aJ<|T.f i).ex 1) T.q++[41])).length)<=1099511627776):
  Calls prog 156 #[.pointer<|some ⟨pb,0,none⟩,.string s,v] w (im pb X (ahead d b++(s.data.toList++40::(ay (fun i=>(if i=0 then[]else[44,32])++(aJ<|T.f i).ex 1) T.q++[41]))) d true own w):=by
 obtain⟨a,cap,rfl,_⟩:=ar.1 hr;have HP:=Z<|L.start ab;have HB:=Z I;have HL:=Z fun Y W(h:L pb own w d true Y W)I=>h.cY (avF T.q) (fun i hi=>sh (ih i hi)<|ax i hi) a cap hg hf hr I;clear I ab ih ax hg hf hr;generalize ay (fun i=>(if i=0 then[]else[44,32])++(aJ<|T.f i).ex 1) T.q=args at*
 go_enter func156,ntmps156
 go_wp2_with(first
  |(go_at_call 58;refine(HL.o _ _ HP.o aad).mono ?_;rintro e w3 ⟨⟨r,rfl⟩,y⟩;have HP:=Z y;clear y)
  |(go_at_call_of 57 w;refine(HP.o.putAt [s,⟨#[40]⟩] _ 2 _ M rfl rfl J aad).mono ?_;rintro e w2 ⟨⟨r,rfl⟩,y⟩;have HP:=Z y;clear y)
  |(go_at_call_of 57 w3;refine(HP.o.putAt [⟨#[41]⟩] _ 1 _ M rfl rfl J aad).mono ?_;rintro e w4 ⟨⟨r,rfl⟩,y⟩;have HP:=Z y;clear y))
 go_end0;exact HP.o.cU aal _
theorem L.cz (s:ByteArray)(ih:∀i,i<T.q->pg (T.f i))(ax:∀i,i<T.q->(T.f i).Q=true){d:Nat}(h:L pb ai w0 d b Y w)(v:Value)(hg:Gl pb w0)(hf:T.R)(hr:Row 0 pb w0 T v)(I:Y.length+((ahead d b).length+(s.data.toList++40::(ay (fun i=>(if i=0 then[]else[44,32])++(aJ<|T.f i).ex 1) T.q++[41])).length)<=1099511627776):
  Calls prog 156 #[.pointer<|some ⟨pb,0,none⟩,.string s,v] w fun e w'=>(∃r,e=.returned r)/\L pb ai w0 d true (Y++(ahead d b++(s.data.toList++40::(ay (fun i=>(if i=0 then[]else[44,32])++(aJ<|T.f i).ex 1) T.q++[41])))) w':=
 h.lift fun own ab=>Q3 T s ih ax pb own Y d b w v ab (hg.keep h.below) hf (ah h.below lr hr) I
theorem FO (T:Nd)(s:ByteArray)(n mV:Nat)(hn:n<=T.q)(hW:∀i,i<n->IW 151 (T.f i) (fun _=>(aJ<|T.f i).ex 1))(pb:Nat)(own:Option Nat)(X:List UInt8)(d:Nat)(b:Bool)(w:World)(a:Option Addr)(cap:Nat)(ab:IBuf pb w own d b X)(hg:Gl pb w)(hf:T.R)(hr:Row 0 pb w T (.slice a T.q mV))
  (I:X.length+((ahead d b).length+(s.data.toList++ay (fun i=>[32]++(aJ<|T.f i).ex 1) n).length)<=1099511627776):
  Calls prog 154 #[.pointer<|some ⟨pb,0,none⟩,.string s,.slice a n cap] w (im pb X (ahead d b++(s.data.toList++ay (fun i=>[32]++(aJ<|T.f i).ex 1) n)) d true own w):=by
 have arj:=kk;exact agc
theorem L.worded (s:ByteArray)(hn:n<=T.q)(hW:∀i,i<n->IW 151 (T.f i) (fun _=>(aJ<|T.f i).ex 1)){d:Nat}(h:L pb ai w0 d b Y w)(a:Option Addr)(cap:Nat)(hg:Gl pb w0)(hf:T.R)(hr:Row 0 pb w0 T (.slice a T.q mV))(I:Y.length+((ahead d b).length+(s.data.toList++ay (fun i=>[32]++(aJ<|T.f i).ex 1) n).length)<=1099511627776):
  Calls prog 154 #[.pointer<|some ⟨pb,0,none⟩,.string s,.slice a n cap] w fun e w'=>(∃r,e=.returned r)/\L pb ai w0 d true (Y++(ahead d b++(s.data.toList++ay (fun i=>[32]++(aJ<|T.f i).ex 1) n))) w':=
 h.lift fun own ab=>FO T s n mV hn hW pb own Y d b w a cap ab (hg.keep h.below) hf (ah h.below lr hr) I
theorem QZ (T:Nd)(hW:∀i,i<T.q->IW 151 (T.f i) (fun _=>(aJ<|T.f i).ex 1)):IW 175 T (fun _=>[109,97,107,101,40,99,104,97,110,32,105,110,116]++(ay (fun i=>[44,32]++(aJ<|T.f i).ex 1) T.q++[41])):=by intro pb own X d b w v ab hg hf hr I;have Bn:=T.I hf;obtain⟨a,cap,rfl,_⟩:=ar.1 hr;unfold Nd.val;have arb:=kk;exact aga
theorem yQ (T:Nd)(hT:pg T)(ax:T.Q=true):IW 178 T (fun d=>[60,45]++(aJ T).ex 6):=by
  intro pb own X d b w v ab hg hf hr I;have hn:=T.I hf;rw[<-xl ax]at I⊢;have HI:=Z hT;have HE:=Z ax;have HF:=Z hf;have HRR:=Z hr;obtain⟨a,cap,rfl,_⟩:=ar.1 hr;have aE:T.val (.slice a T.q cap)=.agg #[.int .i64 T.y,.int .i64 T.E,.string T.z,.slice a T.q cap]:=by unfold Nd.val;rfl
  rw[aE];have aR:Below w.heap.size w (w.alloc (.cells #[.int .i64 T.y,.int .i64 T.E,.string T.z,.slice a T.q cap] 25)):=(bO w _);have HP:=Z (L.af ab aR);have HN:=Z (fun d' b' Y W(h:L pb own (w.alloc (.cells #[.int .i64 T.y,.int .i64 T.E,.string T.z,.slice a T.q cap] 25)) d' b' Y W)=>(show W.cell? ⟨w.heap.size,0,none⟩=some (.int .i64 T.y)/\W.cell? ⟨w.heap.size,1,none⟩=some (.int .i64 T.E)/\W.cell? ⟨w.heap.size,2,none⟩=some (.string T.z)/\W.cell? ⟨w.heap.size,3,none⟩=some (.slice a T.q cap) by
    have e:=h.kept ab w.heap.size lr M
    rw[e,e,e,e];refine⟨?_,?_,?_,?_⟩<;>simp[go_sem]))
  have HR:=Z<|cw ab aR hr;have HG:=Z<|bU ab aR hg;have dC:=Z aR;have HB:=Z I;clear HRR hT ax I hr hf ab hg aE aR;go_enter func178,ntmps178
  go_wp2_with(first
    | (go_at_call_of 57 w;refine(HP.o.putAt [⟨#[60,45]⟩] _ 1 _ M rfl rfl J aad).mono ?_;rintro e w2 ⟨⟨r,rfl⟩,y⟩;obtain⟨b0,b1,b2,b3⟩:=HN.o _ _ _ _ y;have HP:=Z y;clear y)
    | (go_at_call 186;refine(HP.o.group HI.o (T.y==28) _ HG.o HF.o HR.o HE.o aad).mono ?_;rintro e w3 ⟨⟨r,rfl⟩,y⟩;obtain⟨b0,b1,b2,b3⟩:=HN.o _ _ _ _ y;have HP:=Z y;clear y))
  go_end0;exact L.au dC.o HP.o aal _
theorem below_grow (h:∃k os,w'=Sort.grow (w.drewN k) os):Below w.heap.size w w':=by
 obtain⟨k,os,rfl⟩:=h
 refine⟨rfl,rfl,rfl,?_,fun j hj=>?_⟩
 ·show w.heap.size<=(w.heap++os).size;simp
 ·show(w.heap++os)[j]?=w.heap[j]?;rw[awX hj]
theorem ie_24 (T:Nd)(z:T.y=24)(ax:T.Q=true):IW 151 T (fun d=>(aJ T).ex 1):=by
  intro pb own X d b w v ab hg hf hr I;have hn:=T.I hf;rw[pT T z]at I⊢;obtain⟨a,cap,rfl,_⟩:=ar.1 hr;have aE:T.val (.slice a T.q cap)=.agg #[.int .i64 24,.int .i64 T.E,.string T.z,.slice a T.q cap]:=by unfold Nd.val;rw[z]
  rw[aE];have aR:Below w.heap.size w (w.alloc (.cells #[.int .i64 24,.int .i64 T.E,.string T.z,.slice a T.q cap] 25)):=(bO w _);have HP:=Z (L.af ab aR);have HN:=Z (fun d' b' Y W(h:L pb own (w.alloc (.cells #[.int .i64 24,.int .i64 T.E,.string T.z,.slice a T.q cap] 25)) d' b' Y W)=>(show W.cell? ⟨w.heap.size,0,none⟩=some (.int .i64 24)/\W.cell? ⟨w.heap.size,1,none⟩=some (.int .i64 T.E)/\W.cell? ⟨w.heap.size,2,none⟩=some (.string T.z)/\W.cell? ⟨w.heap.size,3,none⟩=some (.slice a T.q cap) by
    have e:=h.kept ab w.heap.size lr M
    rw[e,e,e,e];refine⟨?_,?_,?_,?_⟩<;>simp[go_sem]))
  have HG:=Z<|bU ab aR hg;have dC:=Z aR;have HB:=Z I;clear ax z I hr hf ab hg aE aR;have arl:=kk;exact MY
theorem Iq (z:T.y=26)(ax:T.Q=true):(aJ T).ex 1=[109,97,107,101,40,99,104,97,110,32,105,110,116]++(ay (fun i=>[44,32]++(aJ<|T.f i).ex 1) T.q++[41]):=by rw[mG T z];have:=(nM z ax).1;have h:T.q=0\/T.q=1:=O;rcases h with h|h<;>simp[h,ay]
theorem ie_26 (T:Nd)(z:T.y=26)(hW:IW 175 T (fun _=>(aJ T).ex 1)):IW 151 T (fun d=>(aJ T).ex 1):=by
  intro pb own X d b w v ab hg hf hr I;have hn:=T.I hf;obtain⟨a,cap,rfl,_⟩:=ar.1 hr;have aE:T.val (.slice a T.q cap)=.agg #[.int .i64 26,.int .i64 T.E,.string T.z,.slice a T.q cap]:=by unfold Nd.val;rw[z]
  rw[aE];have aR:Below w.heap.size w (w.alloc (.cells #[.int .i64 26,.int .i64 T.E,.string T.z,.slice a T.q cap] 25)):=(bO w _);have HP:=Z (L.af ab aR);have HN:=Z (fun d' b' Y W(h:L pb own (w.alloc (.cells #[.int .i64 26,.int .i64 T.E,.string T.z,.slice a T.q cap] 25)) d' b' Y W)=>(show W.cell? ⟨w.heap.size,0,none⟩=some (.int .i64 26)/\W.cell? ⟨w.heap.size,1,none⟩=some (.int .i64 T.E)/\W.cell? ⟨w.heap.size,2,none⟩=some (.string T.z)/\W.cell? ⟨w.heap.size,3,none⟩=some (.slice a T.q cap) by
    have e:=h.kept ab w.heap.size lr M
    rw[e,e,e,e];refine⟨?_,?_,?_,?_⟩<;>simp[go_sem]))
  have HG:=Z<|bU ab aR hg;have dC:=Z aR;have HV:=Z fun b' Y W(h:L pb own (w.alloc<|.cells #[.int .i64 26,.int .i64 T.E,.string T.z,.slice a T.q cap] 25) d b' Y W)I=>h.fn hW (.slice a T.q cap) (bU ab aR hg) hf (cw ab aR hr) I;have arf:=kk;exact Xe
theorem ie_27 (T:Nd)(z:T.y=27)(hW:IW 176 T (fun _=>(aJ T).ex 1)):IW 151 T (fun d=>(aJ T).ex 1):=by
  intro pb own X d b w v ab hg hf hr I;have hn:=T.I hf;obtain⟨a,cap,rfl,_⟩:=ar.1 hr;have aE:T.val (.slice a T.q cap)=.agg #[.int .i64 27,.int .i64 T.E,.string T.z,.slice a T.q cap]:=by unfold Nd.val;rw[z]
  rw[aE];have aR:Below w.heap.size w (w.alloc (.cells #[.int .i64 27,.int .i64 T.E,.string T.z,.slice a T.q cap] 25)):=(bO w _);have HP:=Z (L.af ab aR);have HN:=Z (fun d' b' Y W(h:L pb own (w.alloc (.cells #[.int .i64 27,.int .i64 T.E,.string T.z,.slice a T.q cap] 25)) d' b' Y W)=>(show W.cell? ⟨w.heap.size,0,none⟩=some (.int .i64 27)/\W.cell? ⟨w.heap.size,1,none⟩=some (.int .i64 T.E)/\W.cell? ⟨w.heap.size,2,none⟩=some (.string T.z)/\W.cell? ⟨w.heap.size,3,none⟩=some (.slice a T.q cap) by
    have e:=h.kept ab w.heap.size lr M
    rw[e,e,e,e];refine⟨?_,?_,?_,?_⟩<;>simp[go_sem]))
  have HG:=Z<|bU ab aR hg;have dC:=Z aR;have HV:=Z fun b' Y W(h:L pb own (w.alloc<|.cells #[.int .i64 27,.int .i64 T.E,.string T.z,.slice a T.q cap] 25) d b' Y W)I=>h.fn hW (.slice a T.q cap) (bU ab aR hg) hf (cw ab aR hr) I;have arh:=kk;exact Xe
theorem ie_28 (T:Nd)(z:T.y=28)(hW:IW 177 T (fun _=>(aJ T).ex 1)):IW 151 T (fun d=>(aJ T).ex 1):=by
  intro pb own X d b w v ab hg hf hr I;have hn:=T.I hf;obtain⟨a,cap,rfl,_⟩:=ar.1 hr;have aE:T.val (.slice a T.q cap)=.agg #[.int .i64 28,.int .i64 T.E,.string T.z,.slice a T.q cap]:=by unfold Nd.val;rw[z]
  rw[aE];have aR:Below w.heap.size w (w.alloc (.cells #[.int .i64 28,.int .i64 T.E,.string T.z,.slice a T.q cap] 25)):=(bO w _);have HP:=Z (L.af ab aR);have HN:=Z (fun d' b' Y W(h:L pb own (w.alloc (.cells #[.int .i64 28,.int .i64 T.E,.string T.z,.slice a T.q cap] 25)) d' b' Y W)=>(show W.cell? ⟨w.heap.size,0,none⟩=some (.int .i64 28)/\W.cell? ⟨w.heap.size,1,none⟩=some (.int .i64 T.E)/\W.cell? ⟨w.heap.size,2,none⟩=some (.string T.z)/\W.cell? ⟨w.heap.size,3,none⟩=some (.slice a T.q cap) by
    have e:=h.kept ab w.heap.size lr M
    rw[e,e,e,e];refine⟨?_,?_,?_,?_⟩<;>simp[go_sem]))
  have HG:=Z<|bU ab aR hg;have dC:=Z aR;have HV:=Z fun b' Y W(h:L pb own (w.alloc<|.cells #[.int .i64 28,.int .i64 T.E,.string T.z,.slice a T.q cap] 25) d b' Y W)I=>h.fn hW (.slice a T.q cap) (bU ab aR hg) hf (cw ab aR hr) I;have ari:=kk;exact Xe
theorem ie_29 (T:Nd)(z:T.y=29)(ax:T.Q=true)(ih:∀i,i<T.q->pg (T.f i)):IW 151 T (fun d=>(aJ T).ex 1):=by intro pb own X d b w v ab hg hf hr I;have hn:=T.I hf;obtain⟨hlen,jv⟩:=uX z ax;rw[pQ T z]at I⊢;have ard:=kk;exact Xf
theorem ie_25 (T:Nd)(z:T.y=25)(ax:T.Q=true)(ih:∀i,i<T.q->pg (T.f i)):IW 151 T (fun d=>(aJ T).ex 1):=by
  intro pb own X d b w v ab hg hf hr I;have hn:=T.I hf;rw[pS T z]at I⊢;obtain⟨a,cap,rfl,_⟩:=ar.1 hr;have aE:T.val (.slice a T.q cap)=.agg #[.int .i64 25,.int .i64 T.E,.string T.z,.slice a T.q cap]:=by unfold Nd.val;rw[z]
  rw[aE];have aR:Below w.heap.size w (w.alloc (.cells #[.int .i64 25,.int .i64 T.E,.string T.z,.slice a T.q cap] 25)):=(bO w _);have HP:=Z (L.af ab aR);have HN:=Z (fun d' b' Y W(h:L pb own (w.alloc (.cells #[.int .i64 25,.int .i64 T.E,.string T.z,.slice a T.q cap] 25)) d' b' Y W)=>(show W.cell? ⟨w.heap.size,0,none⟩=some (.int .i64 25)/\W.cell? ⟨w.heap.size,1,none⟩=some (.int .i64 T.E)/\W.cell? ⟨w.heap.size,2,none⟩=some (.string T.z)/\W.cell? ⟨w.heap.size,3,none⟩=some (.slice a T.q cap) by
    have e:=h.kept ab w.heap.size lr M
    rw[e,e,e,e];refine⟨?_,?_,?_,?_⟩<;>simp[go_sem]))
  have HG:=Z<|bU ab aR hg;have dC:=Z aR;have HV:=Z fun b' Y W(h:L pb own (w.alloc<|.cells #[.int .i64 25,.int .i64 T.E,.string T.z,.slice a T.q cap] 25) d b' Y W)I=>h.cz T.z ih (uZ z ax) (.slice a T.q cap) (bU ab aR hg) hf (cw ab aR hr) I;have HB:=Z I;clear ih ax z I hr hf ab hg aE aR;generalize ay (fun i=>(if i=0 then[]else[44,32])++(aJ<|T.f i).ex 1) T.q=tx at*
  have aro:=kk;exact MY
theorem MN (n:Int)(h:n=0\/n=1):(⟨(Lib.formatBool<|n==1).toArray⟩:ByteArray).data.toList=(if n=0 then[102,97,108,115,101]else[116,114,117,101]):=by rcases h with rfl|rfl<;>decide
theorem ie_23 (T:Nd)(z:T.y=23)(ax:T.Q=true):IW 151 T (fun d=>(aJ T).ex 1):=by
  intro pb own X d b w v ab hg hf hr I;have hn:=T.I hf;have Bn:=BP z ax;rw[pU T z,<-MN T.E Bn]at I⊢;obtain⟨a,cap,rfl,_⟩:=ar.1 hr;have aE:T.val (.slice a T.q cap)=.agg #[.int .i64 23,.int .i64 T.E,.string T.z,.slice a T.q cap]:=by unfold Nd.val;rw[z]
  rw[aE];have aR:Below w.heap.size w (w.alloc (.cells #[.int .i64 23,.int .i64 T.E,.string T.z,.slice a T.q cap] 25)):=(bO w _);have HP:=Z (L.af ab aR);have HN:=Z (fun d' b' Y W(h:L pb own (w.alloc (.cells #[.int .i64 23,.int .i64 T.E,.string T.z,.slice a T.q cap] 25)) d' b' Y W)=>(show W.cell? ⟨w.heap.size,0,none⟩=some (.int .i64 23)/\W.cell? ⟨w.heap.size,1,none⟩=some (.int .i64 T.E)/\W.cell? ⟨w.heap.size,2,none⟩=some (.string T.z)/\W.cell? ⟨w.heap.size,3,none⟩=some (.slice a T.q cap) by
    have e:=h.kept ab w.heap.size lr M
    rw[e,e,e,e];refine⟨?_,?_,?_,?_⟩<;>simp[go_sem]))
  have HG:=Z<|bU ab aR hg;have dC:=Z aR;have HB:=Z I;have HV:=Z fun W:World=>strconv_FormatBool (T.E==1) W;clear Bn ax z I hr hf ab hg aE aR;generalize (⟨(Lib.formatBool<|T.E==1).toArray⟩:ByteArray)=fb at*
  have arn:=kk;exact MY
theorem QX (f:Nat):∀n,n<10^ (f+1)->Lib.decDigits n=bS (f+1) n:=by
  induction f with
  | zero => intro n h;have h:n<10:=by simpa using h
            rw[Lib.decDigits];simp[bS,h]
  | succ f ih=>
    intro n h;rw[Lib.decDigits,bS];split
    · rfl
    · rw[ih (n/ 10) (by rw[Nat.pow_succ]at h;omega)]
theorem ie_22 (T:Nd)(z:T.y=22)(ax:T.Q=true):IW 151 T (fun d=>(aJ T).ex 1):=by
  intro pb own X d b w v ab hg hf hr I;have hn:=T.I hf;obtain⟨h0,wN⟩:=BQ z ax;obtain⟨m,hm⟩:∃m:Nat,T.E=(m:Int):=⟨T.E.toNat,O⟩;have hdg:bS 20 T.E.toNat=(⟨(Lib.itoa (m:Int)).toArray⟩:ByteArray).data.toList:=by
    rw[hm];show _=Lib.itoa (m:Int);unfold Lib.itoa;rw[avo O];exact(QX 19 _ (by have:(10:Nat)^ 20=100000000000000000000:=J;omega)).symm
  rw[pV T z,hdg]at I⊢;obtain⟨a,cap,rfl,_⟩:=ar.1 hr;have aE:T.val (.slice a T.q cap)=.agg #[.int .i64 22,.int .i64 (m:Int),.string T.z,.slice a T.q cap]:=by unfold Nd.val;rw[z,hm]
  rw[aE];have aR:Below w.heap.size w (w.alloc (.cells #[.int .i64 22,.int .i64 (m:Int),.string T.z,.slice a T.q cap] 25)):=(bO w _);have HP:=Z (L.af ab aR);have HN:=Z (fun d' b' Y W(h:L pb own (w.alloc (.cells #[.int .i64 22,.int .i64 (m:Int),.string T.z,.slice a T.q cap] 25)) d' b' Y W)=>(show W.cell? ⟨w.heap.size,0,none⟩=some (.int .i64 22)/\W.cell? ⟨w.heap.size,1,none⟩=some (.int .i64 (m:Int))/\W.cell? ⟨w.heap.size,2,none⟩=some (.string T.z)/\W.cell? ⟨w.heap.size,3,none⟩=some (.slice a T.q cap) by
    have e:=h.kept ab w.heap.size lr M
    rw[e,e,e,e];refine⟨?_,?_,?_,?_⟩<;>simp[go_sem]))
  have HG:=Z<|bU ab aR hg;have dC:=Z aR;have HB:=Z I;have HV:=Z fun W(hW:Below pb (w.alloc<|.cells #[.int .i64 22,.int .i64 (m:Int),.string T.z,.slice a T.q cap] 25) W)=>strconv_Itoa (m:Int) O O W ((bU ab aR hg) W hW).1;clear h0 wN hm hdg ax z I hr hf ab hg aE aR;generalize (⟨(Lib.itoa (m:Int)).toArray⟩:ByteArray)=fb at*
  generalize T.z=ts at*
  go_enter func151,ntmps151
  go_wp2;go_region_with(first
    | (go_at_call 173;refine(HV.o _ HP.o.drew.below).mono ?_;rintro e w2 ⟨rfl,hx⟩;have iY:=below_grow hx;have y:=HP.o.drew.calm iY;obtain⟨b0,b1,b2,b3⟩:=HN.o _ _ _ _ y;have HP:=Z y;clear y iY hx)
    | (go_at_call_of 57 w2;refine(HP.o.putAt [fb] _ 1 _ M rfl rfl J aad).mono ?_;rintro e w3 ⟨⟨r,rfl⟩,y⟩;obtain⟨b0,b1,b2,b3⟩:=HN.o _ _ _ _ y;have HP:=Z y;clear y))
  exact Xh
theorem MP (z:T.y=28)(ax:T.Q=true):(aJ T).ex 1=jJ (decide ((T.f 0).y=28)&&decide (bV (T.f 0).z<bV T.z)) ((aJ<|T.f 0).ex 1)++(32::(T.z.data.toList++32::jJ (decide ((T.f 1).y=28)&&decide (bV (T.f 1).z<bV T.z+1)) ((aJ<|T.f 1).ex 1))):=by
 obtain⟨Br,hlen,jv,zn⟩:=nL z ax;rw[kM T z,<-u5 jv _ Br,<-u5 zn _ O];have h1:decide (bV T.z<1)=false:=by simp;omega
 rw[h1];rfl
theorem WM (T:Nd)(z:T.y=28)(ih:∀i,i<T.q->pg (T.f i))(ax:T.Q=true):IW 177 T (fun d=>(aJ T).ex 1):=by intro pb own X d b w v ab hg hf hr I;have hn:=T.I hf;obtain⟨Br,hlen,jv,zn⟩:=nL z ax;have hlv5:=Dj T.z;rw[MP z ax]at I⊢;have are:=kk;exact Xf
end Go.Proofs.YtgcmhaghebhjnaaGreatDoor
