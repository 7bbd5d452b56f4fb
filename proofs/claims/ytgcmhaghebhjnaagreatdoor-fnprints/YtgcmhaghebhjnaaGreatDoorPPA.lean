/- Proved: for every slice of bytes, however long, laws.FnPrints returns true, that is, of the program that spec.ProgramOf draws of the bytes impl.Print answers the text that the specification's Print answers, and no fault, impl.TreeOK answers true, impl.Parse reads the text back as the very same tree, with no fault, and impl.Print of what is read back answers the text again (the law itself asks nothing of more than 1048576 bytes); it writes into no argument, and nothing that was in memory is changed; the package variables takenWords, signs, kidForms, caseForms, typeTexts, strconv.ErrRange, strconv.ErrSyntax, internal/strconv.uint64pow10 and math/bits.deBruijn32tab and deBruijn64tab hold what their initialisers lay (the card ties them). -/
import Derived.Test.YtgcmhaghebhjnaaGreatDoorPIC
import Derived.Test.YtgcmhaghebhjnaaGreatDoorPYC
import Derived.Test.YtgcmhaghebhjnaaGreatDoorPDF
import Derived.Test.YtgcmhaghebhjnaaGreatDoorCards
import Derived.Test.YtgcmhaghebhjnaaGreatDoorTie
import Derived.Lib.AppendIntMem
import Derived.LaidMore
import Derived.OpenShut
set_option linter.unusedVariables false
set_option maxHeartbeats 16000000
set_option maxRecDepth 100000
namespace Go.Proofs.YtgcmhaghebhjnaaGreatDoor
open Go.RowKit Go.Proofs.Tryz List
variable {H :Type} {P:Program} {W:World}
def Nn (T:Nd):Prop:=∀(w:World)(u v:Value),T.R->Row 0 w.heap.size w T u->Row 0 w.heap.size w T v->
 Calls prog 9 #[T.val u,T.val v] w fun e w'=>e=.returned (.bool true)/\Below w.heap.size w w'
theorem Kk (T:Nd)(ih:∀i,i<T.q->Nn (T.f i)):Nn T:=by
 intro w u v hf hr wa;have hn:=T.I hf;obtain⟨a,ca,rfl,bo,hq⟩:=ar.1 hr;clear bo;obtain⟨b,cb,rfl,bo,hq'⟩:=ar.1 wa;clear bo;have HI:=Z ih;have HF:=Z hf;have HR:=Z hq;have RS:=Z hq';have HB:∀a b:Obj,Hid (Below w.heap.size w<|(w.alloc a).alloc b):=fun a b=>(bA).alloc M _;clear hr wa hf ih hq hq';unfold Nd.val;generalize T.y=tk;generalize T.E=tn;generalize T.z=ts;have z:(tk !=tk)=false:=M;have Bn:(tn !=tn)=false:=M;have hs:(ts.toList !=ts.toList)=false:=M;have hll:((T.q:Int) !=(T.q:Int))=false:=M;go_enter func9,ntmps9
 go_wp2_with fail
 have fU:Hid (((w.alloc<|.cells #[.int .i64 tk,.int .i64 tn,.string ts,.slice a T.q ca] 25).alloc<|.cells #[.int .i64 tk,.int .i64 tn,.string ts,.slice b T.q cb] 25).cell? ⟨w.heap.size,3,none⟩=some (.slice a T.q ca)):=by
  unfold Hid;simp[go_sem]
 have oR:Hid (((w.alloc<|.cells #[.int .i64 tk,.int .i64 tn,.string ts,.slice a T.q ca] 25).alloc<|.cells #[.int .i64 tk,.int .i64 tn,.string ts,.slice b T.q cb] 25).cell? ⟨w.heap.size+1,3,none⟩=some (.slice b T.q cb)):=by
  unfold Hid;simp[go_sem]
 have HW:=HB (.cells #[.int .i64 tk,.int .i64 tn,.string ts,.slice a T.q ca] 25)<|.cells #[.int .i64 tk,.int .i64 tn,.string ts,.slice b T.q cb] 25;have mT:((w.alloc<|.cells #[.int .i64 tk,.int .i64 tn,.string ts,.slice a T.q ca] 25).alloc<|.cells #[.int .i64 tk,.int .i64 tn,.string ts,.slice b T.q cb] 25).heap.size≥w.heap.size+2:=M;generalize (w.alloc<|.cells #[.int .i64 tk,.int .i64 tn,.string ts,.slice a T.q ca] 25).alloc (.cells #[.int .i64 tk,.int .i64 tn,.string ts,.slice b T.q cb] 25)=W0 at*
 clear HB;go_loopw[5] (fun i wr=>∃j:Nat,j<=T.q/\i=.int .i64 j/\Below W0.heap.size W0 wr) (fun i _=>T.q-(intOf i).toNat)
 case atStart=>exact⟨0,O,rfl,avB _ _⟩
 case round=>
  obtain⟨j,hj,rfl,I⟩:=hrel;have sP:=I.size;have x3:=(I.cell (p:=⟨w.heap.size,3,none⟩) aar).trans fU.o;have y3:=(I.cell (p:=⟨w.heap.size+1,3,none⟩) (by show w.heap.size+1<_;omega)).trans oR.o;have fH:Below w.heap.size w wr:=HW.o.trans<|I.mono O;by_cases be:j<T.q
  ·have hji:(j:Int)<(T.q:Int):=O;rcases HR.o with h0|⟨g,off,rfl,h1,h2,h3⟩
   ·omega
   rcases RS.o with h0|⟨g',Vg,rfl,h1',NY,h3'⟩
   ·omega
   obtain⟨x,e0,e1,e2,e3,hx⟩:=h3 j be;obtain⟨axd,f0,f1,f2,f3,hy⟩:=h3' j be;rw[<-fH.cell (p:=⟨g,_,none⟩) h2]at e0 e1 e2 e3;rw[<-fH.cell (p:=⟨g',_,none⟩) NY]at f0 f1 f2 f3;have HX:=Z<|aY (ah fH lr hx) (avF 0) fH.size;have HY:=Z<|aY (ah fH lr hy) (avF 0) fH.size;have HC:=HI.o j be;have ng:=Z<|Nd.aa HF.o be;unfold Nn Nd.val at HC;have Am:=Z HC;have HBB:=Z I;clear h3 h3' HC hx hy I fH;generalize T.f j=K at*
   generalize K.y=kk at*
   generalize K.E=kn at*
   generalize K.z=ks at*
   go_wp2_with fail
   go_region_with(go_at_call 9;(refine(Am.o _ _ _ ng.o ?_ ?_).mono ?_;exact AK HX.o;exact AK HY.o;rintro e w1 ⟨rfl,hb1⟩))
   all_goals go_wp2
   all_goals exact⟨⟨j+1,O,by go_num,HBB.o.drew.trans<|hb1.mono HBB.o.size⟩,by simp[intOf];omega⟩
  ·have hji:¬(j:Int)<(T.q:Int):=O;have Oc:=Z fH;clear I fH;go_wp2;go_ret;exact⟨rfl,Oc.o⟩
theorem Kl (T:Nd):Nn T:=by
 induction T with
 |nil=>exact Kk _ fun i hi=>absurd hi<|avJ i
 |mk k n s len kids ih=>exact Kk _ fun i _=>ih i
theorem Dn (PR:PRC)(ca:Option Addr)(cn cc:Nat)(w:World)(hn:cn<=9223372036854775807)(fM:Bytes w.heap.size w ca cn)(ht:Ci w)(hg:Gl w.heap.size w)(h2:4<w.heap.size)(hw:bX w 4 bd)(hs:bX w 3 dI):
  Calls prog 3 #[.slice ca cn cc] w fun e w'=>e=.returned (.bool true)/\Below w.heap.size w w':=by
 by_cases hc:cn<=1048576
 ·have PT:=Z<|AO PR ca cn cc w hc fM;have HT:=Z ht;have HG:=Z hg;have HW:=Z hw;have HS:=Z hs;have hci:¬(1048576:Int)<(cn:Int):=O;clear fM ht hg hw hs PR;go_enter func3,ntmps3
  go_wp2_with fail
  refine PT.o.mono ?_;rintro e w1⟨T,a,c,rfl,y⟩;have eu:=y.below.size;have iW:T.cost<=1048576:=avK y.cost O;obtain⟨xO,_,_⟩:=Io y.code;have VP:=Mm T xO (by have:=y.ak;omega);have hlen:(eL T).length<=1099511627776:=avK VP O;have CG:=Z y.below;have FT:=Z y.aA;have e1:rs T=eL T:=by unfold rs;rw[avA xO]
  have e2:yl T=0:=by unfold yl;rw[avA xO]
  have IP:=Z fun W u(I:Below w1.heap.size w1 W)(hr:Row 0 W.heap.size W T u)=>Dr Q9 T W u y.aA hr iW (gW HT.o<|y.below.trans<|I.mono eu) (fun V hV=>HG.o V<|(y.below.trans<|I.mono eu).trans<|hV.mono<|avK eu I.size) fun _=>hlen;have SP:=Z fun W(I:Below w1.heap.size w1 W)=>C2 T W (.slice a T.q c) W.heap.size y.aA lr (aY (ah I lr y.row) (avL _) I.size) fun _=>hlen;have PA:=Z fun W(I:Below w1.heap.size w1 W)=>KA xO (by have:=y.ak;omega) VP y.aA iW W aaz (dJ HW.o (y.below.trans<|I.mono eu) O)<|dJ HS.o (y.below.trans<|I.mono eu) O;have IT:=Z fun W(I:Below w1.heap.size w1 W)=>xJ T W (.slice a T.q c) y.aA (aY (ah I lr y.row) (avL _) I.size) iW<|gW HT.o<|y.below.trans<|I.mono eu;have SM:=Z<|Kl T;have HR:=Z fun W(I:Below w1.heap.size w1 W)=>(aY (ah I lr y.row) (avL _) I.size:Row 0 W.heap.size W T (.slice a T.q c));rw[e1,e2]at IP SP;rw[Aw,xO]at IT;clear y HT HG HW HS PT iW xO e1 e2 hlen VP;generalize cP (eL T)=tx at*
  have mi:(tx.toList==tx.toList)=true:=M;unfold Nn at SM;unfold Nd.val at*
  have bM:Below w1.heap.size w1 (w1.alloc<|.cells #[.int .i64 T.y,.int .i64 T.E,.string T.z,.slice a T.q c] 25):=bA;have F1:Hid (Four (w1.alloc<|.cells #[.int .i64 T.y,.int .i64 T.E,.string T.z,.slice a T.q c] 25) w1.heap.size (.int .i64 T.y) (.int .i64 T.E) (.string T.z)<|.slice a T.q c):=Four.new w1 _ _ _ _ _;have zW:=Z bM;clear bM;go_wp2_with fail
  refine(IP.o _ _ zW.o<|HR.o _ zW.o).mono ?_;rintro e w2⟨rfl,hb2⟩;have ed:=hb2.size;simp only[avs]at ed;have B2:=Z<|zW.o.trans<|hb2.mono M;have F2:=Z<|F1.o.keep hb2 M;clear hb2 F1 zW;obtain⟨p0,p1,p2,p3⟩:=F2.o;go_wp2_with fail
  refine(SP.o _ B2.o).mono ?_;rintro e w3⟨rfl,hb3⟩;have td:=hb3.size;have B3:=Z<|B2.o.trans<|hb3.mono O;have F3:=Z<|F2.o.keep hb3 O;clear hb3 F2 B2 p0 p1 p2 p3 SP;go_wp2_with fail
  refine(PA.o _ B3.o).mono ?_;rintro e w4⟨a4,c4,rfl,EZ,eA⟩;have EV:=eA.size;have xU:Below w4.heap.size w4 (w4.alloc<|.cells #[.int .i64 T.y,.int .i64 T.E,.string T.z,.slice a4 T.q c4] 25):=bA;have B4:=Z<|(B3.o.trans<|eA.mono O).trans<|xU.mono O;have F4:=Z<|(F3.o.keep eA O).keep xU O;have G4:Hid (Four (w4.alloc<|.cells #[.int .i64 T.y,.int .i64 T.E,.string T.z,.slice a4 T.q c4] 25) w4.heap.size (.int .i64 T.y) (.int .i64 T.E) (.string T.z)<|.slice a4 T.q c4):=Four.new w4 _ _ _ _ _;have HQ:=Z fun W(I:Below w4.heap.size w4 W)=>(aY (ah I lr EZ) (avL _) I.size:Row 0 W.heap.size W T (.slice a4 T.q c4));have En:=Z xU;clear eA F3 B3 PA EZ xU;go_wp2_with fail
  refine(IP.o _ _ B4.o<|HQ.o _ En.o).mono ?_;rintro e w5⟨rfl,wk⟩;have Lp:=wk.size;simp only[avs]at Lp;have B5:=Z<|B4.o.trans<|wk.mono aah;have F5:=Z<|F4.o.keep wk aah;have G5:=Z<|G4.o.keep wk M;have Q5:=Z<|En.o.trans<|wk.mono M;clear wk F4 B4 G4 En IP;obtain⟨p0,p1,p2,p3⟩:=F5.o;obtain⟨q0,q1,q2,q3⟩:=G5.o;go_wp2_with fail
  refine(IT.o _ B5.o).mono ?_;rintro e w6⟨rfl,wj⟩;have PY:=wj.size;have B6:=Z<|B5.o.trans<|wj.mono O;have F6:=Z<|F5.o.keep wj O;have G6:=Z<|G5.o.keep wj O;have Q6:=Z<|Q5.o.trans<|wj.mono O;clear wj F5 B5 G5 Q5 IT p0 p1 p2 p3 q0 q1 q2 q3;obtain⟨p0,p1,p2,p3⟩:=F6.o;obtain⟨q0,q1,q2,q3⟩:=G6.o;go_wp2_with fail
  refine(SM.o _ _ _ FT.o (HQ.o _ Q6.o)<|HR.o _ B6.o).mono ?_;rintro e w7⟨rfl,Ae⟩;have B7:=Z<|CG.o.trans<|(B6.o.trans<|Ae.mono O).mono eu;clear Ae B6 Q6 p0 p1 p2 p3 q0 q1 q2 q3 F6 G6;go_wp2;go_ret;exact⟨rfl,B7.o⟩
 ·have hci:(1048576:Int)<(cn:Int):=O;clear fM ht hg PR hw hs;go_enter func3,ntmps3
  go_wp2;go_ret;exact⟨rfl,avB _ _⟩
section
open Go.RowKit Go.ChangeShapes Go.WideShapes
theorem De {enc:TypeId×Value->H}{sp:Nat->Bool}{held:Bool}{t e:TypeId}{fuel:Nat}{d:Value}{x:DataW H×List MemPlace}(ht:P.underlying t=some (.slice e))(he:P.underlying e=some (.int .u8))(ce:P.cellsOf e=1)
  (h:DataW.trod enc P W 0 sp held fuel t [d]=some x):∃ca cn cc,d=.slice ca cn cc/\cn<=9223372036854775807/\Bytes W.heap.size W ca cn:=by
 rcases DataW.trod_slice ht h with⟨e3,_⟩|⟨ad,len,cap,elems,rest,q,hq,e3,_,_,hlc,Ac,L1,Qk,_,_⟩
 ·obtain rfl:d=.slice none 0 0:=by simpa using e3
  exact⟨none,0,0,rfl,O,.inl rfl⟩
 ·obtain rfl:d=.slice (some ad) len cap:=by simpa using e3
  unfold maxLen at Ac;refine⟨some ad,len,cap,rfl,O,?_⟩;by_cases h0:len=0
  ·exact .inl h0
  ·have z:∀i,i<len->∃b:Nat,b<256/\W.cells? 0 (ad.add<|i*1) 1=some [.int .u8 (b:Int)]:=by
    intro i hi;have:=Qk i hi;rw[ce,av4 (O:i<elems.length),Option.bind_eq_some_iff]at this;obtain⟨cs',q8,htr⟩:=this;obtain⟨axa,e0,_,w0⟩:=DataW.trod_int he htr;rw[e0]at q8;have w1:0<=axa/\axa<=255:=by simpa[Lit.wf,IntKind.min,IntKind.max,IntKind.signed,IntKind.bits]using w0
    exact⟨axa.toNat,O,by rw[show((axa.toNat:Nat):Int)=axa by omega];exact q8⟩
   obtain⟨b0,_,aR⟩:=z 0 O;have ey:=(World.cells?_some aR).2.2 0 O;have e:(ad.add<|0*1).add 0=ad:=by simp[Addr.add]
   rw[e]at ey;have had:=GL ey;refine .inr ⟨ad.block,ad.off,by rw[<-had],Q2 ey,fun i hi=>?_⟩;obtain⟨b,I,hbc⟩:=z i hi;have hci:=(World.cells?_some hbc).2.2 0 O;rw[Ce (Ce had<|i*1) 0]at hci;exact⟨b,I,by simpa using hci⟩
end
section
namespace Tr
open Go.ChangeShapes Go.WideShapes Go.ChangeAt Go.WideMaps Go.WideElems Go.RowKit
theorem own :ownKnob prog.godebug=none:=by kernel_rfl
theorem laidOut :laidOutB prog=true:=by kernel_rfl
theorem gWords : prog.globalNamed "loop.example/g00135/impl.takenWords" = some 4 := by kernel_rfl
theorem tWords :(prog.globals[4]?).map (·.type)=some 152:=by kernel_rfl
theorem cellsW :prog.cellsOf 152=21:=by kernel_rfl
theorem gSigns : prog.globalNamed "loop.example/g00135/impl.signs" = some 3 := by kernel_rfl
theorem tSigns :(prog.globals[3]?).map (·.type)=some 151:=by kernel_rfl
theorem cellsG :prog.cellsOf 151=25:=by kernel_rfl
theorem datumS :(Rows.laid_loop_example_g00135_impl_signs:DataW Unit)=kY dI:=by kernel_rfl
theorem gKids : prog.globalNamed "loop.example/g00135/impl.kidForms" = some 2 := by kernel_rfl
theorem tKids :(prog.globals[2]?).map (·.type)=some 124:=by kernel_rfl
theorem cellsK :prog.cellsOf 124=30:=by kernel_rfl
theorem gCases : prog.globalNamed "loop.example/g00135/impl.caseForms" = some 1 := by kernel_rfl
theorem tCases :(prog.globals[1]?).map (·.type)=some 123:=by kernel_rfl
theorem cellsC :prog.cellsOf 123=3:=by kernel_rfl
theorem gTypes : prog.globalNamed "loop.example/g00135/impl.typeTexts" = some 0 := by kernel_rfl
theorem tTypes :(prog.globals[0]?).map (·.type)=some 105:=by kernel_rfl
theorem cellsT :prog.cellsOf 105=4:=by kernel_rfl
theorem gPow : prog.globalNamed "internal/strconv.uint64pow10" = some 6 := by kernel_rfl
theorem tPow :(prog.globals[6]?).map (·.type)=some 180:=by kernel_rfl
theorem cellsP :prog.cellsOf 180=20:=by kernel_rfl
theorem cellsU :prog.cellsOf 159=1:=by kernel_rfl
theorem cellsS :prog.cellsOf 9=1:=by kernel_rfl
theorem datumW :(Rows.laid_loop_example_g00135_impl_takenWords:DataW Unit)=kY bd:=by kernel_rfl
theorem datumK :(Rows.laid_loop_example_g00135_impl_kidForms:DataW Unit)=kY jE:=by kernel_rfl
theorem datumC :(Rows.laid_loop_example_g00135_impl_caseForms:DataW Unit)=kY ik:=by kernel_rfl
theorem datumT :(Rows.laid_loop_example_g00135_impl_typeTexts:DataW Unit)=kY [⟨#[]⟩,⟨#[105,110,116]⟩,⟨#[98,111,111,108]⟩,⟨#[99,104,97,110,32,105,110,116]⟩]:=by kernel_rfl
theorem datumP :(Rows.laid_internal_strconv_uint64pow10:DataW Unit)=Lib.tabData .u64 Lib.pow10Tab:=by kernel_rfl
theorem door_met (os:Os)(args:Array Value):laidMetH prog Rows.fnPrintsRow.laid ((World.doorLaid prog 400 os).forCall (fun _ _=>0) ⟨#[],args,[]⟩).memory:=
 laidMetH_of_parts3 (fuel:=8) (laidMet_of_run' 8 aaf aaf) aaf aaf
theorem of_laid (h:laidMetH prog Rows.fnPrintsRow.laid W):Ci W/\Gl W.heap.size W/\4<W.heap.size/\bX W 4 bd/\bX W 3 dI:=by
 rw[MakeChecks.laidMetH_plain _ _ _ aaf]at h
 obtain⟨ps,⟨_,_,_,_,_,_,_,_,_,_,⟨_,_,_,_,_,_,_,_,_,_,⟨g2,t2,cs2,f2,p2,q2,qZ,ht2,hv2,Tn,⟨_,_,_,_,_,_,_,_,_,_,⟨_,_,_,_,_,_,_,_,_,_,⟨g3,t3,cs3,f3,p3,q3,oD,ht3,hv3,hd3,⟨g7,t7,cs7,f7,p7,q7,hg7,ht7,hv7,hd7,⟨g4,t4,cs4,f4,p4,q4,hg4,ht4,hv4,hd4,⟨g5,t5,cs5,f5,p5,q5,hg5,ht5,hv5,hd5,⟨g6,t6,cs6,f6,p6,q6,hg6,ht6,hv6,hd6,_,_⟩,_⟩,_⟩,_⟩,_⟩,_⟩,_⟩,_⟩,_⟩,_⟩,_,_⟩:=h
 obtain rfl:=avq<|gPow.symm.trans qZ
 obtain rfl:=avq<|tPow.symm.trans ht2
 obtain rfl:=avq<|gWords.symm.trans oD
 obtain rfl:=avq<|tWords.symm.trans ht3
 obtain rfl:=avq<|gKids.symm.trans hg4
 obtain rfl:=avq<|tKids.symm.trans ht4
 obtain rfl:=avq<|gCases.symm.trans hg5
 obtain rfl:=avq<|tCases.symm.trans ht5
 obtain rfl:=avq<|gTypes.symm.trans hg6
 obtain rfl:=avq<|tTypes.symm.trans ht6
 obtain rfl:=avq<|gSigns.symm.trans hg7
 obtain rfl:=avq<|tSigns.symm.trans ht7
 have hl:=CP oD hv3
 have hlT:=CP hg6 hv6
 have hlS:=CP hg7 hv7
 rw[datumP]at Tn
 rw[datumW]at hd3
 rw[datumK]at hd4
 rw[datumC]at hd5
 rw[datumT]at hd6
 rw[datumS]at hd7
 have hP : Lib.TabIs prog W "internal/strconv.uint64pow10" .u64 Lib.pow10Tab := by
  unfold Lib.TabIs
  rw[hv2,<-Lib.cells_of_tab underlying180 underlying159 cellsU cellsP Tn]
 have hW:=fun i hi=>ix oD underlying152 underlying9 cellsS cellsW hv3 hd3 i hi
 refine⟨⟨hW,
  fun i hi=>ix hg4 underlying124 underlying9 cellsS cellsK hv4 hd4 i hi,
  fun i hi=>ix hg5 underlying123 underlying9 cellsS cellsC hv5 hd5 i hi,hl⟩,fun V hV=>⟨Lib.tabBelow_of_tabIs hP V hV,fun i hi=>?_⟩,O,hW,fun i hi=>ix hg7 underlying151 underlying9 cellsS cellsG hv7 hd7 i hi⟩
 rw[hV.cell (p:=⟨0,i,none⟩) hlT]
 exact ix hg6 underlying105 underlying9 cellsS cellsT hv6 hd6 i hi
theorem vars_len {enc:TypeId×Value->H}{w:World}{spare:Nat->Bool}:∀{ns:List String}{gs:List (DataW H)}{ps:List MemPlace},DataW.TrodVars enc P w spare ns gs ps->gs.length=ns.length:=by
 intro ns;induction ns with
 |nil=>
  intro gs ps h;cases gs with
  |nil=>rfl
  |cons=>simp[DataW.TrodVars]at h
 |cons n ns ih=>
  intro gs ps h;cases gs with
  |nil=>simp[DataW.TrodVars]at h
  |cons d ds=>
   obtain⟨_,_,_,_,_,_,_,_,_,_,hs,_⟩:=h
   simp[ih hs]
theorem five {α:Type}(l:List α)(h:l.length=5):∃a b c d e,l=[a,b,c,d,e]:=by
 match l,h with
 |[a,b,c,d,e],_=>exact⟨a,b,c,d,e,rfl⟩
theorem prc :PRC:=fun sb A w hA h=>(Db 46184 233000 30 O O O bd_2 sb A w O h).mono fun e w'⟨T,a,c,he,hd⟩=>⟨T,a,c,he,hd.more O⟩
theorem lifted (os:Os)(started:os.Started)(H:Type)(enc:TypeId×Value->H):
  ReturnsInHanded {} checked os 3 .any (fun w args=>(Rows.fnPrintsSpec.pre enc prog f3 [] false w args/\laidMetH prog Rows.fnPrintsRow.laid w)/\sizedMet enc prog f3 (OpenSpec.ofChange Rows.fnPrintsSpec) false w args)
   (Rows.fnPrintsSpec.post enc prog f3 false true false false):=by
 refine returnsInHanded_of_change_and (C:=checked) (X:=fun w _=>laidMetH prog Rows.fnPrintsRow.laid w) (fun _ _ _ hh h=>h.of_heap hh) own started aaf func3
  (ChangeSpec.witness_shaped (enc:=enc) (C:=checked) (os:=os) (X:=fun w _=>laidMetH prog Rows.fnPrintsRow.laid w) false (World.doorLaid prog 400 os) #[.slice none 0 0] 8 rfl (World.shaped_of_RefB aaf aaf) aaf aaf aaf<|door_met os _) ?_
 intro W base args ds gs before hval0 hW _ _ hL _;have aE:∀(j:Nat)t v,f3.params[j]?=some t->args[j]?=some v->Value.okWide prog W .any base t v:=hval0;have hW':=hW;obtain⟨p,q,hA0,hV,rfl,hfz,hnd⟩:=hW;have hA:DataW.TrodAll enc prog W 0 (fun _=>true) true f3.params.toList args.toList ds p:=hA0;rw[params3]at hA aE;obtain⟨v0,vs0,d0,ds0,p0,q0,hargs,rfl,rfl,h0,r0⟩:=trodAll_cons hA;obtain⟨rfl,rfl,rfl⟩:=trodAll_nil r0;obtain rfl:args=#[v0]:=by cases args;simp_all
 obtain⟨d1,d2,d3,d4,d5,rfl⟩:=five gs<|show gs.length=5 from vars_len hV;obtain⟨fuel,hfu⟩:=h0;obtain⟨va,vl,vc,rfl⟩:=okWide_slice underlying22<|aE 0 22 v0 rfl rfl;have cy:(Value.slice va vl vc).cells.toList=[.slice va vl vc]:=rfl;rw[cy]at hfu;obtain⟨ca,cn,cc,xN,hn,th⟩:=De underlying22 underlying5 aaf hfu;rw[xN];rw[xN]at hW';obtain⟨l1,l2,l3,l4,l5⟩:=of_laid hL;refine(Dn prc ca cn cc W hn th l1 l2 l3 l4 l5).mono fun e W'⟨he,I⟩=>?_;subst he;exact⟨_,rfl,Lf laidOut underlying4 aaf aaf aaf rfl hW' I⟩
theorem said :Rows.FnPrintsSaid:=
 OpenClaim.holds_of_wide 3 f3 rfl rfl rfl rfl rfl rfl rfl ⟨rfl,rfl,rfl,rfl,rfl⟩ rfl rfl rfl rfl rfl aaf func3 aaf
  (aw3 aaf) (by unfold Func.isWrapper;first|(rw[avA (by decide +kernel)];kernel_rfl)|(rw[avo (by decide +kernel)];exact⟨rfl,rfl⟩))
  (fun os started H enc _=>lifted os started H enc)
theorem plain (f : FuncId) (fn : Func) (hf : Tryz.pinned.checked.prog.funcNamed "loop.example/g00135/laws.FnPrints" = some f) (Qf : Tryz.pinned.checked.prog.funcs[f]? = some fn) :
  true=Tryz.pinned.checked.prog.looks []/\∀(j:Nat)t,fn.params[j]?=some t->Tryz.pinned.checked.prog.wantsStandIn t=false:=by
 obtain rfl : f = 3 := Option.some.inj ((show prog.funcNamed "loop.example/g00135/laws.FnPrints" = some 3 by kernel_rfl).symm.trans hf) |>.symm
 obtain rfl:fn=f3:=(avq<|func3.symm.trans Qf).symm
 refine⟨aaf,fun j t ht=>?_⟩
 rw[params3]at ht
 obtain rfl:t=22:=by simpa using Array.mem_of_getElem? ht
 exact(show prog.wantsStandIn 22=false by kernel_rfl)
end Tr
theorem fnPrints_card :Rows.FnPrintsCardSaid:=
 Claim7.holds_tied_plain_at .later [] _ _ _ _ Tr.said (fun _ h=>by cases h) aaf (fun _ h=>by cases h) fnPrints_row_tie rfl ⟨rfl,rfl⟩ aaf rfl Tr.plain aaf
#print axioms fnPrints_card
end
end Go.Proofs.YtgcmhaghebhjnaaGreatDoor
