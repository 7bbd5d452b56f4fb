import Derived.Test.YtgcmhaghebhjnaaGreatDoorPTD
import Derived.Test.YtgcmhaghebhjnaaGreatDoorPKcA
import Derived.Test.YtgcmhaghebhjnaaGreatDoorShelf
import Derived.Lib.AtoiErrMem
set_option linter.unusedVariables false
set_option maxHeartbeats 16000000
set_option maxRecDepth 100000
namespace Go.Proofs.YtgcmhaghebhjnaaGreatDoor
open Go.RowKit Tryz List
variable {B b c f l lc lo m n need nx op pb r:Nat} {C:List KT->Prop} {T:Nd} {V W W' Zq w w':World} {a la:Option Addr} {axf rest tk:List KT} {en k:Int} {fn:Func} {s:ByteArray} {tmps:Array Value} {ts:List Tok} {u v x:Value}
variable {G :Prop}
theorem ag3 (h:G:=by obtain⟨h1,h2,h3⟩:=cm (s:=s) hn;exact⟨_,_,rfl,h1,h2,h3,by show(1:Int)≠5;decide,fun e=>absurd (show(1:Int)=3 from e) J⟩):G:=h
theorem ag4 (h:G:=by exact⟨_,_,rfl,J,J,J,J,fun e=>absurd e J⟩):G:=h
theorem ag9 (h:G:=by exact⟨g,e,hg,fun i hi=>by rw[z,z,z];exact hc i hi⟩):G:=h
theorem aha (h:G:=by
 obtain⟨n0,n1,n2,n3,nf⟩:=al lC.o;have fa:=Z<|hg.ps.alloc<|nO (T.f 0)<|.slice a' (T.f 0).q c;have sJ:=Z hg.row;have td:=hg.kp.size;clear hg ra fe gi;have oX:=Z<|iu.o.put w1.heap.size 3 (.slice (some ⟨w3.heap.size,0,none⟩) 1 1) eu;have mK:=Z<|fa.o.put w1.heap.size 3 (.slice (some ⟨w3.heap.size,0,none⟩) 1 1) O;have mh:=Z<|(avD _ _ 3 _ 25 (.slice (some ⟨w3.heap.size,0,none⟩) 1 1) lC.o).trans rfl;have Jc:Hid (∀V:World,w3.heap.size+1<=V.heap.size->(∀g,w2.heap.size<=g->g<w3.heap.size+1->V.heap[g]?=(w3.alloc<|nO (T.f 0)<|.slice a' (T.f 0).q c).heap[g]?)->Row (w.heap.size+1) V.heap.size V T (.slice (some ⟨w3.heap.size,0,none⟩) 1 1)):=fun V h1 h2=>qu Em.o O td sJ.o rfl rfl rfl h1 h2;clear iu fa lC sJ;first
 |clear atN
  obtain⟨m0,m1,m2,m3,mf⟩:=al<|show _=some (eS 27 0 ⟨#[45]⟩ (some ⟨w3.heap.size,0,none⟩) 1 1)from mh.o;have atQ:=kk;exact ahb
 |clear atO
  obtain⟨m0,m1,m2,m3,mf⟩:=al<|show _=some (eS 27 0 ⟨#[33]⟩ (some ⟨w3.heap.size,0,none⟩) 1 1)from mh.o;have atS:=kk;exact ahb
 |clear atP
  obtain⟨m0,m1,m2,m3,mf⟩:=al (show _=some (eS 29 0 ⟨#[]⟩ (some ⟨w3.heap.size,0,none⟩) 1 1)from mh.o);have atT:=kk;exact ahb):G:=h
theorem ahb (h:G:=by
 obtain⟨ts,nx,en,la,lc,h1,h2⟩:=mK.o;obtain⟨c0,c1,c2,c3,c4,cf⟩:=h1.cells;have ho5:=h1.c6;have hM:=h1.opens op O;rw[h2]at hM;have lL:=Z<|oX.o.step hM.kp;have oQ:=Z hM.ps;have EV:w3.heap.size+1<=(((w3.alloc<|nO (T.f 0)<|.slice a' (T.f 0).q c).setCell ⟨w1.heap.size,3,none⟩<|.slice (some ⟨w3.heap.size,0,none⟩) 1 1).setCell ⟨pb,3,none⟩<|.int .i64 (op:Int)).heap.size:=by simp[World.setCell]
 have zS:=Z (Jc.o _ EV fun g h1 h2=>by rw[avz _ _ _ _ (show g≠pb by omega),avz _ _ _ _<|show g≠w1.heap.size by omega]);have bY:¬w1.heap.size=pb:=O;have DI:¬pb=w1.heap.size:=O;obtain⟨z0,z1,z2,z3,zf⟩:=aP lL.o.av;clear oX mK mh Jc h1 h2 hM EV;unfold Nd.val;go_wp2;first
 |clear atQ
  exact avr (lL.o.read results193 rfl 27 0 ⟨#[45]⟩<|.slice (some ⟨w3.heap.size,0,none⟩) 1 1) rfl<|lL.o.done oQ.o zS.o HK.o IN.o zT.o Em.o
 |clear atS
  exact avr (lL.o.read results193 rfl 27 0 ⟨#[33]⟩<|.slice (some ⟨w3.heap.size,0,none⟩) 1 1) rfl<|lL.o.done oQ.o zS.o HK.o IN.o zT.o Em.o
 |clear atT
  exact avr (lL.o.read results193 rfl 29 0 ⟨#[]⟩ (.slice (some ⟨w3.heap.size,0,none⟩) 1 1)) rfl (lL.o.done oQ.o zS.o HK.o IN.o zT.o Em.o)):G:=h
theorem ahc (h:G:=by
 have HT:=Z<|cR pb _ op (w.alloc aN)<|mC.alloc _;have HP:=Z<|PW.start y.lt;have H:=Z<|mC.alloc aN;have HX:=Z fun W hW=>h pb axf (op+1) W O hC hW;have hop:op<60:=O;have HK:=Z z;have IN:=Z bm;have zT:=Z cm;have Em:=Z hlen;have f1:=nI;unfold aN at HT;clear h y mC ho hC z cm bm hlen ht;simp only[qe,eG]at HT;go_enter func193,ntmps193
 go_wp2_with fail
 refine HT.o.mono ?_;rintro e w1⟨⟨a,rfl⟩,I⟩;first
 |clear atU
  have gG:=Z<|(HP.o.calm I).calm<|(avB _ _).alloc lr<|.cells #[.int .i64 27,.int .i64 0,.string ⟨#[45]⟩,.slice none 0 0] 25;have ni:=Z<|avv w1<|.cells #[.int .i64 27,.int .i64 0,.string ⟨#[45]⟩,.slice none 0 0] 25;have HE:=Z<|fJ pb _ _ op ⟨#[45]⟩ _ rfl hop<|(H.o.calm I).alloc<|.cells #[.int .i64 27,.int .i64 0,.string ⟨#[45]⟩,.slice none 0 0] 25;have atA:=kk;exact W9
 |clear atV
  have gG:=Z<|(HP.o.calm I).calm<|(avB _ _).alloc lr<|.cells #[.int .i64 27,.int .i64 0,.string ⟨#[33]⟩,.slice none 0 0] 25;have ni:=Z<|avv w1<|.cells #[.int .i64 27,.int .i64 0,.string ⟨#[33]⟩,.slice none 0 0] 25;have HE:=Z<|fJ pb _ _ op ⟨#[33]⟩ _ rfl hop<|(H.o.calm I).alloc<|.cells #[.int .i64 27,.int .i64 0,.string ⟨#[33]⟩,.slice none 0 0] 25;have atB:=kk;exact W9
 |clear atW
  have gG:=Z ((HP.o.calm I).calm ((avB _ _).alloc lr (.cells #[.int .i64 29,.int .i64 0,.string ⟨#[]⟩,.slice none 0 0] 25)));have ni:=Z (avv w1 (.cells #[.int .i64 29,.int .i64 0,.string ⟨#[]⟩,.slice none 0 0] 25));have HE:=Z (fJ pb _ _ op ⟨#[60,45]⟩ _ rfl hop ((H.o.calm I).alloc (.cells #[.int .i64 29,.int .i64 0,.string ⟨#[]⟩,.slice none 0 0] 25)));have atC:=kk;exact W9):G:=h
theorem ahd (h:G:=by have atr:=kk;exact ag5):G:=h
theorem ahe (h:G:=by have atE:=kk;exact W8):G:=h
theorem ahf (h:G:=by
 have ed:w1.heap.size+1<=w2.heap.size:=by have:=hm.kp.size;simpa using this
 have ra:=Z<|HX.o w2 hm.ps;clear hm HE gG ni HX;go_wp2_with fail
 refine ra.o.mono ?_;rintro e w3⟨a',c,rfl,hg⟩;have iu:=Z<|(fe.o.step hg.kp).calm<|(avB _ _).alloc lr<|nO (T.f 0)<|.slice a' (T.f 0).q c;first
 |clear at2
  have lC:Hid ((w3.alloc<|nO (T.f 0)<|.slice a' (T.f 0).q c).heap[w1.heap.size]?=some (eS 27 0 ⟨#[45]⟩ none 0 0)):=aW (bc gi.o O hg.kp)<|bA;have atN:=kk;exact aha
 |clear at3
  have lC:Hid ((w3.alloc<|nO (T.f 0)<|.slice a' (T.f 0).q c).heap[w1.heap.size]?=some (eS 27 0 ⟨#[33]⟩ none 0 0)):=aW (bc gi.o O hg.kp)<|bA;have atO:=kk;exact aha
 |clear at4
  have lC:Hid ((w3.alloc (nO (T.f 0) (.slice a' (T.f 0).q c))).heap[w1.heap.size]?=some (eS 29 0 ⟨#[]⟩ none 0 0)):=aW (bc gi.o O hg.kp) (bA);have atP:=kk;exact aha):G:=h
theorem ahg (h:G:=by have atF:=kk;exact W8):G:=h
theorem ag5 (h:G:=by
 clear I HT H HP;have HN:=Z<|gS pb _ op ⟨#[102,97,108,115,101]⟩ _ (by simp only[eG];decide) H1.o;go_wp2_with fail
 refine HN.o.mono ?_;rintro e w2⟨rfl,I⟩;have H2:=Z<|H1.o.calm I;have fe:=Z<|gG.o.calm I;clear I HN H1 gG;first
 |clear atr
  have HN:=Z<|gS pb _ op ⟨#[116,114,117,101]⟩ _ (by simp only[eG];decide) H2.o;go_wp2_with fail
  refine HN.o.mono ?_;rintro e w3⟨rfl,I⟩;have H3:=Z<|H2.o.calm I;have iu:=Z<|fe.o.calm I;clear I HN H2 fe;first
  |clear atX
   have HN:=Z<|gS pb _ op ⟨#[109,97,107,101]⟩ _ (by simp only[eG];decide) H3.o;go_wp2_with fail
   refine HN.o.mono ?_;rintro e w4⟨rfl,I⟩;have H4:=Z<|H3.o.calm I;have oX:=Z<|iu.o.calm I;clear I HN H3 iu;have HN:=Z<|dG pb _ op ⟨#[40]⟩ _ H4.o;go_wp2_with fail
   refine HN.o.mono ?_;rintro e w5⟨rfl,I⟩;have H5:=Z<|H4.o.calm I;have lL:=Z<|oX.o.calm I;simp only[eG,decide_true];clear I HN H4 oX;have HC:=Z<|HX.o _ H5.o;go_wp2_with fail
   refine HC.o.mono ?_;rintro e w6⟨a',c,rfl,hg⟩;have vT:=Z<|lL.o.step hg.kp;obtain⟨z0,z1,z2,z3,zf⟩:=aP vT.o.av;have HS:=Z hg.ps;have HR:=Z<|jw lL.o hg;have Cq:=Z hg.cap;clear hg HC;unfold Nd.val;go_wp2;exact avr (vT.o.read results199 rfl T.y T.E T.z<|.slice a' T.q c) rfl ⟨a',c,rfl,vT.o.fin HS.o HR.o Cq.o⟩
  |clear atY
   have HN:=Z<|fA pb _ _ op ⟨#[109,97,107,101]⟩ _ rfl H3.o;go_wp2_with fail
   refine HN.o.mono ?_;rintro e w4⟨rfl,hm⟩;have H4:=Z hm.ps;have oX:=Z<|iu.o.step hm.kp;clear hm HN H3 iu;have HC:=Z<|HX.o _ H4.o;go_wp2_with fail
   refine HC.o.mono ?_;rintro e w5⟨a',c,rfl,hg⟩;have lL:=Z<|oX.o.step hg.kp;obtain⟨z0,z1,z2,z3,zf⟩:=aP lL.o.av;have HS:=Z hg.ps;have HR:=Z<|jw oX.o hg;have Cq:=Z hg.cap;clear hg HC;unfold Nd.val;go_wp2;exact avr (lL.o.read results199 rfl T.y T.E T.z<|.slice a' T.q c) rfl ⟨a',c,rfl,lL.o.fin HS.o HR.o Cq.o⟩
 |clear att
  have HN:=Z<|fA pb _ _ op ⟨#[116,114,117,101]⟩ _ rfl H2.o;go_wp2_with fail
  refine HN.o.mono ?_;rintro e w3⟨rfl,hm⟩;have H3:=Z hm.ps;have iu:=Z (fe.o.step hm.kp);clear hm HN H2 fe;obtain⟨z0,z1,z2,z3,zf⟩:=aP iu.o.av;go_wp2;exact avr (iu.o.read results199 rfl 23 1 ⟨#[]⟩ (.slice none 0 0)) rfl (iu.o.done H3.o (jU Em.o _ _ _) HK.o IN.o zT.o Em.o)):G:=h
theorem ag6 (h:G:=by have atK:=kk;exact Rb):G:=h
theorem ag7 (h:G:=by
 go_wp2_with fail
 refine HA.o.mono ?_;rintro e w1⟨rfl,I⟩;obtain⟨ts,nx,en,la,lc,h1,h2⟩:=H.o.calm I;obtain⟨c0,c1,c2,c3,c4,cf⟩:=h1.cells;have HM:=Z<|(Mv.of H.o I).trans<|h1.take h2;have hn:=h1.cy;have hf:=h1.aR;first
 |clear atw
  clear HA H I h1 h2;go_wp2;go_ret;exact⟨rfl,HM.o⟩
 |clear atx
  have ho1:((op:Int)==60)=false:=bn O;clear HA H I h1 h2;have Oa:Hid (Mv pb axf (op+1) w<|(w1.setCell ⟨pb,1,none⟩<|.int .i64<|(nx:Int)+1).setCell ⟨pb,3,none⟩<|.int .i64<|(op:Int)+1):=by
   obtain⟨ts',nx',en',la',lc',k1,k2⟩:=HM.o.ps;have:=k1.opens (op+1) ho;rw[k2]at this;exact HM.o.trans this
  clear HM;go_wp2;go_end0;exact⟨⟨_,rfl⟩,Oa.o⟩):G:=h
theorem ag8 (h:G:=by
 have hX:∀i,i<T.q->RD0 180 ((aF<|T.f i).ex 1) (T.f i) (2*T.ak-3) (eX 1):=fun i hi=>((ih i hi<|hE i hi).expr<|hE i hi).mono (by have:=T.aZ hi;omega) fun _ h=>h;first
 |clear aty
  have ht:(aF T).ex 6=(1,T.z)::(4,⟨#[40]⟩)::(dr (jF fun i=>(aF<|T.f i).ex 1) 0 T.q++[(4,⟨#[41]⟩)]):=by rw[gV O,z];rfl
  refine(mq ⟨(1,T.z),_,ht,AU (vd z ax).2⟩<|Pz _ 6 ht<|zK (l:=6) z ax hl hX).mono ?_ fun _ _=>trivial;omega
 |clear atz
  have ht:(aF T).ex 6=(3,⟨#[109,97,107,101]⟩)::((4,⟨#[40]⟩)::(3,⟨#[99,104,97,110]⟩)::(3,⟨#[105,110,116]⟩)::((if T.q=0 then[]else(4,⟨#[44]⟩)::(aF<|T.f 0).ex 1)++[(4,⟨#[41]⟩)])):=by rw[gV O,z];rfl
  refine(mq ⟨(3,⟨#[109,97,107,101]⟩),_,ht,J,J,J⟩ (Py 6 _ ht (MG z ax hX))).mono ?_ (fun _ _=>trivial);omega):G:=h
theorem W9 (h:G:=by
 have eu:=(HP.o.calm I).size;have ew:=HP.o.low;clear I HT HP H;go_wp2_with fail
 refine HE.o.mono ?_;rintro e w2⟨⟨r,rfl⟩,hm⟩;have fe:=Z<|gG.o.step hm.kp;first
 |clear atA
  have gi:Hid (w2.heap[w1.heap.size]?=some (eS 27 0 ⟨#[45]⟩ none 0 0)):=bc ni.o O hm.kp;have at2:=kk;exact ahf
 |clear atB
  have gi:Hid (w2.heap[w1.heap.size]?=some (eS 27 0 ⟨#[33]⟩ none 0 0)):=bc ni.o O hm.kp;have at3:=kk;exact ahf
 |clear atC
  have gi:Hid (w2.heap[w1.heap.size]?=some (eS 29 0 ⟨#[]⟩ none 0 0)):=bc ni.o O hm.kp;have at4:=kk;exact ahf):G:=h
theorem W8 (h:G:=by
 rw[e1]at y;have HT:=Z<|cR pb _ op (w.alloc aN)<|y.alloc _;have HP:=Z<|PW.start y.lt;have H:=Z<|y.alloc aN;first
 |clear atD
  have HK:=Z z;have HN:=Z bm;have Em:=Z hlen;have hb40:(((eG axf).toList==[40]):Bool)=false:=by rw[avH,avx];exact fun e=>hC<|dx e
  have f1:=nI;unfold aN at HT;clear y e1 hC ho cm z bm hlen;simp only[qe,eG]at HT;generalize hs:T.z=s at*
  have atu:=kk;exact ag6
 |clear atE
  have HK:=Z z;have IN:=Z hn;have zT:=Z cm;have Em:=Z hlen;unfold aN at HT;clear y e1 hC ho;simp only[qe,eG]at HT;have atL:=kk;exact Rb
 |clear atF
  unfold aN at HT;clear y e1 hC ho;simp only[qe,eG]at HT;have atM:=kk;exact Rb):G:=h
theorem W7 (h:G:=by
 have HT:=Z<|cR pb _ op (w.alloc aN)<|y.alloc _;have HP:=Z<|PW.start y.lt;have H:=Z<|y.alloc aN;first
 |clear atG
  have f1:=nI;unfold aN at HT;clear y hC ho h;simp only[qe,eG,cons_append]at HT H HX;have atv:=kk;exact ag6
 |clear atH
  have HX:=Z fun W hW=>h pb axf op W ho hC hW;have f1:=nI;have b45:(x.2.toList==[45])=false:=by rw[avH,avx];exact fun e=>Qo<|dx e
  have b33:(x.2.toList==[33])=false:=by rw[avH,avx];exact fun e=>h33<|dx e
  have b60:(x.2.toList==[60,45])=false:=by rw[avH,avx];exact fun e=>h60<|dx e
  unfold aN at HT;clear h y ho hC Qo h33 h60;simp only[qe,eG,cons_append]at HT;go_enter func193,ntmps193
  go_wp2_with fail
  refine HT.o.mono ?_;rintro e w1⟨⟨a,rfl⟩,I⟩;have gG:=Z<|(HP.o.calm I).calm<|(avB _ _).alloc lr<|.cells #[.int .i64 27,.int .i64 0,.string x.2,.slice none 0 0] 25;have Ai:=Z<|HX.o _<|(H.o.calm I).alloc<|.cells #[.int .i64 27,.int .i64 0,.string x.2,.slice none 0 0] 25;clear I HT HP H HX;go_wp2_with fail
  refine Ai.o.mono ?_;rintro e w2⟨a',c,rfl,hg⟩;have fe:=Z<|gG.o.step hg.kp;have HS:=Z hg.ps;have HR:=Z<|jw gG.o hg;have Cq:=Z hg.cap;obtain⟨z0,z1,z2,z3,zf⟩:=aP fe.o.av;clear hg Ai gG;unfold Nd.val;go_wp2;exact avr (fe.o.read results193 rfl T.y T.E T.z<|.slice a' T.q c) rfl ⟨a',c,rfl,fe.o.fin HS.o HR.o Cq.o⟩
 |clear atI
  have HA:=Z fun W=>strconv_Atoi (bs<|bS 20 T.E.toNat) T.E (by obtain⟨c,axd,hc,_,_,hl⟩:=jD h0 h9;rw[zL,hc];exact hl) (by rw[zM];exact M9 h0 h9) W;have HK:=Z z;have zT:=Z cm;have Em:=Z hlen;unfold aN at HT;clear y mC e1 hC ho cm z hlen;simp only[qe,eG]at HT;generalize Bn:T.E=n at*
  generalize bs (bS 20 n.toNat)=s at*
  have IN:=Z Bn;clear Bn;have atJ:=kk;exact Rb):G:=h
theorem Rb (h:G:=by
 go_enter func199,ntmps199
 go_wp2_with fail
 refine HT.o.mono ?_;rintro e w1⟨⟨a,rfl⟩,I⟩;first
 |clear atJ
  obtain⟨ts,nx,en,la,lc,h1,h2⟩:=H.o.calm I;obtain⟨c0,c1,c2,c3,c4,cf⟩:=h1.cells;obtain⟨d1,df⟩:=h1.ds;have hl:=h1.lt;have hn:=h1.cy;have hf:=h1.aR;have hM:=h1.take h2;have fe:=Z<|(HP.o.calm I).step hM.kp;have eF:=Z hM.ps;clear I HT H HP h1 h2 hM h0 h9;go_wp2_with fail
  refine(HA.o _).mono ?_;rintro e w3⟨rfl,t,SZ⟩;have hb3:Below (w1.setCell ⟨pb,1,none⟩<|.int .i64<|(nx:Int)+1).heap.size (w1.setCell ⟨pb,1,none⟩<|.int .i64<|(nx:Int)+1) w3:=by
   have hA:=(avB (w1.setCell ⟨pb,1,none⟩<|.int .i64<|(nx:Int)+1).heap.size<|w1.setCell ⟨pb,1,none⟩<|.int .i64<|(nx:Int)+1).alloc lr<|.cells #[.int .i64 2,.string s,.int .i64 a] 85;rw[SZ];exact hA.trans<|(Lib.bytesWorld_below _ _ _).mono hA.size
  have iu:=Z<|fe.o.calm hb3;have fa:=Z<|eF.o.calm hb3;obtain⟨z0,z1,z2,z3,zf⟩:=aP iu.o.av;clear hb3 SZ fe eF HA;go_wp2;exact avr (iu.o.read results199 rfl 22 n ⟨#[]⟩<|.slice none 0 0) rfl<|iu.o.done fa.o (jU Em.o _ _ _) HK.o IN.o zT.o Em.o
 |clear atK
  have H1:=Z<|H.o.calm I;have gG:=Z<|HP.o.calm I;have HA:=Z fun o=>mg pb _ op 1 (w1.alloc o) O<|H1.o.alloc o;first
  |clear atu
   simp only[awd,awv]at HA;clear I HT H HP;go_wp2_with fail
   refine(HA.o _).mono ?_;rintro e w2⟨⟨a2,rfl⟩,I⟩;have bM:=bO w1<|.cells #[.int .i64 1,.string s,.int .i64 a] 85;have gi:Hid (Below w1.heap.size w1 w2):=bM.trans<|I.mono M;have t0:w2.cell? ⟨w1.heap.size,0,none⟩=some (.int .i64 1):=(I.cell (p:=⟨w1.heap.size,0,none⟩) M).trans (by simp[go_sem]);have zT:=Z<|kB pb s axf op w2<|H1.o.calm gi.o;have fe:=Z<|gG.o.calm gi.o;clear I bM HA gG H1;go_wp2_with fail
   refine zT.o.mono ?_;rintro e w3⟨rfl,hm⟩;have iu:=Z<|fe.o.step hm.kp;have HS:=Z hm.ps;obtain⟨z0,z1,z2,z3,zf⟩:=aP iu.o.av;clear hm zT fe;go_wp2;exact avr (iu.o.read results199 rfl 24 0 s<|.slice none 0 0) rfl<|iu.o.done HS.o (jU Em.o _ _ _) HK.o HN.o hs Em.o
  |clear atv
   simp only[awd,awv,qe,eG]at HA;clear I HT H HP;go_wp2_with fail
   refine(HA.o _).mono ?_;rintro e w2⟨⟨a2,rfl⟩,I⟩;have bM:=bO w1<|.cells #[.int .i64 1,.string T.z,.int .i64 a] 85;have gi:Hid (Below w1.heap.size w1 w2):=bM.trans<|I.mono M;have oR:=Z<|HX.o w2<|H1.o.calm gi.o;have fe:=Z<|gG.o.calm gi.o;clear I bM HA gG H1 HX;go_wp2_with fail
   refine oR.o.mono ?_;rintro e w3⟨a',c,rfl,hg⟩;have iu:=Z<|fe.o.step hg.kp;have HS:=Z hg.ps;have HR:=Z<|jw fe.o hg;have Cq:=Z hg.cap;obtain⟨z0,z1,z2,z3,zf⟩:=aP iu.o.av;clear hg oR fe;unfold Nd.val;go_wp2;exact avr (iu.o.read results199 rfl T.y T.E T.z<|.slice a' T.q c) rfl ⟨a',c,rfl,iu.o.fin HS.o HR.o Cq.o⟩
 |clear atL
  first
  |clear atZ
   have H1:=Z<|(H.o.calm I).alloc<|.cells #[.int .i64 3,.string ⟨#[102,97,108,115,101]⟩,.int .i64 a] 85;have gG:=Z<|(HP.o.calm I).calm<|(avB _ _).alloc lr<|.cells #[.int .i64 3,.string ⟨#[102,97,108,115,101]⟩,.int .i64 a] 85;clear I HT H HP;have HN:=Z<|fA pb _ _ op ⟨#[102,97,108,115,101]⟩ _ rfl H1.o;go_wp2_with fail
   refine HN.o.mono ?_;rintro e w2⟨rfl,hm⟩;have H2:=Z hm.ps;have fe:=Z<|gG.o.step hm.kp;clear hm HN H1 gG;obtain⟨z0,z1,z2,z3,zf⟩:=aP fe.o.av;go_wp2;exact avr (fe.o.read results199 rfl 23 0 ⟨#[]⟩<|.slice none 0 0) rfl<|fe.o.done H2.o (jU Em.o _ _ _) HK.o IN.o zT.o Em.o
  |clear at0
   have H1:=Z<|(H.o.calm I).alloc<|.cells #[.int .i64 3,.string ⟨#[116,114,117,101]⟩,.int .i64 a] 85;have gG:=Z<|(HP.o.calm I).calm<|(avB _ _).alloc lr<|.cells #[.int .i64 3,.string ⟨#[116,114,117,101]⟩,.int .i64 a] 85;have att:=kk;exact ag5
 |clear atM
  first
  |clear at5
   have H1:=Z<|(H.o.calm I).alloc<|.cells #[.int .i64 4,.string ⟨#[40]⟩,.int .i64 a] 85;have gG:=Z<|(HP.o.calm I).calm<|(avB _ _).alloc lr<|.cells #[.int .i64 4,.string ⟨#[40]⟩,.int .i64 a] 85;have atX:=kk;exact ahd
  |clear at6
   have H1:=Z ((H.o.calm I).alloc (.cells #[.int .i64 3,.string ⟨#[109,97,107,101]⟩,.int .i64 a] 85));have gG:=Z ((HP.o.calm I).calm ((avB _ _).alloc lr (.cells #[.int .i64 3,.string ⟨#[109,97,107,101]⟩,.int .i64 a] 85)));have atY:=kk;exact ahd):G:=h
def qe :List KT->Int
 |[]=>0
 |a::_=>a.1
def eG :List KT->ByteArray
 |[]=>⟨#[]⟩
 |a::_=>a.2
structure PAt (pb:Nat)(ts:List Tok)(nx:Nat)(en:Int)(op:Nat)(la:Option Addr)(lc:Nat)(w:World):Prop where
 av:w.heap[pb]?=some (.cells #[.slice la ts.length lc,.int .i64 (nx:Int),.int .i64 en,.int .i64 (op:Int),.int .i64 0,.int .i64 0] 51 (0,0))
 aR:ts.length<=4000
 cy:nx<=ts.length
 c6:op<=60
 row:ts.length=0\/∃g,la=some ⟨g,0,none⟩/\g<pb/\∀i(h:i<ts.length),w.cell? ⟨g,i*3,none⟩=some (.int .i64 ts[i].y)/\w.cell? ⟨g,i*3+1,none⟩=some (.string ts[i].text)/\w.cell? ⟨g,i*3+2,none⟩=some (.int .i64 ts[i].place)
theorem PAt.lt (h:PAt pb ts nx en op la lc w):pb<w.heap.size:=(avp.1 h.av).1
theorem PAt.calm (h:PAt pb ts nx en op la lc w)(I:Below w.heap.size w w'):PAt pb ts nx en op la lc w':=by have hl:=h.lt;refine⟨(I.block _ hl).trans h.av,h.aR,h.cy,h.c6,h.row.imp id ?_⟩;rintro⟨g,e,hg,hc⟩;have z:=fun o=>I.cell (p:=⟨g,o,none⟩) (by show g<w.heap.size;omega);exact ag9
theorem PAt.cells (h:PAt pb ts nx en op la lc w):
  w.cell? ⟨pb,0,none⟩=some (.slice la ts.length lc)/\w.cell? ⟨pb,1,none⟩=some (.int .i64 (nx:Int))/\w.cell? ⟨pb,2,none⟩=some (.int .i64 en)/\w.cell? ⟨pb,3,none⟩=some (.int .i64 (op:Int))/\w.cell? ⟨pb,4,none⟩=some (.int .i64 0)/\∀o,w.frozen? ⟨pb,o,none⟩=false:=by
 have hc:∀o,w.cell? ⟨pb,o,none⟩=(#[Value.slice la ts.length lc,.int .i64 (nx:Int),.int .i64 en,.int .i64 (op:Int),.int .i64 0,.int .i64 0])[o]?:=fun o=>avS _ _ _ _ _ (0,0) h.av;exact⟨by rw[hc];rfl,by rw[hc];rfl,by rw[hc];rfl,by rw[hc];rfl,by rw[hc];rfl,fun o=>av3 _ _ _ _ _ h.av⟩
def kt (t:Tok):KT:=(t.y,t.text)
def PS (pb:Nat)(axf:List KT)(op:Nat)(w:World):Prop:=∃ts nx en la lc,PAt pb ts nx en op la lc w/\(ts.map kt).drop nx=axf
theorem PS.calm (h:PS pb axf op w)(I:Below w.heap.size w w'):PS pb axf op w':=by obtain⟨ts,nx,en,la,lc,h1,h2⟩:=h;exact⟨ts,nx,en,la,lc,h1.calm I,h2⟩
theorem PS.lt (h:PS pb axf op w):pb<w.heap.size:=by obtain⟨ts,nx,en,la,lc,h1,h2⟩:=h;exact h1.lt
theorem PS.drew (h:PS pb axf op w):PS pb axf op w.drew:=h.calm ⟨rfl,rfl,rfl,avF _,fun _ _=>rfl⟩
theorem PS.alloc (h:PS pb axf op w)(o:Obj):PS pb axf op (w.alloc o):=h.calm<|bA
theorem Aq (h:n<ts.length):(ts.map kt).drop n=kt ts[n]::(ts.map kt).drop (n+1):=by rw[aw1 (by simpa using h)];simp
theorem ZO (w:World):(sizeOf 85).run prog w=.ok 3 w:=by kernel_rfl
theorem Ku {x0 x1 x2:Value}(qJ:fn.results=#[.cell r 85])(ht:tmps[r]?.getD undef=.pointer (some ⟨b,0,none⟩))(I:W.heap[b]?=some (.cells #[x0,x1,x2] 85 (0,0))):
    (results fn tmps).run prog W=.ok (.agg #[x0,x1,x2]) W:=by
  have hc:∀o,W.cell? ⟨b,o,none⟩=(#[x0,x1,x2])[o]?:=fun o=>avS _ _ _ _ _ (0,0) I;have e:=run_loadCells_list (P:=prog) W ⟨b,0,none⟩ [x0,x1,x2] (fun j v h=>by
    match j,h with
    | 0,h=>obtain rfl:=avq h;simpa[Addr.add]using hc 0
    | 1,h=>obtain rfl:=avq h;simpa[Addr.add]using hc 1
    | 2,h=>obtain rfl:=avq h;simpa[Addr.add]using hc 2
    | j+3,h=>simp at h)
  have hs:=ZO W;have hl:(loadVar 85 ⟨b,0,none⟩).run prog W=.ok (.agg #[x0,x1,x2]) W:=by
    simp only[loadVar,isAgg,underlying,awr,Result.andThen];simp only[length_cons,length_nil,Nat.zero_add]at e;simp[hs,Result.andThen,e]
  unfold results;rw[qJ];simp[asAddr,ht,hl]
theorem mg (pb:Nat)(axf:List KT)(op n:Nat)(w:World)(hn:n<=1)(h:PS pb axf op w):
  Calls prog 112 #[.pointer<|some ⟨pb,0,none⟩,.int .i64 (n:Int)] w fun e w'=>(∃a:Int,e=.returned (.agg #[.int .i64<|qe<|axf.drop n,.string<|eG<|axf.drop n,.int .i64 a]))/\Below w.heap.size w w':=by
 obtain⟨ts,nx,en,la,lc,h1,h2⟩:=h
 have bM:=bO w<|.cells #[.int .i64 0,.string ⟨#[]⟩,.int .i64 0] 85;have H1:=Z<|h1.calm bM;obtain⟨c0,c1,c2,c3,c4,cf⟩:=H1.o.cells;have fp:=h1.aR;have hnxt:=h1.cy;have hl:=h1.lt;have fQ:Hid ((w.alloc<|.cells #[.int .i64 0,.string ⟨#[]⟩,.int .i64 0] 85).heap[w.heap.size]?=some (.cells #[.int .i64 0,.string ⟨#[]⟩,.int .i64 0] 85)):=avv w _;have HB:=Z bM;have di:=pJ;subst h2;have V1:((ts.map kt).drop nx).drop n=(ts.map kt).drop (nx+n):=by rw[drop_drop]
 rw[V1];clear V1 h1 bM;by_cases be:nx+n<ts.length
 ·rw[Aq be];have gY:(nx:Int)+(n:Int)<(ts.length:Int):=O;rcases H1.o.row with h0|⟨g,rfl,hg,hc⟩
  ·omega
  obtain⟨t0,t1,t2⟩:=hc _ be;have lj:((nx+n:Nat):Int)=(nx:Int)+(n:Int):=O;clear hc;go_enter func112,ntmps112
  go_wp2;go_region
  go_wp2;go_region
  go_wp2;refine avr (Ku results112 rfl<|avv w _) rfl ⟨⟨_,rfl⟩,((bA).drew).drew⟩
 ·rw[awt.2 aah];have gY:(ts.length:Int)<=(nx:Int)+(n:Int):=O;go_enter func112,ntmps112
  go_wp2;go_region
  go_wp2;refine avr (Ku results112 rfl<|avv w _) rfl ⟨⟨_,rfl⟩,(bA).drew⟩
def Ay :Obj:=.cells #[.int .i64 0,.string ⟨#[]⟩,.int .i64 0] 85
def putT (W:World)(b:Nat)(x0 x1 x2:Value):World:=((W.setCell ⟨b,0,none⟩ x0).setCell ⟨b,1,none⟩ x1).setCell ⟨b,2,none⟩ x2
theorem Kw (h:W.heap[b]?=some Ay)(x0 x1 x2:Value):(putT W b x0 x1 x2).heap[b]?=some (.cells #[x0,x1,x2] 85 (0,0)):=by have h1:=avD _ b 0 _ 85 x0 h;have h2:=avD _ b 1 _ 85 x1 h1;exact(avD _ b 2 _ 85 x2 h2).trans rfl
theorem FV (h:W.heap[b]?=some Ay):W.cell? ⟨b,0,none⟩=some (.int .i64 0)/\W.cell? ⟨b,1,none⟩=some (.string ⟨#[]⟩)/\W.cell? ⟨b,2,none⟩=some (.int .i64 0)/\∀o,W.frozen? ⟨b,o,none⟩=false:=by have hc:∀o,W.cell? ⟨b,o,none⟩=(#[Value.int .i64 0,.string ⟨#[]⟩,.int .i64 0])[o]?:=fun o=>avS _ _ _ _ _ (0,0) h;exact⟨by rw[hc];rfl,by rw[hc];rfl,by rw[hc];rfl,fun o=>av3 _ _ _ _ _ h⟩
theorem cR (pb:Nat)(axf:List KT)(op:Nat)(w:World)(h:PS pb axf op w):
  Calls prog 72 #[.pointer<|some ⟨pb,0,none⟩] w fun e w'=>(∃a:Int,e=.returned (.agg #[.int .i64<|qe axf,.string<|eG axf,.int .i64 a]))/\Below w.heap.size w w':=by
 have HA:=Z<|mg pb axf op 0 (w.alloc Ay) O<|h.alloc Ay;have HZ:=Z<|avv w Ay;have HB:=Z<|bO w Ay;unfold Ay at HA;clear h;go_enter func72,ntmps72
 go_wp2_with fail
 refine HA.o.mono ?_;rintro e w1⟨⟨a,rfl⟩,I⟩;rw[avs]at I;have X8:Hid (w1.heap[w.heap.size]?=some Ay):=(I.block _ O).trans HZ.o;obtain⟨z0,z1,z2,zf⟩:=FV X8.o;have ni:=Z<|HB.o.trans<|I.mono<|av8 _;clear I HA HZ HB;go_wp2;refine avr (Ku results72 rfl<|Kw X8.o _ _ _) rfl ⟨⟨_,rfl⟩,((ni.o.setCell (p:=⟨w.heap.size,0,none⟩) lr _).setCell (p:=⟨w.heap.size,1,none⟩) lr _).setCell (p:=⟨w.heap.size,2,none⟩) lr _⟩
theorem sy (x0 x1 x2:Value)(W:World):(Instr.field 85 (.agg #[x0,x1,x2]) 0).run prog W=.ok x0 W:=by kernel_rfl
theorem nI (x0 x1 x2:Value)(W:World):(Instr.field 85 (.agg #[x0,x1,x2]) 1).run prog W=.ok x1 W:=by kernel_rfl
theorem xY (x0 x1 x2:Value)(W:World):(Instr.field 85 (.agg #[x0,x1,x2]) 2).run prog W=.ok x2 W:=by kernel_rfl
theorem dG (pb:Nat)(axf:List KT)(op:Nat)(t:ByteArray)(w:World)(h:PS pb axf op w):
  Calls prog 78 #[.pointer<|some ⟨pb,0,none⟩,.string t] w fun e w'=>e=.returned (.bool<|decide<|eG axf=t)/\Below w.heap.size w w':=by
 have HA:=Z<|cR pb axf op w h;clear h;generalize eG axf=x at*
 generalize qe axf=k at*
 have f1:=nI;go_enter func78,ntmps78
 go_wp2_with(go_at_call 72;refine HA.o.mono ?_;rintro e w1 ⟨⟨a,rfl⟩,I⟩)
 go_ret;refine⟨aw ?_,I⟩;rw[avN,avV,avy,avx,avx];exact⟨fun e=>by cases x;cases t;congr 1;exact Array.ext' e,fun e=>by rw[e]⟩
structure Mv (pb:Nat)(axf:List KT)(op:Nat)(w w':World):Prop where
 ps:PS pb axf op w'
 kp:Kp pb w w'
theorem Mv.of (h:PS pb axf op w)(I:Below w.heap.size w w'):Mv pb axf op w w':=⟨h.calm I,b9 I _⟩
theorem Mv.trans {axe:List KT}{oq:Nat}(h:Mv pb axf op w w')(h':Mv pb axe oq w' Zq):Mv pb axe oq w Zq:=⟨h'.ps,h.kp.trans h'.kp fun _ _ h=>h⟩
theorem PAt.take {a:KT}(h:PAt pb ts nx en op la lc w)(hL:(ts.map kt).drop nx=a::axf):Mv pb axf op w (w.setCell ⟨pb,1,none⟩<|.int .i64<|(nx:Int)+1):=by
 have be:nx<ts.length:=by
  refine aww fun hn=>?_;rw[awt.2 aah]at hL;cases hL
 have hl:=h.lt;rw[Aq be]at hL;injection hL with h1 h2;refine⟨⟨ts,nx+1,en,la,lc,⟨?_,h.aR,be,h.c6,h.row.imp id ?_⟩,h2⟩,Kept.setCell (S:=fun k=>k=pb) ⟨pb,1,none⟩ _ rfl⟩
 ·exact(avD _ pb 1 _ 51 (.int .i64<|(nx:Int)+1) h.av).trans aan
 ·rintro⟨g,e,hg,hc⟩;have z:∀o,(w.setCell ⟨pb,1,none⟩<|.int .i64<|(nx:Int)+1).cell? ⟨g,o,none⟩=w.cell? ⟨g,o,none⟩:=fun o=>avt (a:=⟨g,o,none⟩)<|avz _ _ _ _ (by show g≠pb;omega);exact ag9
theorem PAt.opens (h:PAt pb ts nx en op la lc w)(oq:Nat)(hq:oq<=60):Mv pb ((ts.map kt).drop nx) oq w (w.setCell ⟨pb,3,none⟩<|.int .i64 (oq:Int)):=by
 refine⟨⟨ts,nx,en,la,lc,⟨?_,h.aR,h.cy,hq,h.row.imp id ?_⟩,rfl⟩,Kept.setCell (S:=fun k=>k=pb) ⟨pb,3,none⟩ _ rfl⟩
 ·exact(avD _ pb 3 _ 51 (.int .i64 (oq:Int)) h.av).trans aan
 ·rintro⟨g,e,hg,hc⟩;have z:∀o,(w.setCell ⟨pb,3,none⟩<|.int .i64 (oq:Int)).cell? ⟨g,o,none⟩=w.cell? ⟨g,o,none⟩:=fun o=>avt (a:=⟨g,o,none⟩)<|avz _ _ _ _ (by show g≠pb;omega);exact ag9
theorem PS.dA (h:PS pb axf op w):op<=60:=by obtain⟨ts,nx,en,la,lc,h1,h2⟩:=h;exact h1.c6
theorem fA (pb:Nat)(a:KT)(axf:List KT)(op:Nat)(t:ByteArray)(w:World)(ht:a.2=t)(h:PS pb (a::axf) op w):
  Calls prog 114 #[.pointer<|some ⟨pb,0,none⟩,.string t] w fun e w'=>e=.returned (.bool true)/\Mv pb axf op w w':=by
 have HA:=Z<|dG pb (a::axf) op t w h;have e1:decide (eG (a::axf)=t)=true:=avR ht;rw[e1]at HA;have H:=Z h;clear h e1 ht;go_enter func114,ntmps114
 have atw:=kk;exact ag7
theorem gS (pb:Nat)(axf:List KT)(op:Nat)(t:ByteArray)(w:World)(ht:eG axf≠t)(h:PS pb axf op w):
  Calls prog 114 #[.pointer<|some ⟨pb,0,none⟩,.string t] w fun e w'=>e=.returned (.bool false)/\Below w.heap.size w w':=by
 have HA:=Z<|dG pb axf op t w h;have e1:decide (eG axf=t)=false:=avP ht;rw[e1]at HA;clear h e1 ht;go_enter func114,ntmps114
 go_wp2_with fail
 refine HA.o.mono ?_;rintro e w1⟨rfl,I⟩;clear HA;go_wp2;go_ret;exact⟨rfl,I⟩
theorem fZ (pb:Nat)(a:KT)(axf:List KT)(op:Nat)(t:ByteArray)(w:World)(ht:a.2=t)(h:PS pb (a::axf) op w):
  Calls prog 74 #[.pointer<|some ⟨pb,0,none⟩,.string t] w fun e w'=>(∃r,e=.returned r)/\Mv pb axf op w w':=by
 have HA:=Z<|fA pb a axf op t w ht h;clear h;go_enter func74,ntmps74
 go_wp2_with fail
 refine HA.o.mono ?_;rintro e w1⟨rfl,I⟩;clear HA;go_wp2;go_end0;exact⟨⟨_,rfl⟩,I⟩
theorem fJ (pb:Nat)(a:KT)(axf:List KT)(op:Nat)(t:ByteArray)(w:World)(ht:a.2=t)(ho:op<60)(h:PS pb (a::axf) op w):
  Calls prog 115 #[.pointer<|some ⟨pb,0,none⟩,.string t] w fun e w'=>(∃r,e=.returned r)/\Mv pb axf (op+1) w w':=by
 have HA:=Z<|dG pb (a::axf) op t w h;have e1:decide (eG (a::axf)=t)=true:=avR ht;rw[e1]at HA;have H:=Z h;clear h e1 ht;go_enter func115,ntmps115
 have atx:=kk;exact ag7
theorem ke (pb:Nat)(a:KT)(axf:List KT)(op:Nat)(t:ByteArray)(w:World)(ht:a.2=t)(h:PS pb (a::axf) (op+1) w):
  Calls prog 117 #[.pointer<|some ⟨pb,0,none⟩,.string t] w fun e w'=>(∃r,e=.returned r)/\Mv pb axf op w w':=by
 have HA:=Z<|fZ pb a axf (op+1) t w ht h;have ho:=h.dA;clear h ht;go_enter func117,ntmps117
 go_wp2_with fail
 refine HA.o.mono ?_;rintro e w1⟨⟨r,rfl⟩,hm⟩;obtain⟨ts,nx,en,la,lc,h1,h2⟩:=hm.ps;obtain⟨c0,c1,c2,c3,c4,cf⟩:=h1.cells;have HM:Hid (Mv pb axf op w<|w1.setCell ⟨pb,3,none⟩<|.int .i64 (op:Int)):=by
  have:=h1.opens op O;rw[h2]at this;exact hm.trans this
 clear HA h1 h2 hm;go_wp2;go_end0;exact⟨⟨_,rfl⟩,HM.o⟩
theorem kB (pb:Nat)(s:ByteArray)(axf:List KT)(op:Nat)(w:World)(h:PS pb ((1,s)::axf) op w):
  Calls prog 75 #[.pointer<|some ⟨pb,0,none⟩] w fun e w'=>e=.returned (.string s)/\Mv pb axf op w w':=by
 have HA:=Z<|cR pb ((1,s)::axf) op w h;have H:=Z h;clear h;go_enter func75,ntmps75
 go_wp2_with fail
 refine HA.o.mono ?_;rintro e w1⟨⟨a,rfl⟩,I⟩;obtain⟨ts,nx,en,la,lc,h1,h2⟩:=H.o.calm I;have hl:=h1.lt;obtain⟨c0,c1,c2,c3,c4,cf⟩:=h1.cells;have d1:=eY c1;have df:∀ob:Obj,(w1.alloc ob).frozen? ⟨pb,1,none⟩=false:=fun ob=>((bO w1 ob).frozen (p:=⟨pb,1,none⟩) hl).trans<|cf 1;have hn:=h1.cy;have hf:=h1.aR;have HM:=Z<|(Mv.of H.o I).trans<|h1.take h2;show _;clear HA H I h1 h2;simp only[qe,eG]at*
 go_wp2;go_ret;exact⟨rfl,HM.o.trans<|Mv.of HM.o.ps<|bA⟩
theorem Mv.calm (h:Mv pb axf op w w')(I:Below w'.heap.size w' Zq):Mv pb axf op w Zq:=h.trans<|.of h.ps I
theorem yr (pb:Nat)(axf:List KT)(op:Nat)(w:World)(h:PS pb axf op w):
  Calls prog 41 #[.pointer<|some ⟨pb,0,none⟩] w fun e w'=>e=.returned (.bool axf.isEmpty)/\Below w.heap.size w w':=by
 obtain⟨ts,nx,en,la,lc,h1,h2⟩:=h
 obtain⟨c0,c1,c2,c3,c4,cf⟩:=h1.cells;have di:=pJ;have HE:Hid (decide (ts.length<=nx)=axf.isEmpty):=by
  unfold Hid;rw[avN,avy,isEmpty_iff,<-h2,awt,length_map]
 clear h1 h2;go_enter func41,ntmps41
 go_wp2;go_region
 go_wp2;go_ret;exact⟨aw HE.o,⟨rfl,rfl,rfl,avF _,fun _ _=>rfl⟩⟩
def jR :List KT->List KT
 |[]=>[]
 |a::axf=>if a.1=5 then jR axf else a::axf
theorem xm (pb:Nat)(axf:List KT)(op:Nat)(w:World)(h:PS pb axf op w):
  Calls prog 71 #[.pointer<|some ⟨pb,0,none⟩] w fun e w'=>(∃r,e=.returned r)/\Mv pb (jR axf) op w w':=by
 have HT:=Z fun(axe:List KT)(W:World)(h:PS pb axe op W)=>cR pb axe op W h;have f0:=sy;have H0:Hid (Mv pb axf op w w):=⟨h,Kept.refl _ _⟩;clear h;go_enter func71,ntmps71
 go_wp2_with fail
 go_loopg [] axf.length (fun gk wr=>∃axe,gk=axe.length/\jR axf=jR axe/\Mv pb axe op w wr)
 case atStart=>exact⟨axf,rfl,rfl,H0.o⟩
 case round=>
  obtain⟨axe,nE,hd,hm⟩:=hrel;have N5:=Z<|HT.o axe wr hm.ps;have HM:=Z hm;have HD:=Z hd;have sV:=Z nE;clear hm hd nE HT H0;cases axe with
  |nil=>
   have yu:Hid (Calls _ _ _ _ _):=N5;simp only[qe,eG]at N5;go_wp2_with fail
   refine N5.o.mono ?_;rintro e w1⟨⟨a,rfl⟩,I⟩;have zU:=Z<|HM.o.calm I;clear N5 I;go_wp2;go_end0;exact⟨⟨_,rfl⟩,by rw[HD.o];exact zU.o⟩
  |cons a axe=>
   simp only[qe,eG]at N5;by_cases h5:a.1=5
   ·rw[h5]at N5;go_wp2_with fail
    refine N5.o.mono ?_;rintro e w1⟨⟨at',rfl⟩,I⟩;obtain⟨ts,nx,en,la,lc,h1,h2⟩:=HM.o.ps.calm I;obtain⟨c0,c1,c2,c3,c4,cf⟩:=h1.cells;have hn:=h1.cy;have hf:=h1.aR;have zU:=Z<|(HM.o.calm I).trans<|h1.take h2;clear N5 I h1 h2;go_wp2;go_roundg axe.length
    case rel=>exact⟨axe,rfl,by rw[HD.o];simp[jR,h5],zU.o⟩
    case measure=>rw[sV.o];simp
   ·have h5':(a.1==5)=false:=bn h5;have og:Hid (jR (a::axe)=a::axe):=by unfold Hid;simp[jR,h5]
    clear h5;go_wp2_with fail
    refine N5.o.mono ?_;rintro e w1⟨⟨at',rfl⟩,I⟩;have zU:=Z<|HM.o.calm I;clear N5 I;go_wp2;go_end0;exact⟨⟨_,rfl⟩,by rw[HD.o,og.o];exact zU.o⟩
theorem Nd.a6 (T:Nd){i:Nat}(h:i<T.q):(T.f i).size+1<=T.size:=by rw[T.size_eq];have:=kr (fun i=>(T.f i).size) h;omega
structure PW (pb:Nat)(w W:World):Prop where
 kp:Kp pb (w.alloc aN) W
 low:pb<w.heap.size
theorem PW.start (h:pb<w.heap.size):PW pb w (w.alloc aN):=⟨Kept.refl _ _,h⟩
theorem PW.step (h:PW pb w W)(z:Kp pb W W'):PW pb w W':=⟨h.kp.trans z fun _ _ h=>h,h.low⟩
theorem PW.calm (h:PW pb w W)(I:Below W.heap.size W W'):PW pb w W':=h.step<|b9 I _
theorem PW.drew (h:PW pb w W):PW pb w W.drew:=h.calm (W':=W.drew) ⟨rfl,rfl,rfl,avF _,fun _ _=>rfl⟩
theorem PW.size (h:PW pb w W):w.heap.size+1<=W.heap.size:=by have:=h.kp.size;simpa using this
theorem PW.av (h:PW pb w W):W.heap[w.heap.size]?=some aN:=by have hl:=h.low;rw[h.kp.block w.heap.size M O];exact avv w _
theorem PW.put (h:PW pb w W)(b o:Nat)(v:Value)(I:w.heap.size+1<=b):PW pb w (W.setCell ⟨b,o,none⟩ v):=by have hl:=h.low;refine⟨⟨h.kp.os,h.kp.tape,h.kp.output,by simpa[World.setCell]using h.kp.size,fun k z hn=>?_⟩,hl⟩;rw[avs]at z;rw[avz _ _ _ _<|show k≠b by omega];exact h.kp.block k aaV hn
structure NG (pb:Nat)(axf:List KT)(op:Nat)(w:World)(T:Nd)(u:Value)(w':World):Prop where
 row:Row w.heap.size w'.heap.size w' T u
 ps:PS pb axf op w'
 kp:Kp pb w w'
 cap:T.y=29->∃a,u=.slice a 1 1
theorem PS.off (h:PS pb axf op w)(I:∀k,k<=pb->W.heap[k]?=w.heap[k]?):PS pb axf op W:=by
 obtain⟨ts,nx,en,la,lc,h1,h2⟩:=h
 refine⟨ts,nx,en,la,lc,⟨(I pb lr).trans h1.av,h1.aR,h1.cy,h1.c6,h1.row.imp id ?_⟩,h2⟩;rintro⟨g,e,hg,hc⟩;have z:∀o,W.cell? ⟨g,o,none⟩=w.cell? ⟨g,o,none⟩:=fun o=>avt (a:=⟨g,o,none⟩)<|I g O;exact ag9
theorem PS.put (h:PS pb axf op W)(b o:Nat)(v:Value)(I:pb<b):PS pb axf op (W.setCell ⟨b,o,none⟩ v):=
 h.off fun k z=>avz _ _ _ _ (show k≠b by omega)
theorem PW.fin (h:PW pb w W)(hs:PS pb axf op W)(hr:Row (w.heap.size+1) W.heap.size W T u)(bo:T.y=29->∃a,u=.slice a 1 1):NG pb axf op w T u (dn W w.heap.size T.y T.E T.z u):=by have hl:=h.low;have hz:=h.size;have YH:=fG W w.heap.size T.y T.E T.z u;have I:=fun i(e:i≠w.heap.size)=>et W w.heap.size T.y T.E T.z u i e;refine⟨cL (av8 _) O (fun g o h1 h2=>avt (a:=⟨g,o,none⟩)<|I g O) hr,hs.off fun k z=>I k O,?_,bo⟩;have iR:=h.kp;have bM:=bO w aN;refine⟨(show(dn W w.heap.size T.y T.E T.z u).os=W.os from rfl).trans<|iR.os.trans bM.os,(show(dn W w.heap.size T.y T.E T.z u).tape=W.tape from rfl).trans<|iR.tape.trans bM.tape,(show(dn W w.heap.size T.y T.E T.z u).output=W.output from rfl).trans<|iR.output.trans bM.output,O,fun k ig hn=>?_⟩;rw[I k O,iR.block k aah hn];exact bM.block k ig
def RX (b:Nat)(w W:World)(T:Nd)(u:Value):Prop:=∀W':World,(∀g o,w.heap.size+1<=g->g<W.heap.size->g≠b->W'.cell? ⟨g,o,none⟩=W.cell? ⟨g,o,none⟩)->Row (w.heap.size+1) W.heap.size W' T u
theorem RX.row (h:RX b w W T u):Row (w.heap.size+1) W.heap.size W T u:=h W fun _ _ _ _ _=>rfl
theorem RX.cd (h:Row lo W.heap.size W T u)(h1:w.heap.size+1<=lo)(h2:b<lo):RX b w W T u:=fun W' hW=>
 cL h1 lr (fun g o a c=>hW g o O c O) h
theorem RX.c8 (h:Row (w.heap.size+1) b W T u)(h2:b<=W.heap.size):RX b w W T u:=fun W' hW=>
 cL lr h2 (fun g o a c=>hW g o a O O) h
theorem RX.keep (h:RX b w W T u)(hz:W.heap.size<=V.heap.size)(z:∀g,w.heap.size+1<=g->g<W.heap.size->g≠b->V.heap[g]?=W.heap[g]?):RX b w V T u:=fun W' hW=>
 aY (h W' fun g o h1 h2 h3=>(hW g o h1 O h3).trans<|avt (a:=⟨g,o,none⟩)<|z g h1 h2 h3) lr hz
theorem RX.kp (h:RX b w W T u)(y:pb<w.heap.size)(z:Kp pb W V):RX b w V T u:=h.keep z.size fun g h1 h2 _=>z.block g h2 O
theorem RX.calm (h:RX b w W T u)(I:Below W.heap.size W V):RX b w V T u:=h.keep I.size fun g h1 h2 _=>I.block g h2
theorem RX.put (h:RX b w W T u)(o:Nat)(v:Value):RX b w (W.setCell ⟨b,o,none⟩ v) T u:=h.keep aaU fun g _ _ h3=>avz _ _ _ _ h3
theorem RX.list {g:Nat}{us:Nat->Value}{cells:Array Value}(hg:w.heap.size+1<=g)(hgb:g≠b)(gN:W.heap[g]?=some (.cells cells 25 (0,0)))(hc:T.q<=c/\c<=9223372036854775807)
  (cy:∀i,i<T.q->cells[i*4]?=some (.int .i64 (T.f i).y)/\cells[i*4+1]?=some (.int .i64 (T.f i).E)/\cells[i*4+2]?=some (.string (T.f i).z)/\cells[i*4+3]?=some (us i)/\RX b w W (T.f i) (us i)):
  RX b w W T (.slice (some ⟨g,0,none⟩) T.q c):=fun W' hW=>by
 have hl:=(avp.1 gN).1
 refine ar.2 ⟨_,c,rfl,hc,.inr ⟨g,0,rfl,hg,hl,fun i hi=>?_⟩⟩
 obtain⟨h0,h1,h2,h3,hr⟩:=cy i hi
 have hx:∀o,W'.cell? ⟨g,o,none⟩=cells[o]?:=fun o=>(hW g o hg hl hgb).trans<|avS _ _ _ _ _ (0,0) gN
 rw[Nat.zero_add]
 exact⟨us i,by rw[hx];exact h0,by rw[hx];exact h1,by rw[hx];exact h2,by rw[hx];exact h3,hr W' hW⟩
theorem PW.read (h:PW pb w W)(qJ:fn.results=#[.cell r 25])(ht:tmps[r]?.getD undef=.pointer (some ⟨w.heap.size,0,none⟩))(k n:Int)(s:ByteArray)(u:Value):
  (results fn tmps).run prog (dn W w.heap.size k n s u)=.ok (.agg #[.int .i64 k,.int .i64 n,.string s,u]) (dn W w.heap.size k n s u):=tX h.av qJ ht k n s u
theorem tZ {k0 n0:Int}{s0:ByteArray}{a0:Option Addr}{l0 c0:Nat}(h:W.heap[b]?=some (eS k0 n0 s0 a0 l0 c0))(k n:Int)(s:ByteArray)(a:Option Addr)(l c:Nat):(dn W b k n s<|.slice a l c).heap[b]?=some (eS k n s a l c):=by have h1:=avD _ b 0 _ 25 (.int .i64 k) h;have h2:=avD _ b 1 _ 25 (.int .i64 n) h1;have h3:=avD _ b 2 _ 25 (.string s) h2;exact(avD _ b 3 _ 25 (.slice a l c) h3).trans rfl
theorem PW.bY (h:PW pb w W)(b:Nat)(k n:Int)(s:ByteArray)(u:Value)(I:w.heap.size+1<=b):PW pb w (dn W b k n s u):=(((h.put b 0 _ I).put b 1 _ I).put b 2 _ I).put b 3 _ I
theorem PS.bY (h:PS pb axf op W)(b:Nat)(k n:Int)(s:ByteArray)(u:Value)(I:pb<b):PS pb axf op (dn W b k n s u):=h.off fun i hi=>et W b k n s u i O
theorem RX.bY (h:RX b w W T v)(k n:Int)(s:ByteArray)(u:Value):RX b w (dn W b k n s u) T v:=h.keep aa5 fun g _ _ h3=>et W b k n s u g h3
def RD0 (f:Nat)(tk:List KT)(T:Nd)(need:Nat)(C:List KT->Prop):Prop:=
 ∀(pb:Nat)(axf:List KT)(op:Nat)(w:World),op+need<=60->C axf->PS pb (tk++axf) op w->Calls prog f #[.pointer<|some ⟨pb,0,none⟩] w fun e w'=>∃a c,e=.returned (T.val<|.slice a T.q c)/\NG pb axf op w T (.slice a T.q c) w'
def RD1 (f:Nat)(x:Value)(tk:List KT)(T:Nd)(need:Nat)(C:List KT->Prop):Prop:=
 ∀(pb:Nat)(axf:List KT)(op:Nat)(w:World),op+need<=60->C axf->PS pb (tk++axf) op w->Calls prog f #[.pointer<|some ⟨pb,0,none⟩,x] w fun e w'=>∃a c,e=.returned (T.val<|.slice a T.q c)/\NG pb axf op w T (.slice a T.q c) w'
def eX (l:Nat)(axf:List KT):Prop:=bV (eG axf)<l/\eG axf≠⟨#[40]⟩
theorem gL (h:bV s<l)(h':s≠⟨#[40]⟩):eX l ((k,s)::axf):=⟨h,h'⟩
def lD (P:Nd->Prop)(l:Nat):Nd->List Nd->Nd->Prop
 |X,[],T=>X=T
 |X,N::r,T=>(N.y=28/\N.E=0/\N.q=2/\N.f 0=X/\0<bV N.z/\l<=bV N.z/\P (N.f 1)/\(∀axe,r.head?=some axe->bV axe.z<=bV N.z))/\lD P l N r T
def gE :List Nd->List KT
 |[]=>[]
 |N::r=>(4,N.z)::((aF<|N.f 1).ex (bV N.z+1)++gE r)
theorem uS (N:Nd):∀r,gE (r++[N])=gE r++(4,N.z)::(aF<|N.f 1).ex (bV N.z+1)
 |[]=>by simp[gE]
 |axe::r=>by simp[gE,uS N r]
theorem vo {P:Nd->Prop}{l m:Nat}{N K:Nd}(h:N.y=28/\N.E=0/\N.q=2/\N.f 0=K/\0<bV N.z/\l<=bV N.z/\P (N.f 1))(hm:m=bV N.z):∀{r:List Nd}{X:Nd},lD P m X r K->lD P l X (r++[N]) N
 |[],X,hX=>by
  obtain rfl:X=K:=hX
  exact⟨⟨h.1,h.2.1,h.2.2.1,h.2.2.2.1,h.2.2.2.2.1,h.2.2.2.2.2.1,h.2.2.2.2.2.2,fun axe hM=>by simp at hM⟩,rfl⟩
 |axe::r,X,hX=>by
  obtain⟨⟨h1,h2,h3,h4,h5,h6,h7,h8⟩,hr⟩:=hX
  refine⟨⟨h1,h2,h3,h4,h5,O,h7,fun aw9 hZ=>?_⟩,vo h hm hr⟩
  cases r with
  |nil=>simp at hZ;subst hZ;omega
  |cons Y r=>exact h8 aw9 hZ
theorem Wl (h:T.Q=true)(z:T.y≠28)(l l':Nat):(aF T).ex l=(aF T).ex l':=by
 have h0:T.y≠0:=by rcases iH h with e|e|e|e|e|e|e|e<;>omega
 rw[gV h0];unfold Oy;repeat' split
 all_goals first|rfl|omega
theorem tF (z:T.y=28)(l:Nat):(aF T).ex l=fr (decide<|bV T.z<l) ((aF<|T.f 0).ex (bV T.z)++(4,T.z)::(aF<|T.f 1).ex (bV T.z+1)):=by rw[gV O,z];rfl
theorem D2 (h:T.Q=true)(z:T.y=28)(hl:bV T.z<l):(aF T).ex l=fr true ((aF T).ex 1):=by obtain⟨h0,_⟩:=ly z h;rw[tF z l,tF z 1,avR hl,avP (O:¬bV T.z<1)];rfl
theorem spine {P:Nd->Prop}{Q:Nd->List KT->Prop}(T:Nd):T.Q=true->(∀V:Nd,V.size<T.size->V.ak<T.ak->V.Q=true->P V)->(∀V:Nd,V.Q=true->V.size<T.size->V.ak<T.ak->V.y=28->Q V (fr true<|(aF V).ex 1))->(∀V:Nd,V.Q=true->V.size<=T.size->V.ak<=T.ak->V.y≠28->Q V ((aF V).ex 6))->
    ∀l,(T.y=28->l<=bV T.z)->∃U tu Ns,(aF T).ex l=tu++gE Ns/\lD P l U Ns T/\Q U tu:=by
  induction T with
  | nil=>intro h;cases h
  | mk k n s len kids ih=>
    intro ax hP hQ hQ' l hl;by_cases z:(Nd.mk k n s len kids).y=28
    · obtain⟨h0,h2,jv,zn⟩:=ly z ax;have hn:=ei_28 z ax;have s0:=Nd.a6 (Nd.mk k n s len kids) (i:=0) O;have s1:=Nd.a6 (Nd.mk k n s len kids) (i:=1) O;have g0:=Nd.aZ (Nd.mk k n s len kids) (i:=0) O;have g1:=Nd.aZ (Nd.mk k n s len kids) (i:=1) O;have hpk:=hP _ O O zn;have e1:(aF<|Nd.mk k n s len kids).ex l=(aF<|kids 0).ex (bV s)++(4,s)::(aF<|kids 1).ex (bV s+1):=by
        rw[tF z l,avP (by have:=hl z;omega)];rfl
      have sr:(Nd.mk k n s len kids).y=28/\(Nd.mk k n s len kids).E=0/\(Nd.mk k n s len kids).q=2/\(Nd.mk k n s len kids).f 0=kids 0/\0<bV (Nd.mk k n s len kids).z/\l<=bV (Nd.mk k n s len kids).z/\P ((Nd.mk k n s len kids).f 1):=⟨z,hn,h2,rfl,h0,hl z,hpk⟩;by_cases y:(kids 0).y=28/\bV (kids 0).z<bV s
      · refine⟨kids 0,(aF<|kids 0).ex<|bV s,[Nd.mk k n s len kids],?_,⟨⟨sr.1,sr.2.1,sr.2.2.1,sr.2.2.2.1,sr.2.2.2.2.1,sr.2.2.2.2.2.1,sr.2.2.2.2.2.2,fun axe hM=>by simp at hM⟩,rfl⟩,?_⟩
        · rw[e1];simp[gE,Nd.z,Nd.f]
        · rw[D2 (T:=kids 0) jv y.1 y.2];exact hQ (kids 0) jv s0 g0 y.1
      · obtain⟨U,tu,Ns,i1,i2,i3⟩:=ih 0 jv (fun V h1 h2 h3=>hP V (by have:(kids 0).size=((Nd.mk k n s len kids).f 0).size:=rfl;omega) (by have:(kids 0).ak=((Nd.mk k n s len kids).f 0).ak:=rfl;omega) h3) (fun V h1 h2 h3 h4=>hQ V h1 (by have:(kids 0).size=((Nd.mk k n s len kids).f 0).size:=rfl;omega) (by have:(kids 0).ak=((Nd.mk k n s len kids).f 0).ak:=rfl;omega) h4) (fun V h1 h2 h3 h4=>hQ' V h1 (by have:(kids 0).size=((Nd.mk k n s len kids).f 0).size:=rfl;omega) (by have:(kids 0).ak=((Nd.mk k n s len kids).f 0).ak:=rfl;omega) h4) (bV s) (fun h4=>by
          refine aww fun h5=>y ⟨h4,O⟩)
        refine⟨U,tu,Ns++[Nd.mk k n s len kids],?_,vo sr rfl i2,i3⟩;rw[e1,uS,i1];simp[Nd.z,Nd.f]
    · exact⟨_,_,[],by rw[Wl ax z l 6,gE,awG],rfl,hQ' _ ax lr lr z⟩
theorem jw (h:PW pb w W)(hg:NG pb axf op W T u W'):Row (w.heap.size+1) W'.heap.size W' T u:=aY hg.row h.size lr
theorem Ao (h:RD1 189 (.int .i64 1) ((aF T).ex 1) T need (eX 1)):RD0 180 ((aF T).ex 1) T need (eX 1):=by
 intro pb axf op w ho hC y;have HA:=Z<|h pb axf op (w.alloc aN) ho hC<|y.alloc _;have HP:=Z<|PW.start y.lt;unfold aN at HA;clear h y hC ho;go_enter func180,ntmps180
 go_wp2_with fail
 refine HA.o.mono ?_;rintro e w1⟨a,c,rfl,hg⟩;have Ua:=Z<|HP.o.step hg.kp;obtain⟨z0,z1,z2,z3,zf⟩:=aP Ua.o.av;have HS:=Z hg.ps;have HR:=Z<|jw HP.o hg;have Cq:=Z hg.cap;clear hg HA HP;unfold Nd.val;go_wp2;refine avr (Ua.o.read results180 rfl T.y T.E T.z<|.slice a T.q c) rfl ⟨a,c,rfl,Ua.o.fin HS.o HR.o Cq.o⟩
theorem xH (h:RD0 180 ((aF T).ex 1) T need (eX 1)):RD0 183 (fr true<|(aF T).ex 1) T (need+1) (fun _=>True):=by
 intro pb axf op w ho _ y;have e1:fr true ((aF T).ex 1)++axf=(4,⟨#[40]⟩)::((aF T).ex 1++(4,⟨#[41]⟩)::axf):=by simp[fr]
 rw[e1]at y;have HE:=Z<|fJ pb _ _ op ⟨#[40]⟩ (w.alloc aN) rfl O<|y.alloc _;have HP:=Z<|PW.start y.lt;have HX:=Z fun W hW=>h pb ((4,⟨#[41]⟩)::axf) (op+1) W O (gL J J) hW;unfold aN at HE;clear h y ho e1;go_enter func183,ntmps183
 go_wp2_with fail
 refine HE.o.mono ?_;rintro e w1⟨⟨r,rfl⟩,hm⟩;have gG:=Z<|HP.o.step hm.kp;have Ai:=Z<|HX.o w1 hm.ps;clear hm HE HP HX;go_wp2_with fail
 refine Ai.o.mono ?_;rintro e w2⟨a,c,rfl,hg⟩;have fe:=Z<|gG.o.step hg.kp;have HR:=Z<|jw gG.o hg;have Cq:=Z hg.cap;have HL:=Z fun o=>ke pb _ axf op ⟨#[41]⟩ (w2.alloc o) rfl<|hg.ps.alloc o;clear hg Ai gG;unfold Nd.val;go_wp2_with fail
 refine(HL.o _).mono ?_;rintro e w3⟨⟨r',rfl⟩,hm⟩;have FG:=Z<|fe.o.calm<|(avB _ _).alloc lr<|nO T<|.slice a T.q c;have iu:=Z<|FG.o.step hm.kp;have HB:Hid (w3.heap[w2.heap.size]?=some (eS T.y T.E T.z a T.q c)):=bc (avv w2 _) (by have:=fe.o.size;have:=fe.o.low;omega) hm.kp;obtain⟨n0,n1,n2,n3,nf⟩:=al HB.o;obtain⟨z0,z1,z2,z3,zf⟩:=aP iu.o.av;have HS:=Z hm.ps;have ew:=fe.o.low;have sJ:Hid (Row (w.heap.size+1) w3.heap.size w3 T<|.slice a T.q c):=aY (iB (ah (bA) lr HR.o) O M hm.kp) lr (by have:=hm.kp.size;simp at this;omega);clear hm HL HR fe FG;go_wp2;refine avr (iu.o.read results183 rfl T.y T.E T.z<|.slice a T.q c) rfl ⟨a,c,rfl,iu.o.fin HS.o sJ.o Cq.o⟩
theorem PW.done {n:Int}(h:PW pb w W)(hs:PS pb axf op W)(hr:Row (w.heap.size+1) W.heap.size W T (.slice a l c))(z:T.y=k)(hn:T.E=n)(hm:T.z=s)(hl:T.q=l)(hc:k≠29\/(l=1/\c=1):=by first|exact .inl J|exact .inr ⟨rfl,rfl⟩|(left;assumption)):
  ∃a' c',Ending.returned (.agg #[.int .i64 k,.int .i64 n,.string s,.slice a l c])=.returned (T.val<|.slice a' T.q c')/\NG pb axf op w T (.slice a' T.q c') (dn W w.heap.size k n s<|.slice a l c):=by
 subst z hn hm hl;exact⟨a,c,rfl,h.fin hs hr fun e=>hc.elim (fun h=>absurd e h) fun h=>⟨a,by rw[h.1,h.2]⟩⟩
theorem jU (h:T.q=0)(lo hi:Nat)(w:World):Row lo hi w T (.slice none 0 0):=ar.2 ⟨none,0,by rw[h],by rw[h];omega,.inl h⟩
theorem PAt.ds (h:PAt pb ts nx en op la lc w):(∀ob:Obj,(w.alloc ob).cell? ⟨pb,1,none⟩=some (.int .i64 (nx:Int)))/\(∀ob:Obj,(w.alloc ob).frozen? ⟨pb,1,none⟩=false):=
 ⟨eY h.cells.2.1,fun ob=>((bO w ob).frozen (p:=⟨pb,1,none⟩) h.lt).trans<|h.cells.2.2.2.2.2 1⟩
theorem PC (z:T.y=24)(ax:T.Q=true)(l:Nat):RD0 199 ((aF T).ex l) T 0 (fun axf=>eG axf≠⟨#[40]⟩):=by
 intro pb axf op w ho hC y;obtain⟨bm,cm,hlen⟩:=ve z ax;have e1:(aF T).ex l++axf=(1,T.z)::axf:=by rw[gV O,z];rfl
 have atD:=kk;exact W8
theorem Kp.grown {row:Option Nat}(h:Kp pb w W)(hg:W.grownBy W' row)(hr:∀k,row=some k->w.heap.size<=k):Kp pb w W':=
 ⟨hg.os.trans h.os,hg.tape.trans h.tape,hg.output.trans h.output,avK h.size hg.size,fun k z hn=>(hg.block k aaS fun e=>by have:=hr k e.symm;omega).trans<|h.block k z hn⟩
theorem PS.grown {row:Option Nat}(h:PS pb axf op W)(hg:W.grownBy W' row)(hr:∀k,row=some k->pb<k):PS pb axf op W':=
 h.off fun k z=>hg.block k (by have:=h.lt;omega) (fun e=>by have:=hr k e.symm;omega)
def Kds (B:Nat)(T:Nd)(n:Nat)(v:Value)(W:World):Prop:=∃Ts us s e,Gw B Ts us s e n v W/\∀i,i<n->Ts i=T.f i
theorem Kds.calm (h:Kds B T n v W)(I:Below W.heap.size W W'):Kds B T n v W':=by obtain⟨Ts,us,s,e,h,hT⟩:=h;exact⟨Ts,us,s,e,h.calm I,hT⟩
theorem Kds.kp (h:Kds B T n v W)(y:pb<B)(z:Kp pb W W'):Kds B T n v W':=by obtain⟨Ts,us,s,e,h,hT⟩:=h;exact⟨Ts,us,s,e,h.kp y z,hT⟩
theorem Kds.shape (h:Kds B T n v W):∃a c,v=.slice a n c:=by obtain⟨Ts,us,s,e,h,hT⟩:=h;exact h.shape
theorem Kds.nil (B:Nat)(T:Nd)(W:World):Kds B T 0 (.slice none 0 0) W:=⟨fun _=>.nil,fun _=>undef,fun _=>0,fun _=>0,Gw.start _ _ _ _<|awa _ _ _ _,fun i hi=>absurd hi<|avJ _⟩
theorem Kds.row (h:Kds B T T.q v W)(fT:lo<=B):Row lo W.heap.size W T v:=by
 obtain⟨Ts,us,s,e,h,hT⟩:=h
 have:=h.row fT T.y T.E T.z;rw[ar]at this⊢;obtain⟨a,cap,hv,hc,hq⟩:=this;refine⟨a,cap,hv,hc,hq.imp id ?_⟩;rintro⟨g,off,e1,h1,h2,h3⟩;refine⟨g,off,e1,h1,h2,fun i hi=>?_⟩;have:=h3 i hi;rw[show(Nd.mk T.y T.E T.z T.q Ts).f i=T.f i from hT i hi]at this;exact this
theorem ie (h:Kds B T n v W):∀k,v.ownBlock=some k->B<=k/\k<W.heap.size:=by obtain⟨Ts,us,s,e,h,hT⟩:=h;exact h.own.lt
theorem vz {j:Nat}(h:Kds B T j v W)(hB:B<=W.heap.size)(hj:j<=100000)(hr:Row lo W.heap.size W (T.f j) (.slice a l c))(fT:B<=lo)(Tg:lo<=W.heap.size)(bQ:∀k,v.ownBlock=some k->k<lo)(k n:Int)(s:ByteArray)(z:(T.f j).y=k)(hn:(T.f j).E=n)(hs:(T.f j).z=s):
  ∃v' W',(∀ty,(Builtin.append_ #[23,23] ty #[v,.slice (some ⟨W.heap.size,0,none⟩) 1 1]).run prog (W.alloc<|.cells #[.int .i64 k,.int .i64 n,.string s,.slice a l c] 25)=.ok v' W')/\Kds B T (j+1) v' W'/\W.grownBy W' v.ownBlock:=by
 subst z hn hs;obtain⟨Ts,us,ss,ee,hg,hT⟩:=h
 obtain⟨i0,hi,hz,cg,th⟩:=av0 si;have bM:=bO W<|.cells #[.int .i64 (T.f j).y,.int .i64 (T.f j).E,.string (T.f j).z,.slice a l c] 25;have hgA:=hg.calm bM;have h2:=ah bM lr hr;obtain⟨v',W',ec,dd,aQ,fs,a',c',rfl⟩:=gQ (P:=prog) (W.alloc<|.cells #[.int .i64 (T.f j).y,.int .i64 (T.f j).E,.string (T.f j).z,.slice a l c] 25) B 23 23 25 i0 _ 4 56 underlying23 hi hz cg th rfl J v j _ hgA.own ⟨W.heap.size,0,none⟩ 1 1 [.int .i64 (T.f j).y,.int .i64 (T.f j).E,.string (T.f j).z,.slice a l c] aan (ia W _ _ _ _ _) (jn _ _ _ _ _ _) aaj O aah;refine⟨_,W',fun ty=>ec,⟨_,_,_,_,hgA.step h2 fT Tg M (fun g e=>.inl<|bQ g e) dd aQ fs,fun i ir=>?_⟩,?_⟩
 ·by_cases e:i=j
  ·subst e;rw[dc]
  ·rw[dF _ _ e];exact hT i O
 ·have be:=hg.own.lt;refine⟨aQ.os.trans bM.os,aQ.tape.trans bM.tape,aQ.output.trans bM.output,avK bM.size aQ.size,fun k z hn=>?_⟩;exact(aQ.block k aah hn).trans<|bM.block k z
theorem Kds.one (hB:B<=lo)(Tg:lo<=W.heap.size)(hr:Row lo W.heap.size W (T.f 0) (.slice a l c)){n:Int}(z:(T.f 0).y=k)(hn:(T.f 0).E=n)(hs:(T.f 0).z=s):
  Kds B T 1 (.slice (some ⟨W.heap.size,0,none⟩) 1 1) (W.alloc<|.cells #[.int .i64 k,.int .i64 n,.string s,.slice a l c] 25):=by
 subst z hn hs;have bM:=bO W<|.cells #[.int .i64 (T.f 0).y,.int .i64 (T.f 0).E,.string (T.f 0).z,.slice a l c] 25;refine⟨fun _=>T.f 0,fun _=>.slice a l c,fun _=>lo,fun _=>W.heap.size,⟨⟨rfl,.inr ⟨W.heap.size,1,_,rfl,O,avv W _,avF _,by unfold maxLen;omega,rfl,rfl⟩⟩,fun i hi=>⟨ah bM lr hr,hB,Tg,M⟩,fun i hi g hg=>.inr aap⟩,fun i hi=>?_⟩;obtain rfl:i=0:=O;rfl
theorem xC (F:Nat)(V4:∀args W,(callFunc F args).run prog W=.ok (.enter F args) W)(T:Nd)(m need:Nat)(f:Nat->List KT)(hm:m<=1000)(h:∀i,i<m->RD0 F (f i) (T.f i) need (eX 1))(bY:∀i,i<m->∃a t,f i=a::t/\a.2≠⟨#[41]⟩)
  (pb:Nat) (axf:List KT) (op:Nat) (w:World) (ho:op+need<=60) (y:PS pb (dr (jF f) 0 m++(4,⟨#[41]⟩)::axf) op w):
  Calls prog 76 #[.pointer<|some ⟨pb,0,none⟩,.func (.func F) #[.pointer<|some ⟨pb,0,none⟩] #[]] w fun e w'=>∃v,e=.returned v/\Kds w.heap.size T m v w'/\Mv pb ((4,⟨#[41]⟩)::axf) op w w':=by
 have Hu:=y.lt;have HS:=Z<|dG pb _ op ⟨#[41]⟩ w y;have HP:=Z y;by_cases h0:m=0
 ·subst h0;have e1:decide (eG (dr (jF f) 0 0++(4,⟨#[41]⟩)::axf)=⟨#[41]⟩)=true:=avR rfl;rw[e1]at HS;have HK:=Z fun W=>Kds.nil w.heap.size T W;clear h bY y e1;go_enter func76,ntmps76
  go_wp2_with fail
  refine HS.o.mono ?_;rintro e w1⟨rfl,I⟩;go_wp2;go_ret;exact⟨_,rfl,HK.o _,Mv.of HP.o I⟩
 ·obtain⟨x,t,hx,P0⟩:=bY 0 O;obtain⟨m',rfl⟩:∃m',m=m'+1:=⟨m-1,O⟩;have e1:decide (eG (dr (jF f) 0 (m'+1)++(4,⟨#[41]⟩)::axf)=⟨#[41]⟩)=false:=by
   apply avP;simp only[dr,jF,avA,nil_append,hx,cons_append,eG];exact P0
  rw[e1]at HS;have HX:Hid (∀i,i<m'+1->∀axe W,eX 1 axe->PS pb (f i++axe) op W->_):=fun i hi axe W hM hW=>h i hi pb axe op W ho hM hW;have TY:Hid (∀j,eX 1<|dr (jF f) (j+1) (m'-j)++(4,⟨#[41]⟩)::axf):=fun j=>by
   cases m'-j with
   |zero=>exact gL J J
   |succ q=>simp only[dr,jF,avo<|Nat.succ_ne_zero j,cons_append,nil_append];exact gL J J
  have H0:Hid (PS pb (f 0++(dr (jF f) 1 m'++(4,⟨#[41]⟩)::axf)) op w):=by
   have:=y;simp only[dr,jF,avA,nil_append,avM]at this;exact this
  clear h bY y e1 hx P0 HP;go_enter func76,ntmps76
  go_wp2_with fail
  refine HS.o.mono ?_;rintro e w1⟨rfl,I⟩;have HC:=Z<|HX.o 0 O _ w1 (by have:=TY.o 0;simpa using this)<|H0.o.calm I;have zU:=Z<|Mv.of H0.o I;clear I HS;go_wp2_with fail
  refine HC.o.mono ?_;rintro e w2⟨a,c,rfl,hg⟩;have Oa:=Z<|zU.o.trans ⟨hg.ps,hg.kp⟩;have HK:Hid (Kds w.heap.size T 1 _ _):=Kds.one (B:=w.heap.size) (lo:=w1.heap.size) zU.o.kp.size hg.kp.size hg.row rfl rfl rfl;clear hg HC zU H0;unfold Nd.val;go_wp2;go_loopg [5] m' (fun gk v wr=>∃j,gk=m'-j/\j<=m'/\Kds w.heap.size T (j+1) v wr/\Mv pb (dr (jF f) (j+1) (m'-j)++(4,⟨#[41]⟩)::axf) op w wr)
  case atStart=>
   refine⟨0,rfl,avL _,HK.o,Oa.o.calm<|bA⟩
  case round=>
   obtain⟨j,nE,hj,z,pK⟩:=hrel;obtain⟨va,vc,rfl⟩:=z.shape;have HK:=Z z;have HM:=Z pK;have sV:=Z nE;clear z pK nE Oa;by_cases be:j<m'
   ·obtain⟨q,hq⟩:∃q,m'-j=q+1:=⟨m'-j-1,O⟩;have HL:Hid (dr (jF f) (j+1) (m'-j)++(4,⟨#[41]⟩)::axf=(4,⟨#[44]⟩)::(f (j+1)++(dr (jF f) (j+1+1) (m'-(j+1))++(4,⟨#[41]⟩)::axf))):=by
     unfold Hid;rw[hq,show m'-(j+1)=q by omega];simp only[dr,jF,avo<|Nat.succ_ne_zero j,cons_append,nil_append,avM]
    have HT:=Z<|fA pb _ _ op ⟨#[44]⟩ wr rfl (by have:=HM.o.ps;rw[HL.o]at this;exact this);go_wp2_with fail
    refine HT.o.mono ?_;rintro e w3⟨rfl,hm⟩;have HC:=Z<|HX.o (j+1) O _ w3 (by have:=TY.o<|j+1;exact this) hm.ps;have Je:=Z<|HK.o.kp Hu hm.kp;have N9:=Z<|HM.o.trans hm;clear hm HT HK;go_wp2_with fail
    refine HC.o.mono ?_;rintro e w4⟨a,c,rfl,hg⟩;have Jd:=Z<|Je.o.kp Hu hg.kp;have RV:Hid (Mv pb _ op w w4):=N9.o.trans ⟨hg.ps,hg.kp⟩;have td:=N9.o.kp.size;have EV:=hg.kp.size;obtain⟨v',W',ec,ig,Bt⟩:=vz Jd.o O O hg.row O EV (fun k z=>(ie Je.o k z).2) _ _ _ rfl rfl rfl;obtain⟨Sw,Su,rfl⟩:=ig.shape;have HK5:=Z ig;have HM5:Hid (Mv pb _ op w W'):=⟨RV.o.ps.grown Bt (fun k z=>by have:=(ie Jd.o k z).1;omega),RV.o.kp.grown Bt fun k z=>(ie Jd.o k z).1⟩;clear hg ig Bt HC Je Jd N9 RV HM;have mL:=Z ec;clear ec;unfold Nd.val;go_wp2_with(at_builtin;refine eo _ rfl _ _ 23 rfl _ _ _ _ rfl rfl mL.o ?_;clear mL)
    go_roundg (m'-(j+1))
    case rel=>exact⟨j+1,rfl,O,HK5.o,HM5.o⟩
    case measure=>have:=sV.o;omega
   ·obtain rfl:j=m':=O;have HL:Hid (dr (jF f) (j+1) (j-j)++(4,⟨#[41]⟩)::axf=(4,⟨#[41]⟩)::axf):=by unfold Hid;rw[awO];rfl
    have HT:=Z<|gS pb _ op ⟨#[44]⟩ wr (by rw[HL.o];simp only[eG];decide) HM.o.ps;go_wp2_with fail
    refine HT.o.mono ?_;rintro e w3⟨rfl,I⟩;go_wp2;go_ret;exact⟨_,rfl,HK.o.calm I,by have:=HM.o.calm I;rw[HL.o]at this;exact this⟩
theorem Kds.put {o:Nat}(h:Kds B T n v W)(I:b<B):Kds B T n v (W.setCell ⟨b,o,none⟩ x):=by
 obtain⟨Ts,us,s,e,h,hT⟩:=h
 exact⟨Ts,us,s,e,h.put (fun e=>by have:=(h.own.lt _ e).1;omega) fun i hi=>.inl (by have:=(h.a7 i hi).2.1;omega),hT⟩
theorem Q1 (args:Array Value)(W:World):(callFunc 180 args).run prog W=.ok (.enter 180 args) W:=by kernel_rfl
theorem Q0 (args:Array Value)(W:World):(callFunc 77 args).run prog W=.ok (.enter 77 args) W:=by kernel_rfl
theorem rH (h:T.Q=true)(l:Nat):∃a t,(aF T).ex l=a::t/\a.2≠⟨#[41]⟩/\a.2≠⟨#[123]⟩/\a.2≠⟨#[125]⟩/\a.1≠5/\(a.1=3->a.2=⟨#[102,97,108,115,101]⟩\/a.2=⟨#[116,114,117,101]⟩\/a.2=⟨#[109,97,107,101]⟩):=by
 induction T generalizing l with
 |nil=>cases h
 |mk k n s len kids ih=>
  have cm:∀{s:ByteArray},aK s=true->s≠⟨#[41]⟩/\s≠⟨#[123]⟩/\s≠⟨#[125]⟩:=fun{s}hs=>by
   refine⟨?_,?_,?_⟩<;>rintro rfl<;>exact absurd hs J
  rcases iH h with z|z|z|z|z|z|z|z
  ·obtain⟨_,h0,h9,_⟩:=sD z h;obtain rfl:k=22:=z;obtain⟨c,axd,hc,hd,_,_⟩:=jD h0 h9;have I:∀x:UInt8,ct x.toNat=false->bs (bS 20 n.toNat)≠⟨#[x]⟩:=fun x hx e=>by
    have:bS 20 n.toNat=[x]:=by have:=congrArg (fun b:ByteArray=>b.data.toList) e;simpa[bs]using this
    rw[show bS 20 n.toNat=c::axd from hc]at this;injection this with e1 _;rw[e1,hx]at hd;cases hd
   exact⟨_,_,rfl,I 41 J,I 123 J,I 125 J,by show(2:Int)≠5;decide,fun e=>absurd (show(2:Int)=3 from e) J⟩
  ·obtain⟨_,hn,_⟩:=sC z h;obtain rfl:k=23:=z;rcases hn with hn|hn
   ·obtain rfl:n=0:=hn;exact⟨_,_,rfl,J,J,J,J,fun _=>.inl rfl⟩
   ·obtain rfl:n=1:=hn;exact⟨_,_,rfl,J,J,J,J,fun _=>.inr<|.inl rfl⟩
  ·obtain⟨_,hn,_⟩:=ve z h;obtain rfl:k=24:=z;exact ag3
  ·obtain⟨_,hn⟩:=vd z h;obtain rfl:k=25:=z;exact ag3
  ·obtain rfl:k=26:=z;exact⟨_,_,rfl,J,J,J,J,fun _=>.inr<|.inr rfl⟩
  ·obtain⟨_,hs⟩:=yi z h;obtain rfl:k=27:=z;rcases hs with hs|hs
   ·obtain rfl:s=⟨#[45]⟩:=hs;exact ag4
   ·obtain rfl:s=⟨#[33]⟩:=hs;exact ag4
  ·obtain⟨_,_,jv,_⟩:=ly z h;obtain rfl:k=28:=z;show∃a t,fr (decide<|bV s<l) ((aF<|kids 0).ex (bV s)++(4,s)::(aF<|kids 1).ex (bV s+1))=a::t/\_;by_cases y:bV s<l
   ·rw[avR y];exact ag4
   ·rw[avP y];obtain⟨a,t,ht,hr⟩:=ih 0 jv<|bV s;exact⟨a,t++(4,s)::(aF<|kids 1).ex (bV s+1),by show(aF<|kids 0).ex (bV s)++_=_;rw[ht];rfl,hr⟩
  ·obtain rfl:k=29:=z;exact ag4
theorem zK (z:T.y=25)(ax:T.Q=true)(hlen:T.q<=1000)(h:∀i,i<T.q->RD0 180 ((aF<|T.f i).ex 1) (T.f i) need (eX 1)):RD0 206 ((aF T).ex l) T (need+1) (fun _=>True):=by
 intro pb axf op w ho _ y;obtain⟨bm,cm⟩:=vd z ax;have hE:=ye z ax;have e1:(aF T).ex l++axf=(1,T.z)::(4,⟨#[40]⟩)::(dr (jF fun i=>(aF<|T.f i).ex 1) 0 T.q++(4,⟨#[41]⟩)::axf):=by rw[gV O,z];simp[Oy]
 rw[e1]at y;have HN:=Z<|kB pb _ _ op (w.alloc aN)<|y.alloc _;have HP:=Z<|PW.start y.lt;have HLi:=Z fun W hW=>xC 180 Q1 T T.q need (fun i=>(aF<|T.f i).ex 1) hlen h (fun i hi=>by obtain⟨a,t,h1,h2,_⟩:=rH (hE i hi) 1;exact⟨a,t,h1,h2⟩) pb axf (op+1) W O hW;have hop:op<60:=O;have HK:=Z z;have IN:=Z bm;generalize hs:T.z=s at*
 unfold aN at HN;clear h y ho e1 hE cm z bm;go_enter func206,ntmps206
 go_wp2_with fail
 refine HN.o.mono ?_;rintro e w1⟨rfl,hm⟩;have gG:=Z<|HP.o.step hm.kp;have eu:=gG.o.size;have ew:=gG.o.low;have FG:=Z<|gG.o.calm<|(avB _ _).alloc lr<|.cells #[.int .i64 25,.int .i64 0,.string s,.slice none 0 0] 25;have ni:=Z<|avv w1<|.cells #[.int .i64 25,.int .i64 0,.string s,.slice none 0 0] 25;have HE:=Z<|fJ pb _ _ op ⟨#[40]⟩ _ rfl hop<|hm.ps.alloc<|.cells #[.int .i64 25,.int .i64 0,.string s,.slice none 0 0] 25;clear hm HN HP gG;go_wp2_with fail
 refine HE.o.mono ?_;rintro e w2⟨⟨r,rfl⟩,hm⟩;have fe:=Z<|FG.o.step hm.kp;have gi:Hid (w2.heap[w1.heap.size]?=some (eS 25 0 s none 0 0)):=bc ni.o O hm.kp;have ed:w1.heap.size+1<=w2.heap.size:=by have:=hm.kp.size;simpa using this
 have HL2:=Z<|HLi.o w2 hm.ps;clear hm HE FG ni HLi;go_wp2_with fail
 refine HL2.o.mono ?_;rintro e w3⟨v,rfl,j5,hm⟩;obtain⟨va,vc,rfl⟩:=j5.shape;have iu:=Z<|fe.o.step hm.kp;have lC:Hid (w3.heap[w1.heap.size]?=some (eS 25 0 s none 0 0)):=bc gi.o O hm.kp;obtain⟨n0,n1,n2,n3,nf⟩:=al lC.o;have Jd:=Z<|j5.put (b:=w1.heap.size) (o:=3) (x:=.slice va T.q vc) O;have oX:=Z<|iu.o.put w1.heap.size 3 (.slice va T.q vc) eu;have mK:=Z<|hm.ps.put w1.heap.size 3 (.slice va T.q vc) O;have mh:Hid ((w3.setCell ⟨w1.heap.size,3,none⟩<|.slice va T.q vc).heap[w1.heap.size]?=some (eS 25 0 s va T.q vc)):=(avD _ _ 3 _ 25 _ lC.o).trans rfl;clear j5 hm HL2 fe iu gi lC;have Nw:=Z<|ke pb _ axf op ⟨#[41]⟩ _ rfl mK.o;go_wp2_with fail
 refine Nw.o.mono ?_;rintro e w5⟨⟨r',rfl⟩,hm⟩;have lL:=Z<|oX.o.step hm.kp;have CL:Hid (w5.heap[w1.heap.size]?=some (eS 25 0 s va T.q vc)):=bc mh.o O hm.kp;clear n0 n1 n2 n3 nf;obtain⟨n0,n1,n2,n3,nf⟩:=al CL.o;obtain⟨z0,z1,z2,z3,zf⟩:=aP lL.o.av;have oQ:=Z hm.ps;have zS:=Z<|(Jd.o.kp O hm.kp).row (lo:=w.heap.size+1) O;clear hm Nw oX mK mh Jd;go_wp2;exact avr (lL.o.read results206 rfl 25 0 s<|.slice va T.q vc) rfl<|lL.o.done oQ.o zS.o HK.o IN.o hs rfl
theorem dm {P:Program}{ops:Array Oper}{o:Oper}{a:Act}{K:Act->World->Prop}{Q:Exit->Act->World->Prop}{E:Prop}(NT:o.guard=none)(sl x:Operand)(t:TypeId)
  (ho:o.op=.call {callee:=.builtin .append,args:=#[sl,x],argTypes:=#[t,t]}) (v xv v':Value) (w':World) (hs:a.eval sl=v) (hx:a.eval x=xv) (hr:∀ty,(Builtin.append_ #[t,t] ty #[v,xv]).run P w=.ok v' w')
  (h:K (a.put o.dst v') w'):if Region.wanted o (yielded ops a.tmps)=true then Oper.wp P o a w K Q else E:=by
 have hw:Region.wanted o (yielded ops a.tmps)=true:=by simp[Region.wanted,NT]
 rw[avA hw];unfold Oper.wp execOp;simp only[ho,resolve,invoke,builtin,awr,Sem.run_pure,awR,awS,awD,awP,hs,hx,hr];exact h
theorem MG (z:T.y=26)(ax:T.Q=true)(h:∀i,i<T.q->RD0 180 ((aF<|T.f i).ex 1) (T.f i) need (eX 1)):RD0 207 ((4,⟨#[40]⟩)::(3,⟨#[99,104,97,110]⟩)::(3,⟨#[105,110,116]⟩)::((if T.q=0 then[]else(4,⟨#[44]⟩)::(aF<|T.f 0).ex 1)++[(4,⟨#[41]⟩)])) T (need+1) (fun _=>True):=by
  intro pb axf op w ho _ y;obtain⟨bm,cm⟩:=ei_26 z ax;obtain⟨LQ,hE⟩:=u9 z ax;have e1:((4,⟨#[40]⟩)::(3,⟨#[99,104,97,110]⟩)::(3,⟨#[105,110,116]⟩)::((if T.q=0 then[]else(4,⟨#[44]⟩)::(aF<|T.f 0).ex 1)++[(4,⟨#[41]⟩)]))++axf=(4,⟨#[40]⟩)::(3,⟨#[99,104,97,110]⟩)::(3,⟨#[105,110,116]⟩)::((if T.q=0 then[]else(4,⟨#[44]⟩)::(aF<|T.f 0).ex 1)++(4,⟨#[41]⟩)::axf):=M;rw[e1]at y;have HP:=Z<|PW.start y.lt;have FG:=Z<|HP.o.calm<|(avB _ _).alloc lr<|.cells #[.int .i64 26,.int .i64 0,.string ⟨#[]⟩,.slice none 0 0] 25;have ni:Hid (((w.alloc aN).alloc<|.cells #[.int .i64 26,.int .i64 0,.string ⟨#[]⟩,.slice none 0 0] 25).heap[w.heap.size+1]?=some (eS 26 0 ⟨#[]⟩ none 0 0)):=by
    have:=avv (w.alloc aN)<|.cells #[.int .i64 26,.int .i64 0,.string ⟨#[]⟩,.slice none 0 0] 25;rw[avs]at this;exact this
  have HE:=Z<|fJ pb _ _ op ⟨#[40]⟩ _ rfl O<|(y.alloc aN).alloc<|.cells #[.int .i64 26,.int .i64 0,.string ⟨#[]⟩,.slice none 0 0] 25;have HX:=Z fun(i:Nat)(hi:i<T.q)axe W hM hW=>h i hi pb axe (op+1) W O hM hW;have HK:=Z z;have IN:=Z bm;have zT:=Z cm;have ew:=y.lt;unfold aN at HE;clear h y ho e1 hE cm z bm HP;go_enter func207,ntmps207
  go_wp2_with fail
  refine HE.o.mono ?_;rintro e w2⟨⟨r,rfl⟩,hm⟩;have fe:=Z<|FG.o.step hm.kp;have gi:=Z<|bc ni.o O hm.kp;have HN:=Z<|fZ pb _ _ (op+1) ⟨#[99,104,97,110]⟩ w2 rfl hm.ps;clear hm HE FG ni;go_wp2_with fail
  refine HN.o.mono ?_;rintro e w3⟨⟨r,rfl⟩,hm⟩;have iu:=Z<|fe.o.step hm.kp;have lC:=Z<|bc gi.o O hm.kp;have kV:=Z<|fZ pb _ _ (op+1) ⟨#[105,110,116]⟩ w3 rfl hm.ps;clear hm HN fe gi;go_wp2_with fail
  refine kV.o.mono ?_;rintro e w4⟨⟨r,rfl⟩,hm⟩;have oX:=Z<|iu.o.step hm.kp;have mh:=Z<|bc lC.o O hm.kp;have mK:=Z hm.ps;clear hm kV iu lC;by_cases h0:T.q=0
  · rw[avA h0]at mK;have HT:=Z<|gS pb _ (op+1) ⟨#[44]⟩ w4 (by simp only[nil_append,eG];decide) mK.o;go_wp2_with fail
    refine HT.o.mono ?_;rintro e w5⟨rfl,I⟩;have lL:=Z<|oX.o.calm I;have CL:=Z<|aW mh.o I;have Nw:=Z<|ke pb _ axf op ⟨#[41]⟩ w5 rfl<|mK.o.calm I;clear I HT oX mh mK;go_wp2_with fail
    refine Nw.o.mono ?_;rintro e w6⟨⟨r',rfl⟩,hm⟩;have vT:=Z<|lL.o.step hm.kp;obtain⟨n0,n1,n2,n3,nf⟩:=al<|bc CL.o O hm.kp;obtain⟨z0,z1,z2,z3,zf⟩:=aP vT.o.av;have HS:=Z hm.ps;have Ud:=Z h0;clear hm Nw lL CL h0 LQ;go_wp2;exact avr (vT.o.read results207 rfl 26 0 ⟨#[]⟩<|.slice none 0 0) rfl<|vT.o.done HS.o (jU Ud.o _ _ _) HK.o IN.o zT.o Ud.o
  · have h1:T.q=1:=O;rw[avo h0]at mK;have HS4':Hid (PS pb ((4,⟨#[44]⟩)::((aF<|T.f 0).ex 1++(4,⟨#[41]⟩)::axf)) (op+1) w4):=mK;have HT:=Z<|fA pb _ _ (op+1) ⟨#[44]⟩ w4 rfl HS4'.o;go_wp2_with fail
    refine HT.o.mono ?_;rintro e w5⟨rfl,hm⟩;have lL:=Z<|oX.o.step hm.kp;have CL:=Z<|bc mh.o O hm.kp;have oQ:=Z hm.ps;have Ob:=Z h1;have HX5:=Z fun W hW=>HX.o 0 O ((4,⟨#[41]⟩)::axf) W (gL J J) hW;clear hm HT oX mh mK HS4' h0 LQ h1 HX;obtain⟨n0,n1,n2,n3,nf⟩:=al CL.o;have di:=pJ;have Lp:=lL.o.size;have wk:=(avp.1 CL.o).1;have mj:=Z<|HX5.o w5.drew oQ.o.drew;go_wp2_with fail
    go_region_law(first
      | (go_simp
         refine mj.o.mono ?_
         rintro e w6⟨a,c,rfl,hg⟩
         have hB6:=bc (W:=w5.drew) CL.o O hg.kp
         obtain⟨m0,m1,m2,m3,mf⟩:=al hB6
         have m3a:=eY m3
         have PY:=hg.kp.size
         obtain⟨v',W',ec,ig,Bt⟩:=vz (Kds.nil w5.heap.size T w6) PY O hg.row lr PY (fun k z=>by simp[Value.ownBlock]at z) _ _ _ rfl rfl rfl
         obtain⟨Sw,Su,rfl⟩:=ig.shape
         have YY:=(Bt.block _ (avp.1 hB6).1 fun e=>by simp[Value.ownBlock]at e).trans hB6
         obtain⟨p0,p1,p2,p3,pf⟩:=al YY
         have mL:=Z ec;clear ec;unfold Nd.val)
      | (refine dm aan _ _ 23 aan _ _ _ _ aan aan mL.o ?_))
    all_goals(
      have FH:Hid (PW pb w W'):=⟨(lL.o.drew.step hg.kp).kp.grown Bt (fun k z=>by simp[Value.ownBlock]at z),lL.o.low⟩
      have HP8:=Z<|FH.o.put (w.heap.size+1) 3 (.slice Sw 1 Su) lr
      have HS8:=Z<|(hg.ps.grown Bt fun k z=>by simp[Value.ownBlock]at z).put (w.heap.size+1) 3 (.slice Sw 1 Su) O
      have HB8:Hid ((W'.setCell ⟨w.heap.size+1,3,none⟩<|.slice Sw 1 Su).heap[w.heap.size+1]?=some (eS 26 0 ⟨#[]⟩ Sw 1 Su)):=(avD _ _ 3 _ 25 _ YY).trans rfl
      have HK8:=Z<|ig.put (b:=w.heap.size+1) (o:=3) (x:=.slice Sw 1 Su) O
      clear hg ig Bt hB6 YY m0 m1 m2 m3 m3a mf p0 p1 p2 p3 pf mj HX5 oQ lL CL n0 n1 n2 n3 nf FH
      have Nw:=Z<|ke pb _ axf op ⟨#[41]⟩ _ rfl HS8.o
      go_wp2_with fail
      refine Nw.o.mono ?_
      rintro e w9⟨⟨r',rfl⟩,hm⟩
      have Nv:=Z<|HP8.o.step hm.kp
      obtain⟨n0,n1,n2,n3,nf⟩:=al<|bc HB8.o O hm.kp
      obtain⟨z0,z1,z2,z3,zf⟩:=aP Nv.o.av
      have HS9:=Z hm.ps
      have HK9:=Z<|HK8.o.kp O hm.kp
      clear hm Nw HP8 HS8 HB8 HK8
      go_wp2
      exact avr (Nv.o.read results207 rfl 26 0 ⟨#[]⟩ (.slice Sw 1 Su)) rfl (Nv.o.done HS9.o (Kds.row (by rw[Ob.o];exact HK9.o) O) HK.o IN.o zT.o Ob.o))
theorem qu {n:Int}(hl:T.q=1)(fT:w.heap.size+1<=lo)(Tg:lo<=W.heap.size)(hr:Row lo W.heap.size W (T.f 0) (.slice a l c))(z:(T.f 0).y=k)(hn:(T.f 0).E=n)(hs:(T.f 0).z=s)(hz:W.heap.size+1<=V.heap.size)
  (hV:∀g,lo<=g->g<W.heap.size+1->V.heap[g]?=(W.alloc<|.cells #[.int .i64 k,.int .i64 n,.string s,.slice a l c] 25).heap[g]?):Row (w.heap.size+1) V.heap.size V T (.slice (some ⟨W.heap.size,0,none⟩) 1 1):=by
 have h1:=(Kds.one (B:=lo) (T:=T) lr Tg hr z hn hs);have h2:=Kds.row (lo:=lo) (by rw[hl];exact h1) lr;exact cL fT aah (fun g o h1 h2=>avt (a:=⟨g,o,none⟩)<|hV g h1 (by simpa using h2)) h2
theorem Up (z:T.y=27)(cm:T.z=⟨#[45]⟩)(bm:T.E=0)(hlen:T.q=1)(ht:(aF T).ex l=(4,⟨#[45]⟩)::rest)(h:RD0 193 rest (T.f 0) need C):RD0 193 ((aF T).ex l) T (need+1) C:=by intro pb axf op w ho hC y;rw[ht]at y;have mC:PS pb ((4,⟨#[45]⟩)::(rest++axf)) op w:=y;have atU:=kk;exact ahc
theorem Uo (z:T.y=27)(cm:T.z=⟨#[33]⟩)(bm:T.E=0)(hlen:T.q=1)(ht:(aF T).ex l=(4,⟨#[33]⟩)::rest)(h:RD0 193 rest (T.f 0) need C):RD0 193 ((aF T).ex l) T (need+1) C:=by intro pb axf op w ho hC y;rw[ht]at y;have mC:PS pb ((4,⟨#[33]⟩)::(rest++axf)) op w:=y;have atV:=kk;exact ahc
theorem Oo (z:T.y=29)(cm:T.z=⟨#[]⟩)(bm:T.E=0)(hlen:T.q=1)(ht:(aF T).ex l=(4,⟨#[60,45]⟩)::rest)(h:RD0 193 rest (T.f 0) need C):RD0 193 ((aF T).ex l) T (need+1) C:=by intro pb axf op w ho hC y;rw[ht]at y;have mC:PS pb ((4,⟨#[60,45]⟩)::(rest++axf)) op w:=y;have atW:=kk;exact ahc
theorem mq (bY:∃a t,tk=a::t/\a.2≠⟨#[45]⟩/\a.2≠⟨#[33]⟩/\a.2≠⟨#[60,45]⟩)(h:RD0 199 tk T need C):RD0 193 tk T need C:=by intro pb axf op w ho hC y;obtain⟨x,t,rfl,Qo,h33,h60⟩:=bY;have atH:=kk;exact W7
def NN (need:Nat)(R:Nd):Prop:=∀l:Nat,1<=l->l<=6->RD1 189 (.int .i64 (l:Int)) ((aF R).ex l) R need (eX l)
theorem yp {U:Nd}{Ns:List Nd}{tu:List KT}(h1:1<=l)(YR:lD (NN need) l U Ns T)(hU:RD0 193 tu U need (fun axf=>eG axf≠⟨#[40]⟩))(hlen:Ns.length<=1000):RD1 189 (.int .i64 (l:Int)) (tu++gE Ns) T need (eX l):=by
  intro pb axf op w ho hC y;rw[avM]at y;have hl40:bV ⟨#[40]⟩=0:=J;have Bu:∀(X:Nd)(r:List Nd),lD (NN need) l X r T->eG (gE r++axf)≠⟨#[40]⟩/\(r=[]->bV (eG<|gE r++axf)<l)/\∀m,(∀axe,r.head?=some axe->bV axe.z<=m)->l<=m->bV (eG<|gE r++axf)<m+1:=by
    intro X r hr;cases r with
    | nil=>exact⟨hC.2,fun _=>hC.1,fun m _ hm=>by have:=hC.1;show bV (eG axf)<m+1;omega⟩
    | cons axe r=>
      obtain⟨⟨_,_,_,_,k5,_,_,_⟩,_⟩:=hr;refine⟨?_,(fun e=>by cases e),fun m hm _=>?_⟩
      · intro e;have e2:axe.z=⟨#[40]⟩:=e;rw[e2,hl40]at k5;omega
      · show bV axe.z<m+1;have:=hm axe rfl;omega
  have HUn:=Z<|hU pb (gE Ns++axf) op (w.alloc aN) ho (Bu U Ns YR).1<|y.alloc _;have HP:=Z<|PW.start y.lt;have HF:=Z Bu;have HCh:=Z YR;have HV:=Z fun(s:ByteArray)(W:World)=>lA s W;have N4:=Z fun(axe:List KT)(W:World)(h:PS pb axe op W)=>cR pb axe op W h;have f1:=nI;have ew:=y.lt;unfold aN at HUn;clear hU y Bu YR hC;go_enter func189,ntmps189
  go_wp2_with fail
  refine HUn.o.mono ?_;rintro e w1⟨a,c,rfl,hg⟩;have gG:=Z<|HP.o.step hg.kp;have eu:=gG.o.size;have cY:=Z hg.ps;have rQ:Hid (RX w1.heap.size w w1 U<|.slice a U.q c):=RX.c8 (jw HP.o hg) lr;have Cq:=Z hg.cap;clear hg HUn HP;unfold Nd.val;go_wp2;go_loopg [] Ns.length (fun gk wr=>∃X r a c,gk=r.length/\r.length<=1000/\lD (NN need) l X r T/\PS pb (gE r++axf) op wr/\PW pb w wr/\wr.heap[w1.heap.size]?=some (eS X.y X.E X.z a X.q c)/\RX w1.heap.size w wr X (.slice a X.q c)/\Hid (X.y=29->∃a0,Value.slice a X.q c=.slice a0 1 1))
  case atStart=>exact⟨U,Ns,a,c,rfl,hlen,HCh.o,cY.o.alloc _,gG.o.calm<|bA,avv w1 _,rQ.o.calm<|bA,Cq⟩
  case round=>
    obtain⟨X,r,a,c,nE,hrl,hchr,P6,hpw,gN,hrx,HCx⟩:=hrel;have sV:=Z nE;have HPS:=Z P6;have Ua:=Z hpw;have gU:=Z gN;have HRX:=Z hrx;have HCR:=Z hchr;have HT:=Z<|N4.o _ wr P6;clear nE hchr P6 hpw gN hrx gG cY rQ N4 HCh;cases r with
    | nil=>
      obtain⟨_,Br,_⟩:=HF.o X [] HCR.o;have hlv':=Br rfl;obtain rfl:X=T:=HCR.o;generalize eG (gE []++axf)=sg at*
      generalize qe (gE []++axf)=kd at*
      have HVs:=Z<|HV.o sg;generalize bV sg=lv at*
      have be:(lv:Int)<(l:Int):=O;clear Br hlv' HV HF;go_wp2_with fail
      refine HT.o.mono ?_;rintro e w2⟨⟨at',rfl⟩,I⟩;have fe:=Z<|Ua.o.calm I;have eF:=Z<|HPS.o.calm I;have El:=Z<|HRX.o.calm I;obtain⟨n0,n1,n2,n3,nf⟩:=al<|aW gU.o I;obtain⟨z0,z1,z2,z3,zf⟩:=aP fe.o.av;clear I HT Ua HPS HRX gU;go_wp2_with(go_at_call 83;refine(HVs.o _).mono ?_;rintro e w' ⟨rfl,rfl⟩)
      exact avr (fe.o.read results189 rfl X.y X.E X.z<|.slice a X.q c) rfl ⟨a,c,rfl,fe.o.fin eF.o El.o.row HCx.o⟩
    | cons N r=>
      obtain⟨⟨k1,k2,k3,k4,k5,k6,k7,k8⟩,hr⟩:=HCR.o;obtain⟨hs40,_,pG⟩:=HF.o N r hr;have hl5:=(qC k5).2;have HN:Hid (N.y=28/\N.E=0/\N.q=2/\N.f 0=X):=⟨k1,k2,k3,k4⟩;have HVs:=Z<|HV.o N.z;have HX:Hid (∀W,PS pb ((aF<|N.f 1).ex (bV N.z+1)++(gE r++axf)) op W->_):=fun W hW=>k7 (bV N.z+1) O O pb (gE r++axf) op W ho ⟨pG _ k8 k6,hs40⟩ hW;have e0:gE (N::r)++axf=(4,N.z)::((aF<|N.f 1).ex (bV N.z+1)++(gE r++axf)):=by simp[gE]
      rw[e0]at HT HPS;simp only[eG,qe]at HT;have HCN:=Z hr;have Ek:Hid (r.length+1<=1000):=hrl;generalize (aF<|N.f 1).ex (bV N.z+1)=tr at*
      have lj:((bV N.z+1:Nat):Int)=(bV N.z:Int)+1:=O;rw[lj]at HX;generalize bV N.z=lv at*
      have hge:(l:Int)<=(lv:Int):=O;clear lj k1 k2 k3 k4 k5 k7 k8 hr hs40 pG HV HF e0 HCR hrl k6;generalize cm:N.z=nm at*
      have zT:=Z cm;clear cm;go_wp2_with fail
      refine HT.o.mono ?_;rintro e w2⟨⟨at',rfl⟩,I⟩;obtain⟨ts,nx,en,la,lc,p1,p2⟩:=HPS.o.calm I;obtain⟨c0,c1,c2,c3,c4,cf⟩:=p1.cells;have hn:=p1.cy;have hf:=p1.aR;have hM:=p1.take p2;have iu:=Z<|(Ua.o.calm I).step hM.kp;have fa:=Z hM.ps;have lC:Hid ((w2.setCell ⟨pb,1,none⟩<|.int .i64<|(nx:Int)+1).heap[w1.heap.size]?=some (eS X.y X.E X.z a X.q c)):=bc (aW gU.o I) O hM.kp;have sJ:=Z<|(HRX.o.calm I).kp ew hM.kp;clear I HT Ua HPS HRX gU p1 p2 hM;go_wp2_with(go_at_call 83;refine(HVs.o _).mono ?_;rintro e w' ⟨rfl,hw⟩;rw[hw];clear hw w')
      clear c0 c1 c2 c3 c4 cf;generalize w2.setCell ⟨pb,1,none⟩ (.int .i64<|(nx:Int)+1)=w3 at*
      obtain⟨n0,n1,n2,n3,nf⟩:=al lC.o;have mj:=Z (HX.o w3.drew fa.o.drew);have hb3:=(avp.1 lC.o).1;have di:=pJ;have Hm:IntKind.i64.wrap ((lv:Int)+1)=(lv:Int)+1:=gj O O;go_region_law(first
        | (go_simp
           refine mj.o.mono ?_
           rintro e w4⟨a',c',rfl,hg⟩
           have wv:=bc (W:=w3.drew) lC.o O hg.kp
           obtain⟨m0,m1,m2,m3,mf⟩:=al wv
           have g0:=eY m0;have g1:=eY m1;have g2:=eY m2;have g3:=eY m3
           have gf:∀(ob:Obj)i,(w4.alloc ob).frozen? ⟨w1.heap.size,i,none⟩=false:=fun ob i=>((bO w4 ob).frozen (p:=⟨w1.heap.size,i,none⟩)<|lt_of_cell m0).trans<|mf i
           unfold Nd.val))
      all_goals(
        have bM:=bO w4<|.cells #[.int .i64 X.y,.int .i64 X.E,.string X.z,.slice a X.q c,.int .i64 (N.f 1).y,.int .i64 (N.f 1).E,.string (N.f 1).z,.slice a' (N.f 1).q c'] 25
        have VM:=avv w4<|.cells #[.int .i64 X.y,.int .i64 X.E,.string X.z,.slice a X.q c,.int .i64 (N.f 1).y,.int .i64 (N.f 1).E,.string (N.f 1).z,.slice a' (N.f 1).q c'] 25
        have EV:=hg.kp.size
        have td:=iu.o.size
        have lL:=Z<|((iu.o.drew.step hg.kp).calm bM).bY w1.heap.size 28 0 nm (.slice (some ⟨w4.heap.size,0,none⟩) 2 2) eu
        have oQ:=Z<|(hg.ps.calm bM).bY w1.heap.size 28 0 nm (.slice (some ⟨w4.heap.size,0,none⟩) 2 2) O
        have CL:=Z<|tZ (aW wv bM) 28 0 nm (some ⟨w4.heap.size,0,none⟩) 2 2
        obtain⟨q1,q2,q3,q4⟩:=HN.o
        have zS:Hid (RX w1.heap.size w _ N (.slice (some ⟨w4.heap.size,0,none⟩) 2 2)):=(RX.bY (k:=28) (n:=0) (s:=nm) (u:=.slice (some ⟨w4.heap.size,0,none⟩) 2 2) (by
          have hx:=((sJ.o.keep (V:=w3.drew) lr fun _ _ _ _=>rfl).kp ew hg.kp).calm bM
          have hy:=(RX.cd (b:=w1.heap.size) (w:=w) hg.row (show w.heap.size+1<=w3.drew.heap.size from td)<|show w1.heap.size<w3.drew.heap.size from hb3).calm bM
          have:=RX.list (b:=w1.heap.size) (w:=w) (T:=N) (us:=fun i=>if i=0 then .slice a X.q c else .slice a' (N.f 1).q c') (c:=2) (show w.heap.size+1<=w4.heap.size by have:w3.drew.heap.size=w3.heap.size:=rfl;omega) (by have:w3.drew.heap.size=w3.heap.size:=rfl;omega) VM (by rw[q3];omega) (fun i hi=>by
            rw[q3]at hi
            rcases(O:i=0\/i=1)with rfl|rfl
            · rw[q4];exact⟨rfl,rfl,rfl,rfl,hx⟩
            · exact⟨rfl,rfl,rfl,rfl,hy⟩)
          rw[q3]at this
          exact this))
        clear hg bM VM wv m0 m1 m2 m3 mf g0 g1 g2 g3 gf n0 n1 n2 n3 nf iu fa lC sJ q1 q2 q3 q4 mj HX
        go_wp2
        go_roundg r.length
        case rel=>
          refine⟨N,r,some ⟨w4.heap.size,0,none⟩,2,rfl,by have:=Ek.o;omega,HCN.o,oQ.o,lL.o,?_,?_,fun e=>by rw[HN.o.1]at e;cases e⟩
          · rw[HN.o.1,HN.o.2.1,zT.o,HN.o.2.2.1];exact CL.o
          · rw[HN.o.2.2.1];exact zS.o
        case measure=>rw[sV.o];simp)
theorem KJ (z:T.y=23)(hn:T.E=0)(ax:T.Q=true)(l:Nat):RD0 199 ((aF T).ex l) T 0 (fun _=>True):=by
 intro pb axf op w ho hC y;obtain⟨cm,_,hlen⟩:=sC z ax;have e1:(aF T).ex l++axf=(3,⟨#[102,97,108,115,101]⟩)::axf:=by rw[gV O,z,hn];rfl
 have atZ:=kk;exact ahe
theorem KI (z:T.y=23)(hn:T.E=1)(ax:T.Q=true)(l:Nat):RD0 199 ((aF T).ex l) T 0 (fun _=>True):=by
 intro pb axf op w ho hC y;obtain⟨cm,_,hlen⟩:=sC z ax;have e1:(aF T).ex l++axf=(3,⟨#[116,114,117,101]⟩)::axf:=by rw[gV O,z,hn];rfl
 have at0:=kk;exact ahe
theorem KH (h:RD0 183 (fr true<|(aF T).ex 1) T need (fun _=>True)):RD0 199 (fr true<|(aF T).ex 1) T need (fun _=>True):=by
 intro pb axf op w ho hC y;have e1:fr true ((aF T).ex 1)++axf=(4,⟨#[40]⟩)::((aF T).ex 1++(4,⟨#[41]⟩)::axf):=by simp[fr]
 have HX:Hid (∀W,PS pb ((4,⟨#[40]⟩)::((aF T).ex 1++(4,⟨#[41]⟩)::axf)) op W->_):=fun W hW=>h pb axf op W ho trivial (by rw[e1];exact hW);have at5:=kk;exact ahg
theorem Py (l:Nat)(tl:List KT)(ht:(aF T).ex l=(3,⟨#[109,97,107,101]⟩)::tl)(h:RD0 207 tl T need (fun _=>True)):RD0 199 ((aF T).ex l) T need (fun _=>True):=by
 intro pb axf op w ho hC y;have e1:(aF T).ex l++axf=(3,⟨#[109,97,107,101]⟩)::(tl++axf):=by rw[ht];rfl
 have HX:Hid (∀W,PS pb (tl++axf) op W->_):=fun W hW=>h pb axf op W ho trivial hW;have at6:=kk;exact ahg
theorem Pz (tl:List KT)(l:Nat)(ht:(aF T).ex l=(1,T.z)::(4,⟨#[40]⟩)::tl)(h:RD0 206 ((aF T).ex l) T need (fun _=>True)):RD0 199 ((aF T).ex l) T need (fun _=>True):=by intro pb axf op w ho hC y;have HX:=Z fun W hW=>h pb axf op W ho trivial hW;rw[ht]at y HX;have atG:=kk;exact W7
theorem zC (l:List UInt8)(b:UInt8):∀acc,Lib.decFrom acc (l++[b])=(Lib.decFrom acc l).bind fun m=>(Lib.digitVal b).map fun d=>m*10+d:=by
 induction l with
 |nil=>intro acc;simp only[nil_append,Lib.decFrom];cases Lib.digitVal b<;>rfl
 |cons c l ih=>
  intro acc;simp only[cons_append,Lib.decFrom];cases Lib.digitVal c with
  |none=>rfl
  |some d=>exact ih _
theorem sE {k:Nat}(h:k<10):Lib.digitVal (UInt8.ofNat<|48+k)=some k:=by
 have e:(UInt8.ofNat<|48+k).toNat=48+k:=by simp;omega
 unfold Lib.digitVal;rw[e,avA O];congr 1;omega
theorem Ar :∀(f n:Nat),n<10^ f->1<=f->Lib.decFrom 0 (bS f n)=some n
 |0,n,_,h=>absurd h O
 |f+1,n,hn,_=>by
  unfold bS
  by_cases kK:n<10
  ·rw[avA kK];simp only[Lib.decFrom,sE kK];simp
  ·rw[avo kK]
   have y:10^ (f+1)=10*10^ f:=by rw[Nat.pow_succ,Nat.mul_comm]
   have hf:1<=f:=by
    cases f with
    |zero=>simp at hn;omega
    |succ f=>omega
   rw[zC,Ar f (n/ 10) O hf,sE O];simp;omega
theorem M9 {n:Int}(h0:0<=n)(h:n<=999999999999999999):Lib.atoi (bS 20 n.toNat)=some n:=by
 obtain⟨c,axd,hc,hd,_,_⟩:=jD h0 h;have hdec:=Ar 20 n.toNat O O;rw[hc]at hdec⊢;have Qo:(c==45)=false:=by rw[avH];rintro rfl;exact absurd hd J
 have h43:(c==43)=false:=by rw[avH];rintro rfl;exact absurd hd J
 simp only[Lib.atoi,Qo,h43,awH,if_false,Lib.decNat,isEmpty_cons,hdec];simp;omega
theorem PD (z:T.y=22)(ax:T.Q=true)(l:Nat):RD0 199 ((aF T).ex l) T 0 (fun _=>True):=by
 intro pb axf op w ho hC y;obtain⟨cm,h0,h9,hlen⟩:=sD z ax;have e1:(aF T).ex l++axf=(2,bs<|bS 20 T.E.toNat)::axf:=by rw[gV O,z];rfl
 rw[e1]at y;have mC:=y;have atI:=kk;exact W7
theorem RD0.mono {D:List KT->Prop}(h:RD0 f tk T n C)(hn:n<=m)(hC:∀axf,D axf->C axf):RD0 f tk T m D:=fun pb axf op w ho hD y=>h pb axf op w O (hC axf hD) y
theorem RD1.mono (h:RD1 f x tk T n C)(hn:n<=m):RD1 f x tk T m C:=fun pb axf op w ho hD y=>h pb axf op w O hD y
def YF (axf:List KT):Prop:=eG axf≠⟨#[40]⟩
structure AllE (T:Nd):Prop where
 low:∀l:Nat,1<=l->l<=6->(T.y=28->l<=bV T.z)->RD1 189 (.int .i64 (l:Int)) ((aF T).ex l) T (2*T.ak-1) (eX l)
 bin:NN (2*T.ak) T
 un:T.y≠28->RD0 193 ((aF T).ex 6) T (2*T.ak-1) YF
 par:RD0 193 (fr true<|(aF T).ex 1) T (2*T.ak) YF
theorem AllE.expr (h:AllE T)(ax:T.Q=true):RD0 180 ((aF T).ex 1) T (2*T.ak-1) (eX 1):=
 Ao (h.low 1 O O fun z=>by have:=(ly z ax).1;omega)
theorem hgt_pos (T:Nd):1<=T.ak:=by cases T<;>simp[Nd.ak]
theorem AU (hs:aK s=true):s≠⟨#[45]⟩/\s≠⟨#[33]⟩/\s≠⟨#[60,45]⟩:=by refine⟨?_,?_,?_⟩<;>rintro rfl<;>exact absurd hs J
theorem AllE.dR (h:AllE T)(ax:T.Q=true):RD0 193 ((aF T).ex 6) T (2*T.ak) YF:=by
 by_cases z:T.y=28
 ·rw[D2 ax z (by have:=(qC (ly z ax).1).2;omega)];exact h.par
 ·exact(h.un z).mono O fun _ h=>h
theorem Jp (ax:T.Q=true)(cg:T.size<=600)(hk28:T.y≠28)(ih:∀i,i<T.q->(T.f i).Q=true->AllE (T.f i)):RD0 193 ((aF T).ex 6) T (2*T.ak-1) YF:=by
  have y:=hgt_pos T;rcases iH ax with z|z|z|z|z|z|z|z
  · refine(mq ?_<|PD z ax 6).mono O fun _ _=>trivial;obtain⟨_,h0,h9,_⟩:=sD z ax;obtain⟨c,axd,hc,hd,_,_⟩:=jD h0 h9;have I:∀(x:UInt8)(r:List UInt8),ct x.toNat=false->bs (bS 20 T.E.toNat)≠bs (x::r):=fun x r hx e=>by
      have:bS 20 T.E.toNat=x::r:=by have:=congrArg (fun b:ByteArray=>b.data.toList) e;simpa[bs]using this
      rw[hc]at this;injection this with e1 _;rw[e1,hx]at hd;cases hd
    exact⟨(2,bs<|bS 20 T.E.toNat),[],by rw[gV O,z];rfl,I 45 [] J,I 33 [] J,I 60 [45] J⟩
  · rcases(sC z ax).2.1 with hn|hn
    · exact(mq ⟨(3,⟨#[102,97,108,115,101]⟩),[],by rw[gV O,z,hn];rfl,J,J,J⟩<|KJ z hn ax 6).mono O fun _ _=>trivial
    · exact(mq ⟨(3,⟨#[116,114,117,101]⟩),[],by rw[gV O,z,hn];rfl,J,J,J⟩<|KI z hn ax 6).mono O fun _ _=>trivial
  · exact(mq ⟨(1,T.z),[],by rw[gV O,z];rfl,AU (ve z ax).2.1⟩<|PC z ax 6).mono O fun _ h=>h
  · have hl:T.q<=1000:=by
      have h1:aq (fun _=>1) T.q<=aq (fun i=>(T.f i).size) T.q:=by
        have:∀n,aq (fun _=>1) n<=aq (fun i=>(T.f i).size) n:=fun n=>by
          induction n with
          | zero=>exact avF _
          | succ n ih => have:1<=(T.f n).size:=by rw[Nd.size_eq];omega
                         simp only[aq];omega
        exact this _
      have h2:∀n,aq (fun _=>1) n=n:=fun n=>by
        induction n with
        | zero=>rfl
        | succ n ih=>simp only[aq,ih]
      have h3:=T.size_eq;rw[h2]at h1;omega
    have hE:=ye z ax;have aty:=kk;exact ag8
  · obtain⟨h2,hE⟩:=u9 z ax;have atz:=kk;exact ag8
  · obtain⟨h1,hE⟩:=u7 z ax;obtain⟨hn,hs⟩:=yi z ax;have hK:=ih 0 O hE;have hh:=T.aZ (i:=0) O;have h6:=hK.dR hE;have ht:(aF T).ex 6=(4,T.z)::(if T.z.data.toList=[45]/\(T.f 0).y=27/\(T.f 0).z.data.toList=[45]then fr true ((aF<|T.f 0).ex 1)else(aF<|T.f 0).ex 6):=by rw[gV O,z];rfl
    have hr:RD0 193 (if T.z.data.toList=[45]/\(T.f 0).y=27/\(T.f 0).z.data.toList=[45]then fr true ((aF<|T.f 0).ex 1)else(aF<|T.f 0).ex 6) (T.f 0) (2*(T.f 0).ak) YF:=by
      split
      · exact hK.par
      · exact h6
    rcases hs with hs|hs
    · rw[hs]at ht hr;exact(Up (l:=6) z hs hn h1 ht hr).mono O fun _ h=>h
    · rw[hs]at ht hr;exact(Uo (l:=6) z hs hn h1 ht hr).mono O fun _ h=>h
  · exact absurd z hk28
  · obtain⟨h1,hE⟩:=yd z ax;obtain⟨hn,hs⟩:=ei_29 z ax;have hK:=ih 0 O hE;have hh:=T.aZ (i:=0) O;have ht:(aF T).ex 6=(4,⟨#[60,45]⟩)::(aF<|T.f 0).ex 6:=by rw[gV O,z];rfl
    exact(Oo (l:=6) z hs hn h1 ht<|hK.dR hE).mono O fun _ h=>h
theorem yn {P:Nd->Prop}{l:Nat}{T:Nd}:∀{r:List Nd}{X:Nd},lD P l X r T->X.size+r.length<=T.size
 |[],X,h=>by obtain rfl:X=T:=h;simp
 |N::r,X,h=>by
  obtain⟨⟨_,_,h3,h4,_⟩,hr⟩:=h
  have:=yn hr
  have:=Nd.a6 N (i:=0) O
  rw[h4]at this
  simp only[length_cons];omega
theorem all_e (n:Nat):∀T:Nd,T.size<=n->T.size<=600->T.Q=true->AllE T:=by
  induction n with
  | zero => intro T h;have:1<=T.size:=by rw[T.size_eq];omega
            omega
  | succ n Vt=>
    intro T hT We ax;have aZ:∀V:Nd,V.size<=n+1->V.size<=600->∀i,i<V.q->(V.f i).Q=true->AllE (V.f i):=fun V hV hV6 i hi he=>by
      have:=V.a6 hi;exact Vt _ O O he
    have low:∀l:Nat,1<=l->l<=6->(T.y=28->l<=bV T.z)->RD1 189 (.int .i64 (l:Int)) ((aF T).ex l) T (2*T.ak-1) (eX l):=fun l h1 h6 hl=>by
      have y:=hgt_pos T;obtain⟨U,tu,Ns,e,YR,hU⟩:=spine (P:=NN<|2*T.ak-1) (Q:=fun V tu=>RD0 193 tu V (2*T.ak-1) YF) T ax
        (fun V h1 h2 h3=>fun l a b=>((Vt V O O h3).bin l a b).mono O)
        (fun V h1 h2 h3 h4=>(Vt V O O h1).par.mono O fun _ h=>h)
        (fun V h1 h2 h3 h4=>(Jp h1 O h4<|aZ V O O).mono O fun _ h=>h) l hl
      rw[e];exact yp h1 YR hU (by have:=yn YR;omega)
    have par:RD0 193 (fr true<|(aF T).ex 1) T (2*T.ak) YF:=by
      have y:=hgt_pos T;have hx:=Ao (low 1 O O fun z=>by have:=(ly z ax).1;omega);exact(mq ⟨(4,⟨#[40]⟩),_,rfl,J,J,J⟩<|KH<|xH hx).mono O fun _ _=>trivial
    refine⟨low,fun l h1 h6=>?_,fun z=>Jp ax We z<|aZ T hT We,par⟩;by_cases hl:T.y=28/\bV T.z<l
    · rw[D2 ax hl.1 hl.2];have:=yp (T:=T) (U:=T) (Ns:=[]) (tu:=fr true<|(aF T).ex 1) (need:=2*T.ak) (l:=l) h1 rfl par M;rw[gE,awG]at this;exact this
    · exact(low l h1 h6 fun z=>by refine aww fun hn=>hl ⟨z,O⟩).mono O
theorem pP (ax:T.Q=true)(h:T.size<=600):RD0 180 ((aF T).ex 1) T (2*T.ak-1) (eX 1):=(all_e T.size T lr h ax).expr ax
end Go.Proofs.YtgcmhaghebhjnaaGreatDoor
