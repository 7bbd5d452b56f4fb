import Derived.Test.YtgcmhaghebhjnaaGreatDoorPYA
import Derived.Test.YtgcmhaghebhjnaaGreatDoorPTE
set_option linter.unusedVariables false
set_option maxHeartbeats 16000000
set_option maxRecDepth 100000
namespace Go.Proofs.YtgcmhaghebhjnaaGreatDoor
open Go.RowKit Tryz List
variable {B b c j l lo need op oq pb:Nat} {C:List KT->Prop} {H T:Nd} {P:Program} {Q:Exit->Act->World->Prop} {V W W6 w:World} {a:Option Addr} {axe axf rest tk:List KT} {k k' n n':Int} {s s':ByteArray} {v:Value}
variable {G :Prop}
theorem ahh (h:G:=by rw[eq1]at HQ;have HF:Hid (T.y=10/\T.E=0/\T.z=⟨#[]⟩/\T.q=3):=⟨z,hn,hm,hl⟩;have ew:=y.lt;have di:=pJ;unfold aN at HE;clear y mC z hn hm hl ho h h0 hC eA h2 j5 eq1;have avn:=kk;exact ahH):G:=h
theorem ahi (h:G:=by have aug:=kk;exact WZ):G:=h
theorem MU (h:G:=by have auh:=kk;exact WZ):G:=h
theorem ahz (h:G:=by
 go_wp2_with fail
 go_step3;refine uL rfl ?_;exact ahE):G:=h
theorem TN (h:G:=by exact⟨_,_,rfl,J,J,J,J⟩):G:=h
theorem ahD (h:G:=by have auS:=kk;exact ahA):G:=h
theorem ahE (h:G:=by exact ahF):G:=h
theorem ahF (h:G:=by
 go_wp2_with fail
 refine ra.o.mono ?_;rintro e w9⟨a',c,rfl,hg⟩;have Nv:=Z (fe.o.step hg.kp);obtain⟨z0,z1,z2,z3,zf⟩:=aP Nv.o.av;have HS:=Z hg.ps;have HR:=Z (jw fe.o hg);have Cq:=Z hg.cap;clear hg;unfold Nd.val;go_wp2;exact Fg<|avr (Nv.o.read results138 rfl T.y T.E T.z (.slice a' T.q c)) rfl ⟨a',c,rfl,Nv.o.fin HS.o HR.o Cq.o⟩):G:=h
theorem ahG (h:G:=by have auv:=kk;exact ahr):G:=h
theorem ahH (h:G:=by
 go_enter func162,ntmps162
 go_wp2_with fail
 refine HE.o.mono ?_;rintro e w1⟨⟨r,rfl⟩,CD⟩;have gG:=Z<|HP.o.step CD.kp;have Ai:=Z<|HX.o w1 CD.ps;clear CD HE HP HX;go_wp2_with fail
 refine Ai.o.mono ?_;rintro e w3⟨a6,c6,rfl,hg⟩;have oe:=Z<|NB.lit 10 0 ⟨#[]⟩ gG.o hg;clear hg Ai gG;unfold Nd.val;go_upto_region 3 with fail
 generalize (w3.alloc<|nO (T.f 0)<|.slice a6 (T.f 0).q c6).alloc (.cells #[.int .i64 10,.int .i64 0,.string ⟨#[]⟩,.slice (some ⟨w3.heap.size,0,none⟩) 1 1] 25)=w2 at*
 generalize w3.heap.size+1=b at*
 generalize (some ⟨w3.heap.size,0,none⟩:Option Addr)=ad at*
 have mm:=Z oe.o.drew;have mj:=Z (ra.o w2.drew mm.o.ps);obtain⟨n0,n1,n2,n3,nf,z0,z1,z2,z3,zf⟩:=oe.o.cells;clear ra;have auy:=kk;exact WX):G:=h
theorem ahj (h:G:=by have mh:=Z eA;have ew:=y.lt;have di:=pJ;unfold aN at HN HP;rw[avs]at HN;clear y CA ho h hC z hn hl eA hhd;have auC:=kk;exact ahs):G:=h
theorem ahk (h:G:=by
 intro pb axf op w ho hC y;have mC:PS pb ((3,⟨#[105,102]⟩)::((aF<|T.f 0).ex 1++((aF<|T.f 1).st++(3,⟨#[101,108,115,101]⟩)::((aF<|T.f 2).st++axf)))) op w:=by simpa using y
 have HE:=Z<|fJ pb _ _ op ⟨#[105,102]⟩ (w.alloc aN) rfl O<|mC.alloc _;have HP:=Z<|PW.start y.lt;have HX:=Z fun W hW=>h0 pb ((aF<|T.f 1).st++(3,⟨#[101,108,115,101]⟩)::((aF<|T.f 2).st++axf)) (op+1) W O aaB hW;have ra:=Z fun W hW=>h pb ((3,⟨#[101,108,115,101]⟩)::((aF<|T.f 2).st++axf)) (op+1) W O trivial hW;have HX3:=Z fun W hW=>h2 pb axf (op+1) W O hC hW;have HY:=Z fun W(hW:PS pb ((3,⟨#[101,108,115,101]⟩)::((aF<|T.f 2).st++axf)) (op+1) W)=>fA pb _ _ (op+1) ⟨#[101,108,115,101]⟩ W rfl hW;have HQ:=Z fun W(hW:PS pb ((aF<|T.f 2).st++axf) (op+1) W)=>dG pb _ (op+1) ⟨#[105,102]⟩ W hW;first
 |clear aub
  have eq1:decide (eG ((aF<|T.f 2).st++axf)=⟨#[105,102]⟩)=false:=by rw[cK O,j5];rfl
  exact ahh
 |clear auc
  have eq1:decide (eG ((aF<|T.f 2).st++axf)=⟨#[105,102]⟩)=true:=by rw[cK O,j5];rfl
  exact ahh):G:=h
theorem ahl (h:G:=by
 go_enter func163,ntmps163
 have au6:=kk;exact WT):G:=h
theorem WZ (h:G:=by intro pb axf op w ho hC y;have auW:=kk;exact ahC):G:=h
theorem ahm (h:G:=by clear HXj;have auz:=kk;exact WX):G:=h
theorem ahn (h:G:=by clear HX;have auA:=kk;exact WX):G:=h
theorem WY (h:G:=by intro pb axf op w ho hC y;obtain⟨x,t,hx,jH,eA⟩:=bY axf hC;have auX:=kk;exact ahC):G:=h
theorem aho (h:G:=by
  clear n0 n1 n2 n3 nf z0 z1 z2 z3 zf;have HT5:=Z<|fZ pb _ _ op ⟨#[58]⟩ w5 rfl Zb.o.ps;go_wp2_with fail
  refine HT5.o.mono ?_;rintro e w6⟨⟨r5,rfl⟩,hm⟩;have Co:=Z<|Zb.o.mv hm;clear hm HT5 Zb;have mm:=Z Co.o.drew;have mj:=Z<|HX.o w6.drew mm.o.ps;obtain⟨n0,n1,n2,n3,nf⟩:=Co.o.cells;first
  | clear aup
    have n3':w6.cell? ⟨w.heap.size+1,3,none⟩=some (.slice a4 1 1):=n3;clear HX n3;go_wp2_with fail
    go_region_law(first
      | (go_simp
         refine mj.o.mono ?_
         rintro e w8⟨v8,rfl,j5,Qa⟩
         obtain⟨va,vc,rfl⟩:=j5.shape
         have IR:=Z<|mm.o.app (T:=T) (by show 1<=1/\1<=2;omega) HF.o.2.2.2 (fun i hi=>(by have hi1:i<1:=hi;have nB:i=0:=O;subst nB;rfl)) (j5.row lr) Qa mh.o.1 mh.o.2.1 mh.o.2.2
         obtain⟨a',c',W',iq⟩:=IR.o
         have q1:w8.cell? ⟨w.heap.size+1,3,none⟩=some (.slice a4 1 1):=iq.c3.1
         have q2:∀ob:Obj,(w8.alloc ob).cell? ⟨w.heap.size+1,3,none⟩=some (.slice a4 1 1):=iq.c3.2.1
         have q3:W'.cell? ⟨w.heap.size+1,3,none⟩=some (.slice a4 1 1):=iq.c3.2.2.1
         have q4:=iq.c3.2.2.2
         have HR:Hid (∀ty,(Builtin.append_ #[23,23] ty #[.slice a4 1 1,.slice (some ⟨w8.heap.size,0,none⟩) 1 1]).run prog (w8.alloc (.cells #[.int .i64 4,.int .i64 0,.string ⟨#[]⟩,.slice va (T.f 1).q vc] 25))=.ok (.slice a' 2 c') W'):=iq.run)
      | (refine dm aan _ _ 23 aan _ _ _ _ aan aan HR.o ?_))
    all_goals(
      have FH:Hid (PW pb w<|W'.setCell ⟨w.heap.size+1,3,none⟩<|.slice a' 2 c'):=iq.pw
      have yv:Hid (PS pb axf op<|W'.setCell ⟨w.heap.size+1,3,none⟩<|.slice a' 2 c'):=iq.ps
      have HB7:Hid ((W'.setCell ⟨w.heap.size+1,3,none⟩<|.slice a' 2 c').heap[w.heap.size+1]?=some (eS 16 1 s a' 2 c')):=iq.av
      have HR7:Hid (Row (w.heap.size+1) (W'.setCell ⟨w.heap.size+1,3,none⟩<|.slice a' 2 c').heap.size (W'.setCell ⟨w.heap.size+1,3,none⟩<|.slice a' 2 c') T<|.slice a' 2 c'):=iq.row
      clear j5 Qa iq IR q1 q2 q3 q4 HR mj mm Co n0 n1 n2 n3' nf
      generalize W'.setCell ⟨w.heap.size+1,3,none⟩ (.slice a' 2 c')=w9 at*
      obtain⟨n0,n1,n2,n3,nf⟩:=al HB7.o
      obtain⟨z0,z1,z2,z3,zf⟩:=aP FH.o.av
      go_wp2
      exact avr (FH.o.read results181 rfl 16 1 s (.slice a' 2 c')) rfl (FH.o.done yv.o HR7.o HF.o.1 HF.o.2.1 cm HF.o.2.2.2))
  | clear auq
    have n3':w6.cell? ⟨w.heap.size+1,3,none⟩=some (.slice a4 2 2):=n3;clear HX n3;go_wp2_with fail
    go_region_law(first
      | (go_simp
         refine mj.o.mono ?_
         rintro e w8⟨v8,rfl,j5,Qa⟩
         obtain⟨va,vc,rfl⟩:=j5.shape
         have IR:=Z<|mm.o.app (T:=T) (by show 1<=2/\2<=2;omega) HF.o.2.2.2 (fun i hi=>(by have hi1:i<2:=hi;rcases(O:i=0\/i=1)with rfl|rfl<;>rfl)) (j5.row lr) Qa mh.o.1 mh.o.2.1 mh.o.2.2
         obtain⟨a',c',W',iq⟩:=IR.o
         have q1:w8.cell? ⟨w.heap.size+1,3,none⟩=some (.slice a4 2 2):=iq.c3.1
         have q2:∀ob:Obj,(w8.alloc ob).cell? ⟨w.heap.size+1,3,none⟩=some (.slice a4 2 2):=iq.c3.2.1
         have q3:W'.cell? ⟨w.heap.size+1,3,none⟩=some (.slice a4 2 2):=iq.c3.2.2.1
         have q4:=iq.c3.2.2.2
         have HR:Hid (∀ty,(Builtin.append_ #[23,23] ty #[.slice a4 2 2,.slice (some ⟨w8.heap.size,0,none⟩) 1 1]).run prog (w8.alloc (.cells #[.int .i64 4,.int .i64 0,.string ⟨#[]⟩,.slice va (T.f 2).q vc] 25))=.ok (.slice a' 3 c') W'):=iq.run)
      | (refine dm aan _ _ 23 aan _ _ _ _ aan aan HR.o ?_))
    all_goals(
      have FH:Hid (PW pb w<|W'.setCell ⟨w.heap.size+1,3,none⟩<|.slice a' 3 c'):=iq.pw
      have yv:Hid (PS pb axf op<|W'.setCell ⟨w.heap.size+1,3,none⟩<|.slice a' 3 c'):=iq.ps
      have HB7:Hid ((W'.setCell ⟨w.heap.size+1,3,none⟩<|.slice a' 3 c').heap[w.heap.size+1]?=some (eS 16 2 s a' 3 c')):=iq.av
      have HR7:Hid (Row (w.heap.size+1) (W'.setCell ⟨w.heap.size+1,3,none⟩<|.slice a' 3 c').heap.size (W'.setCell ⟨w.heap.size+1,3,none⟩<|.slice a' 3 c') T<|.slice a' 3 c'):=iq.row
      clear j5 Qa iq IR q1 q2 q3 q4 HR mj mm Co n0 n1 n2 n3' nf
      generalize W'.setCell ⟨w.heap.size+1,3,none⟩ (.slice a' 3 c')=w9 at*
      obtain⟨n0,n1,n2,n3,nf⟩:=al HB7.o
      obtain⟨z0,z1,z2,z3,zf⟩:=aP FH.o.av
      go_wp2
      exact avr (FH.o.read results181 rfl 16 2 s (.slice a' 3 c')) rfl (FH.o.done yv.o HR7.o HF.o.1 HF.o.2.1 cm HF.o.2.2.2))):G:=h
theorem ahp (h:G:=by
 have CL:=Z<|aW lC.o I;clear n0 n1 n2 n3 nf;obtain⟨n0,n1,n2,n3,nf⟩:=al CL.o;have Lp:=I.size;have bM:=bO w5<|nO (T.f 0)<|.slice a' (T.f 0).q c;have vT:=Z<|(iu.o.calm I).calm bM;have vG:=Z<|(fa.o.calm I).calm bM;obtain⟨z0,z1,z2,z3,zf⟩:=aP vT.o.av;first
 |clear aur
  have zS:Hid (Row w2.heap.size w5.heap.size w5 (T.f 0)<|.slice a' (T.f 0).q c):=aY (ah I O sJ.o) lr O;have auL:=kk;exact ahx
 |clear aus
  have zS:Hid (Row w2.heap.size w5.heap.size w5 (T.f 0) (.slice a' (T.f 0).q c)):=aY (ah I lr sJ.o) lr O;have auM:=kk;exact ahx):G:=h
theorem ahq (h:G:=by
 go_enter func164,ntmps164
 have auH:=kk;exact ahv):G:=h
theorem ahr (h:G:=by
 go_wp2_with fail
 refine oP.o.mono ?_;rintro e w2⟨⟨at',rfl⟩,I⟩;have fe:=Z<|gG.o.calm I;have ra:=Z<|HX.o w2<|cY.o.calm I;clear I oP gG cY HX;go_wp2_with fail
 refine ra.o.mono ?_;rintro e w3⟨a',c,rfl,hg⟩;first
 |clear auv
  have ed:=fe.o.size;have td:=hg.kp.size;have au9:=kk;exact WS
 |clear auw
  obtain⟨a2,ha2⟩:=hg.cap rfl;obtain⟨rfl,rfl⟩:a'=a2/\c=1:=by injection ha2 with e1 e2 e3;exact⟨e1,e3⟩
  have ed:=fe.o.size;have td:=hg.kp.size;have bM:=bO w3<|.cells #[.int .i64 29,.int .i64 0,.string ⟨#[]⟩,.slice a' 1 1] 25;have iu:=Z<|(fe.o.step hg.kp).calm bM;have fa:=Z<|hg.ps.calm bM;have lC:Hid ((w3.alloc<|.cells #[.int .i64 29,.int .i64 0,.string ⟨#[]⟩,.slice a' 1 1] 25).heap[w3.heap.size]?=some (eS 29 0 ⟨#[]⟩ a' 1 1)):=avv w3 _;have sJ:Hid (Row w2.heap.size w3.heap.size (w3.alloc<|.cells #[.int .i64 29,.int .i64 0,.string ⟨#[]⟩,.slice a' 1 1] 25) (fY T)<|.slice a' 1 1):=ah bM lr hg.row;have Jb:=Z<|HTn.o _ fa.o;clear hg bM ra fe HTn ha2;unfold Nd.val;simp only[fY,cq,Nd.y,Nd.E,Nd.z,Nd.q];go_wp2_with fail
  refine Jb.o.mono ?_;rintro e w4⟨rfl,I⟩;have oX:=Z<|iu.o.calm I;have mK:=Z<|fa.o.calm I;have mh:=Z<|aW lC.o I;have Lw:w3.heap.size+1<=w4.heap.size:=by have:=I.size;simpa using this
  have Jc:Hid (Row w2.heap.size w3.heap.size w4 (fY T) (.slice a' 1 1)):=ah I M sJ.o;obtain⟨n0,n1,n2,n3,nf⟩:=al mh.o;have rR:=Z (zA pb 29 0 ⟨#[]⟩ a' 1 1 at' [29] M J w4 mK.o.lt);have avh:=kk;exact Ra):G:=h
theorem WX (h:G:=by
  go_wp2_with fail
  go_region_law(first
    | (go_simp
       refine mj.o.mono ?_
       rintro e w6⟨a6,c6,rfl,hg⟩
       obtain⟨a',c',W',iq⟩:=mm.o.app O hg rfl rfl rfl rfl
       obtain⟨q1,q2,q3,q4⟩:=iq.c3
       have HR:=Z iq.run
       unfold Nd.val)
    | (refine dm aan _ _ 23 aan _ _ _ _ aan aan HR.o ?_))
  first
  | clear auy
    first
    | clear avm
      all_goals(
        have kV:=Z iq.nb
        clear hg iq q1 q2 q3 q4 HR mj mm oe n0 n1 n2 n3 nf z0 z1 z2 z3 zf
        generalize W'.setCell ⟨b,3,none⟩ (.slice a' (1+1) c')=w3 at*
        have HT:=Z<|HNo.o w3 kV.o.ps
        go_wp2_with fail
        refine HT.o.mono ?_
        rintro e w4⟨rfl,I⟩
        have qa:=Z<|kV.o.calm I
        clear I HT kV HNo
        obtain⟨ts,nx,en,la,lc,p1,p2⟩:=qa.o.ps
        obtain⟨c0,c1,c2,c3,c4,cf⟩:=p1.cells
        have ho5:=p1.c6
        have Wb:=p1.opens op O
        rw[p2]at Wb
        have Aj:=Z<|qa.o.mv Wb
        have bY:¬b=pb:=by have:=qa.o.low;have:=qa.o.pw.low;omega
        have DI:¬pb=b:=O
        have hnw:¬w.heap.size=pb:=O
        obtain⟨n0,n1,n2,n3,nf,z0,z1,z2,z3,zf⟩:=qa.o.cells
        clear p1 p2 Wb qa
        go_wp2
        exact avr (Aj.o.pw.read results162 rfl 10 0 ⟨#[]⟩ (.slice a' 2 c')) rfl (Aj.o.fin HF.o.1 HF.o.2.1 HF.o.2.2.1 HF.o.2.2.2))
    | clear avn
      all_goals(
        have kV:=Z iq.nb
        clear hg iq q1 q2 q3 q4 HR mj mm oe n0 n1 n2 n3 nf z0 z1 z2 z3 zf
        generalize W'.setCell ⟨b,3,none⟩ (.slice a' (1+1) c')=w3 at*
        have HT:=Z<|HY.o w3 kV.o.ps
        go_wp2_with fail
        refine HT.o.mono ?_
        rintro e w4⟨rfl,hm4⟩
        have qa:=Z<|kV.o.mv hm4
        have TW:=Z<|HQ.o w4 hm4.ps
        clear hm4 HT kV HY HQ
        go_wp2_with fail
        refine TW.o.mono ?_
        rintro e w5⟨rfl,I⟩
        have Aj:=Z<|qa.o.calm I
        clear I TW qa
        have mm:=Z Aj.o.drew
        have mj:=Z<|HX3.o w5.drew mm.o.ps
        obtain⟨n0,n1,n2,n3,nf,z0,z1,z2,z3,zf⟩:=Aj.o.cells
        clear HX3
        go_wp2_with fail
        go_region_law(first
          | (go_simp
             refine mj.o.mono ?_
             rintro e w6⟨a6,c6,rfl,hg⟩
             obtain⟨a',c',W',iq⟩:=mm.o.app O hg rfl rfl rfl rfl
             obtain⟨q1,q2,q3,q4⟩:=iq.c3
             have HR:=Z iq.run
             unfold Nd.val)
          | (refine dm aan _ _ 23 aan _ _ _ _ aan aan HR.o ?_))
        all_goals(
          have Co:=Z iq.nb
          clear hg iq q1 q2 q3 q4 HR mj mm Aj n0 n1 n2 n3 nf z0 z1 z2 z3 zf
          generalize W'.setCell ⟨b,3,none⟩ (.slice a' (2+1) c')=w6 at*
          obtain⟨ts,nx,en,la,lc,p1,p2⟩:=Co.o.ps
          obtain⟨c0,c1,c2,c3,c4,cf⟩:=p1.cells
          have ho5:=p1.c6
          have Wb:=p1.opens op O
          rw[p2]at Wb
          have FI:=Z<|Co.o.mv Wb
          have bY:¬b=pb:=by have:=Co.o.low;have:=Co.o.pw.low;omega
          have DI:¬pb=b:=O
          have hnw:¬w.heap.size=pb:=O
          obtain⟨n0,n1,n2,n3,nf,z0,z1,z2,z3,zf⟩:=Co.o.cells
          clear p1 p2 Wb Co
          go_wp2
          exact avr (FI.o.pw.read results162 rfl 10 0 ⟨#[]⟩ (.slice a' 3 c')) rfl (FI.o.fin HF.o.1 HF.o.2.1 HF.o.2.2.1 HF.o.2.2.2)))
  | clear auz
    first
    | clear aui
      all_goals(
        have qa:=Z iq.nb
        clear hg iq q1 q2 q3 q4 HR mj mm kV n0 n1 n2 n3 nf z0 z1 z2 z3 zf
        go_wp2
        go_roundg (T.q-(j+1))
        case rel=>exact⟨j+1,a',c',rfl,O,qa.o⟩
        case measure=>have:=sV.o;omega)
    | clear auj
      all_goals(
        have qa:=Z iq.nb
        clear hg iq q1 q2 q3 q4 HR mj mm Aj n0 n1 n2 n3 nf z0 z1 z2 z3 zf
        go_wp2
        go_roundg (T.q-(j+1))
        case rel=>exact⟨j+1,a',c',rfl,O,qa.o⟩
        case measure=>have:=sV.o;omega)
  | clear auA
    first
    | clear auk
      all_goals(
        have kV:=Z iq.nb
        clear hg iq q1 q2 q3 q4 HR mj mm oe n0 n1 n2 n3 nf z0 z1 z2 z3 zf
        generalize W'.setCell ⟨b,3,none⟩ (.slice a' (0+1) c')=w7 at*
        obtain⟨n0,n1,n2,n3,nf,z0,z1,z2,z3,zf⟩:=kV.o.cells
        go_wp2
        exact avr (kV.o.pw.read results163 rfl 11 0 ⟨#[]⟩ (.slice a' 1 c')) rfl (kV.o.fin HF.o.1 HF.o.2.1 HF.o.2.2.1 HF.o.2.2.2))
    | clear aul
      all_goals(
        have kV:=Z iq.nb
        clear hg iq q1 q2 q3 q4 HR mj mm oe n0 n1 n2 n3 nf z0 z1 z2 z3 zf
        generalize W'.setCell ⟨b,3,none⟩ (.slice a' (0+1) c')=w3 at*
        have mm:=Z kV.o.drew
        have mj:=Z<|ra.o w3.drew mm.o.ps
        obtain⟨n0,n1,n2,n3,nf,z0,z1,z2,z3,zf⟩:=kV.o.cells
        clear ra
        go_wp2_with fail
        go_region_law(first
          | (go_simp
             refine mj.o.mono ?_
             rintro e w6⟨a6,c6,rfl,hg⟩
             obtain⟨a',c',W',iq⟩:=mm.o.app O hg rfl rfl rfl rfl
             obtain⟨q1,q2,q3,q4⟩:=iq.c3
             have HR:=Z iq.run
             unfold Nd.val)
          | (refine dm aan _ _ 23 aan _ _ _ _ aan aan HR.o ?_))
        all_goals(
          have qa:=Z iq.nb
          clear hg iq q1 q2 q3 q4 HR mj mm kV n0 n1 n2 n3 nf z0 z1 z2 z3 zf
          generalize W'.setCell ⟨b,3,none⟩ (.slice a' (1+1) c')=w4 at*
          obtain⟨n0,n1,n2,n3,nf,z0,z1,z2,z3,zf⟩:=qa.o.cells
          go_wp2
          exact avr (qa.o.pw.read results163 rfl 11 0 ⟨#[]⟩ (.slice a' 2 c')) rfl (qa.o.fin HF.o.1 HF.o.2.1 HF.o.2.2.1 HF.o.2.2.2)))):G:=h
theorem ahs (h:G:=by
  go_enter func181,ntmps181
  go_upto_region 2 with fail
  generalize (w.alloc<|.cells #[.int .i64 0,.int .i64 0,.string ⟨#[]⟩,.slice none 0 0] 25).alloc (.cells #[.int .i64 16,.int .i64 0,.string ⟨#[]⟩,.slice none 0 0] 25)=w0 at*
  clear HP;obtain⟨w1,z7⟩:∃w1,w1=w0:=⟨w0,rfl⟩;subst z7;have Zd:=HN;clear HN;first
  | clear auB
    have oP:=Z<|fA pb _ _ op ⟨#[100,101,102,97,117,108,116]⟩ w1 rfl Zd.o.ps;go_wp2_with fail
    refine oP.o.mono ?_;rintro e w2⟨rfl,hm⟩;have oe:=Z<|Zd.o.mv hm;clear hm oP Zd;have yu:=Z<|fZ pb _ _ op ⟨#[58]⟩ w2 rfl oe.o.ps;go_wp2_with fail
    refine yu.o.mono ?_;rintro e w3⟨⟨r2,rfl⟩,hm⟩;have kV:=Z<|oe.o.mv hm;clear hm yu oe;have mm:=Z kV.o.drew;have mj:=Z<|HX.o w3.drew mm.o.ps;obtain⟨n0,n1,n2,n3,nf,z0,z1,z2,z3,zf⟩:=kV.o.cells;clear HX;go_wp2_with fail
    go_region_law(first
      | (go_simp
         refine mj.o.mono ?_
         rintro e w6⟨v6,rfl,j5,hm6⟩
         obtain⟨va,vc,rfl⟩:=j5.shape
         have hg:NG pb axf op w3.drew (T.f 0) (.slice va (T.f 0).q vc) w6:=⟨j5.row lr,hm6.ps,hm6.kp,fun e=>by rw[mh.o.1]at e;cases e⟩
         obtain⟨a',c',W',iq⟩:=mm.o.app O hg mh.o.1 mh.o.2.1 mh.o.2.2 rfl
         obtain⟨q1,q2,q3,q4⟩:=iq.c3
         have HR:=Z iq.run)
      | (refine dm aan _ _ 23 aan _ _ _ _ aan aan HR.o ?_))
    all_goals(
      have FI:=Z iq.nb
      clear hg j5 hm6 iq q1 q2 q3 q4 HR mj mm kV n0 n1 n2 n3 nf z0 z1 z2 z3 zf
      generalize W'.setCell ⟨w.heap.size+1,3,none⟩ (.slice a' (0+1) c')=w7 at*
      obtain⟨n0,n1,n2,n3,nf,z0,z1,z2,z3,zf⟩:=FI.o.cells
      go_wp2
      exact avr (FI.o.pw.read results181 rfl 16 0 ⟨#[]⟩ (.slice a' 1 c')) rfl (FI.o.fin HF.o.1 HF.o.2.1 HF.o.2.2.1 HF.o.2.2.2))
  | clear auC
    generalize cm:T.z=s at*
    have oP:=Z<|gS pb _ op ⟨#[100,101,102,97,117,108,116]⟩ w1 (by show(⟨#[99,97,115,101]⟩:ByteArray)≠_;decide) Zd.o.ps;go_wp2_with fail
    refine oP.o.mono ?_;rintro e w2⟨rfl,I⟩;have oe:=Z<|Zd.o.calm I;clear I oP Zd;have yu:=Z<|fZ pb _ _ op ⟨#[99,97,115,101]⟩ w2 rfl oe.o.ps;go_wp2_with fail
    refine yu.o.mono ?_;rintro e w3⟨⟨r2,rfl⟩,hm⟩;have kV:=Z<|oe.o.mv hm;clear hm yu oe;have Jb:=Z<|HH.o w3 kV.o.ps;go_wp2_with fail
    refine Jb.o.mono ?_;rintro e w4⟨a4,he,EZ,hm⟩;first
    | clear at7
      have he':e=.returned (.agg #[.int .i64 16,.int .i64 1,.string s,.slice a4 1 1]):=he;have auN:=kk;exact ahy
    | clear aua
      have he':e=.returned (.agg #[.int .i64 16,.int .i64 2,.string s,.slice a4 2 2]):=he;have auO:=kk;exact ahy):G:=h
theorem aht (h:G:=by intro pb axf op w ho hC y;have mC:PS pb (a::((aF (T.f 0)).ex 1++axf)) op w:=y;have avd:=kk;exact It):G:=h
theorem ahu (h:G:=by clear h y ho hC hx bY;have auK:=kk;exact ahw):G:=h
theorem ahv (h:G:=by have au3:=kk;exact WU):G:=h
theorem ahw (h:G:=by
 go_enter func138,ntmps138
 go_wp2_with fail
 refine qi 2 ?_;go_wp2_with fail
 refine HT.o.mono ?_;rintro e w1⟨⟨a1,rfl⟩,I⟩;have gG:=Z<|HP.o.calm I;have H1:=Z<|H.o.calm I;clear I HT HP H;first
 |clear auJ
  first
  |clear auf
   have oP:=Z<|dG pb _ op ⟨#[123]⟩ w1 H1.o;simp only[eG,cons_append,decide_true]at oP;go_wp2_with fail
   refine oP.o.mono ?_;rintro e w2⟨rfl,I⟩;have fe:=Z<|gG.o.calm I;have ra:=Z<|HX.o w2<|H1.o.calm I;clear I oP gG H1 HX;exact ahE
  |clear aug
   have oP:=Z<|mg pb _ op 1 w1 O H1.o;simp only[qe,eG,cons_append,awd,awv]at oP;exact ahD
  |clear auh
   have oP:=Z<|cR pb _ op w1 H1.o;simp only[qe,eG,cons_append]at oP;exact ahD
 |clear auK
  first
  |clear auF
   have oP:=Z<|mg pb _ op 1 w1 O H1.o;simp only[awd,awv]at oP;generalize eG t=tx at*
   generalize qe t=kx at*
   have auT:=kk;exact ahA
  |clear auG
   have oP:=Z<|sT.o w1 H1.o;go_wp2_with fail
   refine oP.o.mono ?_;rintro e w2⟨rfl,I⟩;have fe:=Z (gG.o.calm I);have ra:=Z (HX.o w2 (H1.o.calm I));clear I oP gG H1 HX sT;exact ahz):G:=h
theorem ahx (h:G:=by
 have RO:=Z<|qu (w:=w) (V:=w5.alloc<|nO (T.f 0)<|.slice a' (T.f 0).q c) HF.o.2.2.2 ed O zS.o rfl rfl rfl M fun _ _ _=>rfl;clear I bM rR iu fa lC sJ zS CL;go_wp2;first
 |clear auL
  exact avr (vT.o.read results166 rfl k 0 ⟨#[]⟩<|.slice (some ⟨w5.heap.size,0,none⟩) 1 1) rfl<|vT.o.done vG.o RO.o HF.o.1 HF.o.2.1 HF.o.2.2.1 HF.o.2.2.2
 |clear auM
  exact avr (vT.o.read results169 rfl 9 0 ⟨#[]⟩ (.slice (some ⟨w5.heap.size,0,none⟩) 1 1)) rfl (vT.o.done vG.o RO.o HF.o.1 HF.o.2.1 HF.o.2.2.1 HF.o.2.2.2)):G:=h
theorem ahy (h:G:=by
 clear he;subst he';have qa:=Z<|kV.o.mv hm;have td:=kV.o.pw.size;have sP:=(avp.1 kV.o.av).1;obtain⟨n0,n1,n2,n3,nf,z0,z1,z2,z3,zf⟩:=qa.o.cells;first
 |clear auN
  have Zb:Hid (NF pb (w.heap.size+1) w (dn w4 (w.heap.size+1) 16 1 s<|.slice a4 1 1) ((4,⟨#[58]⟩)::((aF<|T.f 1).ad++axf)) op 16 1 s (fY T) a4):=
   ⟨qa.o.pw.bY _ _ _ _ _ lr,qa.o.ps.bY _ _ _ _ _ O,tZ qa.o.av _ _ _ _ _ _,(RX.cd (b:=w.heap.size+1) (w:=w) EZ O O).bY _ _ _ _,avF _⟩
  unfold dn at Zb;clear EZ hm Jb kV qa HH;go_upto_region 5 with fail
  generalize (((w4.setCell ⟨w.heap.size+1,0,none⟩<|.int .i64 16).setCell ⟨w.heap.size+1,1,none⟩<|.int .i64 1).setCell ⟨w.heap.size+1,2,none⟩<|.string s).setCell ⟨w.heap.size+1,3,none⟩ (.slice a4 1 1)=w5 at*
  have aup:=kk;exact aho
 |clear auO
  have Zb:Hid (NF pb (w.heap.size+1) w (dn w4 (w.heap.size+1) 16 2 s<|.slice a4 2 2) ((4,⟨#[58]⟩)::((aF<|T.f 2).ad++axf)) op 16 2 s (dV 0 0 ⟨#[]⟩ (T.f 0)<|T.f 1) a4):=
   ⟨qa.o.pw.bY _ _ _ _ _ lr,qa.o.ps.bY _ _ _ _ _ O,tZ qa.o.av _ _ _ _ _ _,(RX.cd (b:=w.heap.size+1) (w:=w) EZ O O).bY _ _ _ _,avF _⟩
  unfold dn at Zb;clear EZ hm Jb kV qa HH;go_upto_region 5 with fail
  generalize (((w4.setCell ⟨w.heap.size+1,0,none⟩<|.int .i64 16).setCell ⟨w.heap.size+1,1,none⟩<|.int .i64 2).setCell ⟨w.heap.size+1,2,none⟩<|.string s).setCell ⟨w.heap.size+1,3,none⟩ (.slice a4 2 2)=w5 at*
  have auq:=kk;exact aho):G:=h
theorem WW (h:G:=by
 go_enter func190,ntmps190
 go_wp2_with fail
 refine HA.o.mono ?_;rintro e w1⟨⟨a1,rfl⟩,I⟩;have gG:=Z<|HP.o.calm I;have cY:=Z<|HS.o.calm I;first
 |clear auP
  have oP:=Z<|N4.o w1 cY.o;clear I HA HP HS N4;have auw:=kk;exact ahr
 |clear auQ
  have oP:=Z<|cR pb _ op w1 cY.o;simp only[qe,eG]at oP;clear I HA HP HS;go_wp2_with fail
  refine oP.o.mono ?_;rintro e w2⟨⟨a2,rfl⟩,I⟩;have fe:=Z<|gG.o.calm I;have oe:=Z<|kB pb _ _ op w2<|cY.o.calm I;clear I oP gG cY;go_wp2_with fail
  refine oe.o.mono ?_;rintro e w3⟨rfl,hm⟩;obtain⟨nx,hnx,c1,cf,hM⟩:=hm.ps.next;have oX:=Z<|(fe.o.step hm.kp).step hM.kp;have mK:=Z hM.ps;have TW:=Z<|cR pb _ op _ hM.ps;clear hm hM oe fe;go_wp2_with fail
  refine TW.o.mono ?_;rintro e w4⟨⟨at',rfl⟩,I⟩;have lL:=Z<|oX.o.calm I;have HX5:=Z<|HX.o w4<|mK.o.calm I;clear I TW oX mK HX c1 cf;go_wp2_with fail
  refine HX5.o.mono ?_;rintro e w5⟨a',c,rfl,hg⟩;obtain⟨a3,YV⟩:=hg.cap rfl;obtain⟨rfl,rfl⟩:a'=a3/\c=1:=by injection YV with e1 e2 e3;exact⟨e1,e3⟩
  have ed:=lL.o.size;have td:=hg.kp.size;have bM:=bO w5<|.cells #[.int .i64 29,.int .i64 0,.string ⟨#[]⟩,.slice a' 1 1] 25;have vT:=Z<|(lL.o.step hg.kp).calm bM;have vG:=Z<|hg.ps.calm bM;have HB6:Hid ((w5.alloc<|.cells #[.int .i64 29,.int .i64 0,.string ⟨#[]⟩,.slice a' 1 1] 25).heap[w5.heap.size]?=some (eS 29 0 ⟨#[]⟩ a' 1 1)):=avv w5 _;have RO:Hid (Row w4.heap.size w5.heap.size (w5.alloc<|.cells #[.int .i64 29,.int .i64 0,.string ⟨#[]⟩,.slice a' 1 1] 25) (fY T)<|.slice a' 1 1):=ah bM lr hg.row;have rR:=Z<|zA pb 29 0 ⟨#[]⟩ a' 1 1 at' [29] M J _ vG.o.lt;have avi:=kk;exact Ra
 |clear auR
  clear I HA HP HS;have oP:=Z (N4.o w1 cY.o);clear N4;have avk:=kk;exact ahG):G:=h
theorem ahA (h:G:=by
 go_wp2_with fail
 go_step3;refine uL rfl ?_;go_wp2_with fail
 refine oP.o.mono ?_;rintro e w2⟨⟨a2,rfl⟩,I⟩;have fe:=Z<|gG.o.calm I;have ra:=Z<|HX.o w2<|H1.o.calm I;clear I oP gG H1 HX;first
 |clear auS
  exact ahF
 |clear auT
  exact ahz):G:=h
theorem ahB (h:G:=by
  have lC:Hid ((w3.alloc<|nO (T.f 0)<|.slice a' (T.f 0).q c).heap[w3.heap.size]?=some (eS (T.f 0).y (T.f 0).E (T.f 0).z a' (T.f 0).q c)):=avv w3 _;first
  | clear auU
    obtain⟨n0,n1,n2,n3,nf⟩:=al lC.o;have sJ:=Z<|ah bM lr hg.row;have rR:=Z<|zA pb (T.f 0).y (T.f 0).E (T.f 0).z a' (T.f 0).q c at' [25] M (by rw[Yr.o];decide) (w3.alloc<|nO (T.f 0)<|.slice a' (T.f 0).q c) fa.o.lt;have avj:=kk;exact Ra
  | clear auV
    have sJ:Hid (RX w3.heap.size w _ (T.f 0)<|.slice a' (T.f 0).q c):=(RX.c8 (w:=w) (b:=w3.heap.size) (W:=w3) (jw fe.o hg) lr).calm bM;clear hg bM ra fe X9;unfold Nd.val;go_wp2_with fail
    refine Jb.o.mono ?_;rintro e w4⟨rfl,hm⟩;have oX:=Z<|iu.o.step hm.kp;have hne3:w3.heap.size≠pb:=O;have mh:=Z<|bc lC.o hne3 hm.kp;have Jc:=Z<|sJ.o.kp ew hm.kp;have mj:=Z<|Ai.o w4.drew<|hm.ps.drew;have Lw:w3.heap.size+1<=w4.heap.size:=by have:=hm.kp.size;simpa using this
    obtain⟨n0,n1,n2,n3,nf⟩:=al mh.o;obtain⟨z0,z1,z2,z3,zf⟩:=aP oX.o.av;clear hm Jb iu lC sJ Ai;go_wp2_with fail
    go_region_law(first
      | (go_simp
         refine mj.o.mono ?_
         rintro e w5⟨a5,c5,rfl,hg⟩
         have hB5:=bc (W:=w4.drew) mh.o hne3 hg.kp
         obtain⟨m0,m1,m2,m3,mf⟩:=al hB5
         have lL:=Z<|oX.o.drew.step hg.kp
         obtain⟨y0,y1,y2,y3,yf⟩:=aP lL.o.av
         have y0a:=eY y0;have y1a:=eY y1;have y2a:=eY y2;have y3a:=eY y3
         have yfa:∀(ob:Obj)i,(w5.alloc ob).frozen? ⟨w.heap.size,i,none⟩=false:=fun ob i=>((bO w5 ob).frozen (p:=⟨w.heap.size,i,none⟩)<|lt_of_cell y0).trans<|yf i
         unfold Nd.val))
    first
    | clear avk
      all_goals(
        have Fe:=bO w5<|.cells #[.int .i64 (T.f 0).y,.int .i64 (T.f 0).E,.string (T.f 0).z,.slice a' (T.f 0).q c,.int .i64 (T.f 1).y,.int .i64 (T.f 1).E,.string (T.f 1).z,.slice a5 (T.f 1).q c5] 25
        have vT:=Z<|lL.o.calm Fe
        have vG:=Z<|hg.ps.calm Fe
        have Lp:=hg.kp.size
        have hzd:w4.drew.heap.size=w4.heap.size:=rfl
        have hy:RX w3.heap.size w w5 (T.f 1) (.slice a5 (T.f 1).q c5):=RX.cd hg.row (by have:=oX.o.size;omega) O
        have hx:RX w3.heap.size w w5 (T.f 0) (.slice a' (T.f 0).q c):=(Jc.o.keep (V:=w4.drew) lr fun _ _ _ _=>rfl).kp ew hg.kp
        have RO:=Z<|(RX.pair hx hy O O 0 0 ⟨#[]⟩).row
        clear hg Fe hB5 hx hy m0 m1 m2 m3 mf n0 n1 n2 n3 nf z0 z1 z2 z3 zf y0 y1 y2 y3 yf y0a y1a y2a y3a yfa lL oX mh Jc mj
        go_wp2
        exact avr (vT.o.read results190 rfl 16 2 ⟨#[]⟩ (.slice (some ⟨w5.heap.size,0,none⟩) 2 2)) rfl (PW.head (H:=dV 0 0 ⟨#[]⟩ (T.f 0) (T.f 1)) vT.o vG.o RO.o))
    | clear avl
      all_goals(
        have Fe:=bO w5<|.cells #[.int .i64 (T.f 0).y,.int .i64 (T.f 0).E,.string (T.f 0).z,.slice a' (T.f 0).q c,.int .i64 (T.f 1).y,.int .i64 (T.f 1).E,.string (T.f 1).z,.slice a5 (T.f 1).q c5] 25
        have vT:=Z<|lL.o.calm Fe
        have vG:=Z<|hg.ps.calm Fe
        have Lp:=hg.kp.size
        have hzd:w4.drew.heap.size=w4.heap.size:=rfl
        have hy:RX w3.heap.size w w5 (T.f 1) (.slice a5 (T.f 1).q c5):=RX.cd hg.row (by have:=oX.o.size;omega) O
        have hx:RX w3.heap.size w w5 (T.f 0) (.slice a' (T.f 0).q c):=(Jc.o.keep (V:=w4.drew) lr fun _ _ _ _=>rfl).kp ew hg.kp
        have RO:=Z<|(RX.pair hx hy O O 0 0 ⟨#[]⟩).row
        clear hg Fe hB5 hx hy m0 m1 m2 m3 mf n0 n1 n2 n3 nf z0 z1 z2 z3 zf y0 y1 y2 y3 yf y0a y1a y2a y3a yfa lL oX mh Jc mj
        go_wp2
        exact avr (vT.o.read results169 rfl 8 0 ⟨#[]⟩ (.slice (some ⟨w5.heap.size,0,none⟩) 2 2)) rfl (vT.o.done vG.o (Pn RO.o HF.o.2.2.2) HF.o.1 HF.o.2.1 HF.o.2.2.1 HF.o.2.2.2))):G:=h
theorem ahC (h:G:=by
  have HT:=Z<|cR pb _ op (w.alloc aN)<|y.alloc _;have HP:=Z<|PW.start y.lt;have H:=Z<|y.alloc aN;have HX:=Z fun W hW=>h pb axf op W ho hC hW;first
  | clear auW
    have f0:=sy;have f1:=nI;unfold aN at HT HP H;clear h y ho hC;simp only[qe,eG,cons_append]at HT;have auJ:=kk;exact ahw
  | clear auX
    rw[hx]at HT H HX;have f0:=sy;have f1:=nI;unfold aN at HT HP H;simp only[qe,eG]at HT;first
    | clear aum
      rw[jH]at HT;have b1:((eG t).toList==[58,61])=false:=by rw[avH,avx];exact fun e=>eA<|.inl<|dx e
      have b2:((eG t).toList==[61])=false:=by rw[avH,avx];exact fun e=>eA<|.inr<|.inl<|dx e
      have b3:((eG t).toList==[43,43])=false:=by rw[avH,avx];exact fun e=>eA<|.inr<|.inr<|.inl<|dx e
      have b4:((eG t).toList==[45,45])=false:=by rw[avH,avx];exact fun e=>eA<|.inr<|.inr<|.inr<|dx e
      clear jH eA;have auF:=kk;exact ahu
    | clear aun
      obtain⟨x1,x2⟩:=x;obtain rfl:x1=3:=jH;have wk:x2=⟨#[102,97,108,115,101]⟩\/x2=⟨#[116,114,117,101]⟩\/x2=⟨#[109,97,107,101]⟩:=eA;clear eA;clear h y ho hC hx bY;rcases wk with rfl|rfl|rfl;all_goals(
        go_enter func138,ntmps138
        go_wp2_with fail
        refine qi 2 ?_
        go_wp2_with fail
        refine HT.o.mono ?_
        rintro e w1⟨⟨a1,rfl⟩,I⟩
        have gG:=Z<|HP.o.calm I
        have H1:=Z<|H.o.calm I
        clear I HT HP H
        have oP:=Z<|cR pb _ op w1 H1.o
        simp only[qe,eG]at oP
        go_wp2_with fail
        go_step3
        refine uL rfl ?_
        go_wp2_with fail
        refine oP.o.mono ?_
        rintro e w2⟨⟨a2,rfl⟩,I⟩
        have fe:=Z<|gG.o.calm I
        have ra:=Z<|HX.o w2<|H1.o.calm I
        clear I oP gG H1 HX
        go_wp2_with fail
        go_step3
        go_wp2_with fail
        refine ra.o.mono ?_
        rintro e w9⟨a',c,rfl,hg⟩
        have Nv:=Z<|fe.o.step hg.kp
        obtain⟨z0,z1,z2,z3,zf⟩:=aP Nv.o.av
        have HS:=Z hg.ps
        have HR:=Z<|jw fe.o hg
        have Cq:=Z hg.cap
        clear hg
        unfold Nd.val
        go_wp2
        exact Fg<|avr (Nv.o.read results138 rfl T.y T.E T.z (.slice a' T.q c)) rfl ⟨a',c,rfl,Nv.o.fin HS.o HR.o Cq.o⟩)
    | clear auo
      have b1:(x.1==1)=false:=bn jH.1;have b3:(x.1==3)=false:=bn jH.2;have sT:=Z (fun W(hW:PS pb (x::t) op W)=>dG pb _ op ⟨#[123]⟩ W hW);have e1:decide (eG (x::t)=⟨#[123]⟩)=false:=avP eA;rw[e1]at sT;clear jH eA e1;have auG:=kk;exact ahu):G:=h
theorem WV (h:G:=by
 have HA:=Z<|mg pb _ op 1 (w.alloc aN) O<|y.alloc _;have HP:=Z<|PW.start y.lt;have HS:=Z<|y.alloc aN;first
 |clear auY
  have HX:=Z fun W(hW:PS pb ((4,⟨#[60,45]⟩)::((aF<|T.f 0).ex 6++axf)) op W)=>h pb axf op W ho hC.1 hW;have N4:=Z fun W(hW:PS pb ((4,⟨#[60,45]⟩)::((aF<|T.f 0).ex 6++axf)) op W)=>cR pb _ op W hW;have HTn:=Z fun W(hW:PS pb axf op W)=>gS pb axf op ⟨#[60,45]⟩ W hC.2.1 hW;simp only[awd,awv]at HA;have hb58:((eG<|(aF<|T.f 0).ex 6++axf).toList==[58,61])=false:=by rw[hx,avH,avx];exact fun e=>SW<|.inl<|dx e
  generalize eG ((aF<|T.f 0).ex 6++axf)=sx at*
  generalize qe ((aF<|T.f 0).ex 6++axf)=kx at*
  have f1:=nI;have f2:=xY;have ew:=y.lt;unfold aN at HA HP HS;clear y ho h hC hx SW;have auP:=kk;exact WW
 |clear auZ
  have HX:=Z fun W(hW:PS pb ((4,⟨#[60,45]⟩)::((aF<|T.f 0).ex 6++axf)) op W)=>h pb axf op W ho hC hW;have hbe:(T.z.toList==[])=false:=by
   rw[avH,avx];intro e;have:=dx (a:=T.z) (b:=⟨#[]⟩) e;rw[this]at cm;exact absurd cm J
  generalize T.z=s at*
  simp only[awd,awv,qe,eG]at HA;have f0:=sy;have f1:=nI;have f2:=xY;have ew:=y.lt;unfold aN at HA HP HS;clear y ho h hC cm;have auQ:=kk;exact WW
 |clear au0
  have HX:=Z fun W hW=>h pb ((4,⟨#[60,45]⟩)::((aF<|T.f 1).ex 1++axf)) op W ho (gL J J) hW;have N4:=Z fun W(hW:PS pb ((aF<|T.f 0).ex 1++(4,⟨#[60,45]⟩)::((aF<|T.f 1).ex 1++axf)) op W)=>cR pb _ op W hW;have X9:=Z fun W hW=>fA pb (4,⟨#[60,45]⟩) ((aF<|T.f 1).ex 1++axf) op ⟨#[60,45]⟩ W rfl hW;have Ai:=Z fun W hW=>h1 pb axf op W ho hC hW;have e0:((aF<|T.f 0).ex 1++(4,⟨#[60,45]⟩)::((aF<|T.f 1).ex 1++axf)).drop 1=t:=by rw[hx];rfl
  rw[e0]at HA;have q8:((eG t).toList==[58,61])=false:=by rw[avH,avx];exact fun e1=>Cw<|.inl<|dx e1
  generalize eG t=sx at*
  generalize qe t=kx at*
  have f0:=sy;have f1:=nI;have f2:=xY;have ew:=y.lt;have di:=pJ;unfold aN at HA HP HS;clear y ho h h1 hC hx Cw e0;have auR:=kk;exact WW):G:=h
theorem WU (h:G:=by have au5:=kk;exact WT):G:=h
theorem WT (h:G:=by
 go_upto_region 1 with fail
 generalize w.alloc (.cells #[.int .i64 0,.int .i64 0,.string ⟨#[]⟩,.slice none 0 0] 25)=w0 at*
 first
 |clear au4
  go_wp2;exact avr (HP.o.read results167 rfl k 0 ⟨#[]⟩<|.slice none 0 0) rfl<|HP.o.done HS.o (jU HF.o.2.2.2 _ _ _) HF.o.1 HF.o.2.1 HF.o.2.2.1 HF.o.2.2.2
 |clear au5
  go_wp2_with fail
  first
  |clear au1
   refine HX.o.mono ?_;rintro e w3⟨a',c,rfl,hg⟩;have bM:=bO w3<|nO (T.f 0)<|.slice a' (T.f 0).q c;have iu:=Z<|(HP.o.step hg.kp).calm bM;have fa:=Z<|hg.ps.calm bM;obtain⟨z0,z1,z2,z3,zf⟩:=aP iu.o.av;have ed:=HP.o.size;have sJ:=Z<|qu (w:=w) (V:=w3.alloc<|nO (T.f 0)<|.slice a' (T.f 0).q c) HF.o.2.2.2 ed hg.kp.size hg.row rfl rfl rfl M fun _ _ _=>rfl;clear hg bM HX HP;unfold Nd.val;go_wp2;exact avr (iu.o.read results168 rfl k 0 ⟨#[]⟩<|.slice (some ⟨w3.heap.size,0,none⟩) 1 1) rfl<|iu.o.done fa.o sJ.o HF.o.1 HF.o.2.1 HF.o.2.2.1 HF.o.2.2.2
  |clear au2
   refine HE.o.mono ?_;rintro e w1⟨⟨r,rfl⟩,hm⟩;have HN:=Z<|NB.start 15 0 ⟨#[]⟩ T (HP.o.step hm.kp) hm.ps;clear hm HE HP c1 cf;go_wp2;go_loopg [] T.q (fun gk wr=>∃j a c,gk=T.q-j/\j<=T.q/\NB pb w1.heap.size (w1.heap.size+1) w wr (dr (fun i=>(aF<|T.f i).cs) j (T.q-j)++(4,⟨#[125]⟩)::axf) (op+1) 15 0 ⟨#[]⟩ T j a c)
   case atStart=>exact⟨0,none,0,O,avL _,by rw[Nat.sub_zero];exact HN.o⟩
   case round=>
    obtain⟨j,aj,cj,nE,hj,VM⟩:=hrel;have oe:=Z VM;have sV:=Z nE;clear VM nE HN;by_cases be:j<T.q
    ·obtain⟨q,hq⟩:∃q,T.q-j=q+1:=⟨T.q-j-1,O⟩;have HL:Hid (dr (fun i=>(aF<|T.f i).cs) j (T.q-j)++(4,⟨#[125]⟩)::axf=(aF<|T.f j).cs++(dr (fun i=>(aF<|T.f i).cs) (j+1) (T.q-(j+1))++(4,⟨#[125]⟩)::axf)):=by
      unfold Hid;rw[hq,show T.q-(j+1)=q by omega];simp only[dr,avM]
     rw[HL.o]at oe;obtain⟨x,t,hx,h5,h2⟩:=Mz<|HCk.o j be;have hS1:=sT.o ⟨#[99,97,115,101]⟩ _ wr oe.o.ps;have e1:eG ((aF<|T.f j).cs++(dr (fun i=>(aF<|T.f i).cs) (j+1) (T.q-(j+1))++(4,⟨#[125]⟩)::axf))=x.2:=by rw[hx];rfl
     rw[e1]at hS1;have cY:=Z hS1;have HXj:=Z fun W hW=>HX.o j be _ W (HLs.o (j+1) O) hW;clear hS1 hq hx;rcases h2 with h2|h2
     ·rw[h2]at cY;simp only[decide_true]at cY;go_wp2_with fail
      refine cY.o.mono ?_;rintro e w3⟨rfl,I⟩;have kV:=Z<|oe.o.calm I;clear I cY oe e1 h2;have mm:=Z kV.o.drew;have mj:=Z<|HXj.o w3.drew mm.o.ps;obtain⟨n0,n1,n2,n3,nf,z0,z1,z2,z3,zf⟩:=kV.o.cells;have aui:=kk;exact ahm
     ·rw[h2]at cY;have e2:decide ((⟨#[100,101,102,97,117,108,116]⟩:ByteArray)=⟨#[99,97,115,101]⟩)=false:=J;rw[e2]at cY;have V9:=fun W(hW:PS pb _ (op+1) W)=>sT.o ⟨#[100,101,102,97,117,108,116]⟩ ((aF<|T.f j).cs++(dr (fun i=>(aF<|T.f i).cs) (j+1) (T.q-(j+1))++(4,⟨#[125]⟩)::axf)) W hW;rw[e1,h2]at V9;simp only[decide_true]at V9;have eF:=Z V9;clear V9;go_wp2_with fail
      refine cY.o.mono ?_;rintro e w2⟨rfl,I⟩;have kV:=Z<|oe.o.calm I;have fa:=Z<|eF.o w2 kV.o.ps;clear I cY oe e1 h2 eF e2;go_wp2_with fail
      refine fa.o.mono ?_;rintro e w3⟨rfl,I⟩;have Aj:=Z<|kV.o.calm I;clear I fa kV;have mm:=Z Aj.o.drew;have mj:=Z<|HXj.o w3.drew mm.o.ps;obtain⟨n0,n1,n2,n3,nf,z0,z1,z2,z3,zf⟩:=Aj.o.cells;have auj:=kk;exact ahm
    ·obtain rfl:j=T.q:=O;have HL:Hid (dr (fun i=>(aF<|T.f i).cs) T.q (T.q-T.q)++(4,⟨#[125]⟩)::axf=(4,⟨#[125]⟩)::axf):=by unfold Hid;rw[awO];rfl
     rw[HL.o]at oe;have cY:=Z<|sT.o ⟨#[99,97,115,101]⟩ _ wr oe.o.ps;have e1:decide (eG ((4,⟨#[125]⟩)::axf)=⟨#[99,97,115,101]⟩)=false:=rfl;rw[e1]at cY;have eF:=Z fun W(hW:PS pb ((4,⟨#[125]⟩)::axf) (op+1) W)=>sT.o ⟨#[100,101,102,97,117,108,116]⟩ _ W hW;have e2:decide (eG ((4,⟨#[125]⟩)::axf)=⟨#[100,101,102,97,117,108,116]⟩)=false:=rfl;rw[e2]at eF;clear e1 e2;go_wp2_with fail
     refine cY.o.mono ?_;rintro e w2⟨rfl,I⟩;have kV:=Z<|oe.o.calm I;have fa:=Z<|eF.o w2 kV.o.ps;clear I cY oe eF;go_wp2_with fail
     refine fa.o.mono ?_;rintro e w3⟨rfl,I⟩;have qa:=Z<|kV.o.calm I;have Nw:=Z<|ke pb _ axf op ⟨#[125]⟩ w3 rfl qa.o.ps;clear I fa kV;go_wp2_with fail
     refine Nw.o.mono ?_;rintro e w4⟨⟨r',rfl⟩,hm⟩;have Aj:=Z<|qa.o.mv hm;obtain⟨n0,n1,n2,n3,nf,z0,z1,z2,z3,zf⟩:=Aj.o.cells;clear hm Nw qa;go_wp2;exact avr (Aj.o.pw.read results165 rfl 15 0 ⟨#[]⟩<|.slice aj T.q cj) rfl<|Aj.o.fin HF.o.1 HF.o.2.1 HF.o.2.2 rfl
  |clear au3
   refine HT.o.mono ?_;rintro e w2⟨⟨at',rfl⟩,I⟩;have fe:=Z<|HP.o.calm I;first
   |clear auH
    have eF:=Z<|HS.o.calm I;first
    |clear aut
     obtain⟨z0,z1,z2,z3,zf⟩:=aP fe.o.av;clear I HT HS HP;go_wp2;exact avr (fe.o.read results164 rfl 12 0 ⟨#[]⟩<|.slice none 0 0) rfl<|fe.o.done eF.o (jU HF.o.2.2.2 _ _ _) HF.o.1 HF.o.2.1 HF.o.2.2.1 HF.o.2.2.2
    |clear auu
     have HQ:=Z<|sT.o w2 eF.o;clear I HT HS HP sT;go_wp2_with fail
     refine HQ.o.mono ?_;rintro e w3⟨rfl,I⟩;have iu:=Z<|fe.o.calm I;have HX3:=Z<|HX.o w3<|eF.o.calm I;clear I HQ eF fe HX;go_wp2_with fail
     refine HX3.o.mono ?_;rintro e w4⟨a',c,rfl,hg⟩;have bM:=bO w4<|nO (T.f 0)<|.slice a' (T.f 0).q c;have oX:=Z<|(iu.o.step hg.kp).calm bM;have mK:=Z<|hg.ps.calm bM;obtain⟨z0,z1,z2,z3,zf⟩:=aP oX.o.av;have ed:=iu.o.size;have Jc:=Z<|qu (w:=w) (V:=w4.alloc<|nO (T.f 0)<|.slice a' (T.f 0).q c) HF.o.2.2.2 ed hg.kp.size hg.row rfl rfl rfl M fun _ _ _=>rfl;clear hg bM HX3 iu;unfold Nd.val;go_wp2;exact avr (oX.o.read results164 rfl 12 0 ⟨#[]⟩<|.slice (some ⟨w4.heap.size,0,none⟩) 1 1) rfl<|oX.o.done mK.o Jc.o HF.o.1 HF.o.2.1 HF.o.2.2.1 HF.o.2.2.2
   |clear auI
    have ra:=Z<|HX.o w2<|HS.o.calm I;clear I HT HS HX HP;go_wp2_with fail
    refine ra.o.mono ?_;rintro e w3⟨a',c,rfl,hg⟩;have ed:=fe.o.size;have td:=hg.kp.size;have au8:=kk;exact WS
 |clear au6
  have cg:(w0.setCell ⟨pb,1,none⟩<|.int .i64<|(nx:Int)+1).heap.size=w0.heap.size:=by simp[World.setCell]
  rw[cg]at HN;clear cg;go_wp2_with fail
  refine sT.o.mono ?_;rintro e w2⟨rfl,I⟩;have oe:=Z<|HN.o.calm I;clear HN I sT HP;generalize w0.heap.size=b at*
  have mm:=Z oe.o.drew;have mj:=Z<|HX.o w2.drew mm.o.ps;obtain⟨n0,n1,n2,n3,nf,z0,z1,z2,z3,zf⟩:=oe.o.cells;first
  |clear aud
   have di:=pJ;have auk:=kk;exact ahn
  |clear aue
   have aul:=kk;exact ahn):G:=h
theorem WS (h:G:=by
 have bM:=bO w3<|nO (T.f 0)<|.slice a' (T.f 0).q c;have iu:=Z<|(fe.o.step hg.kp).calm bM;first
 |clear au7
  have fa:=Z<|hg.ps.calm bM;obtain⟨z0,z1,z2,z3,zf⟩:=aP iu.o.av;have ed:=fe.o.size;have sJ:=Z<|qu (w:=w) (V:=w3.alloc<|nO (T.f 0)<|.slice a' (T.f 0).q c) HF.o.2.2 ed hg.kp.size hg.row rfl rfl rfl M fun _ _ _=>rfl;clear hg bM ra fe;unfold Nd.val;go_wp2;exact avr (iu.o.read results160 rfl k 0 s<|.slice (some ⟨w3.heap.size,0,none⟩) 1 1) rfl<|iu.o.done fa.o sJ.o HF.o.1 HF.o.2.1 hs HF.o.2.2
 |clear au8
  have fa:=Z<|hg.ps.calm bM;have auU:=kk;exact ahB
 |clear au9
  have Jb:=Z (X9.o _ (hg.ps.calm bM));have auV:=kk;exact ahB):G:=h
theorem It (h:G:=by
 obtain⟨nx,hnx,c1,cf,hM⟩:=(mC.alloc aN).next;have HP:=Z<|(PW.start y.lt).step hM.kp;first
 |clear ava
  have HS:=Z hM.ps;have HF:Hid (T.y=k/\T.E=0/\T.z=⟨#[]⟩/\T.q=0):=⟨z,hn,hm,hl⟩;obtain⟨z0,z1,z2,z3,zf⟩:=aP HP.o.av;unfold aN at c1 cf z0 z1 z2 z3 zf HP HS;have be:=y.lt;clear y mC hM z hn hm hl ho;go_enter func167,ntmps167
  have au4:=kk;exact WT
 |clear avb
  have HX:=Z<|h pb axf op _ ho trivial hM.ps;have HF:Hid (T.y=k/\T.E=0/\T.z=⟨#[]⟩/\T.q=1):=⟨z,hn,hm,hl⟩;unfold aN at c1 cf HP HX;clear y mC hM z hn hm hl ho h;go_enter func168,ntmps168
  have au1:=kk;exact WU
 |clear avc
  have HT:=Z<|cR pb _ op _ hM.ps;have HS:=Z hM.ps;have HF:Hid (T.y=12/\T.E=0/\T.z=⟨#[]⟩/\T.q=0):=⟨z,hn,hm,hl⟩;have f0:=sy;rw[hC.stop.2.2.2]at HT;unfold aN at c1 cf HP HT HS;clear y mC hM z hn hm hl ho hC;have aut:=kk;exact ahq
 |clear avd
  have HT:=Z<|cR pb _ op _ hM.ps;have HS:=Z hM.ps;first
  |clear auD
   have HX:=Z fun W hW=>h pb axf op W ho hC hW;have HF:Hid (T.y=k/\T.E=0/\T.z=⟨#[]⟩/\T.q=1):=⟨z,hn,hm,hl⟩;have Yr:=Z sN;have f2:=xY;have ew:=y.lt;unfold aN at c1 cf HP HT HS;clear y mC hM z hn hm hl ho h hC sN;go_enter func166,ntmps166
   have auI:=kk;exact ahv
  |clear auE
   have HF:Hid (T.y=12/\T.E=0/\T.z=⟨#[]⟩/\T.q=1):=⟨z,hn,hm,hl⟩;have HX:=Z fun W hW=>h pb axf op W ho hC hW;have sT:=Z fun W(hW:PS pb ((aF<|T.f 0).ex 1++axf) op W)=>dG pb _ op ⟨#[125]⟩ W hW;obtain⟨x,t,hx,_,_,h125,h5,_⟩:=rH ax 1;have e1:decide (eG ((aF<|T.f 0).ex 1++axf)=⟨#[125]⟩)=false:=avP (by rw[hx];exact h125);have hk5:(qe ((aF<|T.f 0).ex 1++axf)==5)=false:=bn (by rw[hx];exact h5);rw[e1]at sT;generalize qe ((aF<|T.f 0).ex 1++axf)=kd at*
   have f0:=sy;unfold aN at c1 cf HP HT HS;clear y mC hM z hn hm hl ho hC h e1 hx h125 h5;have auu:=kk;exact ahq
 |clear ave
  have HN:=Z<|NB.start 11 0 ⟨#[]⟩ T HP.o hM.ps;have e1:decide (eG ((aF<|T.f 0).st++axf)=⟨#[123]⟩)=true:=avR (by rw[cK O,eA];rfl);have sT:=Z<|dG pb _ op ⟨#[123]⟩ _ HN.o.ps;rw[e1]at sT;have HX:=Z fun W hW=>h pb axf op W ho trivial hW;have HF:Hid (T.y=11/\T.E=0/\T.z=⟨#[]⟩/\T.q=1):=⟨z,hn,hm,hl⟩;have ew:=y.lt;unfold aN at c1 cf HP HN sT;clear y mC hM z hn hm hl ho h e1 hC eA;have aud:=kk;exact ahl
 |clear avf
  have HN:=Z (NB.start 11 0 ⟨#[]⟩ T HP.o hM.ps);obtain⟨x,t,hx,_,h123,_⟩:=rH ax 1;have e1:decide (eG ((aF (T.f 0)).ex 1++((aF (T.f 1)).st++axf))=⟨#[123]⟩)=false:=avP (by rw[hx];exact h123);have sT:=Z (dG pb _ op ⟨#[123]⟩ _ HN.o.ps);rw[e1]at sT;have HX:=Z (fun W hW=>h0 pb ((aF (T.f 1)).st++axf) op W ho aaB hW);have ra:=Z (fun W hW=>h pb axf op W ho trivial hW);have HF:Hid (T.y=11/\T.E=0/\T.z=⟨#[]⟩/\T.q=2):=⟨z,hn,hm,hl⟩;have ew:=y.lt;have di:=pJ;unfold aN at c1 cf HP HN sT;clear y mC hM z hn hm hl ho h h0 e1 hC eA hx h123 ax;have aue:=kk;exact ahl):G:=h
theorem Ra (h:G:=by
 simp only[awD,awP,length_cons,length_nil,Nat.zero_add]at rR;first
 |clear avg
  clear I HTa HPa HSa HBa HRa;go_wp2_with fail
  refine rR.o.mono ?_;rintro e w5⟨⟨r,rfl⟩,I⟩;have aus:=kk;exact ahp
 |clear avh
  clear I Jb iu fa lC sJ;go_wp2_with fail
  refine rR.o.mono ?_;rintro e w5⟨⟨r,rfl⟩,I⟩;have CL:=Z<|aW mh.o I;have lL:=Z<|oX.o.calm I;have oQ:=Z<|mK.o.calm I;have Lp:=I.size;have zS:Hid (Row (w.heap.size+1) w5.heap.size w5 (fY T)<|.slice a' 1 1):=aY (ah I O Jc.o) ed O;clear I rR oX mK mh Jc n0 n1 n2 n3 nf;obtain⟨n0,n1,n2,n3,nf⟩:=al CL.o;obtain⟨z0,z1,z2,z3,zf⟩:=aP lL.o.av;go_wp2;exact avr (lL.o.read results190 rfl 16 1 ⟨#[]⟩<|.slice a' 1 1) rfl<|PW.head (H:=fY T) lL.o oQ.o zS.o
 |clear avi
  clear hg bM HX5 lL YV;unfold Nd.val;simp only[fY,cq,Nd.y,Nd.E,Nd.z,Nd.q];go_upto_region 7 with fail
  generalize hw6:w5.alloc (.cells #[.int .i64 29,.int .i64 0,.string ⟨#[]⟩,.slice a' 1 1] 25)=w6 at*
  have Vy:w6.heap.size=w5.heap.size+1:=by rw[<-hw6];simp
  clear hw6;obtain⟨n0,n1,n2,n3,nf⟩:=al HB6.o;rw[Vy]at rR;go_wp2_with fail
  refine rR.o.mono ?_;rintro e w7⟨⟨r,rfl⟩,I⟩;rw[<-Vy]at I;have HB7:=Z<|aW HB6.o I;have FH:=Z<|vT.o.calm I;have yv:=Z<|vG.o.calm I;have PX:=I.size;have HR7:Hid (Row (w.heap.size+1) w7.heap.size w7 (fY T)<|.slice a' 1 1):=aY (ah I O RO.o) ed O;clear I rR vT vG HB6 RO n0 n1 n2 n3 nf;obtain⟨n0,n1,n2,n3,nf⟩:=al HB7.o;obtain⟨z0,z1,z2,z3,zf⟩:=aP FH.o.av;go_wp2;exact avr (FH.o.read results190 rfl 16 1 s<|.slice a' 1 1) rfl<|PW.head (H:=fY T) FH.o yv.o HR7.o
 |clear avj
  clear hg bM ra fe;unfold Nd.val;go_upto_region 4 with fail
  generalize hw4:w3.alloc (nO (T.f 0)<|.slice a' (T.f 0).q c)=w4 at*
  have Lw:w4.heap.size=w3.heap.size+1:=by rw[<-hw4];simp
  clear hw4;go_wp2_with fail
  rw[Lw]at rR;refine rR.o.mono ?_;rintro e w5⟨⟨r,rfl⟩,I⟩;rw[<-Lw]at I;have aur:=kk;exact ahp):G:=h
def PTR (pb:Nat):Value:=.pointer<|some ⟨pb,0,none⟩
theorem PS.next {a:KT}(h:PS pb (a::axf) op w):∃nx:Nat,nx<=4000/\w.cell? ⟨pb,1,none⟩=some (.int .i64 (nx:Int))/\w.frozen? ⟨pb,1,none⟩=false/\Mv pb axf op w (w.setCell ⟨pb,1,none⟩<|.int .i64<|(nx:Int)+1):=by
 obtain⟨ts,nx,en,la,lc,h1,h2⟩:=h
 obtain⟨c0,c1,c2,c3,c4,cf⟩:=h1.cells;exact⟨nx,by have:=h1.cy;have:=h1.aR;omega,c1,cf 1,h1.take h2⟩
theorem Ev (ze:k≠29)(z:T.y=k)(hn:T.E=0)(hm:T.z=⟨#[]⟩)(hl:T.q=0)(a:KT):RD1 167 (.int .i64 k) [a] T 0 (fun _=>True):=by intro pb axf op w ho _ y;have mC:PS pb (a::axf) op w:=y;have ava:=kk;exact It
theorem xr (z:T.y=7)(hn:T.E=n)(hl:T.q=0)(a:KT):RD1 161 (.int .i64 n) [(1,T.z),a] T 0 (fun _=>True):=by
 intro pb axf op w ho _ y;have mC:PS pb ((1,T.z)::a::axf) op w:=y;have HN:=Z<|kB pb _ _ op (w.alloc aN)<|mC.alloc _;have HP:=Z<|PW.start y.lt;have HF:Hid (T.y=7/\T.E=n/\T.q=0):=⟨z,hn,hl⟩;generalize hs:T.z=s at*
 unfold aN at HN;clear y mC z hn hl ho;go_enter func161,ntmps161
 go_wp2_with fail
 refine HN.o.mono ?_;rintro e w1⟨rfl,hm⟩;obtain⟨nx,hnx,c1,cf,hM⟩:=hm.ps.next;have fe:=Z<|(HP.o.step hm.kp).step hM.kp;have eF:=Z hM.ps;obtain⟨z0,z1,z2,z3,zf⟩:=aP (HP.o.step hm.kp).av;have ew:=HP.o.low;have bY:¬w.heap.size=pb:=O;have DI:¬pb=w.heap.size:=O;clear hm hM HN HP;go_wp2;exact avr (fe.o.read results161 rfl 7 n s<|.slice none 0 0) rfl<|fe.o.done eF.o (jU HF.o.2.2 _ _ _) HF.o.1 HF.o.2.1 hs HF.o.2.2
theorem tV (ze:k≠29)(z:T.y=k)(hn:T.E=0)(hl:T.q=1)(a:KT)(h:RD0 180 ((aF<|T.f 0).ex 1) (T.f 0) need (eX 1)):RD1 160 (.int .i64 k) ((1,T.z)::a::(aF<|T.f 0).ex 1) T need (eX 1):=by
 intro pb axf op w ho hC y;have mC:PS pb ((1,T.z)::a::((aF<|T.f 0).ex 1++axf)) op w:=y;have HN:=Z<|kB pb _ _ op (w.alloc aN)<|mC.alloc _;have HP:=Z<|PW.start y.lt;have HX:=Z fun W hW=>h pb axf op W ho hC hW;have HF:Hid (T.y=k/\T.E=0/\T.q=1):=⟨z,hn,hl⟩;generalize hs:T.z=s at*
 unfold aN at HN;clear y mC z hn hl ho hC h;go_enter func160,ntmps160
 go_wp2_with fail
 refine HN.o.mono ?_;rintro e w1⟨rfl,hm⟩;obtain⟨nx,hnx,c1,cf,hM⟩:=hm.ps.next;have fe:=Z<|(HP.o.step hm.kp).step hM.kp;have ra:=Z<|HX.o _ hM.ps;clear hm hM HN HP HX;go_wp2_with fail
 refine ra.o.mono ?_;rintro e w3⟨a',c,rfl,hg⟩;have au7:=kk;exact WS
theorem ui (ze:k≠29)(z:T.y=k)(hn:T.E=0)(hm:T.z=⟨#[]⟩)(hl:T.q=1)(a:KT)(h:RD0 183 (fr true<|(aF<|T.f 0).ex 1) (T.f 0) need (fun _=>True)):RD1 168 (.int .i64 k) (a::fr true ((aF<|T.f 0).ex 1)) T need (fun _=>True):=by intro pb axf op w ho hC y;have mC:PS pb (a::(fr true ((aF<|T.f 0).ex 1)++axf)) op w:=y;have avb:=kk;exact It
theorem zA (pb:Nat)(k n:Int)(s:ByteArray)(a:Option Addr)(l c:Nat)(first:Int)(zs:List Int)(hz:zs.length<=100)(z:zs.contains k=true)(W:World)(y:pb<W.heap.size):
    Calls prog 182 #[.pointer<|some ⟨pb,0,none⟩,.agg #[.int .i64 k,.int .i64 n,.string s,.slice a l c],.int .i64 first,.slice (some ⟨W.heap.size,0,none⟩) zs.length zs.length] (W.alloc<|.cells (zs.map<|Value.int .i64).toArray 3) fun e w'=>(∃r,e=.returned r)/\Below W.heap.size W w':=by
  have bM:=bO W (.cells (zs.map (Value.int .i64)).toArray 3);have HC:=Z (fun o=>slices_Contains_int W.heap.size 0 zs.length zs.length zs k ((W.alloc (.cells (zs.map (Value.int .i64)).toArray 3)).alloc o) lr O (fun j hj=>by
    refine eY ?_ o
    rw[Nat.zero_add]
    have hx:=avS (W.alloc<|.cells (zs.map<|Value.int .i64).toArray 3) W.heap.size j (zs.map<|Value.int .i64).toArray 3 (0,0)<|avv W _
    rw[hx]
    simp[getD_eq_getElem?_getD,hj]))
  have e1:(zs.take zs.length).contains k=true:=by rw[take_length];exact z
  rw[e1]at HC;have HB:Hid (∀o,Below W.heap.size W<|(W.alloc<|.cells (zs.map<|Value.int .i64).toArray 3).alloc o):=fun o=>bM.alloc M o;generalize hW:W.alloc (.cells (zs.map<|Value.int .i64).toArray 3)=W1 at*
  clear hW bM e1 z;go_enter func182,ntmps182
  go_wp2_with(go_at_call 191;refine(HC.o _).mono ?_;rintro e w' ⟨rfl,hw⟩;rw[hw];clear hw w')
  go_end0;exact⟨⟨_,rfl⟩,HB.o _⟩
def KX (b B:Nat)(T:Nd)(n:Nat)(v:Value)(W:World):Prop:=∃Ts us s e,Gw B Ts us s e n v W/\(∀i,i<n->Ts i=T.f i)/\v.ownBlock≠some b/\∀i,i<n->b<s i\/e i<=b
theorem KX.dC {n:Nat}(h:KX b B T n v W):Kds B T n v W:=by obtain⟨Ts,us,s,e,h1,h2,_,_⟩:=h;exact⟨Ts,us,s,e,h1,h2⟩
theorem KX.of {n:Nat}(h:Kds B T n v W)(I:b<B):KX b B T n v W:=by
 obtain⟨Ts,us,s,e,h1,h2⟩:=h
 exact⟨Ts,us,s,e,h1,h2,fun e=>by have:=(h1.own.lt _ e).1;omega,fun i hi=>.inl (by have:=(h1.a7 i hi).2.1;omega)⟩
theorem KX.ahead {n:Nat}(h:Kds B T n v W)(I:b=W.heap.size)(o:Obj):KX b B T n v (W.alloc o):=by
 obtain⟨Ts,us,s,e,h1,h2⟩:=h
 exact⟨Ts,us,s,e,h1.calm<|bA,h2,fun e=>by have:=(h1.own.lt _ e).2;omega,fun i hi=>.inr (by have:=(h1.a7 i hi).2.2.2;omega)⟩
theorem KX.kp {n:Nat}{W':World}(h:KX b B T n v W)(y:pb<B)(z:Kp pb W W'):KX b B T n v W':=by obtain⟨Ts,us,s,e,h1,h2,h3,h4⟩:=h;exact⟨Ts,us,s,e,h1.kp y z,h2,h3,h4⟩
theorem KX.put {n o:Nat}{x:Value}(h:KX b B T n v W):KX b B T n v (W.setCell ⟨b,o,none⟩ x):=by obtain⟨Ts,us,s,e,h1,h2,h3,h4⟩:=h;exact⟨Ts,us,s,e,h1.put h3 h4,h2,h3,h4⟩
theorem KX.app (h:KX b B T j v W)(hB:B<=W.heap.size)(hj:j<=100000)(hr:Row lo W.heap.size W (T.f j) (.slice a l c))(fT:B<=lo)(Tg:lo<=W.heap.size)(qL:b<lo)(bQ:∀k,v.ownBlock=some k->k<lo)(k n:Int)(s:ByteArray)(z:(T.f j).y=k)(hn:(T.f j).E=n)(hs:(T.f j).z=s):
  ∃a' c' W',(∀ty,(Builtin.append_ #[23,23] ty #[v,.slice (some ⟨W.heap.size,0,none⟩) 1 1]).run prog (W.alloc<|.cells #[.int .i64 k,.int .i64 n,.string s,.slice a l c] 25)=.ok (.slice a' (j+1) c') W')/\KX b B T (j+1) (.slice a' (j+1) c') W'/\W.grownBy W' v.ownBlock:=by
 subst z hn hs;obtain⟨Ts,us,ss,ee,hg,hT,I2,Cw⟩:=h
 obtain⟨i0,hi,hz,cg,th⟩:=av0 si;have bM:=bO W<|.cells #[.int .i64 (T.f j).y,.int .i64 (T.f j).E,.string (T.f j).z,.slice a l c] 25;have hgA:=hg.calm bM;have h2:=ah bM lr hr;obtain⟨v',W',ec,dd,aQ,fs,a',c',rfl⟩:=gQ (P:=prog) (W.alloc<|.cells #[.int .i64 (T.f j).y,.int .i64 (T.f j).E,.string (T.f j).z,.slice a l c] 25) B 23 23 25 i0 _ 4 56 underlying23 hi hz cg th rfl J v j _ hgA.own ⟨W.heap.size,0,none⟩ 1 1 [.int .i64 (T.f j).y,.int .i64 (T.f j).E,.string (T.f j).z,.slice a l c] aan (ia W _ _ _ _ _) (jn _ _ _ _ _ _) aaj O aah;refine⟨a',c',W',fun ty=>ec,⟨_,_,_,_,hgA.step h2 fT Tg M (fun g e=>.inl<|bQ g e) dd aQ fs,fun i ir=>?_,?_,fun i ir=>?_⟩,?_⟩
 ·by_cases e:i=j
  ·subst e;rw[dc]
  ·rw[dF _ _ e];exact hT i O
 ·intro e;rcases fs with h3|⟨k,h3,h4⟩
  ·exact I2<|h3▸e
  ·rw[h3]at e;obtain rfl:=avq e;simp at h4;omega
 ·by_cases e:i=j
  ·subst e;rw[dc,dc];exact .inl qL
  ·rw[dF _ _ e,dF _ _ e];exact Cw i O
 ·refine⟨aQ.os.trans bM.os,aQ.tape.trans bM.tape,aQ.output.trans bM.output,avK bM.size aQ.size,fun k z hn=>?_⟩;exact(aQ.block k aah hn).trans<|bM.block k z
structure NB (pb b B:Nat)(w W:World)(axf:List KT)(op:Nat)(k n:Int)(s:ByteArray)(T:Nd)(j:Nat)(a:Option Addr)(c:Nat):Prop where
 pw:PW pb w W
 ps:PS pb axf op W
 av:W.heap[b]?=some (eS k n s a j c)
 kx:KX b B T j (.slice a j c) W
 low:w.heap.size+1<=B/\w.heap.size+1<=b
 up:B<=W.heap.size
theorem NB.mv (h:NB pb b B w W axf op k n s T j a c)(hm:Mv pb axe oq W V):NB pb b B w V axe oq k n s T j a c:=
 ⟨h.pw.step hm.kp,hm.ps,bc h.av aaL hm.kp,h.kx.kp aaL hm.kp,h.low,avK h.up hm.kp.size⟩
theorem NB.calm (h:NB pb b B w W axf op k n s T j a c)(I:Below W.heap.size W V):NB pb b B w V axf op k n s T j a c:=h.mv<|Mv.of h.ps I
theorem NB.drew (h:NB pb b B w W axf op k n s T j a c):NB pb b B w W.drew axf op k n s T j a c:=h.calm (V:=W.drew) ⟨rfl,rfl,rfl,avF _,fun _ _=>rfl⟩
structure NBa (pb b B:Nat)(w W6 W':World)(axe:List KT)(op:Nat)(k n:Int)(s:ByteArray)(T:Nd)(j:Nat)(v:Value)(a':Option Addr)(c':Nat)(o:Obj):Prop where
 run:∀ty,(Builtin.append_ #[23,23] ty #[v,.slice (some ⟨W6.heap.size,0,none⟩) 1 1]).run prog (W6.alloc o)=.ok (.slice a' (j+1) c') W'
 c3:W6.cell? ⟨b,3,none⟩=some v/\(∀ob:Obj,(W6.alloc ob).cell? ⟨b,3,none⟩=some v)/\W'.cell? ⟨b,3,none⟩=some v/\W'.frozen? ⟨b,3,none⟩=false
 nb:NB pb b B w (W'.setCell ⟨b,3,none⟩<|.slice a' (j+1) c') axe op k n s T (j+1) a' c'
theorem NB.app (h:NB pb b B w W axf op k n s T j a c)(hj:j<=100000){a6:Option Addr}{c6:Nat}(hg:NG pb axe op W (T.f j) (.slice a6 (T.f j).q c6) W6){l':Nat}(z:(T.f j).y=k')(hn:(T.f j).E=n')(hs:(T.f j).z=s')(hl:(T.f j).q=l'):
  ∃a' c' W',NBa pb b B w W6 W' axe op k n s T j (.slice a j c) a' c' (.cells #[.int .i64 k',.int .i64 n',.string s',.slice a6 l' c6] 25):=by
 have ew:=h.low;have hpw:=h.pw.low;have hz:=hg.kp.size;have h6:=h.mv ⟨hg.ps,hg.kp⟩;have sP:=(avp.1 h.av).1;subst hl;obtain⟨a',c',W',ec,hkx,Bt⟩:=h6.kx.app h6.up hj hg.row h.up hz sP (fun k z=>(ie h.kx.dC k z).2) k' n' s' z hn hs;obtain⟨m0,m1,m2,m3,mf⟩:=al h6.av;have bY:(Value.slice a j c).ownBlock≠some b:=by obtain⟨_,_,_,_,_,_,hx,_⟩:=h6.kx;exact hx
 have hB':W'.heap[b]?=some (eS k n s a j c):=(Bt.block b (avp.1 h6.av).1 fun e=>bY e.symm).trans h6.av;obtain⟨p0,p1,p2,p3,pf⟩:=al hB';have dd:=fun k z=>(ie h6.kx.dC k z).1;refine⟨a',c',W',ec,⟨m3,eY m3,p3,pf 3⟩,⟨(PW.mk (h6.pw.kp.grown Bt fun k z=>by have:=dd k z;simp;omega) h.pw.low).put b 3 _ ew.2,(h6.ps.grown Bt fun k z=>by have:=dd k z;omega).put b 3 _ O,?_,hkx.put,ew,?_⟩⟩
 ·exact(avD _ _ 3 _ 25 _ hB').trans rfl
 ·have:=h6.up;have:=Bt.size;simp[World.setCell];omega
theorem NB.cells (h:NB pb b B w W axf op k n s T j a c):W.cell? ⟨b,0,none⟩=some (.int .i64 k)/\W.cell? ⟨b,1,none⟩=some (.int .i64 n)/\W.cell? ⟨b,2,none⟩=some (.string s)/\W.cell? ⟨b,3,none⟩=some (.slice a j c)/\(∀o,W.frozen? ⟨b,o,none⟩=false)/\W.cell? ⟨w.heap.size,0,none⟩=some (.int .i64 0)/\W.cell? ⟨w.heap.size,1,none⟩=some (.int .i64 0)/\W.cell? ⟨w.heap.size,2,none⟩=some (.string ⟨#[]⟩)/\W.cell? ⟨w.heap.size,3,none⟩=some (.slice none 0 0)/\∀o,W.frozen? ⟨w.heap.size,o,none⟩=false:=by obtain⟨n0,n1,n2,n3,nf⟩:=al h.av;exact⟨n0,n1,n2,n3,nf,aP h.pw.av⟩
theorem NB.fin (h:NB pb b B w W axf op k n s T j a c)(z:T.y=k)(hn:T.E=n)(hm:T.z=s)(hl:T.q=j)(ze:k≠29:=by decide):
  ∃a' c',Ending.returned (.agg #[.int .i64 k,.int .i64 n,.string s,.slice a j c])=.returned (T.val<|.slice a' T.q c')/\NG pb axf op w T (.slice a' T.q c') (dn W w.heap.size k n s<|.slice a j c):=by
 refine h.pw.done h.ps ?_ z hn hm hl<|.inl ze;have:=h.kx.dC;subst hl;exact this.row h.low.1
theorem BR (F G:Nat)(V4:∀args W,(callFunc F args).run prog W=.ok (.enter F args) W)(hcg:∀args W,(callFunc G args).run prog W=.ok (.enter G args) W)(last:List KT->Bool)(T:Nd)(m need:Nat)(f:Nat->List KT)(hm:m<=1000)(pb:Nat)(axf:List KT)(op:Nat)
  (mO:∀axe W,PS pb axe op W->Calls prog F #[.pointer<|some ⟨pb,0,none⟩] W fun e w'=>e=.returned (.bool<|last axe)/\Below W.heap.size W w')
  (h:∀i,i<m->∀axe W,PS pb (f i++(5,⟨#[]⟩)::axe) op W->Calls prog G #[.pointer<|some ⟨pb,0,none⟩] W fun e w'=>∃a c,e=.returned ((T.f i).val<|.slice a (T.f i).q c)/\NG pb ((5,⟨#[]⟩)::axe) op W (T.f i) (.slice a (T.f i).q c) w')
  (bY:∀i,i<m->∀axe,jR (f i++axe)=f i++axe/\last (f i++axe)=false) (h5:∀axe,last ((5,⟨#[]⟩)::axe)=false) (hL:jR axf=axf/\last axf=true) (w:World) (y:PS pb (dr (iO f) 0 m++axf) op w):
  Calls prog 40 #[.pointer<|some ⟨pb,0,none⟩,.func (.func F) #[.pointer<|some ⟨pb,0,none⟩] #[],.func (.func G) #[.pointer<|some ⟨pb,0,none⟩] #[]] w fun e w'=>∃v,e=.returned v/\Kds w.heap.size T m v w'/\Mv pb axf op w w':=by
 have Hu:=y.lt;have L2:∀j,j<=m->jR (dr (iO f) j (m-j)++axf)=dr (iO f) j (m-j)++axf:=fun j hj=>by
  by_cases e:j=m
  ·subst e;rw[awO];exact hL.1
  ·obtain⟨q,hq⟩:∃q,m-j=q+1:=⟨m-j-1,O⟩;rw[hq];simp only[dr,iO,avM];exact(bY j O _).1
 have HS:=Z<|xm pb _ op w y;have e0:=L2 0<|avL _;rw[Nat.sub_zero]at e0;rw[e0]at HS;have HD:=Z L2;have HLa:=Z mO;have HX:=Z h;have HNe:=Z bY;have H5:=Z h5;have Yp:=Z hL;have HSe:=Z fun axe W(h:PS pb axe op W)=>xm pb axe op W h;have N4:=Z fun axe W(h:PS pb axe op W)=>cR pb axe op W h;have f0:=sy;clear y L2 e0 mO h bY h5 hL;go_enter func40,ntmps40
 go_wp2_with fail
 refine HS.o.mono ?_;rintro e w1⟨⟨r0,rfl⟩,CD⟩;have zU:=Z CD;clear CD HS;go_wp2;go_loopg [7] m (fun gk v wr=>∃j,gk=m-j/\j<=m/\Kds w.heap.size T j v wr/\Mv pb (dr (iO f) j (m-j)++axf) op w wr)
 case atStart=>exact⟨0,O,avL _,Kds.nil _ _ _,by rw[Nat.sub_zero];exact zU.o⟩
 case round=>
  obtain⟨j,nE,hj,z,pK⟩:=hrel;obtain⟨va,vc,rfl⟩:=z.shape;have HK:=Z z;have HM:=Z pK;have sV:=Z nE;clear z pK nE zU;by_cases be:j<m
  ·obtain⟨q,hq⟩:∃q,m-j=q+1:=⟨m-j-1,O⟩;have HL:Hid (dr (iO f) j (m-j)++axf=f j++(5,⟨#[]⟩)::(dr (iO f) (j+1) (m-(j+1))++axf)):=by
    unfold Hid;rw[hq,show m-(j+1)=q by omega];simp only[dr,iO,avM,cons_append,nil_append]
   have Y9:Hid (PS pb (f j++(5,⟨#[]⟩)::(dr (iO f) (j+1) (m-(j+1))++axf)) op wr):=by have:=HM.o.ps;rw[HL.o]at this;exact this
   have HA:=Z<|HLa.o _ wr Y9.o;rw[(HNe.o j be _).2]at HA;go_wp2_with fail
   refine HA.o.mono ?_;rintro e w3⟨rfl,I⟩;have HC:=Z<|HX.o j be _ w3<|Y9.o.calm I;have Je:=Z<|HK.o.calm I;have N9:=Z<|HM.o.calm I;clear I HA HK Y9 HM;go_wp2_with fail
   refine HC.o.mono ?_;rintro e w4⟨a,c,rfl,hg⟩;have Jd:=Z<|Je.o.kp Hu hg.kp;have RV:Hid (Mv pb _ op w w4):=N9.o.trans ⟨hg.ps,hg.kp⟩;have td:=N9.o.kp.size;have EV:=hg.kp.size;obtain⟨v',W',ec,ig,Bt⟩:=vz Jd.o O O hg.row O EV (fun k z=>(ie Je.o k z).2) _ _ _ rfl rfl rfl;obtain⟨Sw,Su,rfl⟩:=ig.shape;have HK5:=Z ig;have HM5:Hid (Mv pb _ op w W'):=⟨RV.o.ps.grown Bt (fun k z=>by have:=(ie Jd.o k z).1;omega),RV.o.kp.grown Bt fun k z=>(ie Jd.o k z).1⟩;have mL:=Z ec;clear hg ig Bt HC Je Jd N9 RV ec;have HA5:=Z<|HLa.o _ W' HM5.o.ps;rw[H5.o]at HA5;unfold Nd.val;go_wp2_with(first|(at_builtin;refine eo _ rfl _ _ 23 rfl _ _ _ _ rfl rfl mL.o ?_;clear mL)|fail)
   refine HA5.o.mono ?_;rintro e w6⟨rfl,I⟩;have HM6:=Z<|HM5.o.calm I;have HK6:=Z<|HK5.o.calm I;have HT6:=Z<|N4.o _ w6 HM6.o.ps;simp only[qe,eG]at HT6;clear I HA5 HM5 HK5;go_wp2_with fail
   refine HT6.o.mono ?_;rintro e w7⟨⟨at',rfl⟩,I⟩;have HM7:=Z<|HM6.o.calm I;have HK7:=Z<|HK6.o.calm I;have yv:=Z<|HSe.o _ w7 HM7.o.ps;have e5:jR ((5,⟨#[]⟩)::(dr (iO f) (j+1) (m-(j+1))++axf))=dr (iO f) (j+1) (m-(j+1))++axf:=(HD.o (j+1) O:_);rw[e5]at yv;clear I HT6 HM6 HK6 e5;go_wp2_with fail
   refine yv.o.mono ?_;rintro e w8⟨⟨r,rfl⟩,Qa⟩;have HM8:=Z<|HM7.o.trans Qa;have HK8:=Z<|HK7.o.kp Hu Qa.kp;clear Qa yv HM7 HK7;go_wp2;go_roundg (m-(j+1))
   case rel=>exact⟨j+1,rfl,O,HK8.o,HM8.o⟩
   case measure=>have:=sV.o;omega
  ·obtain rfl:j=m:=O;have HL:Hid (dr (iO f) j (j-j)++axf=axf):=by unfold Hid;rw[awO];rfl
   have Y9:Hid (Mv pb axf op w wr):=by have:=HM.o;rw[HL.o]at this;exact this
   have HA:=Z<|HLa.o _ wr Y9.o.ps;rw[Yp.o.2]at HA;go_wp2_with fail
   refine HA.o.mono ?_;rintro e w3⟨rfl,I⟩;go_wp2;go_ret;exact⟨_,rfl,HK.o.calm I,Y9.o.calm I⟩
def r8 (axf:List KT):Bool:=axf.isEmpty||(decide (eG axf=⟨#[125]⟩)||(decide (eG axf=⟨#[99,97,115,101]⟩)||decide (eG axf=⟨#[100,101,102,97,117,108,116]⟩)))
theorem A5 (pb:Nat)(axf:List KT)(op:Nat)(w:World)(h:PS pb axf op w):
  Calls prog 137 #[.pointer<|some ⟨pb,0,none⟩] w fun e w'=>e=.returned (.bool<|r8 axf)/\Below w.heap.size w w':=by
 have H:=Z h;have HE:=Z fun W(hW:PS pb axf op W)=>yr pb axf op W hW;have HS:=Z fun t W(hW:PS pb axf op W)=>dG pb axf op t W hW;unfold r8;generalize NQ:axf.isEmpty=x0 at*
 have H1:=Z<|HS.o ⟨#[125]⟩;have H2:=Z<|HS.o ⟨#[99,97,115,101]⟩;have H3:=Z<|HS.o ⟨#[100,101,102,97,117,108,116]⟩;generalize decide (eG axf=⟨#[125]⟩)=x1 at*
 generalize decide (eG axf=⟨#[99,97,115,101]⟩)=x2 at*
 generalize decide (eG axf=⟨#[100,101,102,97,117,108,116]⟩)=x3 at*
 clear h HS NQ;go_enter func137,ntmps137
 go_wp2_with fail
 refine(HE.o w H.o).mono ?_;rintro e w1⟨rfl,hb1⟩;have ni:=Z hb1;have P1:=Z<|H.o.calm hb1;clear hb1;cases x0
 ·skip;go_wp2_with fail
  refine(H1.o w1 P1.o).mono ?_;rintro e w2⟨rfl,I⟩;have gi:=Z<|ni.o.trans<|I.mono ni.o.size;have P2:=Z<|P1.o.calm I;clear I;cases x1
  ·skip;go_wp2_with fail
   refine(H2.o w2 P2.o).mono ?_;rintro e w3⟨rfl,I⟩;have lC:=Z<|gi.o.trans<|I.mono gi.o.size;have P3:=Z<|P2.o.calm I;clear I;cases x2
   ·skip;go_wp2_with fail
    refine(H3.o w3 P3.o).mono ?_;rintro e w4⟨rfl,I⟩;have mh:=Z<|lC.o.trans<|I.mono lC.o.size;clear I;go_wp2;go_ret;exact⟨rfl,mh.o⟩
   ·go_wp2;go_ret;exact⟨rfl,lC.o⟩
  ·go_wp2;go_ret;exact⟨rfl,gi.o⟩
 ·go_wp2;go_ret;exact⟨rfl,ni.o⟩
def Cs (axf:List KT):Prop:=∃axe,axf=(5,⟨#[]⟩)::axe
theorem Cs.stop (h:Cs axf):eX 1 axf/\eG axf≠⟨#[60,45]⟩/\eG axf≠⟨#[101,108,115,101]⟩/\qe axf=5:=by obtain⟨axe,rfl⟩:=h;exact⟨⟨by show bV ⟨#[]⟩<1;decide,by show(⟨#[]⟩:ByteArray)≠⟨#[40]⟩;decide⟩,by show(⟨#[]⟩:ByteArray)≠_;decide,by show(⟨#[]⟩:ByteArray)≠_;decide,rfl⟩
def Zo (a:KT):Prop:=a.1≠5/\a.2≠⟨#[125]⟩/\a.2≠⟨#[99,97,115,101]⟩/\a.2≠⟨#[100,101,102,97,117,108,116]⟩
theorem nU (h:aK s=true):Zo (1,s):=by refine⟨by show(1:Int)≠5;decide,?_,?_,?_⟩<;>rintro rfl<;>exact absurd h J
theorem MS (h:T.Q=true)(l:Nat):∃a t,(aF T).ex l=a::t/\Zo a:=by
 induction T generalizing l with
 |nil=>cases h
 |mk k n s len kids ih=>
  rcases iH h with z|z|z|z|z|z|z|z
  ·obtain⟨a,t,h1,_,_,h3,h4,h5⟩:=rH h l;obtain rfl:k=22:=z;obtain⟨c,axd,hc,hd,_,_⟩:=jD (sD rfl h).2.1 (sD rfl h).2.2.1;have I:∀(x:UInt8)(r:List UInt8),ct x.toNat=false->bs (bS 20 n.toNat)≠bs (x::r):=fun x r hx e=>by
    have:bS 20 n.toNat=x::r:=by have:=congrArg (fun b:ByteArray=>b.data.toList) e;simpa[bs]using this
    rw[show bS 20 n.toNat=c::axd from hc]at this;injection this with e1 _;rw[e1,hx]at hd;cases hd
   exact⟨(2,bs<|bS 20 n.toNat),[],rfl,by show(2:Int)≠5;decide,I 125 [] J,I 99 [97,115,101] J,I 100 [101,102,97,117,108,116] J⟩
  ·obtain⟨_,hn,_⟩:=sC z h;obtain rfl:k=23:=z;rcases hn with hn|hn
   ·obtain rfl:n=0:=hn;exact TN
   ·obtain rfl:n=1:=hn;exact TN
  ·obtain⟨_,hn,_⟩:=ve z h;obtain rfl:k=24:=z;exact⟨_,_,rfl,nU hn⟩
  ·obtain⟨_,hn⟩:=vd z h;obtain rfl:k=25:=z;exact⟨_,_,rfl,nU hn⟩
  ·obtain rfl:k=26:=z;exact TN
  ·obtain⟨_,hs⟩:=yi z h;obtain rfl:k=27:=z;rcases hs with hs|hs
   ·obtain rfl:s=⟨#[45]⟩:=hs;exact TN
   ·obtain rfl:s=⟨#[33]⟩:=hs;exact TN
  ·obtain⟨_,_,jv,_⟩:=ly z h;obtain rfl:k=28:=z;show∃a t,fr (decide<|bV s<l) ((aF<|kids 0).ex (bV s)++(4,s)::(aF<|kids 1).ex (bV s+1))=a::t/\_;by_cases y:bV s<l
   ·rw[avR y];exact TN
   ·rw[avP y];obtain⟨a,t,ht,hr⟩:=ih 0 jv<|bV s;exact⟨a,t++(4,s)::(aF<|kids 1).ex (bV s+1),by show(aF<|kids 0).ex (bV s)++_=_;rw[ht];rfl,hr⟩
  ·obtain rfl:k=29:=z;exact TN
theorem WN (h:T.U=true):∃a t,(aF T).st=a::t/\Zo a:=by
 have jl:T.y≠0:=by rcases iA h with e|e|e|e|e|e|e|e|e|e|e|e|e|e|e|e|e<;>omega
 rw[cK jl];have app:∀{x axd:List KT},(∃a t,x=a::t/\Zo a)->∃a t,x++axd=a::t/\Zo a:=by
  rintro x axd⟨a,t,rfl,I⟩;exact⟨a,t++axd,rfl,I⟩
 rcases iA h with z|z|z|z|z|z|z|z|z|z|z|z|z|z|z|z|z<;>rw[z]
 ·exact TN
 ·exact⟨_,_,rfl,nU (GP (.inl z) h).1⟩
 ·exact⟨_,_,rfl,nU (GP (.inr z) h).1⟩
 ·exact⟨_,_,rfl,nU (UR z h).1⟩
 ·exact app<|MS (GN z h).2.1 1
 ·exact MS (dq (.inr<|.inr<|.inl z) h).2 1
 all_goals exact⟨_,_,rfl,J,J,J,J⟩
theorem MR {a:KT}(h:Zo a):jR (a::axf)=a::axf/\r8 (a::axf)=false:=by refine⟨by simp[jR,h.1],?_⟩;simp[r8,eG,h.2.1,h.2.2.1,h.2.2.2]
theorem Wx (args:Array Value)(W:World):(callFunc 137 args).run prog W=.ok (.enter 137 args) W:=by kernel_rfl
theorem cf_st (args:Array Value)(W:World):(callFunc 138 args).run prog W=.ok (.enter 138 args) W:=by kernel_rfl
theorem Et (hlen:T.q<=1000)(hs:∀i,i<T.q->(T.f i).U=true)(h:∀i,i<T.q->RD0 138 (aF<|T.f i).st (T.f i) need Cs)(pb:Nat)(axf:List KT)(op:Nat)(w:World)(ho:op+need<=60)(hL:jR axf=axf/\r8 axf=true)(y:PS pb ((aF T).ad++axf) op w):
    Calls prog 116 #[.pointer<|some ⟨pb,0,none⟩] w fun e w'=>∃v,e=.returned v/\Kds w.heap.size T T.q v w'/\Mv pb axf op w w':=by
  rw[qn]at y;have HE:=Z (BR 137 138 Wx cf_st r8 T T.q need (fun i=>(aF (T.f i)).st) hlen pb axf op (fun axe W hW=>A5 pb axe op W hW) (fun i hi axe W hW=>h i hi pb _ op W ho ⟨axe,rfl⟩ hW)
    (fun i hi axe=>by obtain⟨a,t,h1,h2⟩:=WN (hs i hi);rw[h1];exact MR h2) (fun axe=>rfl) hL w y)
  clear h hs y hL;go_enter func116,ntmps116
  go_wp2_with fail
  refine HE.o.mono ?_;rintro e w1⟨v,rfl,z,hm⟩;obtain⟨va,vc,rfl⟩:=z.shape;go_wp2;go_ret;exact⟨_,rfl,z,hm⟩
theorem Oh (z:T.y=4)(ax:T.U=true)(hlen:T.q<=1000)(h:∀i,i<T.q->RD0 138 (aF<|T.f i).st (T.f i) need Cs):RD0 80 (aF T).st T (need+1) (fun _=>True):=by
 intro pb axf op w ho _ y;obtain⟨cm,bm⟩:=pA O ax;have e1:(aF T).st++axf=(4,⟨#[123]⟩)::((aF T).ad++(4,⟨#[125]⟩)::axf):=by rw[cK O,qn,z];simp[fW]
 rw[e1]at y;have HE:=Z<|fJ pb _ _ op ⟨#[123]⟩ (w.alloc aN) rfl O<|y.alloc _;have HP:=Z<|PW.start y.lt;have HX:=Z fun W hW=>Et hlen (tT z ax) h pb ((4,⟨#[125]⟩)::axf) (op+1) W O ⟨rfl,rfl⟩ hW;have HF:Hid (T.y=4/\T.E=0/\T.z=⟨#[]⟩):=⟨z,bm,cm⟩;have ew:=y.lt;unfold aN at HE;clear h y ho e1 z cm bm ax;go_enter func80,ntmps80
 go_wp2_with fail
 refine HE.o.mono ?_;rintro e w1⟨⟨r,rfl⟩,hm⟩;have gG:=Z<|HP.o.step hm.kp;have Ai:=Z<|HX.o w1 hm.ps;clear hm HE HP HX;go_wp2_with fail
 refine Ai.o.mono ?_;rintro e w2⟨v,rfl,j5,hm⟩;obtain⟨va,vc,rfl⟩:=j5.shape;have eu:=gG.o.size;have bM:=bO w2<|.cells #[.int .i64 4,.int .i64 0,.string ⟨#[]⟩,.slice va T.q vc] 25;have fe:=Z<|(gG.o.step hm.kp).calm bM;have Ue:=Z<|j5.calm bM;have gi:=Z<|avv w2<|.cells #[.int .i64 4,.int .i64 0,.string ⟨#[]⟩,.slice va T.q vc] 25;have HL:=Z<|ke pb _ axf op ⟨#[125]⟩ _ rfl<|hm.ps.calm bM;have ed:=hm.kp.size;clear j5 hm bM Ai gG;go_wp2_with fail
 refine HL.o.mono ?_;rintro e w3⟨⟨r',rfl⟩,hm⟩;have iu:=Z<|fe.o.step hm.kp;have lC:Hid (w3.heap[w2.heap.size]?=some (eS 4 0 ⟨#[]⟩ va T.q vc)):=bc gi.o O hm.kp;obtain⟨n0,n1,n2,n3,nf⟩:=al lC.o;obtain⟨z0,z1,z2,z3,zf⟩:=aP iu.o.av;have fa:=Z hm.ps;have sJ:=Z<|(Ue.o.kp O hm.kp).row (lo:=w.heap.size+1) O;clear hm HL fe Ue gi;go_wp2;exact avr (iu.o.read results80 rfl 4 0 ⟨#[]⟩<|.slice va T.q vc) rfl<|iu.o.done fa.o sJ.o HF.o.1 HF.o.2.1 HF.o.2.2 rfl
theorem yq (ze:k≠29)(z:T.y=k)(hn:T.E=0)(hm:T.z=⟨#[]⟩)(hl:T.q=1)(sN:(T.f 0).y=25)(a:KT)(h:RD0 180 ((aF<|T.f 0).ex 1) (T.f 0) need (eX 1)):RD1 166 (.int .i64 k) (a::(aF<|T.f 0).ex 1) T need (eX 1):=by have auD:=kk;exact aht
theorem WQ (z:T.y=9)(hn:T.E=0)(hm:T.z=⟨#[]⟩)(hl:T.q=1)(sN:(T.f 0).y=25\/(T.f 0).y=29)(h:RD0 180 ((aF<|T.f 0).ex 1) (T.f 0) need (eX 1)):RD0 169 ((aF<|T.f 0).ex 1) T need (fun axf=>eX 1 axf/\eG axf≠⟨#[60,45]⟩):=by
 intro pb axf op w ho hC y;have HT:=Z<|cR pb _ op _<|y.alloc aN;have HP:=Z<|PW.start y.lt;have HS:=Z<|y.alloc aN;have HX:=Z fun W hW=>h pb axf op W ho hC.1 hW;have HTn:=Z fun W(hW:PS pb axf op W)=>gS pb axf op ⟨#[60,45]⟩ W hC.2 hW;have HF:Hid (T.y=9/\T.E=0/\T.z=⟨#[]⟩/\T.q=1):=⟨z,hn,hm,hl⟩;have Yr:=Z sN;have f2:=xY;have ew:=y.lt;unfold aN at HP HT HS;clear y z hn hm hl ho h hC sN;go_enter func169,ntmps169
 go_wp2_with fail
 refine HT.o.mono ?_;rintro e w1⟨⟨at',rfl⟩,I⟩;have fe:=Z<|HP.o.calm I;have ra:=Z<|HX.o w1<|HS.o.calm I;clear I HT HS HX HP;go_wp2_with fail
 refine ra.o.mono ?_;rintro e w3⟨a',c,rfl,hg⟩;obtain⟨w2,Hn⟩:∃w2:World,w2=w1:=⟨w1,rfl⟩;subst Hn;have ed:=fe.o.size;have td:=hg.kp.size;have bM:=bO w3<|nO (T.f 0)<|.slice a' (T.f 0).q c;have HPa:=Z<|(fe.o.step hg.kp).calm bM;have HSa:=Z<|hg.ps.calm bM;have HBa:Hid ((w3.alloc<|nO (T.f 0)<|.slice a' (T.f 0).q c).heap[w3.heap.size]?=some (eS (T.f 0).y (T.f 0).E (T.f 0).z a' (T.f 0).q c)):=avv w3 _;have HRa:=Z<|ah bM lr hg.row;have HTa:=Z<|HTn.o _ HSa.o;clear hg bM ra fe HTn;unfold Nd.val;go_wp2_with fail
 refine HTa.o.mono ?_;rintro e w4⟨rfl,I⟩;have iu:=Z<|HPa.o.calm I;have fa:=Z<|HSa.o.calm I;have lC:=Z<|aW HBa.o I;have Lw:w3.heap.size+1<=w4.heap.size:=by have:=I.size;simpa using this
 have sJ:Hid (Row w2.heap.size w4.heap.size w4 (T.f 0)<|.slice a' (T.f 0).q c):=aY (ah I M HRa.o) lr O;obtain⟨n0,n1,n2,n3,nf⟩:=al lC.o;have rR:=Z<|zA pb (T.f 0).y (T.f 0).E (T.f 0).z a' (T.f 0).q c at' [25,29] M (by rcases Yr.o with e|e<;>rw[e]<;>decide) w4 fa.o.lt;have avg:=kk;exact Ra
theorem Kq (z:T.y=12)(hn:T.E=0)(hm:T.z=⟨#[]⟩)(hl:T.q=0)(a:KT):RD0 164 [a] T 0 Cs:=by intro pb axf op w ho hC y;have mC:PS pb (a::axf) op w:=y;have avc:=kk;exact It
theorem Ko (z:T.y=12)(hn:T.E=0)(hm:T.z=⟨#[]⟩)(hl:T.q=1)(ax:(T.f 0).Q=true)(a:KT)(h:RD0 180 ((aF<|T.f 0).ex 1) (T.f 0) need (eX 1)):RD0 164 (a::(aF<|T.f 0).ex 1) T need (eX 1):=by have auE:=kk;exact aht
theorem NB.start (k n:Int)(s:ByteArray)(T:Nd)(h:PW pb w W)(hs:PS pb axf op W):NB pb W.heap.size (W.heap.size+1) w (W.alloc<|.cells #[.int .i64 k,.int .i64 n,.string s,.slice none 0 0] 25) axf op k n s T 0 none 0:=by have hz:=h.size;have bM:=bO W<|.cells #[.int .i64 k,.int .i64 n,.string s,.slice none 0 0] 25;exact⟨h.calm bM,hs.calm bM,avv W _,KX.of (Kds.nil _ _ _)<|awm _,⟨O,hz⟩,M⟩
theorem Vp (z:T.y=11)(hn:T.E=0)(hm:T.z=⟨#[]⟩)(hl:T.q=1)(a:KT)(eA:(T.f 0).y=4)(h:RD0 80 (aF<|T.f 0).st (T.f 0) need (fun _=>True)):RD0 163 (a::(aF<|T.f 0).st) T need (fun _=>True):=by intro pb axf op w ho hC y;have mC:PS pb (a::((aF<|T.f 0).st++axf)) op w:=y;have ave:=kk;exact It
structure NF (pb b:Nat)(w W:World)(axf:List KT)(op:Nat)(k n:Int)(s:ByteArray)(H:Nd)(a:Option Addr):Prop where
 pw:PW pb w W
 ps:PS pb axf op W
 av:W.heap[b]?=some (eS k n s a H.q H.q)
 rx:RX b w W H (.slice a H.q H.q)
 low:w.heap.size+1<=b
theorem NF.mv (h:NF pb b w W axf op k n s H a)(hm:Mv pb axe oq W V):NF pb b w V axe oq k n s H a:=
 ⟨h.pw.step hm.kp,hm.ps,bc h.av aaL hm.kp,h.rx.kp h.pw.low hm.kp,h.low⟩
theorem NF.drew (h:NF pb b w W axf op k n s H a):NF pb b w W.drew axf op k n s H a:=h.mv (V:=W.drew)<|Mv.of h.ps ⟨rfl,rfl,rfl,avF _,fun _ _=>rfl⟩
theorem NF.cells (h:NF pb b w W axf op k n s H a):W.cell? ⟨b,0,none⟩=some (.int .i64 k)/\W.cell? ⟨b,1,none⟩=some (.int .i64 n)/\W.cell? ⟨b,2,none⟩=some (.string s)/\W.cell? ⟨b,3,none⟩=some (.slice a H.q H.q)/\(∀o,W.frozen? ⟨b,o,none⟩=false):=al h.av
structure NFa (pb b:Nat)(w W6 W':World)(axe:List KT)(op:Nat)(k n:Int)(s:ByteArray)(T:Nd)(m:Nat)(v:Value)(a':Option Addr)(c':Nat)(o:Obj):Prop where
 run:∀ty,(Builtin.append_ #[23,23] ty #[v,.slice (some ⟨W6.heap.size,0,none⟩) 1 1]).run prog (W6.alloc o)=.ok (.slice a' (m+1) c') W'
 c3:W6.cell? ⟨b,3,none⟩=some v/\(∀ob:Obj,(W6.alloc ob).cell? ⟨b,3,none⟩=some v)/\W'.cell? ⟨b,3,none⟩=some v/\W'.frozen? ⟨b,3,none⟩=false
 pw:PW pb w (W'.setCell ⟨b,3,none⟩<|.slice a' (m+1) c')
 ps:PS pb axe op (W'.setCell ⟨b,3,none⟩<|.slice a' (m+1) c')
 av:(W'.setCell ⟨b,3,none⟩<|.slice a' (m+1) c').heap[b]?=some (eS k n s a' (m+1) c')
 row:Row (w.heap.size+1) (W'.setCell ⟨b,3,none⟩<|.slice a' (m+1) c').heap.size (W'.setCell ⟨b,3,none⟩<|.slice a' (m+1) c') T (.slice a' (m+1) c')
theorem NF.app (h:NF pb b w W axf op k n s H a)(hH:1<=H.q/\H.q<=2)(hT:T.q=H.q+1)(aZ:∀i,i<H.q->H.f i=T.f i){va:Option Addr}{vl vc:Nat}(hr:Row W.heap.size W6.heap.size W6 (T.f H.q) (.slice va vl vc))(hm:Mv pb axe op W W6)(z:(T.f H.q).y=k')(hn:(T.f H.q).E=n')(hs:(T.f H.q).z=s'):
    ∃a' c' W',NFa pb b w W6 W' axe op k n s T H.q (.slice a H.q H.q) a' c' (.cells #[.int .i64 k',.int .i64 n',.string s',.slice va vl vc] 25):=by
  subst z hn hs;have h6:=h.mv hm;have ew:=h.low;have Hs:=h.pw.low;have hz:=h6.pw.size;have hzW:=hm.kp.size;have sP:=(avp.1 h.av).1;obtain⟨i0,hi,hzz,cg,th⟩:=av0 si;generalize ho:(Obj.cells #[.int .i64 (T.f H.q).y,.int .i64 (T.f H.q).E,.string (T.f H.q).z,.slice va vl vc] 25)=o;have bM:=bO W6 o;obtain⟨a0,cap,he,_,hq⟩:=ar.1 h6.rx.row;obtain⟨rfl,rfl⟩:a=a0/\H.q=cap:=by injection he with e1 e2 e3;exact⟨e1,e3⟩
  rcases hq with h0|⟨g,off,rfl,hg1,qZ,cy⟩
  · omega
  have hinh:Inhabited Value:=⟨undef⟩;obtain⟨us,Dv⟩:=Go.Deep.choose_lt (p:=fun i(u:Value)=>W6.cell? ⟨g,off+i*4,none⟩=some (.int .i64 (H.f i).y)/\W6.cell? ⟨g,off+i*4+1,none⟩=some (.int .i64 (H.f i).E)/\W6.cell? ⟨g,off+i*4+2,none⟩=some (.string (H.f i).z)/\W6.cell? ⟨g,off+i*4+3,none⟩=some u/\Row (w.heap.size+1) W6.heap.size W6 (H.f i) u) (n:=H.q) fun i hi=>cy i hi;have Bu:∀j v,(cN H.f us H.q)[j]?=some v->(W6.alloc o).cell? ((⟨g,off,none⟩:Addr).add j)=some v:=by
    intro j v hj;have LY:j<H.q*4:=by rw[<-gy H.f us H.q];exact(awu.1 hj).1
    obtain⟨f0,f1,f2,f3⟩:=kL H.f us (show j/ 4<H.q by omega);obtain⟨d0,d1,d2,d3,_⟩:=Dv (j/ 4) O;rw[Addr.add_lit,bM.cell (p:=⟨g,off+j,none⟩) qZ];rcases(O:j=j/ 4*4\/j=j/ 4*4+1\/j=j/ 4*4+2\/j=j/ 4*4+3)with e|e|e|e
    · rw[<-e,hj]at f0;obtain rfl:=avq f0;rw[<-e]at d0;exact d0
    · rw[<-e,hj]at f1;obtain rfl:=avq f1;rw[av9,<-e]at d1;exact d1
    · rw[<-e,hj]at f2;obtain rfl:=avq f2;rw[av9,<-e]at d2;exact d2
    · rw[<-e,hj]at f3;obtain rfl:=avq f3;rw[av9,<-e]at d3;exact d3
  have gI:=ia W6 (.int .i64 (T.f H.q).y) (.int .i64 (T.f H.q).E) (.string (T.f H.q).z) (.slice va vl vc) 25;rw[ho]at gI;have ec:=fun ty=>run_append_grow (P:=prog) (w:=W6.alloc o) 23 ty 25 i0 _ underlying23 hi hzz ⟨g,off,none⟩ H.q H.q (cN H.f us H.q) (by rw[cg];exact gy _ _ _) Bu ⟨W6.heap.size,0,none⟩ 1 1 [.int .i64 (T.f H.q).y,.int .i64 (T.f H.q).E,.string (T.f H.q).z,.slice va vl vc] (by rw[cg];rfl) gI O O (growslice_fits O (by rw[th];omega));have hcap1:=grownCap_ge (W6.alloc o) (H.q+1) H.q 25;have Tq:=grownCap_le_maxLen (W6.alloc o) (H.q+1) H.q 25 aaj;generalize grownCap (W6.alloc o) (H.q+1) H.q 25=c' at*
  have PX:(W6.alloc o).heap.size=W6.heap.size+1:=M;rw[PX]at ec;generalize ho2:(Obj.cells ((cN H.f us H.q).toArray++[Value.int .i64 (T.f H.q).y,.int .i64 (T.f H.q).E,.string (T.f H.q).z,.slice va vl vc].toArray++Builtin.zeroCells (Value.agg #[.int .i64 0,.int .i64 0,.string ⟨#[]⟩,.slice none 0 0]).cells (c'-(H.q+1))) 25)=o2 at*
  have Ae:Below W6.heap.size W6 ((W6.alloc o).drew.alloc o2):=(bM.drew).alloc (by show _<=(W6.alloc o).heap.size;omega) o2;have YY:((W6.alloc o).drew.alloc o2).heap[b]?=some (eS k n s (some ⟨g,off,none⟩) H.q H.q):=aW h6.av Ae;have DH:((W6.alloc o).drew.alloc o2).heap[W6.heap.size+1]?=some o2:=by
    have:=avv (W6.alloc o).drew o2;rw[show(W6.alloc o).drew.heap.size=W6.heap.size+1 from PX]at this;exact this
  have hz8:((W6.alloc o).drew.alloc o2).heap.size=W6.heap.size+2:=by rw[avs];show(W6.alloc o).heap.size+1=_;omega
  obtain⟨m0,m1,m2,m3,mf⟩:=al h6.av;obtain⟨p0,p1,p2,p3,pf⟩:=al YY;generalize hW':(W6.alloc o).drew.alloc o2=W' at*
  refine⟨some ⟨W6.heap.size+1,0,none⟩,c',W',ec,⟨m3,eY m3,p3,pf 3⟩,(h6.pw.calm Ae).put b 3 _ ew,(h6.ps.calm Ae).put b 3 _ O,(avD _ _ 3 _ 25 _ YY).trans rfl,?_⟩;have SV:∀i,i<H.q+1->RX b w W' (T.f i) (if i<H.q then us i else .slice va vl vc):=fun i hi=>by
    by_cases be:i<H.q
    · rw[avA be];refine RX.calm (W:=W6) (fun V hV=>?_) Ae;obtain⟨a1,B9,mZ,_,hq1⟩:=ar.1<|h6.rx V hV;rcases hq1 with h0|⟨g1,off1,e1,_,_,eO⟩
      · omega
      injection mZ with e2 _ _;rw[e1]at e2;injection e2 with e3;injection e3 with e4 e5 _;subst e4 e5;obtain⟨u,_,_,_,d3,pH⟩:=eO i be;have hgb:g≠b:=fun e=>by
        obtain⟨a2,zG,he2,_,jP⟩:=ar.1<|h6.rx (W6.setCell ⟨b,off+i*4,none⟩ undef) fun g' o' _ _ bY=>avt (a:=⟨g',o',none⟩)<|avz _ _ _ _ bY;rcases jP with h0|⟨g2,vW,e6,_,_,jQ⟩
        · omega
        injection he2 with e7 _ _;rw[e6]at e7;injection e7 with e8;injection e8 with e9 e10 _;subst e9 e10;obtain⟨_,c0,_⟩:=jQ i be;obtain⟨d0,_⟩:=Dv i be;rw[<-e,dQ _ _ _ _ d0,avA ⟨rfl,rfl⟩]at c0;exact absurd (avq c0) (by unfold undef;simp)
      obtain⟨_,_,_,e11,_⟩:=Dv i be;rw[hV g _ hg1 qZ hgb,e11]at d3;obtain rfl:=avq d3;rw[<-aZ i be];exact pH
    · obtain rfl:i=H.q:=O;rw[avo be];exact(RX.cd (b:=b) (w:=w) hr (by have:=h.pw.size;omega) O).calm Ae
  have Th:=RX.list (b:=b) (w:=w) (W:=W') (T:=T) (us:=fun i=>if i<H.q then us i else .slice va vl vc) (c:=c') (g:=W6.heap.size+1) O O (by rw[<-ho2]at DH;exact DH) (by rw[hT];unfold maxLen at Tq;omega) (fun i hi=>by
    rw[hT]at hi
    have VY:=gy H.f us H.q
    by_cases be:i<H.q
    · obtain⟨f0,f1,f2,f3⟩:=kL H.f us be
      have zh:∀j,j<H.q*4->((cN H.f us H.q).toArray++[Value.int .i64 (T.f H.q).y,.int .i64 (T.f H.q).E,.string (T.f H.q).z,.slice va vl vc].toArray++Builtin.zeroCells (Value.agg #[.int .i64 0,.int .i64 0,.string ⟨#[]⟩,.slice none 0 0]).cells (c'-(H.q+1)))[j]?=(cN H.f us H.q)[j]?:=fun j hj=>by
        rw[Array.append_assoc,awX (by simp[VY];omega)];simp
      rw[zh _ O,zh _ O,zh _ O,zh _ O,<-aZ i be]
      refine⟨f0,f1,f2,?_,?_⟩
      · rw[avA be];exact f3
      · rw[aZ i be];exact SV i hi
    · obtain rfl:i=H.q:=O
      have zh:∀j,j<4->((cN H.f us H.q).toArray++[Value.int .i64 (T.f H.q).y,.int .i64 (T.f H.q).E,.string (T.f H.q).z,.slice va vl vc].toArray++Builtin.zeroCells (Value.agg #[.int .i64 0,.int .i64 0,.string ⟨#[]⟩,.slice none 0 0]).cells (c'-(H.q+1)))[H.q*4+j]?=([Value.int .i64 (T.f H.q).y,.int .i64 (T.f H.q).E,.string (T.f H.q).z,.slice va vl vc]:List Value)[j]?:=fun j hj=>by
        rw[Array.append_assoc,Array.getElem?_append_right (by simp[VY]),awX (by simp[VY];omega)]
        simp[VY]
      have e0:=zh 0 O
      rw[Nat.add_zero]at e0
      exact⟨e0,zh 1 O,zh 2 O,by rw[zh 3 O,avo be];rfl,SV _ hi⟩)
  rw[hT]at Th;have:=(Th.put 3<|.slice (some ⟨W6.heap.size+1,0,none⟩) (H.q+1) c').row;exact this
def rL (s:ByteArray):Prop:=s=⟨#[58,61]⟩\/s=⟨#[61]⟩\/s=⟨#[43,43]⟩\/s=⟨#[45,45]⟩
theorem Fy (h:0<bV s):¬rL s:=by rintro(rfl|rfl|rfl|rfl)<;>exact absurd h J
theorem zy (T:Nd):T.Q=true->∀(l:Nat)(axe:List KT),¬rL (eG axe)->∃a t,(aF T).ex l++axe=a::t/\¬rL a.2/\¬rL (eG t):=by
 induction T with
 |nil=>intro h;cases h
 |mk k n s len kids ih=>
  intro h l axe hM;have cm:∀{s:ByteArray},aK s=true->¬rL s:=fun{s}hs=>by rintro(rfl|rfl|rfl|rfl)<;>exact absurd hs J
  have hd:∀{s:ByteArray},s≠⟨#[58,61]⟩->s≠⟨#[61]⟩->s≠⟨#[43,43]⟩->s≠⟨#[45,45]⟩->¬rL s:=fun h1 h2 h3 h4=>by rintro(h|h|h|h);exact h1 h;exact h2 h;exact h3 h;exact h4 h
  have h40:∀{X:List KT},¬rL (eG<|(4,⟨#[40]⟩)::X):=hd (by show(⟨#[40]⟩:ByteArray)≠_;decide) (by show(⟨#[40]⟩:ByteArray)≠_;decide) (by show(⟨#[40]⟩:ByteArray)≠_;decide) (by show(⟨#[40]⟩:ByteArray)≠_;decide);rcases iH h with z|z|z|z|z|z|z|z
  ·obtain⟨_,h0,h9,_⟩:=sD z h;obtain rfl:k=22:=z;obtain⟨c,axd,hc,hdg,_,_⟩:=jD h0 h9;have I:∀(x:UInt8)(r:List UInt8),ct x.toNat=false->bs (bS 20 n.toNat)≠bs (x::r):=fun x r hx e=>by
    have:bS 20 n.toNat=x::r:=by have:=congrArg (fun b:ByteArray=>b.data.toList) e;simpa[bs]using this
    rw[show bS 20 n.toNat=c::axd from hc]at this;injection this with e1 _;rw[e1,hx]at hdg;cases hdg
   exact⟨(2,bs<|bS 20 n.toNat),axe,rfl,hd (I 58 [61] J) (I 61 [] J) (I 43 [43] J)<|I 45 [45] J,hM⟩
  ·obtain⟨_,hn,_⟩:=sC z h;obtain rfl:k=23:=z;rcases hn with hn|hn
   ·obtain rfl:n=0:=hn;exact⟨_,axe,rfl,hd J J J J,hM⟩
   ·obtain rfl:n=1:=hn;exact⟨_,axe,rfl,hd J J J J,hM⟩
  ·obtain⟨_,hn,_⟩:=ve z h;obtain rfl:k=24:=z;exact⟨(1,s),axe,rfl,cm hn,hM⟩
  ·obtain⟨_,hn⟩:=vd z h;obtain rfl:k=25:=z;exact⟨(1,s),_,rfl,cm hn,hd (by show(⟨#[40]⟩:ByteArray)≠_;decide) (by show(⟨#[40]⟩:ByteArray)≠_;decide) (by show(⟨#[40]⟩:ByteArray)≠_;decide) (by show(⟨#[40]⟩:ByteArray)≠_;decide)⟩
  ·obtain rfl:k=26:=z;exact⟨(3,⟨#[109,97,107,101]⟩),_,rfl,hd J J J J,h40⟩
  ·obtain⟨_,hs⟩:=yi z h;obtain⟨_,hE⟩:=u7 z h;obtain rfl:k=27:=z;have e1:(aF<|Nd.mk 27 n s len kids).ex l++axe=(4,s)::((if s.data.toList=[45]/\(kids 0).y=27/\(kids 0).z.data.toList=[45]then fr true ((aF<|kids 0).ex 1)else(aF<|kids 0).ex 6)++axe):=rfl;refine⟨(4,s),_,e1,?_,?_⟩
   ·rcases hs with hs|hs
    ·obtain rfl:s=⟨#[45]⟩:=hs;exact hd J J J J
    ·obtain rfl:s=⟨#[33]⟩:=hs;exact hd J J J J
   ·split
    ·exact h40
    ·obtain⟨a,t,ht,h1,_⟩:=ih 0 hE 6 axe hM;rw[ht];exact h1
  ·obtain⟨o7,_,jv,_⟩:=ly z h;obtain rfl:k=28:=z;by_cases y:bV s<l
   ·have e1:(aF<|Nd.mk 28 n s len kids).ex l=(4,⟨#[40]⟩)::(((aF<|kids 0).ex (bV s)++(4,s)::(aF<|kids 1).ex (bV s+1))++[(4,⟨#[41]⟩)]):=by rw[tF rfl l,avR<|show bV (Nd.mk 28 n s len kids).z<l from y];rfl
    rw[e1];refine⟨(4,⟨#[40]⟩),_,rfl,hd J J J J,?_⟩;obtain⟨a,t,ht,h1,_⟩:=ih 0 jv (bV s) ((4,s)::((aF<|kids 1).ex (bV s+1)++(4,(⟨#[41]⟩:ByteArray))::axe))<|Fy<|show 0<bV s from o7;have e2:((aF<|kids 0).ex (bV s)++(4,s)::(aF<|kids 1).ex (bV s+1))++[(4,⟨#[41]⟩)]++axe=a::t:=by rw[<-ht];simp
    show¬rL (eG<|((aF<|kids 0).ex (bV s)++(4,s)::(aF<|kids 1).ex (bV s+1))++[(4,⟨#[41]⟩)]++axe);rw[e2];exact h1
   ·have e1:(aF<|Nd.mk 28 n s len kids).ex l=(aF<|kids 0).ex (bV s)++(4,s)::(aF<|kids 1).ex (bV s+1):=by rw[tF rfl l,avP<|show¬bV (Nd.mk 28 n s len kids).z<l from y];rfl
    rw[e1,avM];exact ih 0 jv (bV s) ((4,s)::(aF<|kids 1).ex (bV s+1)++axe)<|Fy<|show 0<bV s from o7
  ·obtain⟨_,hE⟩:=yd z h;obtain rfl:k=29:=z;refine⟨(4,⟨#[60,45]⟩),(aF<|kids 0).ex 6++axe,rfl,hd J J J J,?_⟩;obtain⟨a,t,ht,h1,_⟩:=ih 0 hE 6 axe hM;rw[ht];exact h1
def fY (T:Nd):Nd:=cq 29 0 ⟨#[]⟩<|T.f 0
def rO (pb:Nat)(axf:List KT)(op:Nat)(w:World)(n:Int)(s:ByteArray)(H:Nd)(e:Ending)(w':World):Prop:=
 ∃a,e=.returned (.agg #[.int .i64 16,.int .i64 n,.string s,.slice a H.q H.q])/\Row w.heap.size w'.heap.size w' H (.slice a H.q H.q)/\Mv pb axf op w w'
theorem PW.head (h:PW pb w W)(hs:PS pb axf op W)(hr:Row (w.heap.size+1) W.heap.size W H (.slice a H.q H.q)):rO pb axf op w n s H (.returned<|.agg #[.int .i64 16,.int .i64 n,.string s,.slice a H.q H.q]) (dn W w.heap.size 16 n s<|.slice a H.q H.q):=by have hg:=h.fin (T:=.mk 16 n s H.q H.f) hs ((ar (T:=.mk 16 n s H.q H.f)).2<|(ar (T:=H)).1 hr) fun e=>absurd e (by show(16:Int)≠29;decide);exact⟨a,rfl,(ar (T:=H)).2<|(ar (T:=.mk 16 n s H.q H.f)).1 hg.row,hg.ps,hg.kp⟩
theorem Qi (ax:(T.f 0).Q=true)(h:RD0 180 ((aF<|fY T).ex 1) (fY T) need (eX 1))(pb:Nat)(axf:List KT)(op:Nat)(w:World)(ho:op+need<=60)(hC:eX 1 axf/\eG axf≠⟨#[60,45]⟩/\¬rL (eG axf))(y:PS pb ((4,⟨#[60,45]⟩)::((aF<|T.f 0).ex 6++axf)) op w):
  Calls prog 190 #[.pointer<|some ⟨pb,0,none⟩] w (rO pb axf op w 1 ⟨#[]⟩<|fY T):=by
 obtain⟨x,t,hx,SW,_⟩:=zy (T.f 0) ax 6 axf hC.2.2;have auY:=kk;exact WV
theorem Qh (cm:aK T.z=true)(h:RD0 180 ((aF<|fY T).ex 1) (fY T) need (eX 1))(pb:Nat)(axf:List KT)(op:Nat)(w:World)(ho:op+need<=60)(hC:eX 1 axf)(y:PS pb ((1,T.z)::(4,⟨#[58,61]⟩)::(4,⟨#[60,45]⟩)::((aF<|T.f 0).ex 6++axf)) op w):
  Calls prog 190 #[.pointer<|some ⟨pb,0,none⟩] w (rO pb axf op w 1 T.z<|fY T):=by
 have auZ:=kk;exact WV
theorem RX.pair {A B:Nd}{a':Option Addr}{c':Nat}(h:RX b w W A (.slice a A.q c))(h':RX b w W B (.slice a' B.q c'))(I:b<W.heap.size)(hw:w.heap.size+1<=W.heap.size)(k n:Int)(s:ByteArray):
    RX b w (W.alloc<|.cells #[.int .i64 A.y,.int .i64 A.E,.string A.z,.slice a A.q c,.int .i64 B.y,.int .i64 B.E,.string B.z,.slice a' B.q c'] 25) (dV k n s A B) (.slice (some ⟨W.heap.size,0,none⟩) 2 2):=by
  have bM:=bO W (.cells #[.int .i64 A.y,.int .i64 A.E,.string A.z,.slice a A.q c,.int .i64 B.y,.int .i64 B.E,.string B.z,.slice a' B.q c'] 25);have hx:=h.calm bM;have hy:=h'.calm bM;exact RX.list (b:=b) (w:=w) (T:=dV k n s A B) (us:=fun i=>if i=0 then .slice a A.q c else .slice a' B.q c') (c:=2) hw O (avv W _) (by show 2<=2/\_;omega) (fun i hi=>by
    have YP:i<2:=hi
    rcases(O:i=0\/i=1)with rfl|rfl
    · exact⟨rfl,rfl,rfl,rfl,hx⟩
    · exact⟨rfl,rfl,rfl,rfl,hy⟩)
theorem Pn {hi:Nat}{u:Value}(h:Row lo hi w (dV k n s (T.f 0)<|T.f 1) u)(hl:T.q=2):Row lo hi w T u:=by
 rw[ar]at h⊢;obtain⟨a,cap,hv,hc,hq⟩:=h
 have LQ:(dV k n s (T.f 0)<|T.f 1).q=2:=rfl;rw[LQ]at hv hc hq;rw[hl];refine⟨a,cap,hv,hc,hq.imp id ?_⟩;rintro⟨g,off,e,h1,h2,h3⟩;refine⟨g,off,e,h1,h2,fun i hi=>?_⟩;have:=h3 i hi;rcases(O:i=0\/i=1)with rfl|rfl
 ·exact this
 ·exact this
theorem VZ (ax:(T.f 0).Q=true)(h:RD0 180 ((aF<|T.f 0).ex 1) (T.f 0) need (eX 1))(h1:RD0 180 ((aF<|T.f 1).ex 1) (T.f 1) need (eX 1))(pb:Nat)(axf:List KT)(op:Nat)(w:World)(ho:op+need<=60)(hC:eX 1 axf)(y:PS pb ((aF<|T.f 0).ex 1++(4,⟨#[60,45]⟩)::((aF<|T.f 1).ex 1++axf)) op w):
  Calls prog 190 #[.pointer<|some ⟨pb,0,none⟩] w (rO pb axf op w 2 ⟨#[]⟩<|dV 0 0 ⟨#[]⟩ (T.f 0)<|T.f 1):=by
 obtain⟨x,t,hx,_,Cw⟩:=zy (T.f 0) ax 1 ((4,⟨#[60,45]⟩)::((aF<|T.f 1).ex 1++axf)) (by rintro(h|h|h|h)<;>exact absurd h (by show(⟨#[60,45]⟩:ByteArray)≠_;decide));have au0:=kk;exact WV
theorem WR (z:T.y=8)(hn:T.E=0)(hm:T.z=⟨#[]⟩)(hl:T.q=2)(h:RD0 180 ((aF<|T.f 0).ex 1) (T.f 0) need (eX 1))(h1:RD0 180 ((aF<|T.f 1).ex 1) (T.f 1) need (eX 1)):RD0 169 ((aF<|T.f 0).ex 1++(4,⟨#[60,45]⟩)::(aF<|T.f 1).ex 1) T need (eX 1):=by
 intro pb axf op w ho hC CA;have y:PS pb ((aF<|T.f 0).ex 1++(4,⟨#[60,45]⟩)::((aF<|T.f 1).ex 1++axf)) op w:=by simpa using CA
 have gG:=Z<|PW.start y.lt;have cY:=Z<|y.alloc aN;have HX:=Z fun W hW=>h pb ((4,⟨#[60,45]⟩)::((aF<|T.f 1).ex 1++axf)) op W ho (gL J J) hW;have oP:=Z<|cR pb _ op _ cY.o;have X9:=Z fun W hW=>fA pb (4,⟨#[60,45]⟩) ((aF<|T.f 1).ex 1++axf) op ⟨#[60,45]⟩ W rfl hW;have Ai:=Z fun W hW=>h1 pb axf op W ho hC hW;have HF:Hid (T.y=8/\T.E=0/\T.z=⟨#[]⟩/\T.q=2):=⟨z,hn,hm,hl⟩;have f2:=xY;have ew:=y.lt;have di:=pJ;unfold aN at gG cY oP;clear y CA ho h h1 hC z hn hm hl;go_enter func169,ntmps169
 have avl:=kk;exact ahG
def TT (axf:List KT):Prop:=jR axf=axf/\r8 axf=true
def yt (K:Nd)(need:Nat):Prop:=∀(pb:Nat)(axf:List KT)(op:Nat)(w:World),op+need<=60->TT axf->PS pb ((aF K).ad++axf) op w->Calls prog 116 #[.pointer<|some ⟨pb,0,none⟩] w fun e w'=>∃v,e=.returned v/\Kds w.heap.size K K.q v w'/\Mv pb axf op w w'
theorem MF (z:T.y=16)(hn:T.E=0)(hm:T.z=⟨#[]⟩)(hl:T.q=1)(eA:(T.f 0).y=4/\(T.f 0).E=0/\(T.f 0).z=⟨#[]⟩)(h:yt (T.f 0) need):RD0 181 ((3,⟨#[100,101,102,97,117,108,116]⟩)::(4,⟨#[58]⟩)::(aF<|T.f 0).ad) T need TT:=by
 intro pb axf op w ho hC CA;have y:PS pb ((3,⟨#[100,101,102,97,117,108,116]⟩)::(4,⟨#[58]⟩)::((aF<|T.f 0).ad++axf)) op w:=by simpa using CA
 have HP:=Z<|PW.start y.lt;have HN:=Z<|NB.start 16 0 ⟨#[]⟩ T HP.o<|y.alloc aN;have HX:=Z fun W hW=>h pb axf op W ho hC hW;have HF:Hid (T.y=16/\T.E=0/\T.z=⟨#[]⟩/\T.q=1):=⟨z,hn,hm,hl⟩;have mh:=Z eA;have ew:=y.lt;have di:=pJ;unfold aN at HN HP;rw[avs]at HN;clear y CA ho h hC z hn hl eA hm;have auB:=kk;exact ahs
theorem B8 (z:T.y=16)(hn:T.E=1)(hd:List KT)(hhd:∀(pb:Nat)(axe:List KT)(op:Nat)(W:World),op+need<=60->(∃X,axe=(4,⟨#[58]⟩)::X)->PS pb (hd++axe) op W->Calls prog 190 #[.pointer<|some ⟨pb,0,none⟩] W (rO pb axe op W 1 T.z<|fY T))(hl:T.q=2)(eA:(T.f 1).y=4/\(T.f 1).E=0/\(T.f 1).z=⟨#[]⟩)(h:yt (T.f 1) need):RD0 181 ((3,⟨#[99,97,115,101]⟩)::(hd++(4,⟨#[58]⟩)::(aF<|T.f 1).ad)) T need TT:=by
 intro pb axf op w ho hC CA;have y:PS pb ((3,⟨#[99,97,115,101]⟩)::(hd++(4,⟨#[58]⟩)::((aF<|T.f 1).ad++axf))) op w:=by simpa using CA
 have HP:=Z<|PW.start y.lt;have HN:=Z<|NB.start 16 0 ⟨#[]⟩ T HP.o<|y.alloc aN;have HH:=Z fun W hW=>hhd pb ((4,⟨#[58]⟩)::((aF<|T.f 1).ad++axf)) op W ho ⟨_,rfl⟩ hW;have HX:=Z fun W hW=>h pb axf op W ho hC hW;have HF:Hid (T.y=16/\T.E=1/\T.z=T.z/\T.q=2):=⟨z,hn,rfl,hl⟩;have at7:=kk;exact ahj
theorem ME (z:T.y=16)(hn:T.E=2)(hd:List KT)(hhd:∀(pb:Nat)(axe:List KT)(op:Nat)(W:World),op+need<=60->(∃X,axe=(4,⟨#[58]⟩)::X)->PS pb (hd++axe) op W->Calls prog 190 #[.pointer<|some ⟨pb,0,none⟩] W (rO pb axe op W 2 T.z<|dV 0 0 ⟨#[]⟩ (T.f 0)<|T.f 1))(hl:T.q=3)(eA:(T.f 2).y=4/\(T.f 2).E=0/\(T.f 2).z=⟨#[]⟩)(h:yt (T.f 2) need):RD0 181 ((3,⟨#[99,97,115,101]⟩)::(hd++(4,⟨#[58]⟩)::(aF<|T.f 2).ad)) T need TT:=by
 intro pb axf op w ho hC CA;have y:PS pb ((3,⟨#[99,97,115,101]⟩)::(hd++(4,⟨#[58]⟩)::((aF<|T.f 2).ad++axf))) op w:=by simpa using CA
 have HP:=Z<|PW.start y.lt;have HN:=Z<|NB.start 16 0 ⟨#[]⟩ T HP.o<|y.alloc aN;have HH:=Z fun W hW=>hhd pb ((4,⟨#[58]⟩)::((aF<|T.f 2).ad++axf)) op W ho ⟨_,rfl⟩ hW;have HX:=Z fun W hW=>h pb axf op W ho hC hW;have HF:Hid (T.y=16/\T.E=2/\T.z=T.z/\T.q=3):=⟨z,hn,rfl,hl⟩;have aua:=kk;exact ahj
theorem NB.lit {W2 W3:World}(k n:Int)(s:ByteArray)(h:PW pb w W2)(hg:NG pb axe op W2 (T.f 0) (.slice a (T.f 0).q c) W3):
  NB pb (W3.heap.size+1) W2.heap.size w ((W3.alloc<|nO (T.f 0)<|.slice a (T.f 0).q c).alloc<|.cells #[.int .i64 k,.int .i64 n,.string s,.slice (some ⟨W3.heap.size,0,none⟩) 1 1] 25) axe op k n s T 1 (some ⟨W3.heap.size,0,none⟩) 1:=by
 have hz:=h.size;have td:=hg.kp.size;have hb1:=bO W3<|nO (T.f 0)<|.slice a (T.f 0).q c;have z:=Kds.one (B:=W2.heap.size) (T:=T) lr td hg.row rfl rfl rfl;generalize hW:W3.alloc (nO (T.f 0)<|.slice a (T.f 0).q c)=W4 at*
 have oU:W4.heap.size=W3.heap.size+1:=by rw[<-hW];simp
 have hb2:=bO W4<|.cells #[.int .i64 k,.int .i64 n,.string s,.slice (some ⟨W3.heap.size,0,none⟩) 1 1] 25;refine⟨((h.step hg.kp).calm hb1).calm hb2,(hg.ps.calm hb1).calm hb2,?_,KX.ahead z O _,⟨hz,O⟩,by simp;omega⟩;rw[<-oU];exact avv W4 _
theorem Vo (z:T.y=11)(hn:T.E=0)(hm:T.z=⟨#[]⟩)(hl:T.q=2)(a:KT)(eA:(T.f 1).y=4)(ax:(T.f 0).Q=true)(h0:RD0 180 ((aF<|T.f 0).ex 1) (T.f 0) need (eX 1))(h:RD0 80 (aF<|T.f 1).st (T.f 1) need (fun _=>True)):RD0 163 (a::((aF<|T.f 0).ex 1++(aF<|T.f 1).st)) T need (fun _=>True):=by
 intro pb axf op w ho hC y;have mC:PS pb (a::((aF<|T.f 0).ex 1++((aF<|T.f 1).st++axf))) op w:=by simpa using y
 have avf:=kk;exact It
theorem Hl (z:T.y=10)(hn:T.E=0)(hm:T.z=⟨#[]⟩)(hl:T.q=2)(eA:(T.f 1).y=4)(h0:RD0 180 ((aF<|T.f 0).ex 1) (T.f 0) need (eX 1))(h:RD0 80 (aF<|T.f 1).st (T.f 1) need (fun _=>True)):RD0 162 ((3,⟨#[105,102]⟩)::((aF<|T.f 0).ex 1++((aF<|T.f 1).st++[]))) T (need+1) (fun axf=>eG axf≠⟨#[101,108,115,101]⟩):=by
 intro pb axf op w ho hC y;have mC:PS pb ((3,⟨#[105,102]⟩)::((aF<|T.f 0).ex 1++((aF<|T.f 1).st++axf))) op w:=by simpa using y
 have HE:=Z<|fJ pb _ _ op ⟨#[105,102]⟩ (w.alloc aN) rfl O<|mC.alloc _;have HP:=Z<|PW.start y.lt;have HX:=Z fun W hW=>h0 pb ((aF<|T.f 1).st++axf) (op+1) W O aaB hW;have ra:=Z fun W hW=>h pb (axf) (op+1) W O trivial hW;have HNo:=Z fun W(hW:PS pb axf (op+1) W)=>gS pb axf (op+1) ⟨#[101,108,115,101]⟩ W hC hW;have HF:Hid (T.y=10/\T.E=0/\T.z=⟨#[]⟩/\T.q=2):=⟨z,hn,hm,hl⟩;have ew:=y.lt;have di:=pJ;unfold aN at HE;clear y mC z hn hm hl ho h h0 hC eA;have avm:=kk;exact ahH
theorem za (z:T.y=10)(hn:T.E=0)(hm:T.z=⟨#[]⟩)(hl:T.q=3)(eA:(T.f 1).y=4)(h0:RD0 180 ((aF<|T.f 0).ex 1) (T.f 0) need (eX 1))(h:RD0 80 (aF<|T.f 1).st (T.f 1) need (fun _=>True))(j5:(T.f 2).y=4)(C:List KT->Prop)(h2:RD0 80 (aF<|T.f 2).st (T.f 2) need C):RD0 162 ((3,⟨#[105,102]⟩)::((aF<|T.f 0).ex 1++((aF<|T.f 1).st++(3,⟨#[101,108,115,101]⟩)::(aF<|T.f 2).st))) T (need+1) C:=by have aub:=kk;exact ahk
theorem Be (z:T.y=10)(hn:T.E=0)(hm:T.z=⟨#[]⟩)(hl:T.q=3)(eA:(T.f 1).y=4)(h0:RD0 180 ((aF<|T.f 0).ex 1) (T.f 0) need (eX 1))(h:RD0 80 (aF<|T.f 1).st (T.f 1) need (fun _=>True))(j5:(T.f 2).y=10)(C:List KT->Prop)(h2:RD0 162 (aF<|T.f 2).st (T.f 2) need C):RD0 162 ((3,⟨#[105,102]⟩)::((aF<|T.f 0).ex 1++((aF<|T.f 1).st++(3,⟨#[101,108,115,101]⟩)::(aF<|T.f 2).st))) T (need+1) C:=by have auc:=kk;exact ahk
theorem Mz (h:T.aH=true):∃a t,(aF T).cs=a::t/\a.1≠5/\(a.2=⟨#[99,97,115,101]⟩\/a.2=⟨#[100,101,102,97,117,108,116]⟩):=by
 obtain⟨z,hf,_⟩:=ym h;rw[yG O];rcases hf with⟨hn,_⟩|⟨hn,_⟩|⟨hn,_⟩<;>rw[hn]
 ·exact⟨(3,⟨#[100,101,102,97,117,108,116]⟩),_,rfl,by show(3:Int)≠5;decide,.inr rfl⟩
 ·exact⟨(3,⟨#[99,97,115,101]⟩),_,rfl,by show(3:Int)≠5;decide,.inl rfl⟩
 ·exact⟨(3,⟨#[99,97,115,101]⟩),_,rfl,by show(3:Int)≠5;decide,.inl rfl⟩
theorem K6 {a:KT}(h:a.1≠5)(h2:a.2=⟨#[125]⟩\/a.2=⟨#[99,97,115,101]⟩\/a.2=⟨#[100,101,102,97,117,108,116]⟩):TT (a::axf):=by refine⟨by simp[jR,h],?_⟩;rcases h2 with e|e|e<;>simp[r8,eG,e]
theorem zE (z:T.y=15)(hn:T.E=0)(hm:T.z=⟨#[]⟩)(hlen:T.q<=1000)(a:KT)(hc:∀i,i<T.q->(T.f i).aH=true)(h:∀i,i<T.q->RD0 181 (aF<|T.f i).cs (T.f i) need TT):RD0 165 (a::(4,⟨#[123]⟩)::(dr (fun i=>(aF<|T.f i).cs) 0 T.q++[(4,⟨#[125]⟩)])) T (need+1) (fun _=>True):=by
 intro pb axf op w ho hC CA;have y:PS pb (a::(4,⟨#[123]⟩)::(dr (fun i=>(aF<|T.f i).cs) 0 T.q++(4,⟨#[125]⟩)::axf)) op w:=by simpa using CA
 obtain⟨nx,hnx,c1,cf,hM⟩:=(y.alloc aN).next;have HP:=Z<|(PW.start y.lt).step hM.kp;have HE:=Z<|fJ pb _ _ op ⟨#[123]⟩ _ rfl O hM.ps;have HF:Hid (T.y=15/\T.E=0/\T.z=⟨#[]⟩):=⟨z,hn,hm⟩;have hlst:∀j,j<=T.q->TT (dr (fun i=>(aF<|T.f i).cs) j (T.q-j)++(4,⟨#[125]⟩)::axf):=fun j hj=>by
  by_cases e:j=T.q
  ·rw[e,awO];exact K6 (by show(4:Int)≠5;decide)<|.inl rfl
  ·obtain⟨q,hq⟩:∃q,T.q-j=q+1:=⟨T.q-j-1,O⟩;obtain⟨x,t,hx,h5,h2⟩:=Mz<|hc j O;rw[hq];simp only[dr,hx,cons_append];exact K6 h5<|.inr h2
 have HX:=Z fun(i:Nat)(hi:i<T.q)axe W hM hW=>h i hi pb axe (op+1) W O hM hW;have HLs:=Z hlst;have HCk:=Z hc;have sT:=Z fun t axe W(hW:PS pb axe (op+1) W)=>dG pb axe (op+1) t W hW;have ew:=y.lt;have di:=pJ;unfold aN at c1 cf HP HE;clear y CA hM z hn hm ho h hC hlst hc;go_enter func165,ntmps165
 have au2:=kk;exact WU
def Zm (P:Program)(c:Code):Nat->(Exit->Act->World->Prop)->Exit->Act->World->Prop
 |0,Q,e,a,w=>Exit.noGoto Q e a w
 |n+1,Q,.goto l,a,w=>∃rest,findLabel c l=some rest/\rest.wp P (Zm P c n Q) a w
 |_+1,Q,e,a,w=>Q e a w
theorem qi {c:Code}{a:Act}(n:Nat)(first:c.wp P (Zm P c n Q) a w):(Code.scope c).wp P Q a w:=by
 cases n with
 |zero=>exact wp_scope_straight first
 |succ n=>
  intro b k cs;have key:∀(n:Nat)(rest:Code)(a:Act)(w:World),rest.wp P (Zm P c n Q) a w->∃e a' w',Q e a' w'/\Arrives P (lone (b.at a<|.code rest::.inScope c::k) cs w) b k cs e a' w':=by
   intro n;induction n with
   |zero=>
    intro rest a w h;obtain⟨e,a₁,w₁,hq,mD⟩:=h b (.inScope c::k) cs;cases e with
    |normal=>exact⟨.normal,a₁,w₁,hq,Steps.trans mD<|.one step_inScope⟩
    |exit id=>exact⟨.exit id,a₁,w₁,hq,fun k' z=>mD k' (by simp[exitTo,z])⟩
    |goto l'=>exact hq.elim
    |ret=>exact⟨_,a₁,w₁,hq,mD⟩
    |panic ch=>exact⟨_,a₁,w₁,hq,mD⟩
    |outgrown=>exact⟨_,a₁,w₁,hq,mD⟩
   |succ n ih=>
    intro rest a w h;obtain⟨e,a₁,w₁,hq,mD⟩:=h b (.inScope c::k) cs;cases e with
    |normal=>exact⟨.normal,a₁,w₁,hq,Steps.trans mD<|.one step_inScope⟩
    |exit id=>exact⟨.exit id,a₁,w₁,hq,fun k' z=>mD k' (by simp[exitTo,z])⟩
    |goto l'=>
     obtain⟨AN,hf,hr⟩:=hq;obtain⟨e₂,a₂,w₂,hq₂,L8⟩:=ih AN a₁ w₁ hr;have hg:gotoIn l' (.inScope c::k)=some (.code AN::.inScope c::k):=by simp[gotoIn,hf]
     exact⟨e₂,a₂,w₂,hq₂,.of_steps (mD _ hg) L8⟩
    |ret=>exact⟨_,a₁,w₁,hq,mD⟩
    |panic ch=>exact⟨_,a₁,w₁,hq,mD⟩
    |outgrown=>exact⟨_,a₁,w₁,hq,mD⟩
  obtain⟨e,a₁,w₁,hq,mD⟩:=first b (.inScope c::k) cs;cases e with
  |normal=>exact⟨.normal,a₁,w₁,hq,.head step_scope<|Steps.trans mD<|.one step_inScope⟩
  |exit id=>exact⟨.exit id,a₁,w₁,hq,fun k' z=>.head step_scope<|mD k' (by simp[exitTo,z])⟩
  |goto l'=>
   obtain⟨AN,hf,hr⟩:=hq;obtain⟨e₂,a₂,w₂,hq₂,L8⟩:=key n AN a₁ w₁ hr;have hg:gotoIn l' (.inScope c::k)=some (.code AN::.inScope c::k):=by simp[gotoIn,hf]
   exact⟨e₂,a₂,w₂,hq₂,.of_steps (.head step_scope<|mD _ hg) L8⟩
  |ret=>exact⟨_,a₁,w₁,hq,.of_steps (.one step_scope) mD⟩
  |panic ch=>exact⟨_,a₁,w₁,hq,.of_steps (.one step_scope) mD⟩
  |outgrown=>exact⟨_,a₁,w₁,hq,.of_steps (.one step_scope) mD⟩
theorem uL {c rest:Code}{n:Nat}{a:Act}(hf:findLabel c l=some rest)(h:rest.wp P (Zm P c n Q) a w):Zm P c (n+1) Q (.goto l) a w:=⟨rest,hf,h⟩
theorem Fg {c:Code}{n:Nat}{a:Act}(h:Q .ret a w):Zm P c n Q .ret a w:=by cases n<;>exact h
theorem ZC (h:RD0 162 ((3,⟨#[105,102]⟩)::rest) T need C):RD0 138 ((3,⟨#[105,102]⟩)::rest) T need C:=by exact MU
theorem J4 (h:RD0 163 ((3,⟨#[102,111,114]⟩)::rest) T need C):RD0 138 ((3,⟨#[102,111,114]⟩)::rest) T need C:=by exact MU
theorem xh (h:RD0 164 ((3,⟨#[114,101,116,117,114,110]⟩)::rest) T need C):RD0 138 ((3,⟨#[114,101,116,117,114,110]⟩)::rest) T need C:=by exact MU
theorem GH (h:RD0 165 ((3,⟨#[115,101,108,101,99,116]⟩)::rest) T need C):RD0 138 ((3,⟨#[115,101,108,101,99,116]⟩)::rest) T need C:=by exact MU
theorem ZD (h:RD1 166 (.int .i64<|13) ((3,⟨#[103,111]⟩)::rest) T need C):RD0 138 ((3,⟨#[103,111]⟩)::rest) T need C:=by exact MU
theorem J6 (h:RD1 166 (.int .i64<|14) ((3,⟨#[100,101,102,101,114]⟩)::rest) T need C):RD0 138 ((3,⟨#[100,101,102,101,114]⟩)::rest) T need C:=by exact MU
theorem J8 (h:RD1 167 (.int .i64<|17) ((3,⟨#[98,114,101,97,107]⟩)::rest) T need C):RD0 138 ((3,⟨#[98,114,101,97,107]⟩)::rest) T need C:=by exact MU
theorem AA (h:RD1 167 (.int .i64<|18) ((3,⟨#[99,111,110,116,105,110,117,101]⟩)::rest) T need C):RD0 138 ((3,⟨#[99,111,110,116,105,110,117,101]⟩)::rest) T need C:=by exact MU
theorem J7 (h:RD1 168 (.int .i64<|19) ((3,⟨#[99,108,111,115,101]⟩)::rest) T need C):RD0 138 ((3,⟨#[99,108,111,115,101]⟩)::rest) T need C:=by exact MU
theorem J1 (h:RD1 168 (.int .i64<|20) ((3,⟨#[112,114,105,110,116]⟩)::rest) T need C):RD0 138 ((3,⟨#[112,114,105,110,116]⟩)::rest) T need C:=by exact MU
theorem J2 (h:RD1 168 (.int .i64<|21) ((3,⟨#[112,97,110,105,99]⟩)::rest) T need C):RD0 138 ((3,⟨#[112,97,110,105,99]⟩)::rest) T need C:=by exact MU
theorem GJ (h:RD0 80 ((4,⟨#[123]⟩)::rest) T need C):RD0 138 ((4,⟨#[123]⟩)::rest) T need C:=by have auf:=kk;exact WZ
theorem GI (h:RD1 160 (.int .i64<|5) ((1,s)::(4,⟨#[58,61]⟩)::rest) T need C):RD0 138 ((1,s)::(4,⟨#[58,61]⟩)::rest) T need C:=by exact ahi
theorem GK (h:RD1 160 (.int .i64<|6) ((1,s)::(4,⟨#[61]⟩)::rest) T need C):RD0 138 ((1,s)::(4,⟨#[61]⟩)::rest) T need C:=by exact ahi
theorem UK (h:RD1 161 (.int .i64<|1) ((1,s)::(4,⟨#[43,43]⟩)::rest) T need C):RD0 138 ((1,s)::(4,⟨#[43,43]⟩)::rest) T need C:=by exact ahi
theorem UL (h:RD1 161 (.int .i64<|-1) ((1,s)::(4,⟨#[45,45]⟩)::rest) T need C):RD0 138 ((1,s)::(4,⟨#[45,45]⟩)::rest) T need C:=by exact ahi
theorem qs (bY:∀axe,C axe->∃x t,tk++axe=x::t/\x.1=1/\¬rL (eG t))(h:RD0 169 tk T need C):RD0 138 tk T need C:=by have aum:=kk;exact WY
theorem rX (bY:∀axe,C axe->∃x t,tk++axe=x::t/\x.1=3/\(x.2=⟨#[102,97,108,115,101]⟩\/x.2=⟨#[116,114,117,101]⟩\/x.2=⟨#[109,97,107,101]⟩))(h:RD0 169 tk T need C):RD0 138 tk T need C:=by have aun:=kk;exact WY
theorem qq (bY:∀axe,C axe->∃x t,tk++axe=x::t/\(x.1≠1/\x.1≠3)/\x.2≠⟨#[123]⟩)(h:RD0 169 tk T need C):RD0 138 tk T need C:=by have auo:=kk;exact WY
theorem wV (hn:1<=n/\n<=3)(pb:Nat)(axf:List KT)(op:Nat)(w:World)(y:PS pb (nn n++axf) op w):
  Calls prog 79 #[.pointer<|some ⟨pb,0,none⟩] w fun e w'=>e=.returned (.int .i64 n)/\Mv pb axf op w w':=by
 rcases(O:n=1\/n=2\/n=3)with rfl|rfl|rfl
 ·have HT:=Z<|fA pb _ _ op ⟨#[105,110,116]⟩ w rfl y;clear y hn;go_enter func79,ntmps79
  go_wp2_with fail
  refine HT.o.mono ?_;rintro e w1⟨rfl,hm⟩;have HM:=Z hm;clear hm HT;go_wp2;go_ret;exact⟨rfl,HM.o⟩
 ·have HT:=Z<|gS pb _ op ⟨#[105,110,116]⟩ w (by show(⟨#[98,111,111,108]⟩:ByteArray)≠_;decide) y;have HP:=Z y;clear y hn;go_enter func79,ntmps79
  go_wp2_with fail
  refine HT.o.mono ?_;rintro e w1⟨rfl,I⟩;have HM:=Z<|Mv.of HP.o I;have yu:=Z<|fA pb _ _ op ⟨#[98,111,111,108]⟩ w1 rfl HM.o.ps;clear I HT HP;go_wp2_with fail
  refine yu.o.mono ?_;rintro e w2⟨rfl,hm⟩;have Oa:=Z<|HM.o.trans hm;clear hm yu HM;go_wp2;go_ret;exact⟨rfl,Oa.o⟩
 ·have HT:=Z<|gS pb _ op ⟨#[105,110,116]⟩ w (by show(⟨#[99,104,97,110]⟩:ByteArray)≠_;decide) y;have HP:=Z y;clear y hn;go_enter func79,ntmps79
  go_wp2_with fail
  refine HT.o.mono ?_;rintro e w1⟨rfl,I⟩;have HM:=Z<|Mv.of HP.o I;have yu:=Z<|gS pb _ op ⟨#[98,111,111,108]⟩ w1 (by show(⟨#[99,104,97,110]⟩:ByteArray)≠_;decide) HM.o.ps;clear I HT HP;go_wp2_with fail
  refine yu.o.mono ?_;rintro e w2⟨rfl,I⟩;have Oa:=Z<|HM.o.calm I;have Jb:=Z<|fZ pb _ _ op ⟨#[99,104,97,110]⟩ w2 rfl Oa.o.ps;clear I yu HM;go_wp2_with fail
  refine Jb.o.mono ?_;rintro e w3⟨⟨r,rfl⟩,hm⟩;have N9:=Z<|Oa.o.trans hm;have TW:=Z<|fZ pb _ _ op ⟨#[105,110,116]⟩ w3 rfl hm.ps;clear hm Jb Oa;go_wp2_with fail
  refine TW.o.mono ?_;rintro e w4⟨⟨r,rfl⟩,hm⟩;have RV:=Z<|N9.o.trans hm;clear hm TW N9;go_wp2;go_ret;exact⟨rfl,RV.o⟩
theorem Pv (z:T.y=3)(hn:1<=T.E/\T.E<=3)(hl:T.q=0):RD0 77 (rZ T) T 0 (eX 1):=by
 intro pb axf op w ho hC y;have mC:PS pb ((1,T.z)::(nn T.E++axf)) op w:=y;have HN:=Z<|kB pb _ _ op (w.alloc aN)<|mC.alloc _;have HP:=Z<|PW.start y.lt;have HX:=Z fun W hW=>wV hn pb axf op W hW;have HF:Hid (T.y=3/\T.q=0):=⟨z,hl⟩;generalize hs:T.z=s at*
 generalize Bn:T.E=n at*
 unfold aN at HN;clear y mC z hn hl ho hC;go_enter func77,ntmps77
 go_wp2_with fail
 refine HN.o.mono ?_;rintro e w1⟨rfl,hm⟩;have gG:=Z<|HP.o.step hm.kp;have Ai:=Z<|HX.o w1 hm.ps;clear hm HN HP HX;go_wp2_with fail
 refine Ai.o.mono ?_;rintro e w2⟨rfl,hm⟩;have fe:=Z<|gG.o.step hm.kp;have eF:=Z hm.ps;obtain⟨z0,z1,z2,z3,zf⟩:=aP fe.o.av;clear hm Ai gG;go_wp2;exact avr (fe.o.read results77 rfl 3 n s<|.slice none 0 0) rfl<|fe.o.done eF.o (jU HF.o.2 _ _ _) HF.o.1 Bn hs HF.o.2
theorem ux (T:Nd):T.q+1<=T.size:=by
  have h1:∀n,n<=aq (fun i=>(T.f i).size) n:=fun n=>by
    induction n with
    | zero=>exact avF _
    | succ n ih => have:=oj (T.f n)
                   simp only[aq];omega
  have:=h1 T.q;have:=T.size_eq;omega
structure AllS (T:Nd):Prop where
 st:T.U=true->RD0 138 (aF T).st T (2*T.ak) Cs
 ec:T.y=10->T.U=true->RD0 162 (aF T).st T (2*T.ak) (fun axf=>eG axf≠⟨#[101,108,115,101]⟩)
 av:T.y=4->T.U=true->RD0 80 (aF T).st T (2*T.ak) (fun _=>True)
 ad:T.y=4->T.U=true->yt T (2*T.ak)
 cl:T.aH=true->RD0 181 (aF T).cs T (2*T.ak) TT
theorem all_s (n:Nat):∀T:Nd,T.size<=n->T.size<=600->AllS T:=by
 induction n with
 |zero=>intro T h;have:=oj T;omega
 |succ n Vt=>
  intro T hT We;have hlen:=ux T;have y:=hgt_pos T;have aZ:∀i,i<T.q->AllS (T.f i):=fun i hi=>by have:=T.a6 hi;exact Vt _ O O
  have hh:∀i,i<T.q->(T.f i).ak+1<=T.ak:=fun i hi=>T.aZ hi;have hex:∀i,i<T.q->(T.f i).Q=true->RD0 180 ((aF<|T.f i).ex 1) (T.f i) (2*T.ak-3) (eX 1):=fun i hi he=>(pP he (by have:=T.a6 hi;omega)).mono aaO fun _ h=>h;have gN:∀i,i<T.q->(T.f i).y=4->(T.f i).U=true->RD0 80 (aF<|T.f i).st (T.f i) (2*T.ak-2) (fun _=>True):=fun i hi z hs=>((aZ i hi).av z hs).mono aaO fun _ h=>h;have blk:T.y=4->T.U=true->RD0 80 (aF T).st T (2*T.ak) (fun _=>True):=fun z hs=>
   (Oh (need:=2*T.ak-2) z hs O fun i hi=>((aZ i hi).st<|tT z hs i hi).mono aaO fun _ h=>h).mono O (fun _ h=>h)
  have sts:T.y=4->T.U=true->yt T (2*T.ak):=fun z hs pb axf op w ho hL y=>
   Et O (tT z hs) (fun i hi=>((aZ i hi).st<|tT z hs i hi).mono (show _<=2*T.ak by have:=hh i hi;omega) fun _ h=>h) pb axf op w ho hL y
  have ife:T.y=10->T.U=true->RD0 162 (aF T).st T (2*T.ak) (fun axf=>eG axf≠⟨#[101,108,115,101]⟩):=fun z hs=>by
   obtain⟨hl,he,⟨eA,mi⟩,L1⟩:=AD z hs;obtain⟨cm,bm⟩:=pA O hs;have h0:=(hex 0 O he).mono (show 2*T.ak-3<=2*T.ak-2 by omega) fun _ h=>h;have h1:=gN 1 O eA mi;rcases hl with hl|hl
   ·have ht:(aF T).st=(3,⟨#[105,102]⟩)::((aF<|T.f 0).ex 1++((aF<|T.f 1).st++[])):=by rw[cK O,z,hl];simp[fW]
    rw[ht];exact(Hl z bm cm hl eA h0 h1).mono O fun _ h=>h
   ·obtain⟨iR,bP⟩:=L1 hl;have ht:(aF T).st=(3,⟨#[105,102]⟩)::((aF<|T.f 0).ex 1++((aF<|T.f 1).st++(3,⟨#[101,108,115,101]⟩)::(aF<|T.f 2).st)):=by rw[cK O,z,hl];simp[fW]
    rw[ht];have h2h:=hh 2 O;rcases iR with iR|iR
    ·exact(za z bm cm hl eA h0 h1 iR _<|gN 2 O iR bP).mono O fun _ _=>trivial
    ·exact(Be z bm cm hl eA h0 h1 iR _<|((aZ 2 O).ec iR bP).mono O fun _ h=>h).mono O fun _ h=>h
  refine⟨fun hs=>?_,ife,blk,sts,fun hc=>?_⟩
  ·have jl:T.y≠0:=by rcases iA hs with e|e|e|e|e|e|e|e|e|e|e|e|e|e|e|e|e<;>omega
   have VV:∀{X:Nd},X.Q=true->X.size<=600->X.ak+1<=T.ak->RD0 183 (fr true<|(aF X).ex 1) X (2*T.ak) (fun _=>True):=fun he hz hg=>(xH<|pP he hz).mono O fun _ h=>h;rcases iA hs with z|z|z|z|z|z|z|z|z|z|z|z|z|z|z|z|z
   ·have I:=blk z hs;have ht:(aF T).st=(4,⟨#[123]⟩)::(dr (iO fun i=>(aF<|T.f i).st) 0 T.q++[(4,⟨#[125]⟩)]):=by rw[cK jl,z];rfl
    rw[ht]at I⊢;exact(GJ I).mono lr fun _ _=>trivial
   ·obtain⟨h1,he⟩:=dq (.inl z) hs;have ht:(aF T).st=(1,T.z)::(4,⟨#[58,61]⟩)::(aF<|T.f 0).ex 1:=by rw[cK jl,z];rfl
    rw[ht];exact(GI<|tV J z (GP (.inl z) hs).2 h1 _<|hex 0 O he).mono O fun _ h=>h.stop.1
   ·obtain⟨h1,he⟩:=dq (.inr<|.inl z) hs;have ht:(aF T).st=(1,T.z)::(4,⟨#[61]⟩)::(aF<|T.f 0).ex 1:=by rw[cK jl,z];rfl
    rw[ht];exact(GK<|tV J z (GP (.inr z) hs).2 h1 _<|hex 0 O he).mono O fun _ h=>h.stop.1
   ·rcases(UR z hs).2 with hn|hn
    ·have ht:(aF T).st=[(1,T.z),(4,⟨#[43,43]⟩)]:=by rw[cK jl,z,hn];rfl
     rw[ht];exact(UK<|xr z hn (mx (.inl z) hs) _).mono O fun _ _=>trivial
    ·have ht:(aF T).st=[(1,T.z),(4,⟨#[45,45]⟩)]:=by rw[cK jl,z,hn];rfl
     rw[ht];exact(UL<|xr z hn (mx (.inl z) hs) _).mono O fun _ _=>trivial
   ·obtain⟨h2,fz,mZ⟩:=GN z hs;obtain⟨cm,bm⟩:=pA O hs;have ht:(aF T).st=(aF<|T.f 0).ex 1++(4,⟨#[60,45]⟩)::(aF<|T.f 1).ex 1:=by rw[cK jl,z];rfl
    rw[ht];have I:=WR z bm cm h2 (hex 0 O fz)<|hex 1 O mZ;have V8:∀axe,¬rL (eG<|(4,⟨#[60,45]⟩)::(aF<|T.f 1).ex 1++axe):=fun axe=>by rintro(h|h|h|h)<;>exact absurd (show(⟨#[60,45]⟩:ByteArray)=_ from h) J
    obtain⟨x,t,hx,P0,Lt,hx125,NP,Lq⟩:=rH fz 1;by_cases c1:x.1=1
    ·refine(qs (fun axe _=>?_) I).mono O fun _ h=>h.stop.1;obtain⟨axd,u,hy,_,hy2⟩:=zy _ fz 1 _<|V8 axe;rw[avM];refine⟨axd,u,hy,?_,hy2⟩;rw[hx]at hy;injection hy with e1 _;rw[<-e1];exact c1
    ·by_cases c3:x.1=3
     ·exact(rX (fun axe _=>⟨x,_,by rw[hx];rfl,c3,Lq c3⟩) I).mono O fun _ h=>h.stop.1
     ·exact(qq (fun axe _=>⟨x,_,by rw[hx];rfl,⟨c1,c3⟩,Lt⟩) I).mono O fun _ h=>h.stop.1
   ·obtain⟨h1,he⟩:=dq (.inr<|.inr<|.inl z) hs;obtain⟨cm,bm⟩:=pA O hs;have ht:(aF T).st=(aF<|T.f 0).ex 1:=by rw[cK jl,z];rfl
    rw[ht];have I:=WQ z bm cm h1 (si_9 z hs)<|hex 0 O he;have hC:∀axf,Cs axf->eX 1 axf/\eG axf≠⟨#[60,45]⟩:=fun axf h=>⟨h.stop.1,h.stop.2.1⟩;have hb':=I.mono lr hC;have V8:∀axe,Cs axe->¬rL (eG axe):=by rintro axe⟨X,rfl⟩;rintro(h|h|h|h)<;>exact absurd (show(⟨#[]⟩:ByteArray)=_ from h) J
    obtain⟨x,t,hx,P0,Lt,hx125,NP,Lq⟩:=rH he 1;by_cases c1:x.1=1
    ·refine(qs (fun axe hM=>?_) hb').mono O fun _ h=>h;obtain⟨axd,u,hy,_,hy2⟩:=zy _ he 1 axe<|V8 axe hM;refine⟨axd,u,hy,?_,hy2⟩;rw[hx]at hy;injection hy with e1 _;rw[<-e1];exact c1
    ·by_cases c3:x.1=3
     ·exact(rX (fun axe _=>⟨x,_,by rw[hx];rfl,c3,Lq c3⟩) hb').mono O fun _ h=>h
     ·exact(qq (fun axe _=>⟨x,_,by rw[hx];rfl,⟨c1,c3⟩,Lt⟩) hb').mono O fun _ h=>h
   ·have hi:=ife z hs;have ht:(aF T).st=(3,⟨#[105,102]⟩)::((aF<|T.f 0).ex 1++((aF<|T.f 1).st++(if T.q=3 then(3,⟨#[101,108,115,101]⟩)::(aF<|T.f 2).st else[]))):=by rw[cK jl,z];rfl
    rw[ht]at hi⊢;exact(ZC hi).mono lr fun _ h=>h.stop.2.2.1
   ·obtain⟨cm,bm⟩:=pA O hs;rcases AC z hs with⟨h1,eA,mi⟩|⟨h2,he,eA,mi⟩
    ·have ht:(aF T).st=(3,⟨#[102,111,114]⟩)::(aF<|T.f 0).st:=by rw[cK jl,z,h1];rfl
     rw[ht];exact(J4<|Vp z bm cm h1 _ eA<|gN 0 O eA mi).mono O fun _ _=>trivial
    ·have ht:(aF T).st=(3,⟨#[102,111,114]⟩)::((aF<|T.f 0).ex 1++(aF<|T.f 1).st):=by rw[cK jl,z,h2];rfl
     rw[ht];exact(J4<|Vo z bm cm h2 _ eA he ((hex 0 O he).mono (show _<=2*T.ak-2 by omega) fun _ h=>h)<|gN 1 O eA mi).mono O fun _ _=>trivial
   ·obtain⟨cm,bm⟩:=pA O hs;rcases AB z hs with h0|⟨h1,he⟩
    ·have ht:(aF T).st=[(3,⟨#[114,101,116,117,114,110]⟩)]:=by rw[cK jl,z,h0];rfl
     rw[ht];exact(xh<|Kq z bm cm h0 _).mono O fun _ h=>h
    ·have ht:(aF T).st=(3,⟨#[114,101,116,117,114,110]⟩)::(aF<|T.f 0).ex 1:=by rw[cK jl,z,h1];rfl
     rw[ht];exact(xh<|Ko z bm cm h1 he _<|hex 0 O he).mono O fun _ h=>h.stop.1
   ·obtain⟨h1,he⟩:=dq (.inr<|.inr<|.inr<|.inl z) hs;obtain⟨cm,bm⟩:=pA O hs;have ht:(aF T).st=(3,⟨#[103,111]⟩)::(aF<|T.f 0).ex 1:=by rw[cK jl,z];rfl
    rw[ht];exact(ZD<|yq J z bm cm h1 (SD (.inl z) hs) _<|hex 0 O he).mono O fun _ h=>h.stop.1
   ·obtain⟨h1,he⟩:=dq (.inr<|.inr<|.inr<|.inr<|.inl z) hs;obtain⟨cm,bm⟩:=pA O hs;have ht:(aF T).st=(3,⟨#[100,101,102,101,114]⟩)::(aF<|T.f 0).ex 1:=by rw[cK jl,z];rfl
    rw[ht];exact(J6<|yq J z bm cm h1 (SD (.inr z) hs) _<|hex 0 O he).mono O fun _ h=>h.stop.1
   ·obtain⟨cm,bm⟩:=pA O hs;have ht:(aF T).st=(3,⟨#[115,101,108,101,99,116]⟩)::(4,⟨#[123]⟩)::(dr (fun i=>(aF<|T.f i).cs) 0 T.q++[(4,⟨#[125]⟩)]):=by rw[cK jl,z];rfl
    rw[ht];exact(GH<|zE (need:=2*T.ak-2) z bm cm O _ (xi z hs) fun i hi=>((aZ i hi).cl<|xi z hs i hi).mono aaO fun _ h=>h).mono O fun _ _=>trivial
   ·obtain⟨cm,bm⟩:=pA O hs;have ht:(aF T).st=[(3,⟨#[98,114,101,97,107]⟩)]:=by rw[cK jl,z];rfl
    rw[ht];exact(J8<|Ev J z bm cm (mx (.inr<|.inl z) hs) _).mono O fun _ _=>trivial
   ·obtain⟨cm,bm⟩:=pA O hs;have ht:(aF T).st=[(3,⟨#[99,111,110,116,105,110,117,101]⟩)]:=by rw[cK jl,z];rfl
    rw[ht];exact(AA<|Ev J z bm cm (mx (.inr<|.inr z) hs) _).mono O fun _ _=>trivial
   ·obtain⟨h1,he⟩:=dq (.inr<|.inr<|.inr<|.inr<|.inr<|.inl z) hs;obtain⟨cm,bm⟩:=pA O hs;have ht:(aF T).st=(3,⟨#[99,108,111,115,101]⟩)::fr true ((aF<|T.f 0).ex 1):=by rw[cK jl,z];rfl
    rw[ht];exact(J7<|ui J z bm cm h1 _<|VV he aaG<|hh 0 O).mono lr fun _ _=>trivial
   ·obtain⟨h1,he⟩:=dq (.inr<|.inr<|.inr<|.inr<|.inr<|.inr<|.inl z) hs;obtain⟨cm,bm⟩:=pA O hs;have ht:(aF T).st=(3,⟨#[112,114,105,110,116]⟩)::fr true ((aF<|T.f 0).ex 1):=by rw[cK jl,z];rfl
    rw[ht];exact(J1<|ui J z bm cm h1 _<|VV he aaG<|hh 0 O).mono lr fun _ _=>trivial
   ·obtain⟨h1,he⟩:=dq (.inr<|.inr<|.inr<|.inr<|.inr<|.inr<|.inr z) hs;obtain⟨cm,bm⟩:=pA O hs;have ht:(aF T).st=(3,⟨#[112,97,110,105,99]⟩)::fr true ((aF<|T.f 0).ex 1):=by rw[cK jl,z];rfl
    rw[ht];exact(J2<|ui J z bm cm h1 _<|VV he aaG<|hh 0 O).mono lr fun _ _=>trivial
  ·obtain⟨z,hf,eA,mi⟩:=ym hc;have cm:=TK hc;have hl:1<=T.q:=O;obtain⟨V7,aR⟩:=pA (T:=T.f<|T.q-1) O mi;have ba:yt (T.f<|T.q-1) (2*T.ak):=fun pb axf op w ho hL y=>(aZ (T.q-1) O).ad eA mi pb axf op w (by have:=hh (T.q-1) O;omega) hL y;have q8:(aF T).cs=lW T.E T.z (fun i=>aF<|T.f i)++(4,⟨#[58]⟩)::(aF<|T.f<|T.q-1).ad:=yG O;have hrv:∀{X:Nd},X.Q=true->X.size+1<=T.size->X.ak+1<=T.ak->T.f 0=X->RD0 180 ((aF<|fY T).ex 1) (fY T) (2*T.ak) (eX 1):=fun he hz hg hX=>by
    have e1:(fY T).Q=true:=by unfold fY;rw[hX];exact vf he
    have e2:(fY T).size<=600:=by show 1+aq (fun _=>(T.f 0).size) 1<=600;rw[hX];simp only[aq];omega
    have e3:(fY T).ak<=T.ak:=by show 1+nA (fun _=>(T.f 0).ak) 1<=T.ak;rw[hX];simp only[nA];omega
    exact(pP e1 e2).mono O fun _ h=>h
   have o5:∀{axe:List KT},(∃X,axe=(4,⟨#[58]⟩)::X)->eX 1 axe/\eG axe≠⟨#[60,45]⟩/\¬rL (eG axe):=by
    rintro axe⟨X,rfl⟩;exact⟨gL J J,by show(⟨#[58]⟩:ByteArray)≠_;decide,by rintro(h|h|h|h)<;>exact absurd (show(⟨#[58]⟩:ByteArray)=_ from h) J⟩
   rcases hf with⟨hn,h1⟩|⟨hn,h2,fz⟩|⟨hn,h3,fz,mZ⟩
   ·rw[h1]at ba eA aR V7 q8;have VL:T.z=⟨#[]⟩:=by rcases cm with h|⟨h,_⟩;exact h;omega
    rw[q8,hn];exact(MF z hn VL h1 ⟨eA,aR,V7⟩ ba).mono lr fun _ h=>h
   ·rw[h2]at ba eA aR V7 q8;rw[q8,hn];have sN:=T.a6 (i:=0) O;have hR:=hrv fz sN (hh 0 O) rfl;by_cases hem:T.z=⟨#[]⟩
    ·have e1:lW 1 T.z (fun i=>aF<|T.f i)++(4,⟨#[58]⟩)::(aF<|T.f<|2-1).ad=(3,⟨#[99,97,115,101]⟩)::(((4,⟨#[60,45]⟩)::(aF<|T.f 0).ex 6)++(4,⟨#[58]⟩)::(aF<|T.f 1).ad):=by rw[hem];rfl
     rw[e1];exact B8 z hn _ (fun pb axe op W ho hM hW=>by rw[hem];exact Qi fz hR pb axe op W ho (o5 hM) hW) h2 ⟨eA,aR,V7⟩ ba
    ·have hN:aK T.z=true:=by rcases cm with h|⟨_,h⟩;exact absurd h hem;exact h
     have bY:T.z.data.toList≠[]:=fun e2=>hem<|dx e2;have e1:lW 1 T.z (fun i=>aF<|T.f i)++(4,⟨#[58]⟩)::(aF<|T.f<|2-1).ad=(3,⟨#[99,97,115,101]⟩)::(((1,T.z)::(4,⟨#[58,61]⟩)::(4,⟨#[60,45]⟩)::(aF<|T.f 0).ex 6)++(4,⟨#[58]⟩)::(aF<|T.f 1).ad):=by simp[lW,bY]
     rw[e1];exact B8 z hn _ (fun pb axe op W ho hM hW=>Qh hN hR pb axe op W ho (o5 hM).1 hW) h2 ⟨eA,aR,V7⟩ ba
   ·rw[h3]at ba eA aR V7 q8;have VL:T.z=⟨#[]⟩:=by rcases cm with h|⟨h,_⟩;exact h;omega
    rw[q8,hn];have e1:lW 2 T.z (fun i=>aF<|T.f i)++(4,⟨#[58]⟩)::(aF<|T.f<|3-1).ad=(3,⟨#[99,97,115,101]⟩)::(((aF<|T.f 0).ex 1++(4,⟨#[60,45]⟩)::(aF<|T.f 1).ex 1)++(4,⟨#[58]⟩)::(aF<|T.f 2).ad):=rfl;rw[e1];exact ME z hn _ (fun pb axe op W ho hM hW=>by rw[VL];exact VZ fz ((hex 0 O fz).mono (show _<=2*T.ak by omega) fun _ h=>h) ((hex 1 O mZ).mono (show _<=2*T.ak by omega) fun _ h=>h) pb axe op W ho (o5 hM).1 (by simpa using hW)) h3 ⟨eA,aR,V7⟩ ba
theorem NB.f (h:NB pb b B w W axf op k n s T 0 none 0)(z:Kds W.heap.size T j (.slice a j c) V)(hm:Mv pb axe op W V):NB pb b W.heap.size w (V.setCell ⟨b,3,none⟩<|.slice a j c) axe op k n s T j a c:=by have h2:=h.mv hm;have ew:=h.low;have Hs:=h.pw.low;have sP:=(avp.1 h.av).1;have hz:=hm.kp.size;exact⟨h2.pw.put b 3 _ ew.2,h2.ps.put b 3 _ O,(avD _ _ 3 _ 25 _ h2.av).trans rfl,(KX.of z sP).put,⟨by have:=h.pw.size;omega,ew.2⟩,by simp[World.setCell];omega⟩
theorem NB.E (h:NB pb b B w W axf op k n s T j a c)(n':Int):NB pb b B w (W.setCell ⟨b,1,none⟩<|.int .i64 n') axf op k n' s T j a c:=by have ew:=h.low;have Hs:=h.pw.low;exact⟨h.pw.put b 1 _ ew.2,h.ps.put b 1 _ O,(avD _ _ 1 _ 25 _ h.av).trans rfl,h.kx.put,ew,by have:=h.up;simp[World.setCell];omega⟩
theorem Qr (ax:b6 T=true)(hlen:T.q<=1000)(h:RD0 80 (aF<|T.f<|T.q-1).st (T.f<|T.q-1) need (fun _=>True)):RD0 42 (lZ T) T need (fun _=>True):=by
  intro pb axf op w ho hC CA;obtain⟨z,cm,bm,hl,YK,eA,mi⟩:=Fj ax;obtain⟨m,hm⟩:∃m,T.q=m+1:=⟨T.q-1,O⟩;rw[hm,av1]at h YK eA mi;have y:PS pb ((3,⟨#[102,117,110,99]⟩)::(1,T.z)::(4,⟨#[40]⟩)::(dr (jF fun i=>rZ<|T.f i) 0 m++(4,⟨#[41]⟩)::(nn T.E++((aF<|T.f m).st++axf)))) op w:=by
    have:=CA;unfold lZ at this;rw[hm,av1]at this;simpa using this
  have HN0:=Z (fZ pb _ _ op ⟨#[102,117,110,99]⟩ (w.alloc aN) rfl (y.alloc _));have HP:=Z (PW.start y.lt);have HLi:=Z (fun W hW=>xC 77 Q0 T m 0 (fun i=>rZ (T.f i)) O (fun i hi=>Pv (YK i hi).1 (YK i hi).2.2.1 (YK i hi).2.2.2) (fun i hi=>⟨(1,(T.f i).z),_,rfl,by
    have:=(YK i hi).2.1
    intro e
    rw[show((1,(T.f i).z):KT).2=(T.f i).z from rfl]at e
    rw[e]at this;exact absurd this J⟩) pb (nn T.E++((aF (T.f m)).st++axf)) op W O hW)
  have HX:=Z fun W hW=>h pb axf op W ho trivial hW;have ba:eG ((aF<|T.f m).st++axf)=⟨#[123]⟩:=by rw[cK O,eA];rfl
  have sT:=Z fun axe W(hW:PS pb axe op W)=>dG pb axe op ⟨#[123]⟩ W hW;have X9:=Z fun(hn:1<=T.E/\T.E<=3)W hW=>wV hn pb ((aF<|T.f m).st++axf) op W hW;have HF:Hid (T.y=2/\T.q=m+1):=⟨z,hm⟩;have ew:=y.lt;have di:=pJ;have CD:m<=1000:=O;generalize hs:T.z=s at*
  unfold aN at HN0;clear h y CA ho hC ax hlen z cm hl YK eA mi hm;go_enter func42,ntmps42
  go_wp2_with fail
  refine HN0.o.mono ?_;rintro e w1⟨⟨r0,rfl⟩,pK⟩;have gG:=Z<|HP.o.step pK.kp;have zT:=Z<|kB pb _ _ op w1 pK.ps;clear pK HN0 HP;go_wp2_with fail
  refine zT.o.mono ?_;rintro e w2⟨rfl,pK⟩;have oe:=Z<|NB.start 2 0 s T (gG.o.step pK.kp) pK.ps;have yu:=Z<|fZ pb _ _ op ⟨#[40]⟩ _ rfl oe.o.ps;clear pK zT gG;go_wp2_with fail
  refine yu.o.mono ?_;rintro e w3⟨⟨r2,rfl⟩,pK⟩;have kV:=Z<|oe.o.mv pK;have HL3:=Z<|HLi.o w3 pK.ps;clear pK yu oe HLi;go_wp2_with fail
  refine HL3.o.mono ?_;rintro e w4⟨v,rfl,j5,pK⟩;obtain⟨va,vc,rfl⟩:=j5.shape;have Aj:=Z<|kV.o.f j5 pK;obtain⟨n0,n1,n2,n3,nf⟩:=al (kV.o.mv pK).av;have HT5:=Z<|fZ pb _ _ op ⟨#[41]⟩ _ rfl Aj.o.ps;clear j5 pK HL3 kV;generalize w3.heap.size=B3 at*
  go_wp2_with fail
  refine HT5.o.mono ?_;rintro e w6⟨⟨r5,rfl⟩,pK⟩;have Co:=Z<|Aj.o.mv pK;clear pK HT5 Aj n0 n1 n2 n3 nf;generalize w2.heap.size=b at*
  by_cases hz:T.E=0
  · have FI:Hid (NB pb b B3 w w6 ((aF<|T.f m).st++axf) op 2 0 s T m va vc):=by have:=Co.o;rw[hz]at this;exact this
    have yv:=Z<|sT.o _ w6 FI.o.ps;rw[avR ba]at yv;clear Co sT X9 ba;go_wp2_with fail
    refine yv.o.mono ?_;rintro e w8⟨rfl,I⟩;have Yn:=Z<|FI.o.calm I;clear I yv FI;have mm:=Z Yn.o.drew;have mj:=Z<|HX.o w8.drew mm.o.ps;obtain⟨n0,n1,n2,n3,nf,z0,z1,z2,z3,zf⟩:=Yn.o.cells;have HZ:=Z hz;clear HX hz;go_wp2_with fail
    go_region_law(first
      | (go_simp
         refine mj.o.mono ?_
         rintro e w9⟨a6,c6,rfl,hg⟩
         obtain⟨a',c',W',iq⟩:=mm.o.app O hg rfl rfl rfl rfl
         obtain⟨q1,q2,q3,q4⟩:=iq.c3
         have HR:=Z iq.run
         unfold Nd.val)
      | (refine dm aan _ _ 23 aan _ _ _ _ aan aan HR.o ?_))
    all_goals(
      have Ym:=Z iq.nb
      clear hg iq q1 q2 q3 q4 HR mj mm Yn n0 n1 n2 n3 nf z0 z1 z2 z3 zf
      generalize W'.setCell ⟨b,3,none⟩ (.slice a' (m+1) c')=w10 at*
      obtain⟨n0,n1,n2,n3,nf,z0,z1,z2,z3,zf⟩:=Ym.o.cells
      go_wp2
      exact avr (Ym.o.pw.read results42 rfl 2 0 s (.slice a' (m+1) c')) rfl (Ym.o.fin HF.o.1 HZ.o hs HF.o.2))
  · have bY:eG (nn T.E++((aF<|T.f m).st++axf))≠⟨#[123]⟩:=by
      rcases(O:T.E=1\/T.E=2\/T.E=3)with e|e|e<;>rw[e]
      · show(⟨#[105,110,116]⟩:ByteArray)≠_;decide
      · show(⟨#[98,111,111,108]⟩:ByteArray)≠_;decide
      · show(⟨#[99,104,97,110]⟩:ByteArray)≠_;decide
    have yv:=Z<|sT.o _ w6 Co.o.ps;rw[avP bY]at yv;have HT7:=Z fun W hW=>X9.o O W hW;clear sT X9 ba bY;go_wp2_with fail
    refine yv.o.mono ?_;rintro e w7⟨rfl,I⟩;have FI:=Z<|Co.o.calm I;have HT8:=Z<|HT7.o w7 FI.o.ps;clear I yv Co HT7;go_wp2_with fail
    refine HT8.o.mono ?_;rintro e w8⟨rfl,pK⟩;have Yn:=Z<|FI.o.mv pK;have Ym:=Z<|Yn.o.E T.E;obtain⟨n0,n1,n2,n3,nf,z0,z1,z2,z3,zf⟩:=Yn.o.cells;clear pK HT8 FI Yn;generalize Bn:T.E=n at*
    go_upto_region 8 with fail
    generalize w8.setCell ⟨b,1,none⟩ (.int .i64 n)=w9 at*
    clear n0 n1 n2 n3 nf z0 z1 z2 z3 zf;have mm:=Z Ym.o.drew;have mj:=Z<|HX.o w9.drew mm.o.ps;obtain⟨n0,n1,n2,n3,nf,z0,z1,z2,z3,zf⟩:=Ym.o.cells;clear HX;go_wp2_with fail
    go_region_law(first
      | (go_simp
         refine mj.o.mono ?_
         rintro e w11⟨a6,c6,rfl,hg⟩
         obtain⟨a',c',W',iq⟩:=mm.o.app O hg rfl rfl rfl rfl
         obtain⟨q1,q2,q3,q4⟩:=iq.c3
         have HR:=Z iq.run
         unfold Nd.val)
      | (refine dm aan _ _ 23 aan _ _ _ _ aan aan HR.o ?_))
    all_goals(
      have Yo:=Z iq.nb
      clear hg iq q1 q2 q3 q4 HR mj mm Ym n0 n1 n2 n3 nf z0 z1 z2 z3 zf
      generalize W'.setCell ⟨b,3,none⟩ (.slice a' (m+1) c')=w12 at*
      obtain⟨n0,n1,n2,n3,nf,z0,z1,z2,z3,zf⟩:=Yo.o.cells
      go_wp2
      exact avr (Yo.o.pw.read results42 rfl 2 n s (.slice a' (m+1) c')) rfl (Yo.o.fin HF.o.1 Bn hs HF.o.2))
theorem Ww (args:Array Value)(W:World):(callFunc 41 args).run prog W=.ok (.enter 41 args) W:=by kernel_rfl
theorem Wv (args:Array Value)(W:World):(callFunc 42 args).run prog W=.ok (.enter 42 args) W:=by kernel_rfl
theorem Ax (h:cJ T=true):T.size<=600/\T.y=1/\T.E=0/\T.z=⟨#[]⟩/\∀i,i<T.q->b6 (T.f i)=true:=by unfold cJ at h;simp only[avw,avy]at h;exact⟨h.1.1.1.1,h.1.1.1.2,h.1.1.2,jc h.1.2,bj.1 h.2⟩
theorem QB (h:cJ T=true)(hg:T.ak<=29)(pb:Nat)(w:World)(y:PS pb (BN T) 0 w):
    Calls prog 17 #[.pointer<|some ⟨pb,0,none⟩] w fun e w'=>∃a c,e=.returned (T.val<|.slice a T.q c)/\NG pb [] 0 w T (.slice a T.q c) w':=by
  obtain⟨cg,z,hn,hm,hF⟩:=Ax h;have hlen:=ux T;have LZ:∀i,i<T.q->RD0 42 (lZ<|T.f i) (T.f i) 58 (fun _=>True):=fun i hi=>by
    obtain⟨_,_,_,hl,_,eA,mi⟩:=Fj<|hF i hi;have s1:=T.a6 hi;have g1:=T.aZ hi;have s2:=(T.f i).a6 (i:=(T.f i).q-1) O;have g2:=(T.f i).aZ (i:=(T.f i).q-1) O;have LQ:=ux<|T.f i;exact Qr (hF i hi) O<|((all_s _ _ lr O).av eA mi).mono O fun _ h=>h
  have mC:PS pb (dr (iO fun i=>lZ<|T.f i) 0 T.q++[]) 0 w:=by rw[awG];exact y
  have HE:=Z (BR 41 42 Ww Wv List.isEmpty T T.q 58 (fun i=>lZ (T.f i)) O pb [] 0 (fun axe W hW=>yr pb axe 0 W hW) (fun i hi axe W hW=>LZ i hi pb _ 0 W O trivial hW)
    (fun i hi axe=>⟨rfl,rfl⟩) (fun axe=>rfl) ⟨rfl,rfl⟩ (w.alloc aN) (mC.alloc _))
  have HP:=Z<|PW.start y.lt;have HF:Hid (T.y=1/\T.E=0/\T.z=⟨#[]⟩):=⟨z,hn,hm⟩;unfold aN at HE;clear LZ y mC hF h z hn hm;go_enter func17,ntmps17
  go_wp2_with fail
  refine HE.o.mono ?_;rintro e w1⟨v,rfl,j5,pK⟩;obtain⟨va,vc,rfl⟩:=j5.shape;have gG:=Z<|HP.o.step pK.kp;have cY:=Z pK.ps;obtain⟨z0,z1,z2,z3,zf⟩:=aP gG.o.av;have rQ:=Z<|j5.row (lo:=w.heap.size+1) M;clear j5 pK HE HP;go_wp2;exact avr (gG.o.read results17 rfl 1 0 ⟨#[]⟩<|.slice va T.q vc) rfl<|gG.o.done cY.o rQ.o HF.o.1 HF.o.2.1 HF.o.2.2 rfl
theorem U8 {ts:List Tok}{en:Int}(h:w.ownsRow B 85 3 (.slice a ts.length c) ts.length (flat ts))(hL:ts.map (fun t=>(t.y,t.text))=axf)(hc:axf.length<=4000):
  PS w.heap.size axf 0 (w.alloc<|.cells #[.slice a ts.length c,.int .i64 0,.int .i64 en,.int .i64 0,.int .i64 0,.int .i64 0] 51):=by
 have I:=bO w<|.cells #[.slice a ts.length c,.int .i64 0,.int .i64 en,.int .i64 0,.int .i64 0,.int .i64 0] 51;have h':=GY h I;have hlen:ts.length<=4000:=by rw[<-hL,length_map]at hc;exact hc
 refine⟨ts,0,en,a,c,⟨avv w _,hlen,avL _,avL _,?_⟩,hL⟩;by_cases h0:ts.length=0
 ·exact .inl h0
 ·obtain⟨g,rfl⟩:=KC h h0;exact .inr ⟨g,rfl,(h.lt g rfl).2,fun i hi=>BG h' i hi⟩
theorem C9 (I:W.heap[b]?=some aN){fn:Func}{r i:Nat}(qJ:fn.results=#[.cell r 25,.tmp i,.tmp j]){tmps:Array Value}(ht:tmps[r]?.getD undef=.pointer (some ⟨b,0,none⟩))(hi:tmps[i]?.getD undef=.int .i64 0)(hj:tmps[j]?.getD undef=.int .i64 0)(k n:Int)(s:ByteArray)(u:Value):
  (results fn tmps).run prog (dn W b k n s u)=.ok (.tuple #[.agg #[.int .i64 k,.int .i64 n,.string s,u],.int .i64 0,.int .i64 0]) (dn W b k n s u):=by
 obtain⟨f0,f1,f2,f3,_⟩:=aP I;obtain⟨p0,p1,p2,p3⟩:=pC W b k n s u f0 f1 f2 f3;have hl:=La b _ _ _ _ _ p0 p1 p2 p3;unfold results;rw[qJ];simp[asAddr,ht,hl,hi,hj]
theorem KA (h:cJ T=true)(hg:T.ak<=29)(hl:(eL T).length<=60000)(hf:T.R)(hc:T.cost<=1048576)(w:World)(h2:4<w.heap.size)(hw:bX w 4 bd)(hs:bX w 3 dI):
  Calls prog 7 #[.string<|cP<|eL T] w fun e w'=>∃a c,e=.returned (.tuple #[T.val<|.slice a T.q c,.int .i64 0,.int .i64 0])/\Row w.heap.size w'.heap.size w' T (.slice a T.q c)/\Below w.heap.size w w':=by
 have dC:=Z<|bO w aN;have HT:=Z<|Bd (cP<|eL T) (w.alloc aN) (by show(eL T).toArray.size<=65536;simp;omega) aah (dJ hw dC.o O)<|dJ hs dC.o O;have cg:T.size<=600:=(Ax h).1;have HA:=Z<|Mo h;have HC:=Z<|BL h;have HF:=Z fun pb W=>QB h hg pb W;unfold aN at HT;clear h hw hs;go_enter func7,ntmps7
 go_wp2_with fail
 refine HT.o.mono ?_;rintro e w1⟨o,v,ho,rfl,fM,I⟩;obtain⟨ts,hts,hmap⟩:=HA.o;obtain rfl:=Cc ho hts;obtain⟨av,cv,rfl⟩:=pD fM;dsimp only;go_wp2_with fail
 have HP:=Z<|U8 (en:=((cP<|eL T).size:Int)) fM hmap HC.o;refine(HF.o _ _ HP.o).mono ?_;rintro e w2⟨a,c,rfl,Qe⟩;have HG:=Z Qe;obtain⟨tz,nz,ez,lz,cz,hpz,_⟩:=Qe.ps;have z:=Qe.kp.size;have q4:w2.cell? ⟨w1.heap.size,4,none⟩=some (.int .i64 0):=by rw[avS _ _ _ _ _ (0,0) hpz.av];rfl
 have be:=hpz.lt;clear Qe hpz;unfold Nd.val;go_wp2_with fail
 have hb3:=bO w2<|nO T<|.slice a T.q c;refine(Hh T _ (.slice a T.q c) hf (aY (ah hb3 lr HG.o.row) (avL _) hb3.size) hc).mono ?_;rintro e w4⟨rfl,eA⟩;have EV:w4.heap[w2.heap.size]?=some (nO T<|.slice a T.q c):=(eA.block _ M).trans<|avv w2 _;have bz:=I.size;simp only[avs]at bz z;have mT:w4.heap[w.heap.size]?=some aN:=by
  refine(eA.block _ aah).trans<|(hb3.block _ O).trans<|(HG.o.kp.block _ aah O).trans ?_;refine((bO w1 _).block _ O).trans<|(I.block _ M).trans ?_;exact avv w _
 obtain⟨z0,z1,z2,z3,zf⟩:=aP mT;have axd:∀o,w4.cell? ⟨w2.heap.size,o,none⟩=(#[Value.int .i64 T.y,.int .i64 T.E,.string T.z,.slice a T.q c])[o]?:=fun o=>avS _ _ _ _ _ (0,0) EV;have y0:w4.cell? ⟨w2.heap.size,0,none⟩=some (.int .i64 T.y):=axd 0;have y1:w4.cell? ⟨w2.heap.size,1,none⟩=some (.int .i64 T.E):=axd 1;have y2:w4.cell? ⟨w2.heap.size,2,none⟩=some (.string T.z):=axd 2;have y3:w4.cell? ⟨w2.heap.size,3,none⟩=some (.slice a T.q c):=axd 3;have hgt:decide ((600:Int)<(T.size:Int))=false:=by simp;omega
 clear axd;go_wp2_with fail
 refine avr (C9 mT results7 rfl rfl rfl T.y T.E T.z<|.slice a T.q c) rfl ⟨a,c,rfl,?_,ue ?_ _ _ _ _⟩
 ·have hsz2:(dn w4 w.heap.size T.y T.E T.z<|.slice a T.q c).heap.size=w4.heap.size:=by simp[dn,World.setCell]
  have hh:=eA.size;simp only[avs]at hh;have hr:Row (w1.heap.size+1) w2.heap.size (dn w4 w.heap.size T.y T.E T.z<|.slice a T.q c) T (.slice a T.q c):=by
   have dR:=HG.o.row;rw[avs]at dR;refine cL lr lr (fun g o x axd=>?_) dR;have bY:g≠w.heap.size:=O;refine avt (a:=⟨g,o,none⟩) ?_;show(dn w4 w.heap.size T.y T.E T.z<|.slice a T.q c).heap[g]?=w2.heap[g]?;unfold dn;rw[avz _ _ _ _ bY,avz _ _ _ _ bY,avz _ _ _ _ bY,avz _ _ _ _ bY];exact(eA.block _ aah).trans<|hb3.block _ axd
  exact aY hr O (by have e:(dn w4 w.heap.size T.y T.E T.z<|.slice a T.q c).heap.size=w4.heap.size:=hsz2;show w2.heap.size<=(dn w4 w.heap.size T.y T.E T.z<|.slice a T.q c).heap.size;omega)
 ·refine⟨eA.1.trans<|HG.o.kp.1.trans I.1,eA.2.trans<|HG.o.kp.2.trans I.2,eA.3.trans<|HG.o.kp.3.trans I.3,by have:=eA.size;simp at this;omega,fun k ig=>?_⟩;refine(eA.block _ aah).trans<|(hb3.block _ O).trans<|(HG.o.kp.block _ aah O).trans ?_;exact((bO w1 _).block _ O).trans<|(I.block _ aah).trans<|dC.o.block _ ig
end Go.Proofs.YtgcmhaghebhjnaaGreatDoor
