import Derived.Test.YtgcmhaghebhjnaaGreatDoorProg
import Derived.ProofKit
import Derived.Deep.MidRow
import Derived.WalkSpells
import Derived.WalkSmall
import Derived.Deep.RegionWith
import Derived.Deep.Slices
import Derived.OpenVars
import Derived.Lib.LaidTab
set_option linter.unusedVariables false
set_option linter.defProp false
set_option maxHeartbeats 16000000
set_option maxRecDepth 100000
namespace Go.RowKit
theorem Hid.o {p:Prop}(h:Hid p):p:=h
end Go.RowKit
namespace Go.Proofs.YtgcmhaghebhjnaaGreatDoor
open Go.RowKit Tryz List
variable {B SO b fuel g hi i ir k lo n:Nat} {H:Type} {P:Program} {W w w':World} {a:Addr} {cs:Array Value} {e:TypeId} {held:Bool} {name:String} {p sp:Nat->Bool} {s t:ByteArray} {ss zs:List ByteArray}
def avo := @if_neg
def avp := @Array.getElem?_eq_some_iff
def avq := @Option.some.inj
def avr := @bodyPost_ret
def avs := @World.size_alloc
def avt := @World.cell?_of_block
def avu := @length_append
def avv := @heap_alloc_new
def avw := @Bool.and_eq_true
def avx := @ByteArray.toList_eq
def avy := @decide_eq_true_eq
def avz := @Below.heap_setCell
def avA := @if_pos
def avB := @Below.refl
def avC := @Array.getD_eq_getD_getElem?
def avD := @heap_setCell_same
def avE := @all_eq_true
def avF := @Nat.le_refl
def avG := @mem_range
def avH := @beq_eq_false_iff_ne
def avI := @Below.heap_alloc
def avJ := @Nat.not_lt_zero
def avK := @Nat.le_trans
def avL := @Nat.zero_le
def avM := @List.append_assoc
def avN := @Bool.eq_iff_iff
def avO := @List.getElem?_append_right
def avP := @decide_eq_false
def avQ := @Nat.mul_le_mul_right
def avR := @decide_eq_true
def avS := @cell_of_row
def avT := @callsIn_wide
def avU := @List.getElem?_append_left
def avV := @beq_iff_eq
def avW := @Array.getElem?_setIfInBounds
def avX := @getD_eq_getElem?_getD
def avY := @eq_nil_of_length_eq_zero
def avZ := @mem_cons
def av0 := @info_parts
def av1 := @Nat.add_sub_cancel
def av2 := @Bool.or_eq_true
def av3 := @frozen_of_row
def av4 := @List.getElem?_eq_getElem
def av5 := @decide_eq_false_iff_not
def av6 := @not_mem_nil
def av7 := @ownsRow_setCell_below
def av8 := @Nat.le_succ
def av9 := @Nat.add_assoc
def awa := @World.ownsRow_nil
def awb := @mem_append
def awc := @mem_singleton
def awd := @drop_succ_cons
def awe := @take_of_length_le
def awf := @length_drop
def awg := @Nat.one_mul
def awh := @below_drewN
def awi := @Array.replicate_zero
def awj := @Array.replicate_succ
def awk := @length_eq_zero_iff
def awl := @append_toArray
def awm := @Nat.lt_succ_self
def awn := @Option.map_eq_some_iff
def awo := @size_toArray
def awp := @push_toArray
def awq := @List.getElem?_map
def awr := @Sem.run_bind
def aws := @Oper.semAt_some
def awt := @drop_eq_nil_iff
def awu := @List.getElem?_eq_some_iff
def awv := @drop_zero
def aww := @Classical.byContradiction
def awx := @Array.getElem?_eq_getElem
def awy := @Option.getD_some
def awz := @bne_iff_ne
def awA := @Nat.mod_lt
def awB := @Nat.lt_of_lt_of_le
def awC := @mem_cons_self
def awD := @map_cons
def awE := @map_append
def awF := @length_set
def awG := @append_nil
def awH := @Bool.false_eq_true
def awI := @take_succ_eq_append_getElem
def awJ := @World.block_lt_of_cell?
def awK := @takeWhile_sublist
def awL := @Array.getElem?_eq_none
def awM := @Option.some.injEq
def awN := @Bool.not_eq_true'
def awO := @Nat.sub_self
def awP := @map_nil
def awQ := @length_replicate
def awR := @Result.andThen_ok
def awS := @map_toArray
def awT := @Nat.min_eq_left
def awU := @Nat.add_mul
def awV := @range_succ
def awW := @flatMap_append
def awX := @Array.getElem?_append_left
def awY := @or_false
def awZ := @Nat.lt_or_ge
def aw0 := @Bool.false_ne_true
def aw1 := @drop_eq_getElem_cons
def aw2 := @Bool.false_and
def aw3 := @of_decide_eq_true
def aw4 := @funext
def aw5 := @flatMap_cons
def aw6 := @Exit.noGoto_normal
def aw7 := @Array.size_setIfInBounds
def aw8 := @Array.getElem?_replicate
theorem aan {G:Prop}(h:G:=by rfl):G:=h
theorem M {G:Prop}(h:G:=by simp):G:=h
theorem O {G:Prop}(h:G:=by omega):G:=h
theorem J {G:Prop}(h:G:=by decide):G:=h
theorem abg {G:Prop}(h:G:=by trivial):G:=h
theorem aal {G:Prop}(h:G:=by simp[dN]):G:=h
theorem aaf {G:Prop}(h:G:=by kernel_rfl):G:=h
theorem aah {G:Prop}(h:G:=by simp;omega):G:=h
theorem aaJ {G:Prop}(h:G:=by simpa using z):G:=h
theorem aaK {G:Prop}(h:G:=by rw[cO];omega):G:=h
theorem aa0 {G:Prop}(h:G:=by simpa using hj):G:=h
theorem aa1 {G:Prop}(h:G:=by rw[cg];omega):G:=h
theorem aa2 {G:Prop}(h:G:=by rw[bH];omega):G:=h
theorem abe {G:Prop}(h:G:=by simp at ed;omega):G:=h
theorem abf {G:Prop}(h:G:=by simp[cG,hl,hd]):G:=h
theorem aaR {G:Prop}(h:G:=by show i≠b;exact h):G:=h
theorem abl {G:Prop}(h:G:=by rw[h4.2 ⟨rfl,hm⟩]):G:=h
theorem aaj {G:Prop}(h:G:=by unfold maxLen;omega):G:=h
theorem aaU {G:Prop}(h:G:=by simp[World.setCell]):G:=h
theorem aaX {G:Prop}(h:G:=by have:=ab.lt;omega):G:=h
theorem aaS {G:Prop}(h:G:=by have:=h.size;omega):G:=h
theorem aaT {G:Prop}(h:G:=by have:=Y3.o;omega):G:=h
theorem aaz {G:Prop}(h:G:=by have:=I.size;omega):G:=h
theorem aaO {G:Prop}(h:G:=by have:=hh i hi;omega):G:=h
theorem aaA {G:Prop}(h:G:=by simpa[ay]using HP.o):G:=h
theorem abm {G:Prop}(h:G:=by have:=hb3.size;omega):G:=h
theorem aaq {G:Prop}(h:G:=by rw[bH];show 0<=_;omega):G:=h
theorem aar {G:Prop}(h:G:=by show w.heap.size<_;omega):G:=h
theorem aba {G:Prop}(h:G:=by simpa[ay,dN]using HP.o):G:=h
theorem abb {G:Prop}(h:G:=by have:=HB.o;simp;omega):G:=h
theorem aav {G:Prop}(h:G:=by rw[length_tail];omega):G:=h
theorem aaI {G:Prop}(h:G:=by first|(simp;omega)|simp):G:=h
theorem aa5 {G:Prop}(h:G:=by rw[fG];exact avF _):G:=h
theorem aa6 {G:Prop}(h:G:=by rw[avs];omega):G:=h
theorem aa7 {G:Prop}(h:G:=by have:=iS.o.src.lt;omega):G:=h
theorem aa3 {G:Prop}(h:G:=by have:=hS.ok.cl;simp;omega):G:=h
theorem aaV {G:Prop}(h:G:=by rw[avs];exact z):G:=h
theorem aaW {G:Prop}(h:G:=by rw[HX.o];simpa using HP.o):G:=h
theorem aaE {G:Prop}(h:G:=by injection h with h;subst h;rfl):G:=h
theorem aap {G:Prop}(h:G:=by simp[Value.ownBlock]at hg;omega):G:=h
theorem aag {G:Prop}(h:G:=by have:=HB.o;simp at this⊢;omega):G:=h
theorem aaw {G:Prop}(h:G:=by have:=gi.o;simp at this⊢;omega):G:=h
theorem aaN {G:Prop}(h:G:=by intro u hu;simp at hu;subst hu;rfl):G:=h
theorem aaL {G:Prop}(h:G:=by have:=h.pw.low;have:=h.low;omega):G:=h
theorem aaM {G:Prop}(h:G:=by have:=Y4.o;simpa[key]using this):G:=h
theorem aao {G:Prop}(h:G:=by show w.heap.size<=w.heap.size+1;omega):G:=h
theorem aad {G:Prop}(h:G:=by have:=HB.o;simp[dN]at this⊢;omega):G:=h
theorem aat {G:Prop}(h:G:=by have:=HB.o;simp[bB]at this⊢;omega):G:=h
theorem aas {G:Prop}(h:G:=by show w.heap.size<=w.heap.size+1+1;omega):G:=h
theorem aaG {G:Prop}(h:G:=by have:=T.a6 (i:=0) (by omega);omega):G:=h
theorem aai {G:Prop}(h:G:=by have:=HB.o;simp[aS,bB]at this⊢;omega):G:=h
theorem aay {G:Prop}(h:G:=by simp[results,results70,go_sem,ko,hc]):G:=h
theorem aaF {G:Prop}(h:G:=by have:=HB.o;simp[dN,aS]at this⊢;omega):G:=h
theorem aaD {G:Prop}(h:G:=by show w.heap.size<=w.heap.size+1+1+1;omega):G:=h
theorem abj {G:Prop}(h:G:=by rw[avu,Array.length_toList];rfl):G:=h
theorem abk {G:Prop}(h:G:=by have:=eD.size;simpa[World.setCell]using this):G:=h
theorem aax {G:Prop}(h:G:=by simp;have:=oh.o.int;have:=oh.o.lt;omega):G:=h
theorem aaC {G:Prop}(h:G:=by have:=HB.o;simp[dN,dM,bB]at this⊢;omega):G:=h
theorem abh {G:Prop}(h:G:=by rw[th];exact growslice_fits (by omega) (by omega)):G:=h
theorem abi {G:Prop}(h:G:=by rw[fF.o];unfold gP;simp only[ao,he,iV];rfl):G:=h
theorem aak {G:Prop}(h:G:=by have:=HB.o;simp at iX;simp[dN]at this⊢;omega):G:=h
theorem abc {G:Prop}(h:G:=by have:=HB.o;simp at iX;simp[dM]at this⊢;omega):G:=h
theorem abd {G:Prop}(h:G:=by have:=HB.o;simp[j7,ay,jJ,pZ]at this⊢;omega):G:=h
theorem aaB {G:Prop}(h:G:=by rw[cK (by omega),eA];exact gL (by decide) (by decide)):G:=h
theorem aa4 {G:Prop}(h:G:=by show w.heap.size+1+1≠w.heap.size+1+1+1;omega):G:=h
theorem aa9 {G:Prop}(h:G:=by intro j u hj;rcases j with _|j<;>simp_all[Addr.add]):G:=h
theorem aau {G:Prop}(h:G:=by rw[fF.o];unfold aL;simp only[ao,he,mS h1,iV];rfl):G:=h
theorem aa8 {G:Prop}(h:G:=by have:=K.aZ (show K.q-1<K.q by omega);omega):G:=h
theorem aaY {G:Prop}(h:G:=by have:=HB.o;simp at iX;simp[ahead_zero]at this⊢;omega):G:=h
theorem aaZ {G:Prop}(h:G:=by rw[fF.o];unfold aL;simp only[ao,he,mS h1,iV,hkt];rfl):G:=h
theorem aaQ {G:Prop}(h:G:=by show(if i<6 then 63+i else 300+i)<258;rw[avA hi];omega):G:=h
theorem aaP {G:Prop}(h:G:=by first|exact(HB _).o|exact(HB _).o.trans<|hb1.mono (by simp)):G:=h
theorem aaH {G:Prop}(h:G:=by obtain⟨q1,q2,q3,q4,q5,_⟩:=bF;intro h0;exact⟨q1,q2,by rw[q3,h0],q5⟩):G:=h
theorem aae {G:Prop}(h:G:=by first|exact(HB _).o|exact(HB _).o.trans (hb1.mono (by simp))|exact(HB _).o.trans<|hb2.mono (by simp)):G:=h
theorem aam {G:Prop}(h:G:=by intro s hs;simp only[avZ,av6,awY]at hs;unfold Ed;rcases hs with rfl|rfl|rfl|rfl|rfl|rfl|rfl<;>decide):G:=h
theorem kk :Hid True:=trivial
theorem lr :n<=n:=avF n
theorem bO (w:World)(o:Obj):Below w.heap.size w (w.alloc o):=(avB _ _).alloc (avF _) _
theorem bA {o:Obj}:Below w.heap.size w (w.alloc o):=bO w o
theorem bn {α:Type} [BEq α] [LawfulBEq α]{a b:α}(h:a≠b):(a==b)=false:=avH.2 h
theorem pJ :prog.follows Departure.mixedOrders=true:=by kernel_rfl
variable {G :Prop}
theorem abn (h:G:=by
 have I:Hid (dE s=false):=by simp[Hid,dE];omega
 go_enter func98,ntmps98
 go_wp2;go_ret;exact⟨aw I.o.symm,rfl⟩):G:=h
theorem abo (h:G:=by
 go_wp2;all_goals go_ret
 all_goals refine⟨aw ?_,rfl⟩
 all_goals(rw[avN];simp[bZ];omega)):G:=h
theorem abp (h:G:=by
 go_wp2;all_goals go_ret
 all_goals refine⟨aw ?_,rfl⟩
 all_goals(rw[avN];simp[ct];omega)):G:=h
theorem abq (h:G:=by
 intro i hi;have:i=0:=by have:i<1:=hi;omega
 rcases this with rfl;rw[<-hV];simp[go_sem,bK]):G:=h
theorem abr (h:G:=by
 intro j hj;obtain rfl:j=0:=by simp at hj;omega
 have e:((UInt8.ofNat<|48+n).toNat:Int)=x:=by
  rw[hx,UInt8.toNat_ofNat',Nat.mod_eq_of_lt O];omega
 simp only[getElem_cons_zero,e];first
 |clear ahI
  simpa[Addr.add]using hg
 |clear ahJ
  simp[Addr.add]):G:=h
section
open Go.RowKit Go.ChangeShapes Go.WideShapes
inductive Nd where
 |nil
 |mk (k n:Int) (s:ByteArray) (len:Nat) (kids:Nat->Nd)
def Nd.y :Nd->Int|.nil=>0|.mk k _ _ _ _=>k
def Nd.E :Nd->Int|.nil=>0|.mk _ n _ _ _=>n
def Nd.z :Nd->ByteArray|.nil=>⟨#[]⟩|.mk _ _ s _ _=>s
def Nd.q :Nd->Nat|.nil=>0|.mk _ _ _ l _=>l
def Nd.f :Nd->Nat->Nd|.nil=>fun _=>.nil|.mk _ _ _ _ f=>f
def aq (f:Nat->Nat):Nat->Nat
 |0=>0
 |n+1=>aq f n+f n
theorem JX (f:Nat->Nat){a:Nat}(h:a<=b):aq f a<=aq f b:=by
 induction h with
 |refl=>exact avF _
 |step _ ih=>exact avK ih (by simp[aq])
theorem kr (f:Nat->Nat){a:Nat}(h:a<b):aq f a+f a<=aq f b:=JX f<|show a+1<=b from h
def Nd.cost :Nd->Nat|.nil=>0|.mk _ _ s len kids=>s.size+(len+aq (fun i=>(kids i).cost) len)
def Nd.size :Nd->Nat|.nil=>1|.mk _ _ _ len kids=>1+aq (fun i=>(kids i).size) len
def Nd.R :Nd->Prop|.nil=>True|.mk k n s len kids=>(-9223372036854775808<=k/\k<=9223372036854775807)/\(-9223372036854775808<=n/\n<=9223372036854775807)/\s.size<=9223372036854775807/\len<=9223372036854775807/\∀i,i<len->(kids i).R
theorem Nd.bJ (T:Nd):T.cost=T.z.size+(T.q+aq (fun i=>(T.f i).cost) T.q):=by cases T<;>rfl
theorem Nd.size_eq (T:Nd):T.size=1+aq (fun i=>(T.f i).size) T.q:=by cases T<;>rfl
theorem Nd.b3 (T:Nd)(h:i<T.q):(T.f i).cost<=T.cost:=by rw[T.bJ];have:=kr (fun i=>(T.f i).cost) h;omega
theorem CV {f g:Nat->Nat}(h:∀i,i<n->f i<=1+g i):aq f n<=n+aq g n:=by
 induction n with
 |zero=>simp[aq]
 |succ n ih=>have:=ih fun i hi=>h i O;have:=h n O;simp[aq];omega
theorem Nd.be (T:Nd):T.size<=1+T.cost:=by
 induction T with
 |nil=>simp[Nd.size]
 |mk k n s len kids ih=>
  have:=CV (f:=fun i=>(kids i).size) (g:=fun i=>(kids i).cost) (n:=len) fun i _=>ih i;simp only[Nd.size,Nd.cost];omega
theorem Nd.aa {T:Nd}(h:T.R)(hi:i<T.q):(T.f i).R:=by cases T;exact absurd hi<|avJ _;exact h.2.2.2.2 i hi
theorem Nd.I {T:Nd}(h:T.R):T.q<=9223372036854775807:=by cases T;exact avL _;exact h.2.2.2.1
theorem Nd.ba {T:Nd}(h:T.R):T.z.size<=9223372036854775807:=by cases T;exact avL _;exact h.2.2.1
def Row (lo hi:Nat)(w:World):Nd->Value->Prop
  | .nil,v=>∃a cap,v=.slice a 0 cap/\(0<=cap/\cap<=9223372036854775807)
  | .mk _ _ _ len kids,v=>∃a cap,v=.slice a len cap/\(len<=cap/\cap<=9223372036854775807)/\(len=0\/∃g off,a=some ⟨g,off,none⟩/\lo<=g/\g<hi/\∀i,i<len->
      ∃u,w.cell? ⟨g,off+i*4,none⟩=some (.int .i64 (kids i).y)/\w.cell? ⟨g,off+i*4+1,none⟩=some (.int .i64 (kids i).E)/\
        w.cell? ⟨g,off+i*4+2,none⟩=some (.string (kids i).z)/\w.cell? ⟨g,off+i*4+3,none⟩=some u/\Row lo hi w (kids i) u)
theorem ar {T:Nd} {v:Value}:Row lo hi w T v↔∃a cap,v=.slice a T.q cap/\(T.q<=cap/\cap<=9223372036854775807)/\(T.q=0\/∃g off,a=some ⟨g,off,none⟩/\lo<=g/\g<hi/\∀i,i<T.q->
      ∃u,w.cell? ⟨g,off+i*4,none⟩=some (.int .i64 (T.f i).y)/\w.cell? ⟨g,off+i*4+1,none⟩=some (.int .i64 (T.f i).E)/\
        w.cell? ⟨g,off+i*4+2,none⟩=some (.string (T.f i).z)/\w.cell? ⟨g,off+i*4+3,none⟩=some u/\Row lo hi w (T.f i) u):=by
  cases T with
  | nil=>exact⟨fun⟨a,cap,h,hc⟩=>⟨a,cap,h,hc,.inl rfl⟩,fun⟨a,cap,h,hc,_⟩=>⟨a,cap,h,hc⟩⟩
  | mk=>exact Iff.rfl
theorem cL (fT:SO<=lo)(gB:hi<=ir)(hc:∀g o,lo<=g->g<hi->w'.cell? ⟨g,o,none⟩=w.cell? ⟨g,o,none⟩):
  ∀{T:Nd}{v:Value},Row lo hi w T v->Row SO ir w' T v:=by
 intro T;induction T with
 |nil=>exact fun h=>h
 |mk k n s len kids ih=>
  rintro v⟨a,cap,rfl,bo,h⟩;refine⟨a,cap,rfl,bo,?_⟩;rcases h with h|⟨g,off,rfl,h1,h2,h3⟩
  ·exact .inl h
  ·refine .inr ⟨g,off,rfl,O,O,fun i hi=>?_⟩;obtain⟨u,e0,e1,e2,e3,hr⟩:=h3 i hi;exact⟨u,by rw[hc _ _ h1 h2];exact e0,by rw[hc _ _ h1 h2];exact e1,by rw[hc _ _ h1 h2];exact e2,by rw[hc _ _ h1 h2];exact e3,ih i hr⟩
theorem ah (I:Below B w w')(hB:hi<=B){T:Nd}{v:Value}(h:Row lo hi w T v):Row lo hi w' T v:=
 cL lr lr (fun g o _ h2=>I.cell (p:=⟨g,o,none⟩) (by show g<B;omega)) h
theorem aY {T:Nd}{v:Value}(h:Row lo hi w T v)(fT:SO<=lo)(gB:hi<=ir):Row SO ir w T v:=cL fT gB (fun _ _ _ _=>rfl) h
theorem AK {T:Nd}{v:Value}(h:Row lo hi w T v):Row lo hi w.drew T v:=cL (w:=w) (w':=w.drew) lr lr (fun _ _ _ _=>rfl) h
theorem Z {p:Prop}(h:p):Hid p:=h
theorem jI {k:IntKind}{a b:Int}(h:a=b):Ending.returned (.int k a)=.returned (.int k b):=by rw[h]
def Nd.val (T:Nd)(v:Value):Value:=.agg #[.int .i64 T.y,.int .i64 T.E,.string T.z,v]
end
variable {T :Nd}
abbrev nO (T:Nd)(x:Value):Obj:=.cells #[.int .i64 T.y,.int .i64 T.E,.string T.z,x] 25
def Four (W:World)(b:Nat)(x0 x1 x2 x3:Value):Prop:=W.cell? ⟨b,0,none⟩=some x0/\W.cell? ⟨b,1,none⟩=some x1/\W.cell? ⟨b,2,none⟩=some x2/\W.cell? ⟨b,3,none⟩=some x3
theorem Four.keep {A C:World}{x0 x1 x2 x3:Value}(h:Four A b x0 x1 x2 x3)(I:Below B A C)(hB:b<B):Four C b x0 x1 x2 x3:=by
 obtain⟨h0,h1,h2,h3⟩:=h
 exact⟨(I.cell (p:=⟨b,0,none⟩) hB).trans h0,(I.cell (p:=⟨b,1,none⟩) hB).trans h1,(I.cell (p:=⟨b,2,none⟩) hB).trans h2,(I.cell (p:=⟨b,3,none⟩) hB).trans h3⟩
theorem Four.new (W:World)(x0 x1 x2 x3:Value)(t:TypeId):Four (W.alloc<|.cells #[x0,x1,x2,x3] t) W.heap.size x0 x1 x2 x3:=by unfold Four;simp[go_sem]
def bZ (c:Int):Bool:=decide (97<=c/\c<=122)||(decide (65<=c/\c<=90)||decide (c=95))
def ct (c:Int):Bool:=decide<|48<=c/\c<=57
theorem aw {a b:Bool}(h:a=b):Ending.returned (.bool a)=.returned (.bool b):=by rw[h]
theorem qv {a b:ByteArray}(h:a=b):Ending.returned (.string a)=.returned (.string b):=by rw[h]
theorem kZ {k:IntKind}{a b:Int}(h:a=b):Ending.returned (.int k a)=.returned (.int k b):=by rw[h]
theorem gg (c:Int)(w:World):Calls prog 106 #[.int .u8 c] w fun e w'=>e=.returned (.bool<|bZ c)/\w'=w:=by
 go_enter func106,ntmps106
 exact abo
theorem ji (c:Int)(w:World):Calls prog 108 #[.int .u8 c] w fun e w'=>e=.returned (.bool<|ct c)/\w'=w:=by
 go_enter func108,ntmps108
 exact abp
theorem nr (c:Int)(w:World):Calls prog 128 #[.int .u8 c] w fun e w'=>e=.returned (.bool<|bZ c)/\w'=w:=by
 go_enter func128,ntmps128
 exact abo
theorem C3 (c:Int)(w:World):Calls prog 129 #[.int .u8 c] w fun e w'=>e=.returned (.bool<|ct c)/\w'=w:=by
 go_enter func129,ntmps129
 exact abp
def cG (c:Int):Bool:=bZ c||ct c
def dk (l:List UInt8):Nat:=(l.takeWhile fun b=>cG b.toNat).length
theorem ot (s:ByteArray)(k:Nat)(h:k<s.size):s.data.toList.take (k+1)=s.data.toList.take k++[s[k]]:=by rw[awI (by simpa using h)];rfl
theorem nk {l:List UInt8}(h:∀b∈l.take k,cG b.toNat=true)(z:k<=l.length)(hn:∀be:k<l.length,cG l[k].toNat=false):dk l=k:=by
 induction l generalizing k with
 |nil=>simpa[dk]using Eq.symm (by simpa using z:k=0)
 |cons a l ih=>
  cases k with
  |zero=>
   have h0:cG a.toNat=false:=hn M;simp[dk,h0]
  |succ k=>
   have h0:cG a.toNat=true:=h a M;have:=ih (k:=k) (fun b I=>h b (by simp[I])) aaJ fun be=>hn<|Nat.succ_lt_succ be;unfold dk at this⊢;simp[h0,this]
theorem lS (s:ByteArray)(w:World)(hs:s.size<=maxLen):
  Calls prog 118 #[.string s] w fun e w'=>e=.returned (.int .i64<|dk s.data.toList)/\w'=w:=by
 unfold maxLen at hs;go_enter func118,ntmps118
 go_wp2;go_loop [3] (fun i=>∃k:Nat,k<=s.size/\i=.int .i64 k/\Hid (∀b∈s.data.toList.take k,cG b.toNat=true)) (fun i=>s.size-(intOf i).toNat)
 case atStart=>exact⟨0,avL _,rfl,by simp[Hid]⟩
 case round=>
  obtain⟨k,z,rfl,bl⟩:=hrel;by_cases be:k<s.size
  ·have mU:cG s[k].toNat=false->dk s.data.toList=k:=fun I=>nk bl.o aaJ fun _=>I;have eE:cG s[k].toNat=true->∀b∈s.data.toList.take (k+1),cG b.toNat=true:=fun I b hm=>by
    rw[ot s k be,awb]at hm;rcases hm with hm|hm
    ·exact bl.o b hm
    ·simp at hm;rw[hm];exact I
   have HE:Hid (cG s[k].toNat=false->dk s.data.toList=k):=mU;have HG:Hid (cG s[k].toNat=true->∀b∈s.data.toList.take (k+1),cG b.toNat=true):=eE;clear mU eE;cases hl:bZ s[k].toNat<;>cases hd:ct s[k].toNat;all_goals
    go_wp2_with(first|(go_at_call 106;refine(gg _ _).mono ?_;rintro e w' ⟨rfl,rfl⟩)|(go_at_call 108;refine(ji _ _).mono ?_;rintro e w' ⟨rfl,rfl⟩))
   ·go_ret;exact⟨kZ (by rw[HE.o abf]),rfl⟩
   all_goals
    go_round
    case rel=>exact⟨k+1,O,by go_num,HG.o abf⟩
    case measure=>simp[intOf];omega
  ·have mU:dk s.data.toList=k:=nk bl.o aaJ (fun h=>by simp at h;omega);have HE:Hid (dk s.data.toList=k):=mU;clear mU;go_wp2;go_ret;exact⟨kZ (by rw[HE.o]),rfl⟩
def bd :List ByteArray:=[⟨#[102,117,110,99]⟩,⟨#[105,102]⟩,⟨#[101,108,115,101]⟩,⟨#[102,111,114]⟩,⟨#[114,101,116,117,114,110]⟩,⟨#[103,111]⟩,⟨#[100,101,102,101,114]⟩,⟨#[115,101,108,101,99,116]⟩,⟨#[99,97,115,101]⟩,⟨#[100,101,102,97,117,108,116]⟩,⟨#[98,114,101,97,107]⟩,⟨#[99,111,110,116,105,110,117,101]⟩,⟨#[99,104,97,110]⟩,⟨#[105,110,116]⟩,⟨#[98,111,111,108]⟩,⟨#[116,114,117,101]⟩,⟨#[102,97,108,115,101]⟩,⟨#[109,97,107,101]⟩,⟨#[99,108,111,115,101]⟩,⟨#[112,114,105,110,116]⟩,⟨#[112,97,110,105,99]⟩]
def bX (w:World)(b:Nat)(ss:List ByteArray):Prop:=∀i,i<ss.length->w.cell? ⟨b,i,none⟩=some (.string<|ss.getD i ⟨#[]⟩)
theorem CX (w:World)(ss:List ByteArray)(t:TypeId):bX (w.alloc<|.cells (ss.map Value.string).toArray t) w.heap.size ss:=by intro i hi;have:=World.cell?_alloc_new w (ss.map Value.string).toArray t i;rw[this];simp[List.getD,hi]
theorem oK (a b:ByteArray):(a.toList==b.toList)=decide (a=b):=by
 rw[avx,avx,avN];simp only[avV,avy];constructor
 ·intro h;cases a;cases b;simp only at h;congr;exact Array.ext' h
 ·intro h;rw[h]
theorem Lh (w:World):Calls prog 100 #[] w fun e w'=>e=.returned (.slice (some ⟨w.heap.size,0,none⟩) 21 21)/\Below w.heap.size w w'/\bX w' w.heap.size bd/\w.heap.size<w'.heap.size:=by
 go_enter func100,ntmps100
 go_wp2;go_ret;refine⟨rfl,bA,?_,M⟩;exact CX w bd 9
def hasB (ss:List ByteArray)(t:ByteArray):Bool:=ss.any fun s=>decide<|s=t
theorem eK (ss:List ByteArray)(t:ByteArray):hasB ss t=true↔t∈ss:=by simp[hasB]
theorem o9 (z:k<ss.length)(h:t∉ss.take k)(hn:(ss[k].toList==t.toList)=false):t∉ss.take (k+1):=by
 rw[awI z];rw[oK,av5]at hn;intro hm;rcases awb.1 hm with hm|hm
 ·exact h hm
 ·exact hn (awc.1 hm).symm
theorem qR (z:k<ss.length)(hn:(ss[k].toList==t.toList)=true):true=hasB ss t:=by rw[oK,avy]at hn;rw[<-hn];exact((eK _ _).2<|getElem_mem z).symm
theorem qS (z:ss.length<=k)(h:t∉ss.take k):false=hasB ss t:=by rw[awe z]at h;exact(Bool.eq_false_iff.2 fun e=>h<|(eK _ _).1 e).symm
theorem oG (ss:List ByteArray)(t:ByteArray)(b n:Nat)(w:World)(hr:bX w b ss)(hn:ss.length=n)(hl:n<1000):
  Calls prog 99 #[.slice (some ⟨b,0,none⟩) n n,.string t] w fun e w'=>e=.returned (.bool<|hasB ss t)/\w'=w:=by
 subst hn;go_enter func99,ntmps99
 go_wp2;go_loop [5] (fun i=>∃k:Nat,k<=ss.length/\i=.int .i64 k/\Hid (t∉ss.take k)) (fun i=>ss.length-(intOf i).toNat)
 case atStart=>exact⟨0,avL _,rfl,by simp[Hid]⟩
 case round=>
  obtain⟨k,z,rfl,bl⟩:=hrel;by_cases be:k<ss.length
  ·have hc:=hr k be;clear hr;go_wp2
   ·go_ret;exact⟨aw<|qR be ‹_›,rfl⟩
   ·exact⟨⟨k+1,O,by go_num,o9 be bl.o ‹_›⟩,by simp[intOf];omega⟩
  ·clear hr;go_wp2;go_ret;exact⟨aw<|qS O bl.o,rfl⟩
theorem nw {t:TypeId}(w:World)(ss:List ByteArray)(k:Nat)(hu:P.underlying t=some (.array n e))(he:P.underlying e=some .string)(hi:(P.info? e).map (·.size)=some 1)(z:k<n)(hl:ss.length=n):
  (Instr.index t (.agg (ss.map Value.string).toArray)<|.int .i64 k).run P w=.ok (.string<|ss.getD k ⟨#[]⟩) w:=by
 have hagg:(isAgg e).run P w=.ok false w:=by
  unfold isAgg;rw[awr,run_underlying he w];rfl
 cases hq:P.info? e with
 |none=>simp[hq]at hi
 |some i=>
  have hs:i.size=1:=by simpa[hq]using hi
  have h2:k<ss.length:=O;simp[Instr.index,asIntOf,Sem.run_bind,run_underlying hu w,part,hagg,sizeOf,typeInfo,hq,hs,h2,List.getD];omega
theorem tY (h:bX w b ss):w.rangeAt b 0 (ss.map Value.string):=by intro j v hv;rw[awq,awn]at hv;obtain⟨s,hs,rfl⟩:=hv;obtain⟨be,hs⟩:=awu.1 hs;have:=h j be;rw[Nat.zero_add,this];simp[List.getD,be,hs]
theorem wZ (t:ByteArray)(w:World)(hr:bX w 4 bd):
  Calls prog 119 #[.string t] w fun e w'=>e=.returned (.bool<|hasB bd t)/\w'=w:=by
 have LO:Hid (w.rangeAt 4 0<|bd.map Value.string):=tY hr;have cg:(prog.info? 152).map (·.size)=some (bd.map Value.string).length:=aaf;have Lv:(prog.info? 9).map (·.size)=some 1:=aaf;have HZ:Hid ((prog.info? 152).map (·.size)=some (bd.map Value.string).length):=cg;have hix:Hid (∀k:Nat,k<21->(Instr.index 152 (.agg (bd.map Value.string).toArray)<|.int .i64 k).run prog w=.ok (.string<|bd.getD k ⟨#[]⟩) w):=
  fun k z=>nw w bd k underlying152 underlying9 Lv z rfl
 clear hr cg Lv;generalize hkw:bd=ss at*
 have hlen:Hid (ss.length=21):=by rw[<-hkw];rfl
 clear hkw;go_enter func119,ntmps119
 go_wp2_with(refine wpList_load_mid rfl 152 _ rfl 4 0 rfl _ _ LO.o underlying152 rfl HZ.o ?_)
 go_loop [6] (fun i=>∃k:Nat,k<=21/\i=.int .i64 k/\Hid (t∉ss.take k)) (fun i=>21-(intOf i).toNat)
 case atStart=>exact⟨0,avL _,rfl,by simp[Hid]⟩
 case round=>
  obtain⟨k,z,rfl,bl⟩:=hrel;by_cases be:k<21
  ·have hi:=hix.o k be;have xR:k<ss.length:=by rw[hlen.o];exact be
   go_wp2
   ·go_ret;exact⟨aw<|qR xR ‹_›,rfl⟩
   ·exact⟨⟨k+1,O,by go_num,o9 xR bl.o ‹_›⟩,by simp[intOf];omega⟩
  ·go_wp2;go_ret;exact⟨aw<|qS (by rw[hlen.o];omega) bl.o,rfl⟩
def dE (s:ByteArray):Bool:=decide (1<=s.size/\s.size<=40)&&(bZ (s.data.toList.headD 0).toNat&&decide (dk s.data.toList=s.size))
theorem Fb (s:ByteArray)(h:0<s.size):s.data.toList.headD 0=s[0]:=by
 have:0<s.data.toList.length:=by simpa using h
 cases hl:s.data.toList with
 |nil=>simp[hl]at this
 |cons a l=>
  have:s.data.toList[0]'this=a:=by simp[hl]
  show a=s.data[0];rw[<-this];rfl
theorem As (s:ByteArray)(w:World)(hs:s.size<=maxLen):
  Calls prog 98 #[.string s] w fun e w'=>e=.returned (.bool<|dE s)/\w'=w:=by
 unfold maxLen at hs;by_cases h1:s.size<1
 ·exact abn
 by_cases h2:40<s.size
 ·exact abn
 have h0:0<s.size:=O;have hh:=Fb s h0;cases hl:bZ s[0].toNat
 ·have I:Hid (dE s=false):=by unfold Hid dE;rw[hh,hl];simp
  clear hh;go_enter func98,ntmps98
  go_wp2_with(go_at_call 128;refine(nr _ _).mono ?_;rintro e w' ⟨rfl,rfl⟩)
  go_ret;exact⟨aw I.o.symm,rfl⟩
 ·have I:Hid (dE s=decide (dk s.data.toList=s.size)):=by
   have:1<=s.size/\s.size<=40:=O;unfold Hid dE;rw[hh,hl];simp[this]
  have z7:Hid (∀b∈s.data.toList.take 1,cG b.toNat=true):=by
   intro b hm;rw[ot s 0 h0]at hm;simp at hm;rw[hm];simp[cG,hl]
  clear hh;go_enter func98,ntmps98
  go_wp2_with(go_at_call 128;refine(nr _ _).mono ?_;rintro e w' ⟨rfl,rfl⟩)
  clear hl;go_loop [3] (fun i=>∃k:Nat,k<=s.size/\i=.int .i64 k/\Hid (∀b∈s.data.toList.take k,cG b.toNat=true)) (fun i=>s.size-(intOf i).toNat)
  case atStart=>exact⟨1,O,rfl,z7⟩
  case round=>
   obtain⟨k,z,rfl,bl⟩:=hrel;clear z7;by_cases be:k<s.size
   ·have HE:Hid (cG s[k].toNat=false->dE s=false):=fun YT=>by
     rw[I.o,nk bl.o aaJ fun _=>YT];simp;omega
    have HG:Hid (cG s[k].toNat=true->∀b∈s.data.toList.take (k+1),cG b.toNat=true):=fun YT b hm=>by
     rw[ot s k be,awb]at hm;rcases hm with hm|hm
     ·exact bl.o b hm
     ·simp at hm;rw[hm];exact YT
    cases hl:bZ s[k].toNat<;>cases hd:ct s[k].toNat;all_goals
     go_wp2_with(first|(go_at_call 128;refine(nr _ _).mono ?_;rintro e w' ⟨rfl,rfl⟩)|(go_at_call 129;refine(C3 _ _).mono ?_;rintro e w' ⟨rfl,rfl⟩))
    ·go_ret;exact⟨aw (HE.o abf).symm,rfl⟩
    all_goals
     go_round
     case rel=>exact⟨k+1,O,by go_num,HG.o abf⟩
     case measure=>simp[intOf];omega
   ·have mU:Hid (dE s=true):=by
     unfold Hid;rw[I.o,nk bl.o aaJ fun h=>by simp at h;omega];simp;omega
    go_wp2;go_ret;exact⟨aw mU.o.symm,rfl⟩
def aK (s:ByteArray):Bool:=dE s&& !hasB bd s
theorem je (s:ByteArray)(w:World)(hs:s.size<=maxLen):
  Calls prog 61 #[.string s] w fun e w'=>e=.returned (.bool<|aK s)/\Below w.heap.size w w':=by
 cases I:dE s
 ·go_enter func61,ntmps61
  go_wp2_with(go_at_call 98;refine(As _ _ hs).mono ?_;rintro e w' ⟨rfl,rfl⟩)
  go_ret;exact⟨aw (by simp[aK,I]),avB _ _⟩
 ·go_enter func61,ntmps61
  go_wp2_with(first|(go_at_call 98;refine(As _ _ hs).mono ?_;rintro e w' ⟨rfl,rfl⟩)|(go_at_call 100;refine(Lh _).mono ?_;rintro e w1 ⟨rfl,qL,fM,cg⟩;have HR:Hid (bX w1 w'.heap.size bd):=fM;clear fM)|(go_at_call 99;refine(oG bd _ _ 21 _ HR.o rfl O).mono ?_;rintro e w2 ⟨rfl,rfl⟩))
  go_ret;exact⟨aw (by simp[aK,I]),qL⟩
def bK :Nat->List ByteArray
 |1=>[⟨#[124,124]⟩]
 |2=>[⟨#[38,38]⟩]
 |3=>[⟨#[61,61]⟩,⟨#[33,61]⟩,⟨#[60]⟩,⟨#[60,61]⟩,⟨#[62]⟩,⟨#[62,61]⟩]
 |4=>[⟨#[43]⟩,⟨#[45]⟩]
 |5=>[⟨#[42]⟩,⟨#[47]⟩,⟨#[37]⟩]
 |_=>[]
def bV (s:ByteArray):Nat:=if hasB (bK 1) s then 1 else if hasB (bK 2) s then 2 else if hasB (bK 3) s then 3 else if hasB (bK 4) s then 4 else if hasB (bK 5) s then 5 else 0
def aD (p:Nat->Bool):Nat->Bool
 |0=>true
 |n+1=>aD p n&&p n
theorem bj {p:Nat->Bool}:∀{n:Nat},aD p n=true↔∀i,i<n->p i=true
 |0=>by simp[aD]
 |n+1=>by
  simp only[aD,avw,bj (n:=n)]
  constructor
  ·rintro⟨h,k⟩i hi
   by_cases e:i=n
   ·subst e;exact k
   ·exact h i O
  ·intro h;exact⟨fun i hi=>h i O,h n O⟩
theorem il (hi:i<n)(h:p i=false):aD p n=false:=by rw[Bool.eq_false_iff];intro e;rw[bj.1 e i hi]at h;cases h
theorem eZ (h:∀i,i<n->p i=true):aD p n=true:=bj.2 h
def bT (e st:Nat->Bool)(kk:Nat->Int)(c:Nat)(i:Nat):Bool:=
 if c=101 then e i else if c=99 then decide (kk i=25)&&e i else if c=98 then decide (kk i=4)&&st i else(decide (kk i=4)||decide (kk i=10))&&st i
def aG (e st:Nat->Bool)(kk:Nat->Int)(len:Nat)(b5:ByteArray):Bool:=
 decide (len=b5.size)&&aD (fun i=>bT e st kk (b5.data.toList.getD i 0).toNat i) b5.size
def ao (s:ByteArray):Bool:=s.toList.isEmpty
def bq (k n:Int)(s:ByteArray)(len:Nat)(e st:Nat->Bool)(kk:Nat->Int):Bool:=
 if k=22 then ao s&&(decide (0<=n)&&decide (n<=999999999999999999)&&decide (len=0))
 else if k=23 then ao s&&((decide (n=0)||decide (n=1))&&decide (len=0))
 else if k=24 then decide (n=0)&&(aK s&&decide (len=0))
 else if k=25 then decide (n=0)&&(aK s&&aD e len)
 else if k=26 then ao s&&decide (n=0)&&(decide (len<2)&&aD e len)
 else if k=27 then decide (n=0)&&((s.toList==[45]||s.toList==[33])&&aG e st kk len ⟨#[101]⟩)
 else if k=28 then decide (n=0)&&(decide (0<bV s)&&aG e st kk len ⟨#[101,101]⟩)
 else if k=29 then ao s&&decide (n=0)&&aG e st kk len ⟨#[101]⟩
 else false
def aL (k n:Int)(s:ByteArray)(len:Nat)(e st cs:Nat->Bool)(kk:Nat->Int):Bool:=
 if k=4 then ao s&&decide (n=0)&&aD st len
 else if k=5\/k=6 then !ao s&&aK s&&decide (n=0)&&aG e st kk len ⟨#[101]⟩
 else if k=7 then !ao s&&aK s&&((decide (n=1)||decide (n=-1))&&decide (len=0))
 else if k=8 then ao s&&decide (n=0)&&aG e st kk len ⟨#[101,101]⟩
 else if k=9 then ao s&&decide (n=0)&&(aG e st kk len ⟨#[101]⟩&&(decide (kk 0=25)||decide (kk 0=29)))
 else if k=10 then ao s&&decide (n=0)&&(aG e st kk len ⟨#[101,98]⟩||aG e st kk len ⟨#[101,98,105]⟩)
 else if k=11 then ao s&&decide (n=0)&&(aG e st kk len ⟨#[98]⟩||aG e st kk len ⟨#[101,98]⟩)
 else if k=12 then ao s&&decide (n=0)&&(decide (len=0)||aG e st kk len ⟨#[101]⟩)
 else if k=13\/k=14 then ao s&&decide (n=0)&&aG e st kk len ⟨#[99]⟩
 else if k=15 then ao s&&decide (n=0)&&aD cs len
 else if k=17\/k=18 then ao s&&decide (n=0)&&decide (len=0)
 else if k=19\/k=20\/k=21 then ao s&&decide (n=0)&&aG e st kk len ⟨#[101]⟩
 else false
def gP (k n:Int)(s:ByteArray)(len:Nat)(e st:Nat->Bool)(kk:Nat->Int):Bool:=
 if k=16 then(ao s||(decide (n=1)&&aK s))&&
  (if n=0 then aG e st kk len ⟨#[98]⟩else if n=1 then aG e st kk len ⟨#[101,98]⟩else if n=2 then aG e st kk len ⟨#[101,101,98]⟩else false)
 else false
def yT :Nd->Bool×Bool×Bool
  | .nil=>(false,false,false)
  | .mk k n s len kids=>
    (bq k n s len (fun i=>(yT (kids i)).1) (fun i=>(yT (kids i)).2.1) (fun i=>(kids i).y),
     aL k n s len (fun i=>(yT<|kids i).1) (fun i=>(yT<|kids i).2.1) (fun i=>(yT<|kids i).2.2) (fun i=>(kids i).y),
     gP k n s len (fun i=>(yT (kids i)).1) (fun i=>(yT (kids i)).2.1) (fun i=>(kids i).y))
def Nd.Q (T:Nd):Bool:=(yT T).1
def Nd.U (T:Nd):Bool:=(yT T).2.1
def Nd.aH (T:Nd):Bool:=(yT T).2.2
def Nd.kk (T:Nd)(i:Nat):Int:=(T.f i).y
theorem bD (T:Nd):T.Q=bq T.y T.E T.z T.q (fun i=>(T.f i).Q) (fun i=>(T.f i).U) T.kk:=by cases T<;>rfl
theorem aM (T:Nd):T.U=aL T.y T.E T.z T.q (fun i=>(T.f i).Q) (fun i=>(T.f i).U) (fun i=>(T.f i).aH) T.kk:=by cases T<;>rfl
theorem lI (T:Nd):T.aH=gP T.y T.E T.z T.q (fun i=>(T.f i).Q) (fun i=>(T.f i).U) T.kk:=by cases T<;>rfl
def fh (T:Nd):Bool:=decide (T.y=3)&&aK T.z&&(decide (1<=T.E)&&decide (T.E<=3))&&decide (T.q=0)
def b6 (T:Nd):Bool:=decide (T.y=2)&&aK T.z&&(decide (0<=T.E)&&decide (T.E<=3))&&decide (1<=T.q)&&
 (aD (fun i=>fh<|T.f i) (T.q-1)&&(decide ((T.f<|T.q-1).y=4)&&(T.f<|T.q-1).U))
def cJ (T:Nd):Bool:=decide (T.size<=600)&&decide (T.y=1)&&decide (T.E=0)&&ao T.z&&aD (fun i=>b6<|T.f i) T.q
def bS :Nat->Nat->List UInt8
 |0,_=>[]
 |f+1,n=>if n<10 then[UInt8.ofNat<|48+n]else bS f (n/ 10)++[UInt8.ofNat<|48+n% 10]
def ay (f:Nat->List UInt8):Nat->List UInt8
 |0=>[]
 |n+1=>ay f n++f n
def cP (l:List UInt8):ByteArray:=⟨l.toArray⟩
theorem rW (a b:List UInt8):cP a++cP b=cP (a++b):=by unfold cP;apply ByteArray.ext;simp
def DigC (f:Nat):Prop:=∀(n:Nat)(w:World),n<10^ (f+1)->n<=9223372036854775807->
 Calls prog 30 #[.int .i64 n] w fun e w'=>e=.returned (.string<|cP<|bS (f+1) n)/\Below w.heap.size w w'
theorem QY (W:World)(n:Nat)(x:Int)(hx:x=48+(n:Int))(hn:n<10)(g:Nat)(hg:W.cell? ⟨g,0,none⟩=some (.int .u8 x)):
  (convert 22 9<|.slice (some ⟨g,0,none⟩) 1 1).run prog W=.ok (.string<|cP [UInt8.ofNat<|48+n]) W:=by
 refine run_convert_bytes_back (P:=prog) W 22 9 5 ⟨g,0,none⟩ 1 [UInt8.ofNat<|48+n] underlying22 underlying5 underlying9 ?_;have ahI:=kk;exact abr
theorem MB (W:World)(n:Nat)(x:Int)(hx:x=48+(n:Int))(hn:n<10):
  (convert 22 9<|.slice (some ⟨W.heap.size,0,none⟩) 1 1).run prog (W.alloc<|.cells #[.int .u8 x] 5)=.ok (.string<|cP [UInt8.ofNat<|48+n]) (W.alloc<|.cells #[.int .u8 x] 5):=by
 refine run_convert_bytes_back (P:=prog) (W.alloc<|.cells #[.int .u8 x] 5) 22 9 5 ⟨W.heap.size,0,none⟩ 1 [UInt8.ofNat<|48+n] underlying22 underlying5 underlying9 ?_;have ahJ:=kk;exact abr
theorem Ft (n:Nat)(w:World)(hn:n<10):Calls prog 30 #[.int .i64 n] w fun e w'=>e=.returned (.string<|cP [UInt8.ofNat<|48+n])/\Below w.heap.size w w':=by
 have hcv:=MB w n (48+n) rfl hn;have HB:Hid (∀o,Below w.heap.size w<|w.alloc o):=fun o=>bA;generalize cP [UInt8.ofNat<|48+n]=r at*
 go_enter func30,ntmps30
 go_wp2;go_ret;exact⟨rfl,HB.o _⟩
theorem Il (f n:Nat)(hn:¬n<10):bS (f+2) n=bS (f+1) (n/ 10)++[UInt8.ofNat<|48+n% 10]:=by rw[bS,avo hn]
theorem My (f n:Nat)(w:World)(hn:¬n<10)(hm:n<=9223372036854775807)(ih:∀w:World,Calls prog 30 #[.int .i64 ((n/ 10:Nat):Int)] w fun e w'=>e=.returned (.string<|cP<|bS (f+1)<|n/ 10)/\Below w.heap.size w w')(hl:(bS (f+1)<|n/ 10).length<=100):
  Calls prog 30 #[.int .i64 n] w fun e w'=>e=.returned (.string<|cP<|bS (f+2) n)/\Below w.heap.size w w':=by
 rw[Il f n hn];have hq:Int.tdiv (n:Int) 10=((n/ 10:Nat):Int):=aan;have hr:Int.tmod (n:Int) 10=((n% 10:Nat):Int):=aan;have VC:n% 10<10:=awA _ J;have HI:=Z ih;have HC:=Z fun(W:World)(g:Nat)(hg:W.cell? ⟨g,0,none⟩=some (.int .u8<|48+((n% 10:Nat):Int)))=>QY W (n% 10) _ rfl VC g hg;have NS:(0:Int)<=((n/ 10:Nat):Int)/\((n/ 10:Nat):Int)<=9223372036854775807:=O;have HS:=Z<|rW (bS (f+1)<|n/ 10) [UInt8.ofNat<|48+n% 10];have bz:(cP<|bS (f+1)<|n/ 10).size<=100:=by simpa[cP,ByteArray.size]using hl
 have bP:(cP [UInt8.ofNat<|48+n% 10]).size=1:=rfl;generalize n/ 10=q at*
 generalize n% 10=r at*
 have z7:IntKind.i64.wrap (q:Int)=q:=by simp[IntKind.wrap,IntKind.bits,IntKind.signed];omega
 have Hn:IntKind.i64.wrap (48+(r:Int))=48+r:=by simp[IntKind.wrap,IntKind.bits,IntKind.signed];omega
 have SZ:IntKind.u8.wrap (48+(r:Int))=48+r:=by simp[IntKind.wrap,IntKind.bits,IntKind.signed];omega
 have hcv1:∀W:World,(convert 22 9<|.slice (some ⟨W.heap.size,0,none⟩) 1 1).run prog (W.alloc<|.cells #[.int .u8<|48+(r:Int)] 5)=.ok (.string<|cP [UInt8.ofNat<|48+r]) (W.alloc<|.cells #[.int .u8<|48+(r:Int)] 5):=
  fun W=>HC.o _ _ M
 have hcv2:(convert 22 9<|.slice (some ⟨w.heap.size,0,none⟩) 1 1).run prog (w.alloc<|.cells #[.int .u8<|48+(r:Int)] 5).drew=.ok (.string<|cP [UInt8.ofNat<|48+r]) (w.alloc<|.cells #[.int .u8<|48+(r:Int)] 5).drew:=
  HC.o _ _ M
 have HC3:Hid (∀W':World,Below (w.alloc<|.cells #[.int .u8<|48+(r:Int)] 5).drew.heap.size (w.alloc<|.cells #[.int .u8<|48+(r:Int)] 5).drew W'->(convert 22 9<|.slice (some ⟨w.heap.size,0,none⟩) 1 1).run prog W'=.ok (.string<|cP [UInt8.ofNat<|48+r]) W'):=
  fun W' I=>HC.o _ _ (by rw[I.cell (p:=⟨w.heap.size,0,none⟩) M];simp)
 have HBa:Hid (∀(W':World)(o:Obj),Below w.drew.heap.size w.drew W'->Below w.heap.size w (W'.alloc o)):=fun W' o I=>
  (show Below w.heap.size w W' from⟨I.os,I.tape,I.output,I.size,I.block⟩).alloc I.size _
 have HBb:Hid (∀(W':World)(o:Obj),Below (w.alloc o).drew.heap.size (w.alloc o).drew W'->Below w.heap.size w W'):=fun W' o I=>
  (bO w o).trans ((show Below (w.alloc o).heap.size (w.alloc o) W' from⟨I.os,I.tape,I.output,I.size,I.block⟩).mono M)
 rw[<-HS.o];generalize cP (bS (f+1) q)=s1 at*
 generalize cP [UInt8.ofNat<|48+r]=s2 at*
 clear ih;go_enter func30,ntmps30
 go_wp2;go_region_with(go_at_call 30;refine(HI.o _).mono ?_;rintro e w' ⟨rfl,I⟩;(try have hcv3:=HC3.o _ I))
 all_goals go_wp2
 all_goals go_ret
 all_goals first|exact⟨rfl,HBa.o _ _ I⟩|exact⟨rfl,HBb.o _ _ I⟩
theorem BU (f:Nat):∀n,(bS f n).length<=f:=by
 induction f with
 |zero=>intro n;simp[bS]
 |succ f ih=>intro n;rw[bS];split;simp;simp;exact ih _
theorem QU (f:Nat)(hf:f<=90):DigC f:=by
 induction f with
 |zero=>
  intro n w h hm;have h:n<10:=by simpa using h
  have e:bS 1 n=[UInt8.ofNat<|48+n]:=by simp[bS,h]
  rw[e];exact Ft n w h
 |succ f ih=>
  intro n w h hm;by_cases hn:n<10
  ·have e:bS (f+2) n=[UInt8.ofNat<|48+n]:=by simp[bS,hn]
   rw[e];exact Ft n w hn
  ·refine My f n w hn hm (fun w=>ih O (n/ 10) w (by rw[Nat.pow_succ]at h;omega) O) ?_;have:=BU (f+1)<|n/ 10;omega
theorem zB (n:Nat)(w:World)(h:n<=999999999999999999):Calls prog 30 #[.int .i64 n] w fun e w'=>e=.returned (.string<|cP<|bS 20 n)/\Below w.heap.size w w':=
 QU 19 J n w (by have:(10:Nat)^ 20=100000000000000000000:=J;omega) O
theorem PM (h1:1<=k)(h5:k<=5)(I:∀j,1<=j->j<k->hasB (bK j) s=false)(h:hasB (bK k) s=true):bV s=k:=by
 have:k=1\/k=2\/k=3\/k=4\/k=5:=O;unfold bV;rcases this with rfl|rfl|rfl|rfl|rfl
 ·simp[h]
 ·simp[h,I 1 O O]
 ·simp[h,I 1 O O,I 2 O O]
 ·simp[h,I 1 O O,I 2 O O,I 3 O O]
 ·simp[h,I 1 O O,I 2 O O,I 3 O O,I 4 O O]
theorem K4 (I:∀j,1<=j->j<6->hasB (bK j) s=false):bV s=0:=by unfold bV;simp[I 1 O O,I 2 O O,I 3 O O,I 4 O O,I 5 O O]
theorem s6 (s:ByteArray)(w:World):Calls prog 158 #[.string s] w fun e w'=>e=.returned (.int .i64 (bV s:Int))/\Below w.heap.size w w':=by
  go_enter func158,ntmps158
  go_wp2;generalize hV:(((((((w.alloc (Obj.cells #[] 9)).alloc (Obj.cells #[Value.string {data:=#[124,124]}] 9)).alloc (Obj.cells #[Value.string {data:=#[38,38]}] 9)).alloc (Obj.cells #[Value.string {data:=#[61,61]},Value.string {data:=#[33,61]},Value.string {data:=#[60]},Value.string {data:=#[60,61]},Value.string {data:=#[62]},Value.string {data:=#[62,61]}] 9)).alloc (Obj.cells #[Value.string {data:=#[43]},Value.string {data:=#[45]}] 9)).alloc (Obj.cells #[Value.string {data:=#[42]},Value.string {data:=#[47]},Value.string {data:=#[37]}] 9)).alloc
      (Obj.cells #[Value.slice (some {block:=w.heap.size,off:=0}) 0 0,Value.slice (some {block:=w.heap.size+1,off:=0}) 1 1,Value.slice (some {block:=w.heap.size+1+1,off:=0}) 1 1,Value.slice (some {block:=w.heap.size+1+1+1,off:=0}) 6 6,Value.slice (some {block:=w.heap.size+1+1+1+1,off:=0}) 2 2,Value.slice (some {block:=w.heap.size+1+1+1+1+1,off:=0}) 3 3] 107))=V
  have Zk:Hid (Below w.heap.size w V):=by
    unfold Hid;rw[<-hV];exact(((((((avB _ w).alloc lr _).alloc M _).alloc aah _).alloc aah _).alloc aah _).alloc aah _).alloc aah _
  have c1:V.cell? ⟨w.heap.size+1+1+1+1+1+1,1,none⟩=some (.slice (some ⟨w.heap.size+1,0,none⟩) 1 1):=by rw[<-hV];simp[go_sem]
  have c2:V.cell? ⟨w.heap.size+1+1+1+1+1+1,2,none⟩=some (.slice (some ⟨w.heap.size+1+1,0,none⟩) 1 1):=by rw[<-hV];simp[go_sem]
  have c3:V.cell? ⟨w.heap.size+1+1+1+1+1+1,3,none⟩=some (.slice (some ⟨w.heap.size+1+1+1,0,none⟩) 6 6):=by rw[<-hV];simp[go_sem]
  have c4:V.cell? ⟨w.heap.size+1+1+1+1+1+1,4,none⟩=some (.slice (some ⟨w.heap.size+1+1+1+1,0,none⟩) 2 2):=by rw[<-hV];simp[go_sem]
  have c5:V.cell? ⟨w.heap.size+1+1+1+1+1+1,5,none⟩=some (.slice (some ⟨w.heap.size+1+1+1+1+1,0,none⟩) 3 3):=by rw[<-hV];simp[go_sem]
  have R1:Hid (bX V (w.heap.size+1)<|bK 1):=by
    exact abq
  have R2:Hid (bX V (w.heap.size+1+1)<|bK 2):=by
    exact abq
  have R3:Hid (bX V (w.heap.size+1+1+1)<|bK 3):=by
    intro i hi;have:i=0\/i=1\/i=2\/i=3\/i=4\/i=5:=by have:i<6:=hi;omega
    rw[<-hV];rcases this with rfl|rfl|rfl|rfl|rfl|rfl<;>simp[go_sem,bK]
  have R4:Hid (bX V (w.heap.size+1+1+1+1)<|bK 4):=by
    intro i hi;have:i=0\/i=1:=by have:i<2:=hi;omega
    rw[<-hV];rcases this with rfl|rfl<;>simp[go_sem,bK]
  have R5:Hid (bX V (w.heap.size+1+1+1+1+1)<|bK 5):=by
    intro i hi;have:i=0\/i=1\/i=2:=by have:i<3:=hi;omega
    rw[<-hV];rcases this with rfl|rfl|rfl<;>simp[go_sem,bK]
  clear hV;go_loop [4] (fun i=>∃k:Nat,1<=k/\k<=6/\i=.int .i64 k/\Hid (∀j,1<=j->j<k->hasB (bK j) s=false)) (fun i=>6-(intOf i).toNat)
  case atStart=>exact⟨1,O,O,rfl,fun j h1 h2=>by omega⟩
  case round=>
    obtain⟨k,h1,h6,rfl,CB⟩:=hrel;have HS:∀k',k'=k->hasB (bK k') s=false->Hid (∀j,1<=j->j<k'+1->hasB (bK j) s=false):=fun k' e h j h1 h2=>by
      by_cases hj:j=k'
      · rw[hj];exact h
      · exact CB.o j h1 O
    have HH:∀k',k'=k->k'<=5->hasB (bK k') s=true->Hid (bV s=k'):=fun k' e h5 h=>by
      subst e;exact PM h1 h5 CB.o h
    have HS:=Z HS;have HH:=Z HH;have z:k=1\/k=2\/k=3\/k=4\/k=5\/k=6:=O;rcases z with rfl|rfl|rfl|rfl|rfl|rfl
    · cases hh:hasB (bK 1) s;all_goals have HX:=Z hh
      all_goals go_wp2_with(go_at_call 99;refine(oG (bK 1) _ _ 1 _ R1.o rfl O).mono ?_;rw[HX.o];rintro e w' ⟨rfl,rfl⟩)
      · go_round
        case rel=>exact⟨2,O,O,rfl,HS.o 1 rfl HX.o⟩
        case measure=>simp[intOf]
      · go_ret;exact⟨jI (by rw[(HH.o 1 rfl O HX.o).o];rfl),Zk.o⟩
    · cases hh:hasB (bK 2) s;all_goals have HX:=Z hh
      all_goals go_wp2_with(go_at_call 99;refine(oG (bK 2) _ _ 1 _ R2.o rfl O).mono ?_;rw[HX.o];rintro e w' ⟨rfl,rfl⟩)
      · go_round
        case rel=>exact⟨3,O,O,rfl,HS.o 2 rfl HX.o⟩
        case measure=>simp[intOf]
      · go_ret;exact⟨jI (by rw[(HH.o 2 rfl O HX.o).o];rfl),Zk.o⟩
    · cases hh:hasB (bK 3) s;all_goals have HX:=Z hh
      all_goals go_wp2_with(go_at_call 99;refine(oG (bK 3) _ _ 6 _ R3.o rfl O).mono ?_;rw[HX.o];rintro e w' ⟨rfl,rfl⟩)
      · go_round
        case rel=>exact⟨4,O,O,rfl,HS.o 3 rfl HX.o⟩
        case measure=>simp[intOf]
      · go_ret;exact⟨jI (by rw[(HH.o 3 rfl O HX.o).o];rfl),Zk.o⟩
    · cases hh:hasB (bK 4) s;all_goals have HX:=Z hh
      all_goals go_wp2_with(go_at_call 99;refine(oG (bK 4) _ _ 2 _ R4.o rfl O).mono ?_;rw[HX.o];rintro e w' ⟨rfl,rfl⟩)
      · go_round
        case rel=>exact⟨5,O,O,rfl,HS.o 4 rfl HX.o⟩
        case measure=>simp[intOf]
      · go_ret;exact⟨jI (by rw[(HH.o 4 rfl O HX.o).o];rfl),Zk.o⟩
    · cases hh:hasB (bK 5) s;all_goals have HX:=Z hh
      all_goals go_wp2_with(go_at_call 99;refine(oG (bK 5) _ _ 3 _ R5.o rfl O).mono ?_;rw[HX.o];rintro e w' ⟨rfl,rfl⟩)
      · go_round
        case rel=>exact⟨6,O,O,rfl,HS.o 5 rfl HX.o⟩
        case measure=>simp[intOf]
      · go_ret;exact⟨jI (by rw[(HH.o 5 rfl O HX.o).o];rfl),Zk.o⟩
    · go_wp2;go_ret;exact⟨jI (by rw[K4 CB.o];rfl),Zk.o⟩
def o4 (c left:Nat):Int:=if c<=left then((left-c:Nat):Int)else-1
def Nd.pre :Nd->Nat->List (Nd×Nat)
 |.nil,d=>[(.nil,d)]
 |.mk k n s len kids,d=>(.mk k n s len kids,d)::(List.range len).flatMap fun i=>(kids i).pre<|d+1
def oT (D:Nd)(d:Nat):List (Nd×Nat):=(List.range D.q).flatMap fun i=>(D.f i).pre d
def qo (D:Nd):Nd:=.mk 0 0 ⟨#[]⟩ (D.q-1) fun i=>D.f<|i+1
def PG (T:Nd):Nd:=.mk 0 0 ⟨#[]⟩ 1 fun _=>T
theorem ru (T:Nd)(d:Nat):T.pre d=(T,d)::oT T (d+1):=by cases T<;>rfl
theorem xw {D:Nd}(h:0<D.q)(d:Nat):oT D d=(D.f 0).pre d++oT (qo D) d:=by
 unfold oT;obtain⟨m,hm⟩:∃m,D.q=m+1:=⟨D.q-1,O⟩;have:(qo D).q=m:=by show D.q-1=m;omega
 rw[this,hm,range_succ_eq_map,aw5,flatMap_map];rfl
theorem xu {D:Nd}(h:D.q=0)(d:Nat):oT D d=[]:=by unfold oT;rw[h];rfl
theorem AQ (T:Nd)(d:Nat):oT (PG T) d=T.pre d:=by show(List.range 1).flatMap _=_;simp[range_succ,PG,Nd.f]
theorem sz (f:Nat->List (Nd×Nat)):∀n,((List.range n).flatMap f).length=aq (fun i=>(f i).length) n
 |0=>rfl
 |n+1=>by rw[awV,awW,avu,sz f n];simp[aq]
theorem rV {f g:Nat->Nat}:∀{n:Nat},(∀i,i<n->f i=g i)->aq f n=aq g n
 |0,_=>rfl
 |n+1,h=>by simp only[aq];rw[rV fun i hi=>h i O,h n O]
theorem sZ (T:Nd):∀d,(T.pre d).length=T.size:=by
 induction T with
 |nil=>intro d;rfl
 |mk k n s len kids ih=>
  intro d;simp only[Nd.pre,length_cons,sz,Nd.size];rw[rV fun i _=>ih i<|d+1];omega
theorem size_pos (T:Nd):0<T.size:=by rw[T.size_eq];omega
theorem size_kid (T:Nd)(h:i<T.q):(T.f i).size<T.size:=by rw[T.size_eq];have:=kr (fun i=>(T.f i).size) h;omega
theorem AP (T:Nd):∀d p,p∈T.pre d->p.2<d+T.size:=by
 induction T with
 |nil=>intro d p y;simp[Nd.pre]at y;subst y;simp[Nd.size]
 |mk k n s len kids ih=>
  intro d p y;rw[ru]at y;rcases avZ.1 y with rfl|y
  ·have:=size_pos<|.mk k n s len kids;simp;omega
  ·obtain⟨i,hi,y⟩:=List.mem_flatMap.1 y;have h1:i<len:=avG.1 hi;have h2:=ih i (d+1) p y;have h3:=size_kid (.mk k n s len kids) (i:=i) h1;have h4:((Nd.mk k n s len kids).f i).size=(kids i).size:=rfl;omega
structure jr where
 D:Nd
 d:Nat
 v:Value
def iC (S:List jr):List (Nd×Nat):=S.flatMap fun e=>oT e.D e.d
def nJ (S:List jr):List Value:=S.reverse.flatMap fun e=>[e.v,.int .i64 (e.d:Int)]
theorem jm (e:jr)(S:List jr):nJ (e::S)=nJ S++[e.v,.int .i64 (e.d:Int)]:=by simp[nJ]
theorem xZ (S:List jr):(nJ S).length=S.length*2:=by
 induction S with
 |nil=>rfl
 |cons e S ih=>rw[jm];simp[ih];omega
theorem oy (e:jr)(S:List jr):iC (e::S)=oT e.D e.d++iC S:=by simp[iC]
theorem UY (S:List jr)(h:∀e∈S,0<e.D.q):S.length<=(iC S).length:=by
 induction S with
 |nil=>simp
 |cons e S ih=>
  have:=ih fun x hx=>h x<|mem_cons_of_mem _ hx;have h0:=h e<|awC ..;rw[oy,xw h0,ru];simp;omega
def qy (e:jr)(K:Nd)(u:Value)(S:List jr):List jr:=if 0<K.q then⟨K,e.d+1,u⟩::S else S
def qx (e:jr)(t:Value)(S:List jr):List jr:=if 1<e.D.q then⟨qo e.D,e.d,t⟩::S else S
theorem qw (e:jr)(S:List jr)(u t:Value)(h:0<e.D.q):iC (e::S)=(e.D.f 0,e.d)::iC (qy e (e.D.f 0) u<|qx e t S):=by
 have hT:iC (qx e t S)=oT (qo e.D) e.d++iC S:=by
  unfold qx;split
  ·rw[oy]
  ·rw[xu (by show e.D.q-1=0;omega)];rfl
 have hK:iC (qy e (e.D.f 0) u<|qx e t S)=oT (e.D.f 0) (e.d+1)++iC (qx e t S):=by
  unfold qy;split
  ·rw[oy]
  ·rw[xu O];rfl
 rw[oy,xw h,ru,hK,hT];simp
theorem lt_of_cell {o:Nat}{v:Value}(h:w.cell? ⟨g,o,none⟩=some v):g<w.heap.size:=by
 rcases awZ g w.heap.size with h1|h1
 ·exact h1
 ·simp[World.cell?,Array.getElem?_eq_none h1]at h
theorem dQ (w:World)(g o:Nat)(v:Value){axa:Value}(hz:w.cell? ⟨g,o,none⟩=some axa)(g' o':Nat):(w.setCell ⟨g,o,none⟩ v).cell? ⟨g',o',none⟩=if g'=g/\o'=o then some v else w.cell? ⟨g',o',none⟩:=by
 split
 ·rename_i h;obtain⟨rfl,rfl⟩:=h;exact World.cell?_setCell_same _ _ _ hz
 ·rename_i h;exact World.cell?_setCell_other _ _ _ _ fun e=>h (by cases e;exact⟨rfl,rfl⟩)
section
open Go.RowKit Go.ChangeShapes Go.WideShapes
theorem Ce {off:Nat}(h:a=⟨g,off,none⟩)(n:Nat):a.add n=⟨g,off+n,none⟩:=by
 subst h;unfold Addr.add;split
 ·rename_i h;subst h;rfl
 ·rfl
theorem GL {v:Value}(h:w.cell? a=some v):a=⟨a.block,a.off,none⟩:=by
 cases a with
 |mk g off spot=>
  cases spot with
  |none=>rfl
  |some k=>
   unfold World.cell? at h;split at h
   ·simp at h
   ·cases h
theorem Q2 {v:Value}(h:w.cell? a=some v):a.block<w.heap.size:=by
 unfold World.cell? at h;split at h
 ·rename_i c _ _ hh;exact(avp.1 hh).1
 ·cases h
end
section
open Go.RowKit Go.ChangeShapes Go.WideShapes Go.ChangeAt
theorem Ir {a b:ByteArray}(h:a.data.toList=b.data.toList):a=b:=by cases a;cases b;simp only at h;congr;exact Array.ext' h
def kY {H:Type}(ss:List ByteArray):DataW H:=.agg<|ss.map fun s=>.lit<|.string s.data.toList
theorem wO {enc:TypeId×Value->H}{base:Nat}{t:TypeId}{cs:List Value}{p:List MemPlace}
  (ht:P.underlying t=some (.array n e)) (he:P.underlying e=some .string) (V5:P.cellsOf e=1) (hct:P.cellsOf t=n)
  (h:DataW.trod enc P w base sp held fuel t cs=some (kY zs,p)):cs=zs.map fun axa=>Value.string axa:=by
 cases fuel with
 |zero=>simp[DataW.trod]at h
 |succ fuel=>
  simp only[DataW.trod,ht,V5,hct,Nat.mul_one]at h;split at h
  ·rename_i hl;obtain⟨xs,hm,hx⟩:=awn.1 h;have hxs:xs.map (·.1)=zs.map fun axa=>(DataW.lit (.string axa.data.toList):DataW H):=by
    have:=congrArg Prod.fst hx;simpa[kY]using this
   have PZ:xs.length=n:=by simpa using Lib.mapM_length hm
   have hzl:zs.length=n:=by
    have:=congrArg List.length hxs;simp at this;omega
   apply ext_getElem?;intro i;by_cases hi:i<n
   ·obtain⟨b,I,hf⟩:=Lib.mapM_at hm i i (by simp[hi]);obtain⟨axa,hc,rfl,_⟩:=DataW.trod_string he hf;have h1:cs[i]?=some (.string axa):=by
     have:=congrArg (·[0]?) hc;simpa[List.getElem?_take,List.getElem?_drop]using this
    have h2:(xs.map (·.1))[i]?=some (DataW.lit (.string axa.data.toList):DataW H):=by simp[I]
    rw[hxs]at h2;simp only[awq,awn,DataW.lit.injEq,Lit.string.injEq]at h2;obtain⟨z',hz',e'⟩:=h2;rw[h1,awq,hz',<-Ir e'];rfl
   ·rw[List.getElem?_eq_none O,List.getElem?_eq_none aah]
  ·cases h
theorem ix {enc:TypeId×Value->H}{t:TypeId}{p:List MemPlace}
  (hg:P.globalNamed name=some g) (ht:P.underlying t=some (.array n e)) (he:P.underlying e=some .string) (V5:P.cellsOf e=1) (hct:P.cellsOf t=n)
  (hv:W.var? P name=some cs) (hd:DataW.trod enc P W 0 sp held fuel t cs.toList=some (kY zs,p)) (i:Nat) (hi:i<zs.length):
  W.cell? ⟨g,i,none⟩=some (.string<|zs.getD i ⟨#[]⟩):=by
 have hc:=wO ht he V5 hct hd;have:=World.var?_cell hg hv i;rw[this];have e2:cs[i]?=cs.toList[i]?:=M;rw[e2,hc];simp[List.getD,hi]
theorem CP (hg:P.globalNamed name=some g)(hv:W.var? P name=some cs):g<W.heap.size:=by
 unfold World.var? at hv;rw[hg]at hv;simp only[Option.bind_some]at hv;cases hh:W.heap[g]?with
 |none=>rw[hh]at hv;cases hv
 |some o=>exact(avp.1 hh).1
theorem pc {H:Type}{enc:TypeId×Value->H}{P:Program}(hl:laidOutB P=true){W W':World}(I:Below W.heap.size W W'):
  ∀{ts:List TypeId}{vs:List Value}{ds:List (DataW H)}{ps:List MemPlace},(ts.all fun t=>P.readableRec t&&decide (t<P.types.size))=true->(∀x∈ps,x.block<W.heap.size)->
   DataW.TrodAll enc P W 0 (fun _=>true) true ts vs ds ps->DataW.TrodAll enc P W' 0 (fun b=>decide<|b<W.heap.size) true ts vs ds ps
 |[],[],[],_,_,_,h=>h
 |t::ts,v::vs,d::ds,ps,hr,be,h=>by
  obtain⟨p,q,h1,h2,e⟩:=h
  simp only[all_cons,avw,avy]at hr
  exact⟨p,q,Below.trod hl hr.1.1 hr.1.2 h1 I fun x hx=>be x (by rw[e];simp[hx]),pc hl I (by simpa using hr.2) (fun x hx=>be x (by rw[e];simp[hx])) h2,e⟩
 |[],[],_::_,_,_,_,h=>h.elim
 |[],_::_,_,_,_,_,h=>h.elim
 |_::_,[],_,_,_,_,h=>h.elim
 |_::_,_::_,[],_,_,_,h=>h.elim
theorem Lf {enc:TypeId×Value->H}{f:Func}{s:ChangeSpec}{W':World}{args:Array Value}{ds gs:List (DataW H)}{before:List MemPlace}{tb:TypeId}{apart:Bool}
  (hl:laidOutB P=true) (htb:P.underlying tb=some .bool) (qJ:f.resultTypes=#[tb])
  (hr:(f.params.toList.all fun t=>P.readableRec t&&decide (t<P.types.size))=true) (hv:varsRowed P s.vars=true)
  (Qf:s.fn H (ds++gs)={results:=[.lit<|.bool true],args:=ds,vars:=gs})
  (hW:DataW.Whole enc P f.params.toList s.vars apart W args.toList ds gs before) (I:Below W.heap.size W W'):
  s.post enc P f apart true false false W args (.bool true) W':=by
 have hW':=hW;have be:=hW.lt;obtain⟨p,q,hA,hV,rfl,hfz,hnd⟩:=hW;refine⟨ds,gs,p++q,[],p,q,hW',?_,?_,?_,I.frame _,fun h=>by cases h⟩
 ·rw[Qf,qJ];exact trodAll_mk1<|shut_bool htb _
 ·rw[Qf];exact pc hl I hr (fun x hx=>be x (by simp[hx])) hA
 ·rw[Qf];exact Below.trodVars hl I hv hV
end
end Go.Proofs.YtgcmhaghebhjnaaGreatDoor
