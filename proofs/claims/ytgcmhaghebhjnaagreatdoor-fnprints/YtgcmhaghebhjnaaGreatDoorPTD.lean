import Derived.Test.YtgcmhaghebhjnaaGreatDoorPTC
import Derived.Lib.IndexBytes
import Derived.Test.YtgcmhaghebhjnaaGreatDoorPDA
set_option linter.unusedVariables false
set_option maxHeartbeats 16000000
set_option maxRecDepth 100000
namespace Go.Proofs.YtgcmhaghebhjnaaGreatDoor
open Go.RowKit Tryz List
variable {T :Nd} {axd l l' r x:List UInt8} {b e e':Bool} {c:UInt8} {g:Nat->Nat} {k n:Int} {p:Nat} {s:ByteArray}
variable {G :Prop}
theorem agN (h:G:=by obtain rfl:len=1:=h1;have:=lG (kids 0) he 1;rw[kX];simp[fW,C7,fr,Nd.f];omega):G:=h
theorem agO (h:G:=by rw[hl]at hw;simp only[aq]at hw;simp only[avu,length_cons,length_nil];omega):G:=h
theorem agP (h:G:=by obtain rfl:len=1:=h1;have:=lG (kids 0) he 1;rw[kX];simp[fW,Nd.f];omega):G:=h
def Nd.wt (T:Nd):Nat:=T.cost+T.size
theorem kq {f:Nat->Nat}{n:Nat}(h:∀i,i<n->f i<=g i):aq f n<=aq g n:=by
 induction n with
 |zero=>exact avF _
 |succ n ih=>have:=ih fun i hi=>h i O;have:=h n O;simp only[aq];omega
theorem jA (c:Nat)(f:Nat->Nat)(n:Nat):aq (fun i=>c*f i) n=c*aq f n:=by
 induction n with
 |zero=>rfl
 |succ n ih=>simp only[aq,ih,Nat.mul_add]
theorem l9 (f:Nat->List UInt8)(n:Nat):(ay f n).length=aq (fun i=>(f i).length) n:=by
 induction n with
 |zero=>rfl
 |succ n ih=>simp only[ay,aq,avu,ih]
theorem KB (b:Bool)(t:List UInt8):(jJ b t).length<=t.length+2:=by cases b<;>simp[jJ]
theorem pE (s:ByteArray):s.data.toList.length=s.size:=rfl
def SBd (T:Nd):Prop:=∀d,((aJ T).st d).length+d+12<=100*T.wt+4*(T.size*(d+T.size))
theorem rv (T:Nd){i:Nat}(h:i<T.q):(T.f i).size+1<=T.size:=by rw[T.size_eq];have:=kr (fun i=>(T.f i).size) h;omega
theorem yH (d:Nat):(bB d).length=d:=by simp[bB]
theorem Fx (d:Nat)(t:List UInt8):(aS d t).length=t.length+d+3:=by simp[aS,bB];omega
theorem Au (n:Int):(cW n).length<=8:=by
 unfold cW;repeat' split
 all_goals simp
theorem dx {a b:ByteArray}(h:a.data.toList=b.data.toList):a=b:=by cases a;cases b;simp only at h;congr;exact Array.ext' h
def bs (l:List UInt8):ByteArray:=⟨l.toArray⟩
theorem zM (l:List UInt8):(bs l).data.toList=l:=by simp[bs]
theorem zL (l:List UInt8):(bs l).size=l.length:=by simp[bs,ByteArray.size]
structure Tok where
 y:Int
 text:ByteArray
 place:Nat
inductive FD where
 |skip (d:Nat)
 |tok (k:Int) (t:ByteArray) (d:Nat)
 |bad
def dI :List ByteArray:=[⟨#[58,61]⟩,⟨#[61,61]⟩,⟨#[33,61]⟩,⟨#[60,61]⟩,⟨#[62,61]⟩,⟨#[38,38]⟩,⟨#[124,124]⟩,⟨#[60,45]⟩,⟨#[43,43]⟩,⟨#[45,45]⟩,⟨#[43]⟩,⟨#[45]⟩,⟨#[42]⟩,⟨#[47]⟩,⟨#[37]⟩,⟨#[60]⟩,⟨#[62]⟩,⟨#[33]⟩,⟨#[61]⟩,⟨#[40]⟩,⟨#[41]⟩,⟨#[123]⟩,⟨#[125]⟩,⟨#[44]⟩,⟨#[58]⟩]
def Fs :List ByteArray:=[⟨#[114,101,116,117,114,110]⟩,⟨#[98,114,101,97,107]⟩,⟨#[99,111,110,116,105,110,117,101]⟩,⟨#[116,114,117,101]⟩,⟨#[102,97,108,115,101]⟩,⟨#[105,110,116]⟩,⟨#[98,111,111,108]⟩]
def Fq :List ByteArray:=[⟨#[43,43]⟩,⟨#[45,45]⟩,⟨#[41]⟩,⟨#[125]⟩]
def jK (k:Int)(t:ByteArray):Bool:=decide (k=1)||(decide (k=2)||(decide (k=3)&&hasB Fs t||decide (k=4)&&hasB Fq t))
def fC (acc:List Tok):Bool:=match acc.getLast? with
 |none=>false
 |some t=>jK t.y t.text
def ib (c:Int):Bool:=decide (c=32)||(decide (c=9)||decide (c=13))
def dO (l:List UInt8):Nat:=(l.takeWhile fun b=>b !=10).length
def sL (t:List UInt8):Bool:=decide (t.length<=18)&&(!(decide (1<t.length)&&decide ((t.headD 0).toNat=48))&&t.all fun b=>ct b.toNat)
def dH (l:List UInt8):ByteArray:=(dI.find? fun g=>g.data.toList.isPrefixOf l).getD ⟨#[]⟩
def b7 (l:List UInt8):FD:=
 if(l.headD 0).toNat=59 then .tok 5 ⟨#[59]⟩ 1
 else if bZ (l.headD 0).toNat then(if 40<dk l then .bad else .tok (if hasB bd (bs<|l.take<|dk l)then 3 else 1) (bs<|l.take<|dk l) (dk l))
 else if ct (l.headD 0).toNat then(if sL (l.take<|dk l)then .tok 2 (bs<|l.take<|dk l) (dk l)else .bad)
 else if(dH l).size=0 then .bad else .tok 4 (dH l) (dH l).size
def cS (l:List UInt8)(ends:Bool):FD:=
 match l with
 |[]=>if ends then .tok 5 ⟨#[]⟩ 1 else .skip 1
 |c::r=>
  if c.toNat=10 then(if ends then .tok 5 ⟨#[]⟩ 1 else .skip 1)
  else if ib c.toNat then .skip 1
  else if c.toNat=47/\r.head?=some 47 then .skip (dO l)
  else b7 l
theorem qk (l:List UInt8):dk l<=l.length:=(awK _).length_le
theorem qj (h:cG (l.headD 0).toNat=true)(hl:l≠[]):1<=dk l:=by
 cases l with
 |nil=>exact absurd rfl hl
 |cons a l=>
  have h':cG a.toNat=true:=h
  simp[dk,h']
inductive Reach (s : List UInt8) : Nat -> List Tok -> Prop
 |start:Reach s 0 []
 |skip {p:Nat} {acc:List Tok} {d:Nat}:Reach s p acc->p<=s.length->cS (s.drop p) (fC acc)=.skip d->Reach s (p+d) acc
 |tok {p:Nat} {acc:List Tok} {k:Int} {t:ByteArray} {d:Nat}:Reach s p acc->p<=s.length->cS (s.drop p) (fC acc)=.tok k t d->Reach s (p+d) (acc++[⟨k,t,p⟩])
structure Outcome where
 list:List Tok
 code:Int
 place:Nat
inductive fS (s : List UInt8) : Outcome -> Prop
 |done {p:Nat} {acc:List Tok}:Reach s p acc->acc.length<=4000->s.length<p->fS s ⟨acc,0,0⟩
 |bad {p:Nat} {acc:List Tok}:Reach s p acc->acc.length<=4000->p<=s.length->cS (s.drop p) (fC acc)=.bad->fS s ⟨[],4,p⟩
 |many {p:Nat} {acc:List Tok} {k:Int} {t:ByteArray} {d:Nat}:Reach s p acc->acc.length=4000->p<=s.length->cS (s.drop p) (fC acc)=.tok k t d->fS s ⟨[],13,p⟩
theorem jg (s:ByteArray)(p:Nat)(y:p<s.size):s.data.toList.drop p=s[p]::s.data.toList.drop (p+1):=
 aw1 (show p<s.data.toList.length from y)
theorem AL (s:ByteArray)(p:Nat)(y:s.size<=p):s.data.toList.drop p=[]:=awt.2 y
theorem eW (c:UInt8)(r:List UInt8)(e:Bool):cS (c::r) e=if c.toNat=10 then(if e then .tok 5 ⟨#[]⟩ 1 else .skip 1)else if ib c.toNat then .skip 1 else if c.toNat=47/\r.head?=some 47 then .skip (dO<|c::r)else b7 (c::r):=rfl
theorem step_end (s:ByteArray)(p:Nat)(e:Bool)(h:p=s.size\/∃y:p<s.size,(s[p].toNat:Int)=10):cS (s.data.toList.drop p) e=if e then .tok 5 ⟨#[]⟩ 1 else .skip 1:=by
 rcases h with h|⟨y,h⟩
 ·rw[AL s p O];rfl
 ·rw[jg s p y];have:s[p].toNat=10:=O;rw[eW,avA this]
theorem C0 (s:ByteArray)(p:Nat)(e:Bool)(y:p<s.size)(c:Int)(hc:(s[p].toNat:Int)=c)(kK:c≠10)(I:ib c=true):cS (s.data.toList.drop p) e=.skip 1:=by rw[jg s p y];rw[eW,avo O,hc,avA I]
theorem rE (s:ByteArray)(p:Nat):((s.data.toList.drop<|p+1).head?=some 47)↔∃h:p+1<s.size,(s[p+1].toNat:Int)=47:=by
 by_cases h:p+1<s.size
 ·rw[jg s (p+1) h];simp only[List.head?_cons,awM];constructor
  ·intro e;exact⟨h,by rw[e];rfl⟩
  ·rintro⟨_,e⟩;have:s[p+1].toNat=(47:UInt8).toNat:=by show s[p+1].toNat=47;omega
   exact UInt8.toNat_inj.1 this
 ·rw[AL s (p+1) O];simp only[List.head?_nil];exact⟨fun e=>(by cases e),fun x=>absurd x.1 h⟩
theorem yJ (s:ByteArray)(p:Nat)(e:Bool)(y:p<s.size)(c:Int)(hc:(s[p].toNat:Int)=c)(I:ib c=false)(TF:c=47)(h2:∃h:p+1<s.size,(s[p+1].toNat:Int)=47):cS (s.data.toList.drop p) e=.skip (dO<|s.data.toList.drop p):=by have hl:=jg s p y;rw[hl];rw[eW,avo O,hc,I];rw[avo J,avA ⟨O,(rE s p).2 h2⟩]
theorem JZ (s:ByteArray)(p:Nat)(e:Bool)(y:p<s.size)(c:Int)(hc:(s[p].toNat:Int)=c)(kK:c≠10)(I:ib c=false)(h2:¬(c=47/\∃h:p+1<s.size,(s[p+1].toNat:Int)=47)):cS (s.data.toList.drop p) e=b7 (s.data.toList.drop p):=by have hl:=jg s p y;rw[hl];rw[eW,avo O,hc,I,avo J,avo];rintro⟨TF,hh⟩;exact h2 ⟨O,(rE s p).1 hh⟩
theorem Ju (l:List UInt8)(c:Int)(hc:((l.headD 0).toNat:Int)=c)(BC:c≠59)(hl:bZ c=true):b7 l=if 40<dk l then .bad else .tok (if hasB bd (bs<|l.take<|dk l)then 3 else 1) (bs<|l.take<|dk l) (dk l):=by unfold b7;rw[avo O,hc,avA hl]
theorem Ox (l:List UInt8)(c:Int)(hc:((l.headD 0).toNat:Int)=c)(BC:c≠59)(hl:bZ c=false)(hd:ct c=true):b7 l=if sL (l.take<|dk l)then .tok 2 (bs<|l.take<|dk l) (dk l)else .bad:=by unfold b7;rw[avo O,hc,hl,avo J,avA hd]
theorem Ld (s:ByteArray)(p:Nat)(y:p<s.size)(c:Int)(hc:(s[p].toNat:Int)=c)(h:c=47):0<dO (s.data.toList.drop p):=by
 rw[jg s p y];have:¬s[p]=10:=fun e=>by rw[e]at hc;have:((10:UInt8).toNat:Int)=10:=rfl;omega
 simp[dO,this]
theorem EP (l:List UInt8):dO l<=l.length:=(awK _).length_le
theorem Pf (l:List UInt8):(dH l).size<=l.length:=by
 unfold dH;cases hf:dI.find? fun g=>g.data.toList.isPrefixOf l with
 |none=>simp[ByteArray.size]
 |some g=>
  have:=List.find?_some hf;have:=(List.isPrefixOf_iff_prefix.1 this).length_le;have hg:g.data.toList.length=g.size:=rfl;simp only[awy];omega
theorem J0 (l:List UInt8)(e:Bool):(∀d,cS l e=.skip d->1<=d/\d<=max 1 l.length)/\(∀k t d,cS l e=.tok k t d->1<=d/\d<=max 1 l.length):=by
 have hw:=qk l;have Bs:=EP l;have mN:=Pf l;cases l with
 |nil=>constructor<;>intros<;>simp only[cS]at* <;>split at* <;>simp_all
 |cons c r=>
  have hT:∀k t d,b7 (c::r)=.tok k t d->1<=d/\d<=max 1 (c::r).length:=by
   intro k t d h;unfold b7 at h;split at h
   ·cases h;simp
   split at h
   ·rename_i hl;have:=qj (l:=c::r) (by unfold cG;rw[hl];rfl) M;split at h
    ·cases h
    ·cases h;omega
   split at h
   ·rename_i hd;have:=qj (l:=c::r) (by unfold cG;rw[hd];exact Bool.or_true _) M;split at h
    ·cases h;omega
    ·cases h
   split at h
   ·cases h
   ·cases h;omega
  have hT2:∀d,b7 (c::r)≠.skip d:=by
   intro d h;unfold b7 at h;repeat' (split at h)
   all_goals cases h
  constructor
  ·intro d h;rw[eW]at h;split at h
   ·split at h
    ·cases h
    ·cases h;simp
   split at h
   ·cases h;simp
   split at h
   ·rename_i h3 h4;cases h;have:¬c=10:=fun e=>by rw[e]at h4;exact absurd h4.1 J
    have y:0<dO (c::r):=by simp[dO,this]
    omega
   ·exact absurd h<|hT2 d
  ·intro k t d h;rw[eW]at h;split at h
   ·split at h
    ·cases h;simp
    ·cases h
   split at h
   ·cases h
   split at h
   ·cases h
   ·exact hT k t d h
inductive sW (s : List UInt8) : Nat -> List Tok -> Outcome -> Prop
 |done {p:Nat} {acc:List Tok}:s.length<p->sW s p acc ⟨acc,0,0⟩
 |bad {p:Nat} {acc:List Tok}:p<=s.length->cS (s.drop p) (fC acc)=.bad->sW s p acc ⟨[],4,p⟩
 |many {p:Nat} {acc:List Tok} {k:Int} {t:ByteArray} {d:Nat}:p<=s.length->cS (s.drop p) (fC acc)=.tok k t d->acc.length=4000->sW s p acc ⟨[],13,p⟩
 |skip {p:Nat} {acc:List Tok} {d:Nat} {o:Outcome}:p<=s.length->cS (s.drop p) (fC acc)=.skip d->sW s (p+d) acc o->sW s p acc o
 |tok {p:Nat} {acc:List Tok} {k:Int} {t:ByteArray} {d:Nat} {o:Outcome}:p<=s.length->cS (s.drop p) (fC acc)=.tok k t d->acc.length≠4000->sW s (p+d) (acc++[⟨k,t,p⟩]) o->sW s p acc o
theorem Mi {s:List UInt8}{acc:List Tok}{o:Outcome}(h:sW s p acc o):∀{o':Outcome},sW s p acc o'->o=o':=by
 induction h with
 |done y=>
  intro o' h';cases h' with
  |done _=>rfl
  |bad h _=>omega
  |many h _ _=>omega
  |skip h _ _=>omega
  |tok h _ _ _=>omega
 |bad y hs=>
  intro o' h';cases h' with
  |done h=>omega
  |bad _ _=>rfl
  |many _ h _=>rw[hs]at h;cases h
  |skip _ h _=>rw[hs]at h;cases h
  |tok _ h _ _=>rw[hs]at h;cases h
 |many y hs hl=>
  intro o' h';cases h' with
  |done h=>omega
  |bad _ h=>rw[hs]at h;cases h
  |many _ _ _=>rfl
  |skip _ h _=>rw[hs]at h;cases h
  |tok _ _ h _=>exact absurd hl h
 |skip y hs _ ih=>
  intro o' h';cases h' with
  |done h=>omega
  |bad _ h=>rw[hs]at h;cases h
  |many _ h _=>rw[hs]at h;cases h
  |skip _ h h2=>rw[hs]at h;cases h;exact ih h2
  |tok _ h _ _=>rw[hs]at h;cases h
 |tok y hs hl _ ih=>
  intro o' h';cases h' with
  |done h=>omega
  |bad _ h=>rw[hs]at h;cases h
  |many _ _ h=>exact absurd h hl
  |skip _ h _=>rw[hs]at h;cases h
  |tok _ h _ h2=>rw[hs]at h;cases h;exact ih h2
theorem pN {s:List UInt8}{acc:List Tok}(h:Reach s p acc):∀{o:Outcome},acc.length<=4000->sW s p acc o->sW s 0 [] o:=by
 induction h with
 |start=>intro o _ h;exact h
 |skip _ y hs ih=>intro o hl h;exact ih hl<|.skip y hs h
 |tok _ y hs ih=>intro o hl h;simp at hl;exact ih O<|.tok y hs O h
theorem qW {s:List UInt8}{o:Outcome}(h:fS s o):sW s 0 [] o:=by
 cases h with
 |done h hl y=>exact pN h hl<|.done y
 |bad h hl y hs=>exact pN h hl<|.bad y hs
 |many h hl y hs=>exact pN h O<|.many y hs hl
theorem Cc {s:List UInt8}{o o':Outcome}(h:fS s o)(h':fS s o'):o=o':=Mi (qW h)<|qW h'
def wrT (k:Int)(t:ByteArray):List UInt8:=if k=5 then[59,32]else t.data.toList++[32]
def wrL :List Tok->List UInt8
 |[]=>[]
 |a::r=>wrT a.y a.text++wrL r
def Again (k:Int)(t:ByteArray):Prop:=∀(r:List UInt8)(e:Bool),∃t' d,cS (wrT k t++r) e=.tok k t' d/\(wrT k t++r).drop d=32::r/\(k≠5->t'=t)
inductive IH : List UInt8 -> Bool -> Int -> ByteArray -> Nat -> Prop
 |fin:IH [] true 5 ⟨#[]⟩ 1
 |line {c:UInt8} {r:List UInt8}:c.toNat=10->IH (c::r) true 5 ⟨#[]⟩ 1
 |semi {c:UInt8} {r:List UInt8} {e:Bool}:c.toNat=59->IH (c::r) e 5 ⟨#[59]⟩ 1
 |word {c:UInt8} {r:List UInt8} {e:Bool}:bZ c.toNat=true->dk (c::r)<=40->IH (c::r) e (if hasB bd (bs<|(c::r).take<|dk<|c::r)then 3 else 1) (bs<|(c::r).take<|dk<|c::r) (dk<|c::r)
 |num {c:UInt8} {r:List UInt8} {e:Bool}:ct c.toNat=true->sL ((c::r).take<|dk<|c::r)=true->IH (c::r) e 2 (bs<|(c::r).take<|dk<|c::r) (dk<|c::r)
 |op {c:UInt8} {r:List UInt8} {e:Bool}:(dH<|c::r).size≠0->IH (c::r) e 4 (dH<|c::r) (dH<|c::r).size
def Like :List Tok->List Tok->Prop
 |[],[]=>True
 |a::r,b::s=>(a.y=b.y/\(b.y≠5->a.text=b.text))/\Like r s
 |_,_=>False
theorem Like.q :∀{a b:List Tok},Like a b->a.length=b.length
 |[],[],_=>rfl
 |a::r,b::s,h=>by simp[h.2.q]
theorem Like.at :∀{a b:List Tok}(h:Like a b)(i:Nat)(hi:i<a.length)(hj:i<b.length),a[i].y=b[i].y/\(b[i].y≠5->a[i].text=b[i].text)
 |a::r,b::s,h,0,_,_=>h.1
 |a::r,b::s,h,i+1,hi,hj=>h.2.at i (by simpa using hi) aa0
theorem yh (t:ByteArray):jK 5 t=false:=by simp[jK]
theorem Like.ends :∀{a b:List Tok},Like a b->fC a=fC b
 |[],[],_=>rfl
 |[x],[axd],h=>by
  obtain⟨⟨h1,h2⟩,_⟩:=h
  show jK x.y x.text=jK axd.y axd.text
  by_cases h5:axd.y=5
  ·rw[h1,h5,yh,yh]
  ·rw[h1,h2 h5]
 |x::axd::r,x'::y'::r',h=>by
  have:=Like.ends (a:=axd::r) (b:=y'::r') h.2
  unfold fC at this⊢
  simpa[List.getLast?_cons_cons]using this
 |[x],axd::axa::r,h=>by exact absurd h.2 (by simp[Like])
 |x::axa::r,[axd],h=>by exact absurd h.2 (by simp[Like])
def Zp :List UInt8->Bool
 |[]=>false
 |b::_=>cG b.toNat
def mu :List UInt8->Nat
 |[]=>0
 |c::r=>(if ib c.toNat then 0 else if cG c.toNat&&Zp r then 1 else 2)+mu r
theorem KZ (h:0<bV s):s.size<=2:=by
 have bl:∀k,k<=5->∀g∈bK k,g.size<=2:=by
  intro k z g hg;rcases(O:k=0\/k=1\/k=2\/k=3\/k=4\/k=5)with rfl|rfl|rfl|rfl|rfl|rfl<;>simp[bK]at hg
  ·subst hg;decide
  ·subst hg;decide
  ·rcases hg with rfl|rfl|rfl|rfl|rfl|rfl<;>decide
  ·rcases hg with rfl|rfl<;>decide
  ·rcases hg with rfl|rfl|rfl<;>decide
 unfold bV at h;split at h
 ·rename_i h1;exact bl 1 O s<|(eK _ _).1 h1
 split at h
 ·rename_i h1;exact bl 2 O s<|(eK _ _).1 h1
 split at h
 ·rename_i h1;exact bl 3 O s<|(eK _ _).1 h1
 split at h
 ·rename_i h1;exact bl 4 O s<|(eK _ _).1 h1
 split at h
 ·rename_i h1;exact bl 5 O s<|(eK _ _).1 h1
 ·omega
theorem On (z:T.y=27)(h:T.Q=true):T.z.size<=2:=by
 rw[bD,z]at h;simp only[bq,Int.reduceEq,if_true,if_false,avw,av2,avV]at h;have e:T.z.toList.length=T.z.size:=by rw[avx];rfl
 rcases h.2.1 with h|h<;>rw[h]at e<;>simp at e<;>omega
theorem SF (z:T.y=24\/T.y=25)(h:T.Q=true):aK T.z=true:=by rw[bD]at h;rcases z with z|z<;>rw[z]at h<;>simp[bq]at h<;>exact h.2.1
theorem Dg (z:T.y=5\/T.y=6\/T.y=7)(h:T.U=true):aK T.z=true:=by
 rw[aM]at h;rcases z with z|z|z<;>rw[z]at h<;>simp[aL]at h
 ·exact h.1.1.2
 ·exact h.1.1.2
 ·exact h.1.2
def EBd (T:Nd):Prop:=∀l,mu ((aJ T).ex l)+12<=100*T.size
structure SMu (T:Nd):Prop where
 st:T.U=true->∀d,mu ((aJ T).st d)+10<=100*T.size
 ad:T.U=true->T.y=4->∀d,mu ((aJ T).ad d)+30<=100*T.size
 cs:T.aH=true->∀d,mu ((aJ T).cs d)<=100*T.size
theorem AW (h:aK s=true):s.size<=40:=by unfold aK dE at h;simp only[avw,avy]at h;exact h.1.1.2
def XLm (T:Nd):Prop:=∀l,((aJ T).ex l).length+12<=100*T.size
theorem eT (T:Nd):T.Q=true->XLm T:=by
 have step:∀T:Nd,(∀i,i<T.q->(T.f i).Q=true->XLm (T.f i))->T.Q=true->XLm T:=by
  intro T ih ax l;have hw:=T.size_eq;by_cases Af:T.y=22
  ·rw[pV T Af];have:=BU 20 T.E.toNat;omega
  by_cases vP:T.y=23
  ·rw[pU T vP];split<;>simp<;>omega
  by_cases zp:T.y=24
  ·rw[pT T zp,pE];have:=AW<|SF (.inl zp) ax;omega
  by_cases wJ:T.y=25
  ·rw[pS T wJ];have h:=uZ wJ ax;have hn:=AW<|SF (.inr wJ) ax;have hs:aq (fun i=>((if i=0 then[]else[44,32])++(aJ<|T.f i).ex 1).length) T.q<=aq (fun i=>100*(T.f i).size) T.q:=by
    refine kq fun i hi=>?_;have:=ih i hi (h i hi) 1;rw[avu];split<;>simp<;>omega
   rw[jA]at hs;simp only[avu,length_cons,length_nil,l9,pE]at hs⊢;omega
  by_cases ti:T.y=26
  ·rw[mG T ti];have h:=nM ti ax;by_cases h0:T.q=0
   ·rw[avA h0];simp;omega
   ·have hl:T.q=1:=O;have:=ih 0 O (h.2 0 O) 1;rw[avo h0];rw[hl]at hw;simp only[aq]at hw;simp;omega
  by_cases wy:T.y=27
  ·obtain⟨hl,he⟩:=uY wy ax;have hn:=On wy ax;have i1:=ih 0 O he 1;have i6:=ih 0 O he 6;rw[pR T wy,avu,pE];rw[hl]at hw;simp only[aq]at hw;split
   ·simp;omega
   ·omega
  by_cases zo:T.y=28
  ·obtain⟨hv,hl,fz,mZ⟩:=nL zo ax;have hn:=KZ hv;have i0:=ih 0 O fz<|bV T.z;have i1:=ih 1 O mZ<|bV T.z+1;rw[kM T zo];rw[hl]at hw;simp only[aq]at hw;have:=KB (decide<|bV T.z<l)<|(aJ<|T.f 0).ex (bV T.z)++(32::(T.z.data.toList++32::(aJ<|T.f 1).ex (bV T.z+1)));simp only[avu,length_cons,pE]at this;omega
  by_cases vO:T.y=29
  ·obtain⟨hl,he⟩:=uX vO ax;have i6:=ih 0 O he 6;rw[pQ T vO,avu];rw[hl]at hw;simp only[aq]at hw;simp;omega
  rw[bD]at ax;simp[bq,Af,vP,zp,wJ,ti,wy,zo,vO]at ax
 induction T with
 |nil=>exact step .nil fun i hi=>absurd hi<|avJ _
 |mk k n s len kids ih=>exact step _ fun i _=>ih i
def TS (T:Nd):Prop:=∀d,d+T.ak<=31->((aJ T).st d).length+d+12<=100*T.size
theorem Wq (K:Nd)(d:Nat)(h:K.aH=true)(hL:TS (K.f<|K.q-1))(hM:d+K.ak<=31):((aJ K).cs d).length<=100*K.size:=by
 have cm:K.z.size<=40:=by
  rw[lI]at h;by_cases z:K.y=16
  ·simp only[gP,z,if_true,avw,av2]at h;rcases h.1 with h|h
   ·unfold ao at h;rw[avx]at h;have e:K.z.data.toList.length=K.z.size:=rfl;have:K.z.data.toList=[]:=by simpa using h
    rw[this]at e;simp at e;omega
   ·exact AW h.2
  ·simp[gP,z]at h
 obtain⟨z,h3,xT,hs⟩:=vi h;rw[zD K z];have hd1:=K.cF;have hl:1<=K.q:=by rcases h3 with h|h|h<;>omega
 have I:=hL d aa8;rw[gl _ xT,Fx]at I;have cg:=rv K (show K.q-1<K.q by omega);have hw:=K.size_eq;simp only[avu,length_cons,length_nil,yH];rcases h3 with⟨a,b⟩|⟨a,b,c⟩|⟨a,b,c,e⟩
 ·have ht:(bG K.E K.z.data.toList fun i=>aJ<|K.f i).length=7:=by rw[a];rfl
  have:=rv K (show K.q-1<K.q by omega);omega
 ·have hx:=eT _ c 1;have h6:=eT _ c 6;have ht:(bG K.E K.z.data.toList fun i=>aJ<|K.f i).length<=13+K.z.size+((aJ<|K.f 0).ex 6).length:=by
   rw[a];unfold bG;rw[avo J,avA rfl];simp only[avu];split<;>simp<;>omega
  rw[b]at hw I⊢;simp only[aq,Nat.reduceSub]at hw I⊢;omega
 ·have hx:=eT _ c 1;have hy:=eT _ e 1;have ht:(bG K.E K.z.data.toList fun i=>aJ<|K.f i).length=9+((aJ<|K.f 0).ex 1).length+((aJ<|K.f 1).ex 1).length:=by
   rw[a];unfold bG;rw[avo J,avo J];simp;omega
  rw[b]at hw I⊢;simp only[aq,Nat.reduceSub]at hw I⊢;omega
theorem UI (T:Nd):(T.U=true->TS T)/\∀i,i<T.q->(T.f i).U=true->TS (T.f i):=by
 have step:∀T:Nd,(∀i,i<T.q->((T.f i).U=true->TS (T.f i))/\∀k,k<(T.f i).q->((T.f i).f k).U=true->TS ((T.f i).f k))->T.U=true->TS T:=by
  intro T ih ax d hM;have hd1:=T.cF;have j5:∀i,i<T.q->d+1+(T.f i).ak<=31:=fun i hi=>by have:=T.aZ hi;omega
  have hw:=T.size_eq;by_cases h4:T.y=4
  ·have z:=iy h4 ax;rw[gl T h4,Fx,qz,l9];have hs:aq (fun i=>(bB (d+1)++((aJ<|T.f i).st (d+1)++[10])).length) T.q<=aq (fun i=>100*(T.f i).size) T.q:=by
    refine kq fun i hi=>?_;have h1:=(ih i hi).1 (z i hi) (d+1)<|j5 i hi;simp only[avu,yH,length_cons,length_nil];omega
   rw[jA]at hs;omega
  by_cases h7:T.y=7
  ·rw[rn T h7,avu,pE];have hn:=AW<|Dg (.inr<|.inr h7) ax;split<;>simp<;>omega
  by_cases h8:T.y=8
  ·obtain⟨hl,e0,e1⟩:=yL h8 ax;have:=eT _ e0 1;have:=eT _ e1 1;rw[rm T h8];rw[hl]at hw;simp only[aq]at hw;simp;omega
  by_cases h9:T.y=9
  ·obtain⟨hl,e0⟩:=yK h9 ax;have:=eT _ e0 1;rw[rl T h9];rw[hl]at hw;simp only[aq]at hw;omega
  by_cases sQ:T.y=17
  ·rw[pv T sQ];simp;omega
  by_cases wN:T.y=18
  ·rw[pt T wN];simp;omega
  by_cases qM:T.y=12
  ·have hl:T.q<=1:=by
    have:=ax;rw[aM,qM]at this;simp[aL]at this;rcases this.2 with h|h
    ·omega
    ·have:=(jC h).1;omega
   rw[mw T qM];have h:T.q=0\/T.q=1:=O;rcases h with h|h
   ·rw[avA h];simp;omega
   ·have:=eT _ (tQ qM ax 0 O rfl) 1;rw[avo O,avo O];rw[h]at hw;simp only[aq]at hw;simp;omega
  by_cases h5:T.y=5
  ·have hl:T.q=1:=by
    have:=ax;rw[aM,h5]at this;simp[aL]at this;exact(jC this.2).1
   have hn:=AW<|Dg (.inl h5) ax;have:=eT _ (yN h5 ax 0 O rfl) 1;rw[rq T h5,avo O];rw[hl]at hw;simp only[aq]at hw;simp;omega
  by_cases h6:T.y=6
  ·have hl:T.q=1:=by
    have:=ax;rw[aM,h6]at this;simp[aL]at this;exact(jC this.2).1
   have hn:=AW<|Dg (.inr<|.inl h6) ax;have:=eT _ (yM h6 ax 0 O rfl) 1;rw[rp T h6,avo O];rw[hl]at hw;simp only[aq]at hw;simp;omega
  by_cases zr:T.y=13
  ·have hl:T.q=1:=by
    have:=ax;rw[aM,zr]at this;simp[aL]at this;exact(iz this.2).1
   have:=eT _ (tP zr ax 0 O rfl) 1;rw[pz T zr,avo O];rw[hl]at hw;simp only[aq]at hw;simp;omega
  by_cases zq:T.y=14
  ·have hl:T.q=1:=by
    have:=ax;rw[aM,zq]at this;simp[aL]at this;exact(iz this.2).1
   have:=eT _ (tO zq ax 0 O rfl) 1;rw[py T zq,avo O];rw[hl]at hw;simp only[aq]at hw;simp;omega
  by_cases wM:T.y=19
  ·have hl:T.q=1:=by
    have:=ax;rw[aM,wM]at this;simp[aL]at this;exact(jC this.2).1
   have:=eT _ (tM wM ax 0 O rfl) 1;rw[pr T wM,avo O];rw[hl]at hw;simp only[aq]at hw;simp;omega
  by_cases wK:T.y=20
  ·have hl:T.q=1:=by
    have:=ax;rw[aM,wK]at this;simp[aL]at this;exact(jC this.2).1
   have:=eT _ (tL wK ax 0 O rfl) 1;rw[pq T wK,avo O];rw[hl]at hw;simp only[aq]at hw;simp;omega
  by_cases uK:T.y=21
  ·have hl:T.q=1:=by
    have:=ax;rw[aM,uK]at this;simp[aL]at this;exact(jC this.2).1
   have:=eT _ (tK uK ax 0 O rfl) 1;rw[po T uK,avo O];rw[hl]at hw;simp only[aq]at hw;simp;omega
  by_cases kK:T.y=10
  ·obtain⟨hl,e0,k1,k2⟩:=lO kK ax;have h0:=eT _ e0 1;have h1:=(ih 1 O).1 k1.2 d (by have:=j5 1 O;omega);rw[gl _ k1.1]at h1;rw[kz T kK];rcases hl with hl|hl
   ·rw[avo O];exact agO
   ·have h2:=(ih 2 O).1 (k2 hl).2 d (by have:=j5 2 O;omega);rw[avA hl];exact agO
  by_cases nH:T.y=11
  ·rw[ky T nH];rcases np nH ax with⟨hl,k0⟩|⟨hl,e0,k1⟩
   ·have h1:=(ih 0 O).1 k0.2 d (by have:=j5 0 O;omega);rw[gl _ k0.1]at h1;rw[hl]at hw⊢;simp only[aq,Nat.reduceSub]at hw⊢;simp only[avu,length_cons,length_nil,Nat.reduceEqDiff,if_false];omega
   ·have h0:=eT _ e0 1;have h1:=(ih 1 O).1 k1.2 d (by have:=j5 1 O;omega);rw[gl _ k1.1]at h1;rw[hl]at hw⊢;simp only[aq,Nat.reduceSub]at hw⊢;simp only[avu,length_cons,length_nil,if_true];omega
  by_cases rF:T.y=15
  ·have hc:=tN rF ax;rw[px T rF];have hs:aq (fun i=>((aJ<|T.f i).cs d).length) T.q<=aq (fun i=>100*(T.f i).size) T.q:=by
    refine kq fun i hi=>?_;obtain⟨_,h3,xT,eR⟩:=vi<|hc i hi;exact Wq _ d (hc i hi) ((ih i hi).2 _ (by rcases h3 with h|h|h<;>omega) eR) (by have:=j5 i hi;omega)
   rw[jA]at hs;simp only[avu,length_cons,length_nil,l9,yH];omega
  rw[aM]at ax;simp[aL,h4,h5,h6,h7,h8,h9,kK,nH,qM,zr,zq,rF,sQ,wN,wM,wK,uK]at ax
 have all:∀T:Nd,(T.U=true->TS T)/\∀i,i<T.q->(T.f i).U=true->TS (T.f i):=by
  intro T;induction T with
  |nil=>exact⟨step .nil fun i hi=>absurd hi<|avJ _,fun i hi=>absurd hi<|avJ _⟩
  |mk k n s len kids ih=>exact⟨step _ fun i _=>ih i,fun i _=>(ih i).1⟩
 exact all T
theorem Qs (K:Nd)(h:b6 K=true)(hM:K.ak<=30):(lY K).length+2<=100*K.size:=by
 have hf:=h
 obtain⟨_,hL,_,z,hs⟩:=zu h;unfold b6 at hf;simp only[avw,avy]at hf;obtain⟨⟨⟨⟨_,cm⟩,_⟩,_⟩,hpm,_⟩:=hf;have hn:=AW cm;obtain⟨m,hm⟩:∃m,K.q=m+1:=⟨K.q-1,O⟩;have hw:=K.size_eq;have cg:=rv K (show K.q-1<K.q by omega);have I:=(UI<|K.f<|K.q-1).1 hs 0 aa8;rw[gl _ z]at I;have y:aq (fun i=>(eI K i).length) m<=aq (fun i=>100*(K.f i).size) m:=by
  refine kq fun i hi=>?_;have hq:=bj.1 hpm i O;unfold fh at hq;simp only[avw,avy]at hq;have:=AW hq.1.1.2;have:=(K.f i).size_eq;have:=Au (K.f i).E;unfold eI;simp only[avu,length_cons,pE];split<;>simp<;>omega
 rw[jA]at y;have ht:=Au K.E;have hi:(if K.E=0 then[]else cW K.E++[32]:List UInt8).length<=9:=by
  split
  ·simp
  ·simp;omega
 rw[uM];rw[hm]at hw I⊢;simp only[aq,av1,Nat.zero_add]at hw I⊢;simp only[avu,length_cons,length_nil,l9,pE];omega
theorem Mm (T:Nd)(h:cJ T=true)(hg:T.ak<=31):(eL T).length<=60000:=by
 have hf:=ph h;have hz:T.size<=600:=by
  unfold cJ at h;simp only[avw,avy]at h;exact h.1.1.1.1
 have hw:=T.size_eq;have hs:aq (fun i=>((if i=0 then[]else[10])++lY (T.f i)).length) T.q<=aq (fun i=>100*(T.f i).size) T.q:=by
  refine kq fun i hi=>?_;have h1:=Qs _ (hf i hi) (by have:=T.aZ hi;omega);rw[avu];split<;>simp<;>omega
 rw[jA]at hs;unfold eL;rw[l9];omega
abbrev KT :=Int×ByteArray
variable {K :List KT} {acc:List Tok} {o:Outcome}
def dr {α:Type}(f:Nat->List α):Nat->Nat->List α
 |_,0=>[]
 |j,m+1=>f j++dr f (j+1) m
theorem oJ {α:Type}(f:Nat->List α):∀m j,dr f j (m+1)=dr f j m++f (j+m)
 |0,j=>by simp[dr]
 |m+1,j=>by
  rw[dr,oJ f m<|j+1,dr,avM]
  rw[show j+1+m=j+(m+1) by omega]
structure TkN where
 ex:Nat->List KT
 st:List KT
 ad:List KT
 cs:List KT
def fr (b:Bool)(t:List KT):List KT:=if b then(4,⟨#[40]⟩)::(t++[(4,⟨#[41]⟩)])else t
def jF (f:Nat->List KT)(i:Nat):List KT:=(if i=0 then[]else[(4,⟨#[44]⟩)])++f i
def Oy (k n:Int)(s:ByteArray)(len:Nat)(kk:Nat->Int)(kn:Nat->ByteArray)(p:Nat->TkN)(lv level:Nat):List KT:=
 if k=22 then[(2,bs<|bS 20 n.toNat)]
 else if k=23 then[(3,if n=0 then⟨#[102,97,108,115,101]⟩else⟨#[116,114,117,101]⟩)]
 else if k=24 then[(1,s)]
 else if k=25 then(1,s)::(4,⟨#[40]⟩)::(dr (jF fun i=>(p i).ex 1) 0 len++[(4,⟨#[41]⟩)])
 else if k=26 then(3,⟨#[109,97,107,101]⟩)::(4,⟨#[40]⟩)::(3,⟨#[99,104,97,110]⟩)::(3,⟨#[105,110,116]⟩)::((if len=0 then[]else(4,⟨#[44]⟩)::(p 0).ex 1)++[(4,⟨#[41]⟩)])
 else if k=27 then(4,s)::(if s.data.toList=[45]/\kk 0=27/\(kn 0).data.toList=[45]then fr true ((p 0).ex 1)else(p 0).ex 6)
 else if k=29 then(4,⟨#[60,45]⟩)::(p 0).ex 6
 else if k=28 then fr (decide<|lv<level) ((p 0).ex lv++(4,s)::(p 1).ex (lv+1))
 else[]
def iO (f:Nat->List KT)(i:Nat):List KT:=f i++[(5,⟨#[]⟩)]
def C7 (w:ByteArray)(p:Nat->TkN):List KT:=(3,w)::fr true ((p 0).ex 1)
def fW (k n:Int)(s:ByteArray)(len:Nat)(p:Nat->TkN):List KT:=
 if k=4 then(4,⟨#[123]⟩)::(dr (iO fun i=>(p i).st) 0 len++[(4,⟨#[125]⟩)])
 else if k=5 then(1,s)::(4,⟨#[58,61]⟩)::(p 0).ex 1
 else if k=6 then(1,s)::(4,⟨#[61]⟩)::(p 0).ex 1
 else if k=7 then[(1,s),(4,if n=1 then⟨#[43,43]⟩else⟨#[45,45]⟩)]
 else if k=8 then(p 0).ex 1++(4,⟨#[60,45]⟩)::(p 1).ex 1
 else if k=9 then(p 0).ex 1
 else if k=10 then(3,⟨#[105,102]⟩)::((p 0).ex 1++((p 1).st++(if len=3 then(3,⟨#[101,108,115,101]⟩)::(p 2).st else[])))
 else if k=11 then(3,⟨#[102,111,114]⟩)::((if len=2 then(p 0).ex 1 else[])++(p<|len-1).st)
 else if k=12 then(3,⟨#[114,101,116,117,114,110]⟩)::(if len=0 then[]else(p 0).ex 1)
 else if k=13 then(3,⟨#[103,111]⟩)::(p 0).ex 1
 else if k=14 then(3,⟨#[100,101,102,101,114]⟩)::(p 0).ex 1
 else if k=15 then(3,⟨#[115,101,108,101,99,116]⟩)::(4,⟨#[123]⟩)::(dr (fun i=>(p i).cs) 0 len++[(4,⟨#[125]⟩)])
 else if k=17 then[(3,⟨#[98,114,101,97,107]⟩)]
 else if k=18 then[(3,⟨#[99,111,110,116,105,110,117,101]⟩)]
 else if k=19 then C7 ⟨#[99,108,111,115,101]⟩ p
 else if k=20 then C7 ⟨#[112,114,105,110,116]⟩ p
 else if k=21 then C7 ⟨#[112,97,110,105,99]⟩ p
 else[]
def lW (n:Int)(s:ByteArray)(p:Nat->TkN):List KT:=
 if n=0 then[(3,⟨#[100,101,102,97,117,108,116]⟩)]
 else if n=1 then(3,⟨#[99,97,115,101]⟩)::((if s.data.toList=[]then[]else[(1,s),(4,⟨#[58,61]⟩)])++(4,⟨#[60,45]⟩)::(p 0).ex 6)
 else(3,⟨#[99,97,115,101]⟩)::((p 0).ex 1++(4,⟨#[60,45]⟩)::(p 1).ex 1)
def aF :Nd->TkN
  | .nil=>⟨fun _=>[],[],[],[]⟩
  | .mk k n s len kids=>
    ⟨Oy k n s len (fun i=>(kids i).y) (fun i=>(kids i).z) (fun i=>aF (kids i)) (bV s),
     fW k n s len (fun i=>aF<|kids i),
     dr (iO fun i=>(aF<|kids i).st) 0 len,
     lW n s (fun i=>aF (kids i))++(4,⟨#[58]⟩)::(aF (kids (len-1))).ad⟩
theorem gV (h:T.y≠0):(aF T).ex=Oy T.y T.E T.z T.q (fun i=>(T.f i).y) (fun i=>(T.f i).z) (fun i=>aF<|T.f i) (bV T.z):=by
 cases T with
 |nil=>exact absurd rfl h
 |mk=>rfl
theorem cK (h:T.y≠0):(aF T).st=fW T.y T.E T.z T.q (fun i=>aF<|T.f i):=by
 cases T with
 |nil=>exact absurd rfl h
 |mk=>rfl
theorem yG (h:T.y≠0):(aF T).cs=lW T.E T.z (fun i=>aF<|T.f i)++(4,⟨#[58]⟩)::(aF<|T.f<|T.q-1).ad:=by
 cases T with
 |nil=>exact absurd rfl h
 |mk=>rfl
theorem qn (T:Nd):(aF T).ad=dr (iO fun i=>(aF<|T.f i).st) 0 T.q:=by cases T<;>rfl
def nn (n:Int):List KT:=if n=1 then[(3,⟨#[105,110,116]⟩)]else if n=2 then[(3,⟨#[98,111,111,108]⟩)]else if n=3 then[(3,⟨#[99,104,97,110]⟩),(3,⟨#[105,110,116]⟩)]else[]
def rZ (T:Nd):List KT:=(1,T.z)::nn T.E
def lZ (T:Nd):List KT:=
 (3,⟨#[102,117,110,99]⟩)::(1,T.z)::(4,⟨#[40]⟩)::(dr (jF fun i=>rZ<|T.f i) 0 (T.q-1)++(4,⟨#[41]⟩)::(nn T.E++(aF<|T.f<|T.q-1).st))
def BN (T:Nd):List KT:=dr (iO fun i=>lZ<|T.f i) 0 T.q
inductive LR : List UInt8 -> Bool -> List KT -> List UInt8 -> Bool -> Prop
 |refl (l:List UInt8) (e:Bool):LR l e [] l e
 |skip {l:List UInt8} {e:Bool} {d:Nat} {K:List KT} {l':List UInt8} {e':Bool}:cS l e=.skip d->d<=l.length->LR (l.drop d) e K l' e'->LR l e K l' e'
 |tok {l:List UInt8} {e:Bool} {k:Int} {t:ByteArray} {d:Nat} {K:List KT} {l':List UInt8} {e':Bool}:cS l e=.tok k t d->d<=l.length->LR (l.drop d) (jK k t) K l' e'->LR l e ((k,t)::K) l' e'
theorem LR.trans (h:LR l e K l' e'){K':List KT}{l'':List UInt8}{e'':Bool}(h':LR l' e' K' l'' e''):LR l e (K++K') l'' e'':=by
 induction h with
 |refl=>exact h'
 |skip h1 h2 _ ih=>exact .skip h1 h2<|ih h'
 |tok h1 h2 _ ih=>exact .tok h1 h2<|ih h'
theorem LR.one {t:ByteArray}{d:Nat}(h:cS l e=.tok k t d)(hd:l.drop d=r)(hl:d<=l.length)(I:jK k t=b):LR l e [(k,t)] r b:=by subst hd I;exact .tok h hl<|.refl _ _
theorem gA (e:Bool):LR (32::r) e [] r e:=.skip (d:=1) rfl M<|.refl _ _
theorem qD {r:List UInt8}(e:Bool):∀d,LR (bB d++r) e [] r e
 |0=>.refl _ _
 |d+1=>.skip (d:=1) rfl (by simp[bB,List.replicate])<|qD e d
theorem Dk :LR (10::r) false [] r false:=.skip (d:=1) rfl M<|.refl _ _
theorem K7 :LR (10::r) true [(5,⟨#[]⟩)] r false:=.one (d:=1) rfl rfl M J
def lN (r:List UInt8):Prop:=cG (r.headD 0).toNat=false
theorem wU (hx:∀b∈x,cG b.toNat=true)(hr:lN r):dk (x++r)=x.length:=by
 unfold dk;have h:List.takeWhile (fun b:UInt8=>cG b.toNat) r=[]:=by
  cases r with
  |nil=>rfl
  |cons c r=>have:cG (c.toNat:Int)=false:=hr;simp[List.takeWhile,this]
 rw[takeWhile_append_of_pos (by simpa using hx),h];simp
theorem EM (hc:x=c::axd)(hx:∀b∈x,cG b.toNat=true)(hl:bZ c.toNat=true)(hn:x.length<=40)(hr:lN r)(e:Bool)(z:(if hasB bd (bs x)then 3 else 1)=k)(I:jK k (bs x)=b):
  LR (x++r) e [(k,bs x)] r b:=by
 have hw:=wU hx hr;have e2:x++r=c::(axd++r):=by rw[hc];rfl
 have hh:((((x++r).headD 0).toNat:Nat):Int)=c.toNat:=by rw[e2];rfl
 have hq:(c.toNat:Int)≠10/\ib c.toNat=false/\(c.toNat:Int)≠47/\(c.toNat:Int)≠59:=by
  simp only[bZ,av2,avy]at hl;refine⟨O,?_,O,O⟩;simp only[ib,Bool.or_eq_false_iff,av5];omega
 obtain⟨kK,qL,TF,BC⟩:=hq;refine .one (d:=x.length) ?_ M M I;have e3:cS (x++r) e=b7 (x++r):=by rw[e2,eW,avo O,qL,avo J,avo fun h=>TF O]
 rw[e3,Ju _ _ hh BC hl,hw,avo O];simp[z]
theorem Vm (hc:x=c::axd)(hx:∀b∈x,cG b.toNat=true)(hd:ct c.toNat=true)(hn:sL x=true)(hr:lN r)(e:Bool):
  LR (x++r) e [(2,bs x)] r true:=by
 have hw:=wU hx hr;have e2:x++r=c::(axd++r):=by rw[hc];rfl
 have hh:((((x++r).headD 0).toNat:Nat):Int)=c.toNat:=by rw[e2];rfl
 have hq:(c.toNat:Int)≠10/\ib c.toNat=false/\(c.toNat:Int)≠47/\(c.toNat:Int)≠59/\bZ c.toNat=false:=by
  simp only[ct,avy]at hd;refine⟨O,?_,O,O,?_⟩
  ·simp only[ib,Bool.or_eq_false_iff,av5];omega
  ·simp only[bZ,Bool.or_eq_false_iff,av5];omega
 obtain⟨kK,qL,TF,BC,hl⟩:=hq;refine .one (d:=x.length) ?_ M M (by simp[jK]);have e3:cS (x++r) e=b7 (x++r):=by rw[e2,eW,avo O,qL,avo J,avo fun h=>TF O]
 have e4:(x++r).take x.length=x:=M;rw[e3,Ox _ _ hh BC hl hd,hw,e4,avA hn]
theorem jY (hs:aK s=true)(hr:lN r)(e:Bool):LR (s.data.toList++r) e [(1,s)] r true:=by
 have h1:=hs;unfold aK dE at h1;simp only[avw,avy,awN]at h1;obtain⟨⟨⟨hz,hz40⟩,hl,hw⟩,z⟩:=h1;have hlen:s.data.toList.length=s.size:=rfl;have mi:bs s.data.toList=s:=by unfold bs;cases s;simp
 cases hd:s.data.toList with
 |nil=>rw[hd]at hlen;simp at hlen;omega
 |cons c axd=>
  have bl:∀b∈(c::axd),cG b.toNat=true:=by
   have e:dk (c::axd)=(c::axd).length:=by rw[<-hd,hw,hlen]
   intro b I;have:=all_takeWhile (l:=c::axd) (p:=fun b:UInt8=>cG b.toNat);have h2:(c::axd).takeWhile (fun b:UInt8=>cG b.toNat)=c::axd:=(awK _).eq_of_length e;rw[h2]at this;exact avE.1 this b I
  have:=EM (x:=c::axd) rfl bl (by rw[hd]at hl;exact hl) (by rw[<-hd,hlen];exact hz40) hr e (k:=1) (by rw[<-hd,mi,z];rfl) (b:=true) (by simp[jK]);rw[<-hd,mi]at this;rw[<-hd];exact this
theorem iF (hr:lN r)(e:Bool)(hc:x=c::axd)(hx:∀b∈x,cG b.toNat=true)(hl:bZ c.toNat=true)(hn:x.length<=40)(z:hasB bd (bs x)=true)(I:jK 3 (bs x)=b):LR (x++r) e [(3,bs x)] r b:=
 EM hc hx hl hn hr e (by rw[z];rfl) I
theorem jc (h:ao s=true):s=⟨#[]⟩:=by unfold ao at h;rw[avx]at h;exact dx (by simpa using h)
theorem sD (z:T.y=22)(h:T.Q=true):T.z=⟨#[]⟩/\0<=T.E/\T.E<=999999999999999999/\T.q=0:=by rw[bD,z]at h;simp[bq]at h;exact⟨jc h.1,h.2.1.1,h.2.1.2,h.2.2⟩
theorem sC (z:T.y=23)(h:T.Q=true):T.z=⟨#[]⟩/\(T.E=0\/T.E=1)/\T.q=0:=by rw[bD,z]at h;simp[bq]at h;exact⟨jc h.1,h.2.1,h.2.2⟩
theorem ve (z:T.y=24)(h:T.Q=true):T.E=0/\aK T.z=true/\T.q=0:=by rw[bD,z]at h;simp[bq]at h;exact h
theorem vd (z:T.y=25)(h:T.Q=true):T.E=0/\aK T.z=true:=by rw[bD,z]at h;simp[bq]at h;exact⟨h.1,h.2.1⟩
theorem ei_26 (z:T.y=26)(h:T.Q=true):T.E=0/\T.z=⟨#[]⟩:=by rw[bD,z]at h;simp[bq]at h;exact⟨h.1.2,jc h.1.1⟩
theorem yi (z:T.y=27)(h:T.Q=true):T.E=0/\(T.z=⟨#[45]⟩\/T.z=⟨#[33]⟩):=by rw[bD,z]at h;simp[bq,ByteArray.toList_eq]at h;exact⟨h.1,h.2.1.imp (fun e=>dx e) fun e=>dx e⟩
theorem ei_29 (z:T.y=29)(h:T.Q=true):T.E=0/\T.z=⟨#[]⟩:=by rw[bD,z]at h;simp[bq]at h;exact⟨h.1.2,jc h.1.1⟩
theorem ei_28 (z:T.y=28)(h:T.Q=true):T.E=0:=by rw[bD,z]at h;simp[bq]at h;exact h.1
theorem qC (h:0<bV s):s∈bK (bV s)/\bV s<=5:=by
 unfold bV at h⊢;split
 ·exact⟨(eK _ _).1 ‹_›,O⟩
 split
 ·exact⟨(eK _ _).1 ‹_›,O⟩
 split
 ·exact⟨(eK _ _).1 ‹_›,O⟩
 split
 ·exact⟨(eK _ _).1 ‹_›,O⟩
 split
 ·exact⟨(eK _ _).1 ‹_›,O⟩
 ·rename_i h1 h2 h3 h4 h5;simp[h1,h2,h3,h4,h5]at h
theorem vg (f:Nat):∀n,∀b∈bS f n,ct b.toNat=true:=by
 induction f with
 |zero=>intro n b I;simp[bS]at I
 |succ f ih=>
  intro n b I;have hd:∀k,k<10->ct ((UInt8.ofNat<|48+k).toNat:Int)=true:=by
   intro k z;have:(UInt8.ofNat<|48+k).toNat=48+k:=by simp;omega
   rw[this];simp[ct];omega
  unfold bS at I;split at I
  ·rw[awc]at I;subst I;exact hd n O
  ·rcases awb.1 I with I|I
   ·exact ih _ b I
   ·rw[awc]at I;subst I;exact hd _ O
theorem BT :∀(f n:Nat),n<10^ f->1<=f->1<=(bS f n).length/\(bS f n).length<=f/\(∀m,n<10^ m->1<=m->(bS f n).length<=m)/\(1<(bS f n).length->((bS f n).headD 0).toNat≠48)
 |0,n,_,h=>absurd h O
 |f+1,n,hn,_=>by
  unfold bS
  by_cases kK:n<10
  ·rw[avA kK]
   exact⟨M,M,fun m _ hm=>by simpa using hm,fun h=>by simp at h⟩
  ·rw[avo kK]
   have y:10^ (f+1)=10*10^ f:=by rw[Nat.pow_succ,Nat.mul_comm]
   have hf:1<=f:=by
    cases f with
    |zero=>simp at hn;omega
    |succ f=>omega
   obtain⟨i1,i2,i3,i4⟩:=BT f (n/ 10) O hf;refine⟨M,by simp;omega,fun m hm h1=>?_,fun _=>?_⟩
   ·cases m with
    |zero=>omega
    |succ m=>
     have hpm:10^ (m+1)=10*10^ m:=by rw[Nat.pow_succ,Nat.mul_comm]
     have CD:1<=m:=by
      cases m with
      |zero=>simp at hm;omega
      |succ m=>omega
     have:=i3 m O CD;simp;omega
   ·cases hd:bS f (n/ 10)with
    |nil=>rw[hd]at i1;simp at i1
    |cons c axd=>
     rw[hd]at i4 i1;show c.toNat≠48;by_cases hl:1<(c::axd).length
     ·exact i4 hl
     ·have hy:axd=[]:=by
       cases axd with
       |nil=>rfl
       |cons a b=>simp at hl
      subst hy;cases f with
      |zero=>omega
      |succ f=>
       unfold bS at hd;split at hd
       ·rename_i be;injection hd with e _;rw[<-e];have:(UInt8.ofNat<|48+n/ 10).toNat=48+n/ 10:=by simp;omega
        rw[this];omega
       ·have:(bS f (n/ 10/ 10)++[UInt8.ofNat<|48+n/ 10% 10]).length=1:=by rw[hd];rfl
        have hz:bS f (n/ 10/ 10)=[]:=by
         rw[avu]at this;exact avY (by simp at this;simp[this])
        cases f with
        |zero=>simp at hn;omega
        |succ f=>unfold bS at hz;split at hz<;>simp at hz
theorem jD (h0:0<=n)(h:n<=999999999999999999):∃c axd,bS 20 n.toNat=c::axd/\ct c.toNat=true/\sL (c::axd)=true/\(c::axd).length<=18:=by
 obtain⟨i1,_,i3,i4⟩:=BT 20 n.toNat O O;have hl:=i3 18 O O;have hd:=vg 20 n.toNat;cases he:bS 20 n.toNat with
 |nil=>rw[he]at i1;simp at i1
 |cons c axd=>
  rw[he]at hl hd i4;refine⟨c,axd,rfl,hd c M,?_,hl⟩;unfold sL;simp only[avw,avy,awN,Bool.and_eq_false_iff,av5,avE];exact⟨hl,by by_cases h1:1<(c::axd).length;exact .inr<|i4 h1;exact .inl h1,hd⟩
theorem QL (h:T.Q=true):∃c r,(aJ T).ex 6=c::r/\c≠61/\(c=45->T.y=27/\T.z.data.toList=[45]):=by
  have bY:T.q≠0\/T.y≠0:=.inr (by rcases iH h with e|e|e|e|e|e|e|e<;>omega);rw[Va T bY];have cm:∀{s:ByteArray},aK s=true->∃c axd,s.data.toList=c::axd/\c≠61/\c≠45:=by
    intro s hs;unfold aK dE at hs;simp only[avw,avy,awN]at hs;obtain⟨⟨⟨hz,_⟩,hl,_⟩,_⟩:=hs;cases hd:s.data.toList with
    | nil => have:s.data.toList.length=s.size:=rfl
             rw[hd]at this;simp at this;omega
    | cons c axd=>
      rw[hd]at hl;refine⟨c,axd,rfl,?_,?_⟩<;>rintro rfl
      · exact absurd (show bZ ((61:UInt8).toNat:Int)=true from hl) J
      · exact absurd (show bZ ((45:UInt8).toNat:Int)=true from hl) J
  rcases iH h with e|e|e|e|e|e|e|e
  · obtain⟨_,h0,h9,_⟩:=sD e h;obtain⟨c,axd,hc,hd,_,_⟩:=jD h0 h9;refine⟨c,axd,by rw[e];exact hc,?_,fun e2=>?_⟩
    · rintro rfl;exact absurd hd J
    · subst e2;exact absurd hd J
  · rw[e];rcases(sC e h).2.1 with hn|hn<;>rw[hn]
    · exact⟨102,_,rfl,J,fun e2=>absurd e2 J⟩
    · exact⟨116,_,rfl,J,fun e2=>absurd e2 J⟩
  · obtain⟨c,axd,hc,h1,h2⟩:=cm (ve e h).2.1;refine⟨c,axd,by rw[e];exact hc,h1,fun e2=>absurd e2 h2⟩
  · obtain⟨c,axd,hc,h1,h2⟩:=cm (vd e h).2;refine⟨c,_,by rw[e];show _++_=_;rw[hc];rfl,h1,fun e2=>absurd e2 h2⟩
  · rw[e];exact⟨109,_,rfl,J,fun e2=>absurd e2 J⟩
  · rw[e];rcases(yi e h).2 with hn|hn<;>rw[hn]
    · exact⟨45,_,rfl,J,fun _=>⟨rfl,rfl⟩⟩
    · exact⟨33,_,rfl,J,fun e2=>absurd e2 J⟩
  · rw[e];obtain⟨hl,_⟩:=ly e h;have:=(qC hl).2;refine⟨40,((aJ<|T.f 0).ex (bV T.z)++(32::(T.z.data.toList++32::(aJ<|T.f 1).ex (bV T.z+1))))++[41],?_,J,fun e2=>absurd e2 J⟩;show jJ (decide<|bV T.z<6) _=_;rw[avR O];rfl
  · rw[e];exact⟨60,_,rfl,J,fun e2=>absurd e2 J⟩
theorem b8 (c:UInt8)(r:List UInt8)(h:cG c.toNat=false):lN (c::r):=h
theorem xB (e:Bool):LR (40::r) e [(4,⟨#[40]⟩)] r false:=.one (d:=1) rfl rfl M J
theorem um (e:Bool):LR (41::r) e [(4,⟨#[41]⟩)] r true:=.one (d:=1) rfl rfl M J
theorem A4 (e:Bool):LR (44::32::r) e [(4,⟨#[44]⟩)] r false:=(LR.one (d:=1) rfl rfl M J).trans<|gA false
theorem PN (h:0<bV s)(e:Bool):LR (32::(s.data.toList++32::r)) e [(4,s)] r false:=by
 refine(gA e).trans (K':=[(4,s)]) ?_;obtain⟨hm,hl⟩:=qC h;generalize bV s=l at*
 have:LR (s.data.toList++32::r) e [(4,s)] (32::r) false:=by
  rcases(O:l=1\/l=2\/l=3\/l=4\/l=5)with rfl|rfl|rfl|rfl|rfl<;>simp only[bK,avZ,av6,awY]at hm
  ·subst hm;exact .one (d:=2) rfl rfl M J
  ·subst hm;exact .one (d:=2) rfl rfl M J
  ·rcases hm with rfl|rfl|rfl|rfl|rfl|rfl
   ·exact .one (d:=2) rfl rfl M J
   ·exact .one (d:=2) rfl rfl M J
   ·exact .one (d:=1) rfl rfl M J
   ·exact .one (d:=2) rfl rfl M J
   ·exact .one (d:=1) rfl rfl M J
   ·exact .one (d:=2) rfl rfl M J
  ·rcases hm with rfl|rfl<;>exact .one (d:=1) rfl rfl M J
  ·rcases hm with rfl|rfl|rfl<;>exact .one (d:=1) rfl rfl M J
 exact this.trans<|gA false
theorem yX {f:Nat->List UInt8}{g:Nat->List KT}(n:Nat)(h:∀i,i<n->∀r e,lN r->LR (f i++r) e (g i) r true):∀m,m<=n->∀r e,lN r->LR (ay (fun i=>(if i=0 then[]else[44,32])++f i) m++r) e (dr (jF g) 0 m) r (if m=0 then e else true)
 |0,_,r,e,_=>.refl _ _
 |m+1,hm,r,e,hr=>by
  rw[oJ,Nat.zero_add]
  have ih:=yX n h m O
  have hi:=h m O
  rw[avo O]
  simp only[ay,avM]
  by_cases h0:m=0
  ·subst h0
   exact hi r e hr
  ·simp only[jF,avo h0]
   refine(ih _ e<|b8 _ _ J).trans ?_
   rw[avo h0]
   exact(A4 true).trans<|hi r false hr
theorem Le {a:UInt8}(ha:a=45\/a=33)(Qo:a=45->c≠45)(h61:a=33->c≠61):cS (a::c::x) e=.tok 4 ⟨#[a]⟩ 1:=by
 rcases ha with rfl|rfl
 ·have hc:=Qo rfl;have I:(45==c)=false:=by simp;exact fun e=>hc e.symm
  show(if(dH<|45::c::x).size=0 then FD.bad else .tok 4 (dH<|45::c::x) (dH<|45::c::x).size)=_;have:dH (45::c::x)=⟨#[45]⟩:=by simp[dH,dI,List.find?,List.isPrefixOf,I]
  rw[this];rfl
 ·have hc:=h61 rfl;have I:(61==c)=false:=by simp;exact fun e=>hc e.symm
  show(if(dH<|33::c::x).size=0 then FD.bad else .tok 4 (dH<|33::c::x) (dH<|33::c::x).size)=_;have:dH (33::c::x)=⟨#[33]⟩:=by simp[dH,dI,List.find?,List.isPrefixOf,I]
  rw[this];rfl
theorem kC (T:Nd):T.Q=true->∀(l:Nat)(r:List UInt8)(e:Bool),lN r->LR ((aJ T).ex l++r) e ((aF T).ex l) r true:=by
 induction T with
 |nil=>intro h;cases h
 |mk k n s len kids ih=>
  intro h l r e hr;have z:=iH h;rcases z with z|z|z|z|z|z|z|z
  ·obtain⟨_,h0,h9,_⟩:=sD z h;obtain⟨c,axd,hc,hd,hn,_⟩:=jD h0 h9;obtain rfl:k=22:=z;show LR (bS 20 n.toNat++r) e [(2,bs<|bS 20 n.toNat)] r true;have hc':bS 20 n.toNat=c::axd:=hc;rw[hc'];exact Vm rfl (fun b I=>by have:=vg 20 n.toNat b<|hc'▸I;unfold cG;rw[this];simp) hd hn hr e
  ·obtain⟨_,hn,_⟩:=sC z h;obtain rfl:k=23:=z;rcases hn with hn|hn
   ·obtain rfl:n=0:=hn;exact iF (x:=[102,97,108,115,101]) hr e rfl J J J J J
   ·obtain rfl:n=1:=hn;exact iF (x:=[116,114,117,101]) hr e rfl J J J J J
  ·obtain⟨_,hn,_⟩:=ve z h;obtain rfl:k=24:=z;exact jY (s:=s) hn hr e
  ·obtain⟨_,hn⟩:=vd z h;have hE:=ye z h;obtain rfl:k=25:=z;show LR ((s.data.toList++40::(ay (fun i=>(if i=0 then[]else[44,32])++(aJ<|kids i).ex 1) len++[41]))++r) e ((1,s)::(4,⟨#[40]⟩)::(dr (jF fun i=>(aF<|kids i).ex 1) 0 len++[(4,⟨#[41]⟩)])) r true;rw[avM,cons_append,avM];refine(jY (s:=s) hn (b8 _ _ J) e).trans (K':=_::_)<|(xB true).trans (K':=_++_) ?_;exact(yX len (fun i hi r e hr=>ih i (hE i hi) 1 r e hr) len lr _ false<|b8 _ _ J).trans<|um _
  ·obtain⟨h2,hE⟩:=u9 z h;obtain rfl:k=26:=z;have hm:∀x,LR (109::97::107::101::40::99::104::97::110::32::105::110::116::x) e [(3,⟨#[109,97,107,101]⟩),(4,⟨#[40]⟩),(3,⟨#[99,104,97,110]⟩)] (105::110::116::x) false:=fun x=>
    (iF (x:=[109,97,107,101]) (r:=40::99::104::97::110::32::105::110::116::x) (b8 _ _ J) e (b:=false) rfl J J J J J).trans
     ((xB false).trans<|(iF (x:=[99,104,97,110]) (r:=32::105::110::116::x) (b8 _ _ J) false (b:=false) rfl J J J J J).trans<|gA false)
   have hi:∀x,lN x->LR (105::110::116::x) false [(3,⟨#[105,110,116]⟩)] x true:=fun x hx=>
    iF (x:=[105,110,116]) hx false rfl J J J J J
   by_cases h0:len=0
   ·subst h0;exact(hm<|41::r).trans<|(hi _<|b8 _ _ J).trans<|um true
   ·show LR (([109,97,107,101,40,99,104,97,110,32,105,110,116]++((if len=0 then[]else[44,32]++(aJ<|kids 0).ex 1)++[41]))++r) e ((3,⟨#[109,97,107,101]⟩)::(4,⟨#[40]⟩)::(3,⟨#[99,104,97,110]⟩)::(3,⟨#[105,110,116]⟩)::((if len=0 then[]else(4,⟨#[44]⟩)::(aF<|kids 0).ex 1)++[(4,⟨#[41]⟩)])) r true;rw[avo h0,avo h0];have:=(hm<|44::32::((aJ<|kids 0).ex 1++41::r)).trans<|(hi _<|b8 _ _ J).trans<|(A4 true).trans<|(ih 0 (hE 0<|Nat.pos_of_ne_zero h0) 1 (41::r) false<|b8 _ _ J).trans<|um true;simpa using this
  ·obtain⟨h1,hE⟩:=u7 z h;obtain⟨_,hs⟩:=yi z h;obtain rfl:k=27:=z;have hE':(kids 0).Q=true:=hE;have S8:s=⟨#[45]⟩\/s=⟨#[33]⟩:=hs;show LR ((s.data.toList++(if s.data.toList=[45]/\(kids 0).y=27/\(kids 0).z.data.toList=[45]then 40::((aJ<|kids 0).ex 1++[41])else(aJ<|kids 0).ex 6))++r) e ((4,s)::(if s.data.toList=[45]/\(kids 0).y=27/\(kids 0).z.data.toList=[45]then fr true ((aF<|kids 0).ex 1)else(aF<|kids 0).ex 6)) r true;by_cases y:s.data.toList=[45]/\(kids 0).y=27/\(kids 0).z.data.toList=[45]
   ·rw[avA y,avA y];obtain rfl:s=⟨#[45]⟩:=dx y.1;have h3:LR (45::40::((aJ<|kids 0).ex 1++41::r)) e [(4,⟨#[45]⟩)] (40::((aJ<|kids 0).ex 1++41::r)) false:=.one (d:=1) rfl rfl M J;have:=h3.trans<|(xB false).trans<|(ih 0 hE' 1 (41::r) false<|b8 _ _ J).trans<|um true;simpa[fr]using this
   ·rw[avo y,avo y];obtain⟨c,x,hx,h61,Qo⟩:=QL hE';have h6:=ih 0 hE' 6 r false hr;rcases S8 with rfl|rfl
    ·have hc:c≠45:=fun e2=>y ⟨rfl,Qo e2⟩;have h3:LR (45::((aJ<|kids 0).ex 6++r)) e [(4,⟨#[45]⟩)] ((aJ<|kids 0).ex 6++r) false:=by
      rw[hx];refine .one (d:=1) ?_ rfl M J;exact Le (.inl rfl) (fun _=>hc) fun e2=>absurd e2 J
     exact h3.trans h6
    ·have h3:LR (33::((aJ<|kids 0).ex 6++r)) e [(4,⟨#[33]⟩)] ((aJ<|kids 0).ex 6++r) false:=by
      rw[hx];refine .one (d:=1) ?_ rfl M J;exact Le (.inr rfl) (fun e2=>absurd e2 J) fun _=>h61
     exact h3.trans h6
  ·obtain⟨hl,h2,jv,zn⟩:=ly z h;obtain rfl:k=28:=z;have Hv:0<bV s:=hl;have core:∀r e,lN r->LR ((aJ<|kids 0).ex (bV s)++(32::(s.data.toList++32::((aJ<|kids 1).ex (bV s+1)++r)))) e ((aF<|kids 0).ex (bV s)++(4,s)::(aF<|kids 1).ex (bV s+1)) r true:=fun r e hr=>
    (ih 0 jv _ _ e<|b8 _ _ J).trans (K':=_::_) ((PN Hv true).trans<|ih 1 zn _ r false hr)
   show LR (jJ (decide<|bV s<l) ((aJ<|kids 0).ex (bV s)++(32::(s.data.toList++32::(aJ<|kids 1).ex (bV s+1))))++r) e (fr (decide<|bV s<l)<|(aF<|kids 0).ex (bV s)++(4,s)::(aF<|kids 1).ex (bV s+1)) r true;by_cases y:bV s<l
   ·have:=(xB e).trans<|(core (41::r) false<|b8 _ _ J).trans<|um true;simpa[jJ,fr,y]using this
   ·have:=core r e hr;simpa[jJ,fr,y]using this
  ·obtain⟨h1,hE⟩:=yd z h;obtain rfl:k=29:=z;have h3:LR (60::45::((aJ<|kids 0).ex 6++r)) e [(4,⟨#[60,45]⟩)] ((aJ<|kids 0).ex 6++r) false:=.one (d:=2) rfl rfl M J;exact h3.trans<|ih 0 hE 6 r false hr
theorem pA (z:T.y≠5/\T.y≠6/\T.y≠7)(h:T.U=true):T.z=⟨#[]⟩/\T.E=0:=by
 rw[aM]at h;unfold aL at h;rw[avo (show¬(T.y=5\/T.y=6) by omega),avo z.2.2]at h;repeat' split at h
 all_goals first|cases h;done|(simp only[avw,avy]at h;exact⟨jc h.1.1,h.1.2⟩)
theorem GP (z:T.y=5\/T.y=6)(h:T.U=true):aK T.z=true/\T.E=0:=by rw[aM]at h;rcases z with z|z<;>rw[z]at h<;>simp[aL]at h<;>exact⟨h.1.1.2,h.1.2⟩
theorem UR (z:T.y=7)(h:T.U=true):aK T.z=true/\(T.E=1\/T.E=-1):=by rw[aM,z]at h;simp[aL]at h;exact⟨h.1.2,h.2.1⟩
theorem si_9 (z:T.y=9)(h:T.U=true):(T.f 0).y=25\/(T.f 0).y=29:=by rw[aM,z]at h;simp[aL]at h;exact h.2.2
theorem SD (z:T.y=13\/T.y=14)(h:T.U=true):(T.f 0).y=25:=by
 have:aG (fun i=>(T.f i).Q) (fun i=>(T.f i).U) T.kk T.q ⟨#[99]⟩=true:=by
  rw[aM]at h;rcases z with z|z<;>rw[z]at h<;>simp[aL]at h<;>exact h.2
 have:=(kE this).2 0 J;simp[bT]at this;exact this.1
theorem TK (h:T.aH=true):T.z=⟨#[]⟩\/(T.E=1/\aK T.z=true):=by
 rw[lI]at h;unfold gP at h;split at h
 ·simp only[avw,av2,avy]at h;exact h.1.imp jc id
 ·cases h
theorem SN (e:Bool):LR (123::10::r) e [(4,⟨#[123]⟩)] r false:=(LR.one (d:=1) (r:=10::r) (b:=false) rfl rfl M J).trans Dk
theorem SJ (e:Bool):LR (125::r) e [(4,⟨#[125]⟩)] r true:=.one (d:=1) rfl rfl M J
theorem Dl (e:Bool):LR (60::45::r) e [(4,⟨#[60,45]⟩)] r false:=.one (d:=2) rfl rfl M J
theorem A0 (x:List UInt8)(e:Bool)(hc:x=c::axd)(hx:∀b∈x,cG b.toNat=true)(hl:bZ c.toNat=true)(hn:x.length<=40)(z:hasB bd (bs x)=true):LR (x++32::r) e [(3,bs x)] r (jK 3<|bs x):=
 (iF (b8 _ _ J) e hc hx hl hn z rfl).trans (gA _)
theorem yY {f:Nat->List UInt8}{g:Nat->List KT}(n:Nat)(h:∀i,i<n->∀r,LR (f i++r) false (g i) r false):∀m,m<=n->∀r,LR (ay f m++r) false (dr g 0 m) r false
 |0,_,r=>.refl _ _
 |m+1,hm,r=>by
  rw[oJ,Nat.zero_add]
  simp only[ay,avM]
  exact(yY n h m O _).trans<|h m O r
def RJ (T:Nd):Prop:=T.U=true->∀d r e,lN r->LR ((aJ T).st d++r) e (aF T).st r true
def YE (T:Nd):Prop:=T.aH=true->∀d r,LR ((aJ T).cs d++r) false (aF T).cs r false
def Ee (T:Nd):Prop:=T.y=4->T.U=true->∀d r,LR ((aJ T).ad d++r) false (aF T).ad r false
theorem UN (z:T.y=4)(d:Nat):(aJ T).st d=aS d ((aJ T).ad<|d+1):=by rw[Kx T<|.inr O,qz,z];rfl
theorem Vl (ih:∀i,i<T.q->RJ (T.f i)):Ee T:=fun z hs d r=>by
 rw[qz,qn]
 refine yY T.q (fun i hi r=>?_) T.q lr r
 have:=(ih i hi (tT z hs i hi) d (10::r) false<|b8 _ _ J).trans (K':=[(5,⟨#[]⟩)]) K7
 have h2:=(qD (r:=(aJ<|T.f i).st d++10::r) false d).trans this
 simpa[iO]using h2
theorem uo (ih:Ee T)(z:T.y=4)(hs:T.U=true)(d:Nat)(r:List UInt8)(e:Bool):LR (aS d ((aJ T).ad<|d+1)++r) e (aF T).st r true:=by
 have h1:=(SN e).trans<|(ih z hs (d+1)<|bB d++125::r).trans<|(qD false d).trans<|SJ (r:=r) false;have e1:(aF T).st=(4,⟨#[123]⟩)::((aF T).ad++[(4,⟨#[125]⟩)]):=by rw[cK O,qn,z];rfl
 rw[e1];simpa[aS]using h1
theorem lr_cs (ih:∀i,i<T.q->Ee (T.f i)):YE T:=fun h d r=>by
 obtain⟨z,hf,eA,mi⟩:=ym h
 have cm:=TK h
 have hl:1<=T.q:=O
 have hI:=ih (T.q-1) O eA mi (d+1) r
 have tail:∀e,LR (58::10::((aJ<|T.f<|T.q-1).ad (d+1)++r)) e ((4,⟨#[58]⟩)::(aF<|T.f<|T.q-1).ad) r false:=fun e=>by
  have h1:LR (58::10::((aJ<|T.f<|T.q-1).ad (d+1)++r)) e [(4,⟨#[58]⟩)] (10::((aJ<|T.f<|T.q-1).ad (d+1)++r)) false:=.one (d:=1) rfl rfl M J
  exact h1.trans<|Dk.trans hI
 have e0:(aJ T).cs d=bB d++(bG T.E T.z.data.toList (fun i=>aJ<|T.f i)++([58,10]++(aJ<|T.f<|T.q-1).ad (d+1))):=by
  cases T with
  |nil=>simp[Nd.y]at z
  |mk=>rfl
 rw[e0,yG O];simp only[avM];refine(qD false d).trans (K':=_++_) ?_;have ll:∀x,LR ([99,97,115,101,32]++x) false [(3,⟨#[99,97,115,101]⟩)] x false:=fun x=>A0 [99,97,115,101] false rfl J J J J;rcases hf with⟨hn,_⟩|⟨hn,h2,fz⟩|⟨hn,h3,fz,mZ⟩
 ·rw[hn];exact(iF (x:=[100,101,102,97,117,108,116]) (b8 _ _ J) false (b:=false) rfl J J J J J).trans<|tail false
 ·rw[hn];have hex:=fun e=>(Dl e).trans<|(kC _ fz 6 (58::10::((aJ<|T.f<|T.q-1).ad (d+1)++r)) false<|b8 _ _ J).trans<|tail true;rcases cm with he|⟨_,hN⟩
  ·rw[he];have:=(ll _).trans<|hex false;simpa[bG,lW]using this
  ·have bY:T.z.data.toList≠[]:=by
    intro e2;have:=dx (a:=T.z) (b:=⟨#[]⟩) e2;rw[this]at hN;exact absurd hN J
   have Qj:∀x,LR (32::58::61::32::x) true [(4,⟨#[58,61]⟩)] x false:=fun x=>(gA true).trans<|(LR.one (d:=2) (r:=32::x) (b:=false) rfl rfl M J).trans<|gA false;have:=(ll _).trans<|(jY hN (b8 _ _ J) false).trans<|(Qj _).trans<|hex false;simpa[bG,lW,bY]using this
 ·rw[hn];have Vz:∀x,LR (32::60::45::32::x) true [(4,⟨#[60,45]⟩)] x false:=fun x=>(gA true).trans<|(Dl true).trans<|gA false;have:=(ll _).trans<|(kC _ fz 1 _ false<|b8 _ _ J).trans<|(Vz _).trans<|(kC _ mZ 1 (58::10::((aJ<|T.f<|T.q-1).ad (d+1)++r)) false<|b8 _ _ J).trans<|tail true;simpa[bG,lW]using this
theorem lr_st (ih:∀i,i<T.q->RJ (T.f i)/\YE (T.f i)/\Ee (T.f i))(hI:Ee T):RJ T:=fun h d r e hr=>by
 have bY:T.q≠0\/T.y≠0:=.inr (by rcases iA h with e|e|e|e|e|e|e|e|e|e|e|e|e|e|e|e|e<;>omega)
 have jl:T.y≠0:=by rcases iA h with e|e|e|e|e|e|e|e|e|e|e|e|e|e|e|e|e<;>omega
 have qI:∀(x r:List UInt8)(e:Bool),LR (32::58::61::32::r) e [(4,⟨#[58,61]⟩)] r false/\LR (32::61::32::r) e [(4,⟨#[61]⟩)] r false:=fun x r e=>
  ⟨(gA e).trans<|(LR.one (d:=2) (r:=32::r) (b:=false) rfl rfl M J).trans<|gA false,(gA e).trans<|(LR.one (d:=1) (r:=32::r) (b:=false) rfl rfl M J).trans<|gA false⟩
 have DD:∀(x:List UInt8){c:UInt8}{axd:List UInt8},x=c::axd->(∀b∈x,cG b.toNat=true)->bZ c.toNat=true->x.length<=40->hasB bd (bs x)=true->∀{K:List KT}{axa:List UInt8},LR axa (jK 3<|bs x) K r true->LR (x++32::axa) e ((3,bs x)::K) r true:=
  fun x c axd hc hx hl hn z K axa hz=>(A0 x e hc hx hl hn z).trans hz
 have VA:∀(x:List UInt8){c:UInt8}{axd:List UInt8},x=c::axd->(∀b∈x,cG b.toNat=true)->bZ c.toNat=true->x.length<=40->hasB bd (bs x)=true->(T.f 0).Q=true->LR (x++40::((aJ<|T.f 0).ex 1++41::r)) e ((3,bs x)::fr true ((aF<|T.f 0).ex 1)) r true:=
  fun x c axd hc hx hl hn z he=>by
   have:=(iF (r:=40::((aJ<|T.f 0).ex 1++41::r)) (b8 _ _ J) e hc hx hl hn z rfl).trans<|(xB _).trans<|(kC _ he 1 (41::r) false<|b8 _ _ J).trans<|um true
   simpa[fr]using this
 rcases iA h with z|z|z|z|z|z|z|z|z|z|z|z|z|z|z|z|z
 ·rw[UN z];exact uo hI z h d r e
 all_goals rw[Kx T bY,cK jl,z]
 ·obtain⟨h1,he⟩:=dq (.inl z) h
  have:=(jY (GP (.inl z) h).1 (b8 _ _ J) e).trans<|((qI [] _ true).1).trans<|kC _ he 1 r false hr
  simpa[my,fW,jN,h1]using this
 ·obtain⟨h1,he⟩:=dq (.inr<|.inl z) h
  have:=(jY (GP (.inr z) h).1 (b8 _ _ J) e).trans<|((qI [] _ true).2).trans<|kC _ he 1 r false hr
  simpa[my,fW,jN,h1]using this
 ·obtain⟨hn,hu⟩:=UR z h
  rcases hu with hu|hu<;>rw[hu]
  ·have h3:LR (43::43::r) true [(4,⟨#[43,43]⟩)] r true:=.one (d:=2) rfl rfl M J
   have:=(jY hn (b8 _ _ J) e).trans h3
   simpa[my,fW]using this
  ·have h3:LR (45::45::r) true [(4,⟨#[45,45]⟩)] r true:=.one (d:=2) rfl rfl M J
   have:=(jY hn (b8 _ _ J) e).trans h3
   simpa[my,fW]using this
 ·obtain⟨h2,fz,mZ⟩:=GN z h
  have Vz:∀x,LR (32::60::45::32::x) true [(4,⟨#[60,45]⟩)] x false:=fun x=>(gA true).trans<|(Dl true).trans<|gA false
  have:=(kC _ fz 1 _ e<|b8 _ _ J).trans<|(Vz _).trans<|kC _ mZ 1 r false hr
  simpa[my,fW]using this
 ·exact kC _ (dq (.inr<|.inr<|.inl z) h).2 1 r e hr
 ·obtain⟨hl,he,⟨eA,mi⟩,L1⟩:=AD z h
  have hB:=fun r e=>uo (ih 1 O).2.2 eA mi d r e
  have hif:=fun{K:List KT}{axa:List UInt8}(hz:LR axa false K r true)=>DD [105,102] rfl J J J J hz
  by_cases h3:T.q=3
  ·obtain⟨iR,bP⟩:=L1 h3
   have hE:=(ih 2 O).1 bP d r false hr
   have hels:LR (32::101::108::115::101::32::((aJ<|T.f 2).st d++r)) true ((3,⟨#[101,108,115,101]⟩)::(aF<|T.f 2).st) r true:=
    (gA true).trans ((A0 [101,108,115,101] true rfl J J J J).trans hE)
   have:=hif<|(kC _ he 1 (32::_) false<|b8 _ _ J).trans<|(gA true).trans<|(hB _ true).trans hels
   simpa[my,fW,h3,bs]using this
  ·have:=hif ((kC _ he 1 (32::_) false<|b8 _ _ J).trans<|(gA true).trans<|hB _ true)
   simpa[my,fW,h3,bs]using this
 ·have hfor:=fun{K:List KT}{axa:List UInt8}(hz:LR axa false K r true)=>DD [102,111,114] rfl J J J J hz
  rcases AC z h with⟨h1,eA,mi⟩|⟨h2,he,eA,mi⟩
  ·have:=hfor (uo (ih 0 O).2.2 eA mi d r false)
   simpa[my,fW,h1,bs]using this
  ·have:=hfor ((kC _ he 1 (32::_) false<|b8 _ _ J).trans<|(gA true).trans<|uo (ih 1 O).2.2 eA mi d r true)
   simpa[my,fW,h2,bs]using this
 ·rcases AB z h with h0|⟨h1,he⟩
  ·have:LR ([114,101,116,117,114,110]++r) e [(3,⟨#[114,101,116,117,114,110]⟩)] r true:=iF hr e rfl J J J J J
   simpa[my,fW,h0]using this
  ·have:=DD [114,101,116,117,114,110] rfl J J J J (kC _ he 1 r _ hr)
   simpa[my,fW,jN,h1,bs]using this
 ·obtain⟨h1,he⟩:=dq (.inr<|.inr<|.inr<|.inl z) h
  have:=DD [103,111] rfl J J J J (kC _ he 1 r _ hr)
  simpa[my,fW,jN,h1,bs]using this
 ·obtain⟨h1,he⟩:=dq (.inr<|.inr<|.inr<|.inr<|.inl z) h
  have:=DD [100,101,102,101,114] rfl J J J J (kC _ he 1 r _ hr)
  simpa[my,fW,jN,h1,bs]using this
 ·have hc:=yY T.q (f:=fun i=>(aJ<|T.f i).cs d) (g:=fun i=>(aF<|T.f i).cs) (fun i hi r=>(ih i hi).2.1 (xi z h i hi) d r) T.q lr (bB d++125::r)
  have:=DD [115,101,108,101,99,116] rfl J J J J ((SN _).trans<|hc.trans<|(qD false d).trans<|SJ (r:=r) false)
  simpa[my,fW,bs]using this
 ·exact iF (x:=[98,114,101,97,107]) hr e rfl J J J J J
 ·exact iF (x:=[99,111,110,116,105,110,117,101]) hr e rfl J J J J J
 ·obtain⟨h1,he⟩:=dq (.inr<|.inr<|.inr<|.inr<|.inr<|.inl z) h
  have:=VA [99,108,111,115,101] rfl J J J J he
  simpa[my,fW,C7,jN,h1,bs]using this
 ·obtain⟨h1,he⟩:=dq (.inr<|.inr<|.inr<|.inr<|.inr<|.inr<|.inl z) h
  have:=VA [112,114,105,110,116] rfl J J J J he
  simpa[my,fW,C7,jN,h1,bs]using this
 ·obtain⟨h1,he⟩:=dq (.inr<|.inr<|.inr<|.inr<|.inr<|.inr<|.inr z) h
  have:=VA [112,97,110,105,99] rfl J J J J he
  simpa[my,fW,C7,jN,h1,bs]using this
theorem Vn (T:Nd):RJ T/\YE T/\Ee T:=by
 induction T with
 |nil=>exact⟨fun h=>by simp[Nd.U,yT]at h,fun h=>by simp[Nd.aH,yT]at h,fun h=>by simp[Nd.y]at h⟩
 |mk k n s len kids ih=>
  have hI:Ee (.mk k n s len kids):=Vl fun i _=>(ih i).1;exact⟨lr_st (fun i _=>ih i) hI,lr_cs fun i _=>(ih i).2.2,hI⟩
theorem Fj (h:b6 T=true):T.y=2/\aK T.z=true/\(0<=T.E/\T.E<=3)/\1<=T.q/\(∀i,i<T.q-1->(T.f i).y=3/\aK (T.f i).z=true/\(1<=(T.f i).E/\(T.f i).E<=3)/\(T.f i).q=0)/\(T.f<|T.q-1).y=4/\(T.f<|T.q-1).U=true:=by
 unfold b6 at h;simp only[avw,avy]at h;obtain⟨⟨⟨⟨h1,h2⟩,h3⟩,h4⟩,h5,h6,h7⟩:=h
 refine⟨h1,h2,h3,h4,fun i hi=>?_,h6,h7⟩;have:=bj.1 h5 i hi;unfold fh at this;simp only[avw,avy]at this;exact⟨this.1.1.1,this.1.1.2,this.1.2,this.2⟩
theorem EN (h:1<=n/\n<=3)(hr:lN r)(e:Bool):LR (cW n++r) e (nn n) r true:=by
 rcases(O:n=1\/n=2\/n=3)with rfl|rfl|rfl
 ·exact iF (x:=[105,110,116]) hr e rfl J J J J J
 ·exact iF (x:=[98,111,111,108]) hr e rfl J J J J J
 ·exact(A0 [99,104,97,110] e rfl J J J J).trans<|iF (x:=[105,110,116]) hr _ rfl J J J J J
theorem EO (h:b6 T=true)(r:List UInt8):LR (lY T++r) false (iO (fun _=>lZ T) 0) r false:=by
  obtain⟨z,hn,bm,hl,y,eA,mi⟩:=Fj h;have hB:=fun e=>(uo (Vn<|T.f<|T.q-1).2.2 eA mi 0 (10::r) e).trans (K':=[(5,⟨#[]⟩)]) K7;have oC:LR ((if T.E=0 then[]else cW T.E++[32])++(aS 0 ((aJ<|T.f<|T.q-1).ad 1)++10::r)) true (nn T.E++((aF<|T.f<|T.q-1).st++[(5,⟨#[]⟩)])) r false:=by
    by_cases h0:T.E=0
    · rw[avA h0,h0];exact hB true
    · rw[avo h0];have:=(EN (n:=T.E) O (r:=32::(aS 0 ((aJ<|T.f<|T.q-1).ad 1)++10::r)) (b8 _ _ J) true).trans<|(gA true).trans<|hB true;simpa using this
  have hL:=yX (T.q-1) (f:=fun i=>(T.f i).z.data.toList++32::cW (T.f i).E) (g:=fun i=>rZ (T.f i)) (fun i hi r e hr=>by
    obtain⟨_,h1,h2,_⟩:=y i hi
    have:=(jY h1 (r:=32::(cW (T.f i).E++r)) (b8 _ _ J) e).trans<|(gA true).trans<|EN h2 hr true
    simpa[rZ]using this) (T.q-1) lr (41::32::((if T.E=0 then[]else cW T.E++[32])++(aS 0 ((aJ (T.f (T.q-1))).ad 1)++10::r))) false (b8 _ _ J)
  have h2:=(A0 [102,117,110,99] (r:=T.z.data.toList++40::(ay (fun i=>(if i=0 then[]else[44,32])++((T.f i).z.data.toList++32::cW (T.f i).E)) (T.q-1)++41::32::((if T.E=0 then[]else cW T.E++[32])++(aS 0 ((aJ<|T.f<|T.q-1).ad 1)++10::r)))) false rfl J J J J).trans<|(jY hn (b8 _ _ J) _).trans<|(xB true).trans<|hL.trans<|(um _).trans<|(gA true).trans oC;have e1:lY T++r=[102,117,110,99]++32::(T.z.data.toList++40::(ay (fun i=>(if i=0 then[]else[44,32])++((T.f i).z.data.toList++32::cW (T.f i).E)) (T.q-1)++41::32::((if T.E=0 then[]else cW T.E++[32])++(aS 0 ((aJ<|T.f<|T.q-1).ad 1)++10::r)))):=by
    unfold lY;simp
  rw[e1];simpa[iO,lZ,bs]using h2
theorem PO (h:∀i,i<T.q->b6 (T.f i)=true):LR (eL T) false (BN T) [] false:=by
  have:=yY T.q (f:=fun i=>(if i=0 then[]else[10])++lY (T.f i)) (g:=iO fun i=>lZ (T.f i)) (fun i hi r=>by
    by_cases h0:i=0
    · rw[avA h0];exact EO (h i hi) r
    · rw[avo h0]
      exact(Dk (r:=lY (T.f i)++r)).trans (EO (h i hi) r)) T.q lr []
  rw[awG]at this;exact this
theorem Kv {s:List UInt8}(h:LR l e K l' e'):∀{p:Nat}{acc:List Tok},Reach s p acc->p<=s.length->s.drop p=l->fC acc=e->
  ∃p' Ng,Reach s p' Ng/\p'<=s.length/\s.drop p'=l'/\fC Ng=e'/\Ng.map (fun t=>(t.y,t.text))=acc.map (fun t=>(t.y,t.text))++K:=by
 induction h with
 |refl l e=>intro p acc hr y hd he;exact⟨p,acc,hr,y,hd,he,M⟩
 |@skip l e d K l' e' h1 h2 _ ih=>
  intro p acc hr y hd he;subst hd he;have Tn:s.drop (p+d)=(s.drop p).drop d:=by rw[drop_drop]
  rw[awf]at h2;exact ih (hr.skip y h1) O Tn rfl
 |@tok l e k t d K l' e' h1 h2 _ ih=>
  intro p acc hr y hd he;subst hd he;have Tn:s.drop (p+d)=(s.drop p).drop d:=by rw[drop_drop]
  rw[awf]at h2;obtain⟨p',Ng,h3,h4,h5,h6,h7⟩:=ih (hr.tok y h1) O Tn (by simp[fC]);exact⟨p',Ng,h3,h4,h5,h6,by rw[h7];simp⟩
theorem mb {f:Nat->List KT}{g:Nat->Nat}{n:Nat}(h:∀i,i<n->(f i).length<=6*g i):∀m,m<=n->(dr f 0 m).length<=6*aq g m
 |0,_=>by simp[dr]
 |m+1,hm=>by
  have:=mb h m O
  have:=h m O
  rw[oJ,Nat.zero_add,avu];simp only[aq];omega
theorem oj (T:Nd):1<=T.size:=by rw[T.size_eq];omega
theorem kX :aq g 1=g 0:=by simp[aq]
theorem qp :aq g 2=g 0+g 1:=by simp[aq]
theorem xc :aq g 3=g 0+g 1+g 2:=by simp[aq]
theorem AR (b:Bool)(t:List KT):(fr b t).length<=t.length+2:=by unfold fr;split<;>simp
theorem lG (T:Nd):T.Q=true->∀l,((aF T).ex l).length+1<=6*T.size:=by
  induction T with
  | nil=>intro h;cases h
  | mk k n s len kids ih=>
    intro h l;have hz:(Nd.mk k n s len kids).size=1+aq (fun i=>(kids i).size) len:=rfl;rw[hz];rcases iH h with z|z|z|z|z|z|z|z
    · obtain rfl:k=22:=z;show 1+1<=_;omega
    · obtain rfl:k=23:=z;show 1+1<=_;omega
    · obtain rfl:k=24:=z;show 1+1<=_;omega
    · have hE:=ye z h;obtain rfl:k=25:=z;have:=mb (f:=jF fun i=>(aF (kids i)).ex 1) (g:=fun i=>(kids i).size) (n:=len) (fun i hi=>by
        have:=ih i (hE i hi) 1
        unfold jF;split<;>simp<;>omega) len lr
      show((1,s)::(4,⟨#[40]⟩)::(dr (jF fun i=>(aF<|kids i).ex 1) 0 len++[(4,⟨#[41]⟩)])).length+1<=_;simp only[length_cons,avu,length_nil];omega
    · obtain⟨h2,hE⟩:=u9 z h;obtain rfl:k=26:=z;show((3,⟨#[109,97,107,101]⟩)::(4,⟨#[40]⟩)::(3,⟨#[99,104,97,110]⟩)::(3,⟨#[105,110,116]⟩)::((if len=0 then[]else(4,⟨#[44]⟩)::(aF<|kids 0).ex 1)++[(4,⟨#[41]⟩)])).length+1<=_;by_cases h0:len=0
      · simp only[avA h0,length_cons,avu,length_nil];omega
      · have h1:len=1:=by have:(Nd.mk 26 n s len kids).q=len:=rfl;omega
        have:=ih 0 (hE 0 (by show 0<len;omega)) 1;simp only[avo h0,length_cons,avu,length_nil];rw[h1,kX];omega
    · obtain⟨h1,hE⟩:=u7 z h;obtain rfl:k=27:=z;obtain rfl:len=1:=h1;rw[kX];show((4,s)::(if s.data.toList=[45]/\(kids 0).y=27/\(kids 0).z.data.toList=[45]then fr true ((aF<|kids 0).ex 1)else(aF<|kids 0).ex 6)).length+1<=_;have a1:=ih 0 hE 1;have a6:=ih 0 hE 6;have:=AR true<|(aF<|kids 0).ex 1;split<;>simp only[length_cons]<;>omega
    · obtain⟨hl,h2,jv,zn⟩:=ly z h;obtain rfl:k=28:=z;obtain rfl:len=2:=h2;rw[qp];have a1:=ih 0 jv<|bV s;have a2:=ih 1 zn<|bV s+1;have:=AR (decide<|bV s<l)<|(aF<|kids 0).ex (bV s)++(4,s)::(aF<|kids 1).ex (bV s+1);simp only[avu,length_cons]at this;show(fr (decide<|bV s<l)<|(aF<|kids 0).ex (bV s)++(4,s)::(aF<|kids 1).ex (bV s+1)).length+1<=_;omega
    · obtain⟨h1,hE⟩:=yd z h;obtain rfl:k=29:=z;obtain rfl:len=1:=h1;rw[kX];have a6:=ih 0 hE 6;show((4,⟨#[60,45]⟩)::(aF<|kids 0).ex 6).length+1<=_;simp only[length_cons];omega
def StNx (T:Nd):Prop:=(T.U=true->(aF T).st.length+1<=6*T.size)/\(T.aH=true->(aF T).cs.length<=6*T.size)/\(T.y=4->T.U=true->(aF T).ad.length+6<=6*T.size)
theorem UM (T:Nd):StNx T:=by
  induction T with
  | nil=>exact⟨fun h=>by simp[Nd.U,yT]at h,fun h=>by simp[Nd.aH,yT]at h,fun h=>by simp[Nd.y]at h⟩
  | mk k n s len kids ih=>
    have hz:(Nd.mk k n s len kids).size=1+aq (fun i=>(kids i).size) len:=rfl;have hI:(Nd.mk k n s len kids).y=4->(Nd.mk k n s len kids).U=true->(aF<|Nd.mk k n s len kids).ad.length+6<=6*(Nd.mk k n s len kids).size:=fun z hs=>by
      have:=mb (f:=iO fun i=>(aF (kids i)).st) (g:=fun i=>(kids i).size) (n:=len) (fun i hi=>by
        have:=(ih i).1<|tT z hs i hi
        simp only[iO,avu,length_cons,length_nil];omega) len lr
      rw[hz];show(dr (iO fun i=>(aF<|kids i).st) 0 len).length+6<=_;omega
    refine⟨fun h=>?_,fun h=>?_,hI⟩
    · have jl:(Nd.mk k n s len kids).y≠0:=by rcases iA h with e|e|e|e|e|e|e|e|e|e|e|e|e|e|e|e|e<;>omega
      have p1:=fun i=>oj<|kids i;rcases iA h with z|z|z|z|z|z|z|z|z|z|z|z|z|z|z|z|z
      · have:=hI z h;have e1:(aF<|Nd.mk k n s len kids).st=(4,⟨#[123]⟩)::((aF<|Nd.mk k n s len kids).ad++[(4,⟨#[125]⟩)]):=by rw[cK jl,qn,z];rfl
        rw[e1];simp only[length_cons,avu,length_nil];omega
      all_goals rw[cK jl,z,hz]
      · obtain⟨h1,he⟩:=dq (.inl z) h;exact agP
      · obtain⟨h1,he⟩:=dq (.inr<|.inl z) h;exact agP
      · simp[fW];omega
      · obtain⟨h2,fz,mZ⟩:=GN z h;obtain rfl:len=2:=h2;have:=lG (kids 0) fz 1;have:=lG (kids 1) mZ 1;rw[qp];simp[fW,Nd.f];omega
      · obtain⟨h1,he⟩:=dq (.inr<|.inr<|.inl z) h;exact agP
      · obtain⟨hl,he,⟨eA,mi⟩,L1⟩:=AD z h;have a0:=lG (kids 0) he 1;have a1:=(ih 1).1 mi;rcases hl with hl|hl
        · obtain rfl:len=2:=hl;rw[qp];simp[fW,Nd.f,Nd.q];omega
        · obtain rfl:len=3:=hl;have a2:=(ih 2).1 (L1 rfl).2;rw[xc];simp[fW,Nd.f,Nd.q];omega
      · rcases AC z h with⟨h1,eA,mi⟩|⟨h2,he,eA,mi⟩
        · obtain rfl:len=1:=h1;have a1:=(ih 0).1 mi;rw[kX];simp[fW,Nd.f,Nd.q];omega
        · obtain rfl:len=2:=h2;have a0:=lG (kids 0) he 1;have a1:=(ih 1).1 mi;rw[qp];simp[fW,Nd.f,Nd.q];omega
      · rcases AB z h with h0|⟨h1,he⟩
        · obtain rfl:len=0:=h0;simp[fW,Nd.q,aq]
        · obtain rfl:len=1:=h1;have:=lG (kids 0) he 1;rw[kX];simp[fW,Nd.f,Nd.q];omega
      · obtain⟨h1,he⟩:=dq (.inr<|.inr<|.inr<|.inl z) h;exact agP
      · obtain⟨h1,he⟩:=dq (.inr<|.inr<|.inr<|.inr<|.inl z) h;exact agP
      · have:=mb (f:=fun i=>(aF<|kids i).cs) (g:=fun i=>(kids i).size) (n:=len) (fun i hi=>(ih i).2.1<|xi z h i hi) len lr;simp[fW,Nd.f,Nd.q];omega
      · simp[fW];omega
      · simp[fW];omega
      · obtain⟨h1,he⟩:=dq (.inr<|.inr<|.inr<|.inr<|.inr<|.inl z) h;exact agN
      · obtain⟨h1,he⟩:=dq (.inr<|.inr<|.inr<|.inr<|.inr<|.inr<|.inl z) h;exact agN
      · obtain⟨h1,he⟩:=dq (.inr<|.inr<|.inr<|.inr<|.inr<|.inr<|.inr z) h;exact agN
    · obtain⟨z,hf,eA,mi⟩:=ym h;have hl:1<=len:=by have:(Nd.mk k n s len kids).q=len:=rfl;omega
      have a:=(ih<|len-1).2.2 eA mi;rw[yG O,hz];rcases hf with⟨hn,h1⟩|⟨hn,h2,fz⟩|⟨hn,h3,fz,mZ⟩
      · obtain rfl:len=1:=h1;obtain rfl:n=0:=hn;rw[kX];simp[lW,Nd.E,Nd.f,Nd.q]at a⊢;omega
      · obtain rfl:len=2:=h2;obtain rfl:n=1:=hn;have:=lG (kids 0) fz 6;rw[qp];simp[lW,Nd.E,Nd.z,Nd.f,Nd.q]at a⊢;split<;>simp<;>omega
      · obtain rfl:len=3:=h3;obtain rfl:n=2:=hn;have:=lG (kids 0) fz 1;have:=lG (kids 1) mZ 1;rw[xc];simp[lW,Nd.E,Nd.f,Nd.q]at a⊢;omega
theorem Mf (h:b6 T=true):(lZ T).length+1<=6*T.size:=by
  obtain⟨z,hn,bm,hl,y,eA,mi⟩:=Fj h;have a:=(UM<|T.f<|T.q-1).1 mi;have oC:∀n:Int,(nn n).length<=2:=by
    intro n;unfold nn;repeat' split
    all_goals simp
  have b:=mb (f:=jF fun i=>rZ (T.f i)) (g:=fun i=>(T.f i).size) (n:=T.q-1) (fun i hi=>by
    have:=oC (T.f i).E
    have:=oj<|T.f i
    unfold jF rZ;split<;>simp<;>omega) (T.q-1) lr
  have hz:=T.size_eq;obtain⟨m,hm⟩:∃m,T.q=m+1:=⟨T.q-1,O⟩;rw[hm]at hz a b;simp only[aq,av1]at hz a b;have:=oC T.E;unfold lZ;rw[hm];simp only[length_cons,avu,av1];omega
theorem BL (h:cJ T=true):(BN T).length<=4000:=by
  unfold cJ at h;simp only[avw,avy]at h;have hF:=bj.1 h.2;have:=mb (f:=iO fun i=>lZ (T.f i)) (g:=fun i=>(T.f i).size) (n:=T.q) (fun i hi=>by
    have:=Mf<|hF i hi
    simp only[iO,avu,length_cons,length_nil];omega) T.q lr
  have hz:=T.size_eq;have:=h.1.1.1.1;show(dr (iO fun i=>lZ<|T.f i) 0 T.q).length<=4000;omega
theorem Mo (h:cJ T=true):∃ts:List Tok,fS (eL T) ⟨ts,0,0⟩/\ts.map (fun t=>(t.y,t.text))=BN T:=by
 have hF:∀i,i<T.q->b6 (T.f i)=true:=by
  have h1:=h
  unfold cJ at h1;simp only[avw,avy]at h1;exact bj.1 h1.2
 obtain⟨p,acc,h1,h2,h3,h4,h5⟩:=Kv (PO hF) (Reach.start (s:=eL T)) (avL _) rfl rfl;have y:p=(eL T).length:=by have:=awt.1 h3;omega
 have hs:cS ((eL T).drop p) (fC acc)=.skip 1:=by rw[h3,h4];rfl
 have hm:acc.map (fun t=>(t.y,t.text))=BN T:=by rw[h5];simp
 have hl:acc.length<=4000:=by
  have:=congrArg List.length hm;rw[length_map]at this;have:=BL h;omega
 exact⟨acc,.done (h1.skip h2 hs) hl O,hm⟩
end Go.Proofs.YtgcmhaghebhjnaaGreatDoor
