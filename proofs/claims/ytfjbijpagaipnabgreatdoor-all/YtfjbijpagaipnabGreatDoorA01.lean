import Derived.Test.YtfjbijpagaipnabGreatDoorRows
import Derived.Deep.QuietTactic
import Derived.BigQuiet
import Derived.Deep.RegionWith
import Derived.Laws.BitsAllLaws
import Derived.Test.YtfjbijpagaipnabGreatDoorShelf
import Derived.Lib.ItoaMem
import Derived.Test.YtfjbijpagaipnabGreatDoorA00
set_option maxRecDepth 100000
set_option maxHeartbeats 8000000
namespace Go.Proofs.YtfjbijpagaipnabGreatDoor
open Go.RowKit
variable{i j k l m n p q r s:Nat}{w v W:World}{x y z:Value}{a b c d:Int}{X Y:List Nat}{u:Bool}{O:Option Addr}
def val:List Nat->Nat
 |[]=>0
 |a::b=>a+4294967296*val b
def Lo(xs:List Nat):Prop:=∀a∈xs,a<4294967296
def l9(xs:List Nat):Prop:=Lo xs/\(xs=[]\/0<xs.getD (xs.length-1) 0)
theorem q7:val []=0:=rfl
theorem iN(x:Nat)(r:List Nat):val (x::r)=x+4294967296*val r:=rfl
theorem lC(xs ys:List Nat):val (xs++ys)=val xs+4294967296^xs.length*val ys:=by
 induction xs with
 |nil=>simp[val]
 |cons c a b=>
  simp only[mS,iN,b,j3,jx,jd];rw[ij (4294967296^a.length) 4294967296,jG];omega
theorem mz:Lo []:=by intro b a;cases a
theorem zk{x:Nat}{r:List Nat}(h:x<4294967296)(c:Lo r):Lo (x::r):=by
 intro b a;rcases jU.1 a with rfl|a
 .exact h
 .exact c b a
theorem ub{a b:List Nat}(f:Lo a)(e:Lo b):Lo (a++b):=by
 intro d c;rcases ji.1 c with c|c
 .exact f d c
 .exact e d c
theorem mG{xs:List Nat}(h:Lo xs)(k:Nat):Lo (xs.take k):=λb a=>h b (tD a)
theorem jW{xs:List Nat}(h:Lo xs)(k:Nat):xs.getD k 0<4294967296:=by
 by_cases a:k<xs.length
 .simp only[List.getD,iI a,wy];exact h _ (lf a)
 .simp[List.getD,l4 (by omega:xs.length<=k)]
theorem j8{xs:List Nat}(h:Lo xs):val xs<4294967296^xs.length:=by
 induction xs with
 |nil=>simp[val]
 |cons a g c=>
  have e:a<4294967296:=h a (by simp);have f:=c (λb d=>h b (by simp[d]));simp only[iN,j3,jx];omega
theorem lG{xs:List Nat}(h:∀a∈xs,a=0):val xs=0:=by
 induction xs with
 |nil=>rfl
 |cons a g c=>
  have d:=h a (by simp);have e:=c (λb f=>h b (by simp[f]));simp[iN,d,e]
theorem ir(xs:List Nat)(k:Nat)(a:k<=xs.length):val xs=val (xs.take k)+4294967296^k*val (xs.drop k):=by
 have:=lC (xs.take k) (xs.drop k);rw[tz,kv,o_ a]at this;exact this
theorem kW(xs:List Nat)(k:Nat)(a:k<xs.length):xs.take (k+1)=xs.take k++[xs.getD k 0]:=by
 rw[oW a];simp[List.getD,iI a]
theorem oZ(xs:List Nat)(k:Nat)(a:k<xs.length):val (xs.take (k+1))=val (xs.take k)+4294967296^k*xs.getD k 0:=by
 rw[kW xs k a,lC,kv,o_ (by omega)];simp[val]
theorem iz(xs:List Nat)(k:Nat)(a:k<xs.length):xs.drop k=xs.getD k 0::xs.drop (k+1):=by
 rw[ow a];simp[List.getD,iI a]
theorem mh{xs:List Nat}(d:Lo xs)(k:Nat)(c:k<=xs.length)(g:∀f∈xs.drop k,f=0)(a:k=0\/0<xs.getD (k-1) 0):l9 (xs.take k)/\val (xs.take k)=val xs/\(xs.take k).length=k:=by
 have b:(xs.take k).length=k:=by rw[kv,o_ c]
 refine⟨⟨mG d k,?_⟩,?_,b⟩
 .rcases a with rfl|a
  .exact .inl (by simp)
  .by_cases e:k=0
   .subst e;exact .inl (by simp)
   .refine .inr ?_;rw[b];simpa[List.getD,sJ,show k-1<k from by omega]using a
 .rw[ir xs k c,lG g];simp
theorem kS{xs:List Nat}(h:l9 xs):val xs=0↔xs=[]:=by
 constructor
 .intro d;rcases h.2 with h|h
  .exact h
  .exfalso;have b:0<xs.length:=by
    cases xs with
    |nil=>simp at h
    |cons f e=>simp
   have:=ir xs (xs.length-1) (by omega);rw[iz xs (xs.length-1) (by omega),iN]at this;have c:0<4294967296^(xs.length-1):=kx (by decide);have:4294967296^(xs.length-1)*(xs.getD (xs.length-1) 0+4294967296*val (xs.drop (xs.length-1+1)))=0:=by omega
   rcases Nat.mul_eq_zero.1 this with a|a<;>omega
 .rintro rfl;rfl
theorem oY{xs:List Nat}(h:l9 xs)(a:xs≠[]):4294967296^(xs.length-1)<=val xs:=by
 have c:0<xs.getD (xs.length-1) 0:=h.2.resolve_left a;have b:0<xs.length:=rE.2 a;have:=ir xs (xs.length-1) (by omega);rw[iz xs (xs.length-1) (by omega),iN]at this;rw[this];have:4294967296^(xs.length-1)*1<=4294967296^(xs.length-1)*(xs.getD (xs.length-1) 0+4294967296*val (xs.drop (xs.length-1+1))):=jJ _ (by omega);omega
theorem jH{a b:List Nat}(d:Lo a)(c:l9 b)(h:a.length<b.length):val a<val b:=by
 have e:=j8 d;have f:=oY c (by rintro rfl;simp at h);have g:4294967296^a.length<=4294967296^(b.length-1):=jb (by decide) (by omega);omega
theorem C4{a b:List Nat}(i:Lo a)(l:a.length=b.length)(k:Nat)(f:k<a.length)(e:a.drop (k+1)=b.drop (k+1))(h:a.getD k 0<b.getD k 0):val a<val b:=by
 have d:=ir a k (by omega);have j:=ir b k (by omega);rw[iz a k f,iN]at d;rw[iz b k (by omega),iN]at j;have g:=j8 (mG i k);rw[kv,o_ (by omega)]at g;rw[e]at d;generalize val (b.drop (k+1))=c at*;have m:4294967296^k*(a.getD k 0+1+4294967296*c)<=4294967296^k*(b.getD k 0+4294967296*c):=jJ _ (by omega);have n:4294967296^k*(a.getD k 0+1+4294967296*c)=4294967296^k*(a.getD k 0+4294967296*c)+4294967296^k:=by
  rw[show a.getD k 0+1+4294967296*c=(a.getD k 0+4294967296*c)+1 from by omega,jd,qd]
 omega
theorem ld(xs:List Nat)(k:Nat)(h:xs.length<=k):xs.getD k 0=0:=by simp[List.getD,l4 h]
theorem h_(xs:List Nat)(k:Nat):val (xs.take (k+1))=val (xs.take k)+4294967296^k*xs.getD k 0:=by
 by_cases a:k<xs.length
 .exact oZ xs k a
 .rw[ld xs k (by omega),ka (by omega),ka (by omega)];simp
theorem k9(zs:List Nat)(k c:Nat)(a:k<zs.length):val ((zs.set k c).take (k+1))=val (zs.take k)+4294967296^k*c:=by
 rw[h_,B_ (BL k)];simp[List.getD,a]
theorem mf{zs:List Nat}(h:Lo zs)(k c:Nat)(e:c<4294967296):Lo (zs.set k c):=by
 intro d b;rcases List.mem_or_eq_of_mem_set b with a|a
 .exact h d a
 .omega
theorem mM(n:Nat):Lo (List.replicate n 0):=by
 intro b a;rw[rQ a];decide
theorem Ew{P X c x y:Nat}(h:i+P*c=X+j):i+P*((c+(x+y))%4294967296)+P*4294967296*((c+(x+y))/4294967296)=X+P*x+(j+P*y):=by
 have a:P*((c+(x+y))%4294967296)+P*4294967296*((c+(x+y))/4294967296)=P*(c+(x+y)):=by
  rw[jG,<-jd,tF]
 rw[jd,jd]at a;omega
theorem Hv{xs ys zs:List Nat}{c n:Nat}(a:Lo xs)(d:Lo ys)(e:xs.length<n)(k:ys.length<n)(h:val zs+4294967296^n*c=val xs+val ys):val zs=val xs+val ys:=by
 have i:=j8 a;have j:=j8 d;have l:4294967296^xs.length<=4294967296^(n-1):=jb (by decide) (by omega);have g:4294967296^ys.length<=4294967296^(n-1):=jb (by decide) (by omega);have f:4294967296^n=4294967296^(n-1)*4294967296:=by rw[<-jx];congr 1;omega
 rcases kl c with rfl|b
 .omega
 .have:4294967296^n*1<=4294967296^n*c:=jJ _ b;omega
theorem nK{P a X c b x y:Nat}(h:a+c=X+P*b)(d:x<4294967296)(e:y<4294967296)(f:b<=1):a+P*(if x<y+b then x+4294967296-(y+b)else x-(y+b))+(c+P*y)=X+P*x+P*4294967296*(if x<y+b then 1 else 0):=by
 split
 .have:P*(x+4294967296-(y+b))+P*y+P*b=P*x+P*4294967296:=by
   rw[<-jd,<-jd,<-jd];congr 1;omega
  omega
 .have:P*(x-(y+b))+P*y+P*b=P*x:=by
   rw[<-jd,<-jd];congr 1;omega
  omega
theorem yP{xs ys zs:List Nat}{b n:Nat}(c:Lo zs)(e:zs.length=n)(f:val ys<=val xs)(h:val zs+val ys=val xs+4294967296^n*b):val zs=val xs-val ys:=by
 have a:=j8 c;rw[e]at a;rcases kl b with rfl|d
 .omega
 .have:4294967296^n*1<=4294967296^n*b:=jJ _ d;omega
theorem oH(zs:List Nat)(k c:Nat)(b:k<zs.length):val (zs.set k c)+4294967296^k*zs.getD k 0=val zs+4294967296^k*c:=by
 have d:=ir zs k (by omega);have a:=ir (zs.set k c) k (by simp;omega);rw[iz zs k b,iN]at d;rw[iz (zs.set k c) k (by simpa using b),iN,B_ (BL k),vL (by omega)]at a;rw[show(zs.set k c).getD k 0=c from by simp[List.getD,b]]at a;rw[d,a,jd,jd];omega
theorem getD_set_ne(zs:List Nat)(k c j:Nat)(h:k≠j):(zs.set k c).getD j 0=zs.getD j 0:=by simp[List.getD,mb h]
theorem Fe{zs:List Nat}{i j c x y:Nat}(b:i+j<zs.length)(h:val zs+4294967296^(i+j)*c=k+4294967296^i*(x*l)):val (zs.set (i+j) ((c+(x*y+zs.getD (i+j) 0))%4294967296))+4294967296^(i+(j+1))*((c+(x*y+zs.getD (i+j) 0))/4294967296)=k+4294967296^i*(x*(l+4294967296^j*y)):=by
 have e:=oH zs (i+j) ((c+(x*y+zs.getD (i+j) 0))%4294967296) b;generalize zs.getD (i+j) 0=a at*;have d:4294967296^(i+j)*((c+(x*y+a))%4294967296)+4294967296^(i+(j+1))*((c+(x*y+a))/4294967296)=4294967296^(i+j)*(c+(x*y+a)):=by
  rw[show i+(j+1)=(i+j)+1 from rfl,jx,jG,<-jd,tF]
 have f:4294967296^i*(x*(l+4294967296^j*y))=4294967296^i*(x*l)+4294967296^(i+j)*(x*y):=by
  rw[jd,jd,kg];congr 1;rw[wS x,jG]
 rw[jd,jd]at d;omega
theorem GA{zs xs ys:List Nat}{i c:Nat}(b:i+ys.length<zs.length)(a:zs.getD (i+ys.length) 0=0)(h:val zs+4294967296^(i+ys.length)*c=val (xs.take i)*val ys+4294967296^i*(xs.getD i 0*val ys)):val (zs.set (i+ys.length) c)=val (xs.take (i+1))*val ys:=by
 have d:=oH zs (i+ys.length) c b;rw[a]at d;rw[h_,jV,jG];omega
def il(xs:List Nat):List Value:=xs.map λ(a:Nat)=>Value.int .u32 (a:Int)
def Own(w:World)(v:Value)(xs:List Nat):Prop:=w.ownsRow 0 144 1 v xs.length (il xs)
theorem Own.nil(w:World):Own w (.slice none 0 0) []:=oI _ _ _ _
theorem Own.below{w:World}{v:Value}{xs:List Nat}(h:Own w v xs)(i:Below w.heap.size w W):Own W v xs:=by
 refine⟨h.1,?_⟩;rcases h.2 with d|⟨a,j,g,e,c,b,f⟩
 .exact .inl d
 .exact .inr ⟨a,j,g,e,c,by rw[i.block a (jt.1 b).1];exact b,f⟩
theorem mj(xs:List Nat)(i:Nat)(h:i<xs.length):(il xs)[i]?=some (.int .u32 (xs.getD i 0:Nat)):=by
 simp[il,List.getD,iI h]
theorem Own.open_{w:World}{v:Value}{xs:List Nat}(h:Own w v xs):∃d a,v=.slice d xs.length a/\xs.length<=a/\a<=9223372036854775807/\(∀c,c<xs.length->∃b,d=some ⟨b,0,none⟩/\w.cell? ⟨b,c,none⟩=some (.int .u32 (xs.getD c 0:Nat)))/\(d=none->xs=[]/\a=0)/\(∀b,d=some b->∃e,b=⟨e,0,none⟩):=by
 rcases h.2 with⟨rfl,l⟩|⟨e,a,o,rfl,n,m,j,k,p,i⟩
 .have:xs=[]:=lp l;subst this;exact⟨none,0,rfl,by simp,by simp,by simp,by simp,by simp⟩
 .refine⟨some ⟨e,0,none⟩,a,rfl,j,by simpa[maxLen]using k,λc g=>⟨e,rfl,?_⟩,by simp,by simp⟩;have f:=mj xs c g;rw[<-i,qd,sJ,if_pos g]at f;simp only[World.cell?,m];simpa using f
theorem Own.cut{w:World}{xs:List Nat}(h:Own w (.slice O xs.length i) xs)(k:Nat)(b:k<=xs.length):Own w (.slice O k i) (xs.take k):=by
 have e:(xs.take k).length=k:=by rw[List.length_take,Nat.min_eq_left b]
 unfold Own World.ownsRow;rw[e];refine⟨by simp[il,Nat.min_eq_left b],?_⟩;rcases h.2 with⟨a,p⟩|⟨g,q,j,a,d,l,o,f,m,c⟩
 .simp only[Value.slice.injEq]at a;obtain⟨rfl,n,rfl⟩:=a;exact .inl ⟨by rw[show k=0 from by omega],by omega⟩
 .simp only[Value.slice.injEq]at a;obtain⟨rfl,_,rfl⟩:=a;refine .inr ⟨g,i,j,rfl,d,l,by omega,f,m,?_⟩;rw[Nat.mul_one]at c|-;have:List.take k (il xs)=il (xs.take k):=by simp[il,List.map_take]
  rw[<-this,<-c,List.take_take,Nat.min_eq_left b]
theorem oG{W:World}(d:Below W.heap.size W w):(∀a b,a<W.heap.size->w.cell? ⟨a,b,none⟩=W.cell? ⟨a,b,none⟩)/\(∀a b,a<W.heap.size->w.frozen? ⟨a,b,none⟩=W.frozen? ⟨a,b,none⟩):=
 ⟨λa b c=>d.cell (p:=⟨a,b,none⟩) c,λa b c=>d.frozen (p:=⟨a,b,none⟩) c⟩
theorem pH(zs:List Nat)(k c:Nat):(il zs).set k (.int .u32 (c:Nat))=il (zs.set k c):=by simp[il,List.map_set]
theorem Own.stored{w:World}{g n:Nat}{zs:List Nat}(h:Own w (.slice (some ⟨g,0,none⟩) n i) zs)(a:zs.length=n)(k c:Nat):Own (w.setCell ⟨g,k,none⟩ (.int .u32 (c:Nat))) (.slice (some ⟨g,0,none⟩) n i) (zs.set k c):=by
 subst a;have:=(Fy (w:=w) h k (.int .u32 (c:Nat))).1;rw[pH]at this;unfold Own;rw[vC];exact this
theorem Own.Z{w:World}{g n:Nat}{zs:List Nat}(h:Own w (.slice (some ⟨g,0,none⟩) n i) zs)(a:zs.length=n)(k c:Nat){z:Int}(b:z=(c:Int)):Own (w.setCell ⟨g,k,none⟩ (.int .u32 z)) (.slice (some ⟨g,0,none⟩) n i) (zs.set k c):=by rw[b];exact h.stored a k c
theorem Own.cell{w:World}{g n:Nat}{zs:List Nat}(h:Own w (.slice (some ⟨g,0,none⟩) n i) zs)(a:zs.length=n)(k:Nat)(b:k<n):w.cell? ⟨g,k,none⟩=some (.int .u32 (zs.getD k 0:Nat)):=by
 subst a;rw[vF h k (by omega),mj zs k b]
theorem Own.frozen{w:World}{g n:Nat}{zs:List Nat}(h:Own w (.slice (some ⟨g,0,none⟩) n i) zs)(a:zs.length=n)(k:Nat):w.frozen? ⟨g,k,none⟩=false:=by
 subst a;exact World.ownsRow.frozenAt h k
theorem Own.lt{w:World}{g n:Nat}{zs:List Nat}(h:Own w (.slice (some ⟨g,0,none⟩) n i) zs):g<w.heap.size:=(kF h g rfl).2
theorem Tryz.CT:(Tryz.prog.info? 144).map (λa=>(a.zero,a.size,a.bytes))=some (some (.int .u32 0),1,4):=by kernel_rfl
theorem mx{w:World}{ops:Array Oper}{f:List Oper}{o:Oper}{a:Act}{Q:Exit->Act->World->Prop}(h:o.guard=none)(e c:Operand)(i:o.op=Op.makeSlice 77 e c){L C:Int}{n:Nat}(l:a.eval e=.int .i64 L)(m:a.eval c=.int .i64 C)(k:L=(n:Int))(s:C=(n:Int))(b:n<=4294967296)(p:∀d,Own d (.slice (some ⟨w.heap.size,0,none⟩) n n) (List.replicate n 0)->Below w.heap.size w d->wpList Tryz.prog ops Q f (a.put o.dst (.slice (some ⟨w.heap.size,0,none⟩) n n)) d):wpList Tryz.prog ops Q (o::f) a w:=by
 obtain⟨v,r,q,j,u⟩:=kO Tryz.CT;refine wpList_make_full w h e c 77 i 0 144 v (.int .u32 0) 1 Tryz.underlying77 r q j .i64 .i64 L C n l m k s (by rw[u];omega) (by unfold maxLen;omega) hR ?_;intro d g t;refine p d ?_ (hP.grown t c_ (by simp));unfold Own;rw[sQ];rw[show(Value.int IntKind.u32 0).cells=#[.int .u32 0]from rfl,toList_madeCells_one,qd]at g;simpa[il]using g
def Ty(w:World)(b:Nat)(t:TypeId):Prop:=∃c a,w.heap[b]?=some (.cells c t a)
theorem Ty.lt{w:World}{b:Nat}{t:TypeId}(h:Ty w b t):b<w.heap.size:=by
 obtain⟨c,a,h⟩:=h;exact(jt.1 h).1
theorem Ty.below{w:World}{b B:Nat}{t:TypeId}(h:Ty w b t)(d:Below B w v)(c:b<B):Ty v b t:=by
 obtain⟨e,a,h⟩:=h;exact⟨e,a,by rw[d.block b c];exact h⟩
theorem Ty.setCell{w:World}{b:Nat}{t:TypeId}(h:Ty w b t)(a:Addr)(u:Value):Ty (w.setCell a u) b t:=by
 obtain⟨e,d,h⟩:=h;by_cases c:b=a.block
 .subst c;simp only[Ty,World.setCell,Array.getElem?_modify,h];simp
 .exact⟨e,d,by rw[js _ _ _ _ c];exact h⟩
theorem Ty.alloc{w:World}{b:Nat}{t:TypeId}(h:Ty w b t)(o:Obj):Ty (w.alloc o) b t:=h.below (hU w o) h.lt
theorem Ty.new(w:World)(c:Array Value)(t:TypeId):Ty (w.alloc (.cells c t)) w.heap.size t:=⟨c,(0,0),iP w _⟩
theorem Ty.at_(w:World)(c:Array Value)(t:TypeId){b:Nat}(h:b=w.heap.size):Ty (w.alloc (.cells c t)) b t:=by rw[h];exact Ty.new w c t
theorem Ty.drew{w:World}{b:Nat}{t:TypeId}(h:Ty w b t):Ty w.drew b t:=h
def KU(w c:World):Prop:=∀(a:Nat) (b:Array Value),w.heap[a]?=some (.cells b 144 (0,0))->c.heap[a]?=some (.cells b 144 (0,0))
theorem KU.refl(w:World):KU w w:=λ_ _ a=>a
theorem KU.trans{a b c:World}(h:KU a b)(k:KU b c):KU a c:=λd e f=>k d e (h d e f)
theorem KU.I{w:World}(h:Below w.heap.size w v):KU w v:=λb c a=>by rw[h.block b (jt.1 a).1];exact a
theorem KU.setCell{a w:World}(h:KU a w){b o:Nat}{t:TypeId}(g:Ty w b t)(j:t≠144)(u:Value):KU a (w.setCell ⟨b,o,none⟩ u):=by
 intro d i k;have e:=h d i k;obtain⟨m,l,c⟩:=g;by_cases f:d=b
 .subst f;rw[e]at c;simp only[iH,ur]at c;exact absurd c.2.1.symm j
 .rw[js _ _ _ _ f];exact e
theorem Own.hV{w:World}{v:Value}{xs:List Nat}(h:Own w v xs)(d:KU w W):Own W v xs:=by
 refine⟨h.1,?_⟩;rcases h.2 with e|⟨a,j,b,f,c,i,g⟩
 .exact .inl e
 .exact .inr ⟨a,j,b,f,c,d a b i,g⟩
theorem lb{k:IntKind}{a b:Int}(h:a=b):Ending.returned (.int k a)=.returned (.int k b):=by rw[h]
def sA(w:World)(xs:List Nat)(v:Value):Prop:=∃a,l9 a/\val a=val xs/\a.length<=xs.length/\Own w v a
def FX(B:Nat)(v:Value):Prop:=∀a c b,v=.slice (some a) c b->B<=a.block
theorem FX.same{B:Nat}{n m c:Nat}(h:FX B (.slice O n c)):FX B (.slice O m c):=by
 intro d e b a;simp only[iC]at a;obtain⟨rfl,-,-⟩:=a;exact h _ _ _ rfl
theorem FX.mk{B g:Nat}(n c:Nat)(h:B<=g):FX B (.slice (some ⟨g,0,none⟩) n c):=by
 intro b e d a;simp only[iC,iH]at a;obtain⟨rfl,-,-⟩:=a;exact h
theorem C7{v:Value}{xs:List Nat}{w:World}(h:Own w v xs)(o:Lo xs):Calls Tryz.prog 98 #[v] w λr u=>(∃f,r=.returned f/\sA w xs f/\∀e,FX e v->FX e f)/\u=w:=by
 obtain⟨z,C,rfl,B,D,n,E,_⟩:=h.open_;have q:=a_ h;clear h;have m:=a_ o;clear o;go_in;go_wp2;go_loop [3] (λk=>∃a:Nat,a<=xs.length/\k=.int .i64 a/\∀b∈xs.drop a,b=0) (λk=>(intOf k).toNat)
 case atStart=>exact⟨xs.length,c_,rfl,by simp⟩
 case round=>
  obtain⟨a,p,rfl,i⟩:=hrel;by_cases y:a=0
  .subst y;go_wp2;go_ret;have c:=mh m.e 0 hR i (.inl rfl);exact⟨⟨_,rfl,⟨_,c.1,c.2.1,by omega,q.e.cut 0 hR⟩,λe h=>h.same⟩,rfl⟩
  .obtain⟨A,rfl,t⟩:=n (a-1) (by omega);obtain⟨b,j⟩:=hQ (xs.getD (a-1) 0);rw[<-j]at t;clear n;have l:=a_ j;clear j;go_wp2
   .have g:((b:Int)==0)=true:=by assumption
    have s:b=0:=by simpa using g
    go_round
    case rel=>
     refine⟨a-1,by omega,by go_num,λx d=>?_⟩;rw[iz xs (a-1) (by omega),<-l.e,show a-1+1=a from by omega]at d;rcases jU.1 d with d|d
     .omega
     .exact i x d
    case measure=>simp[intOf];omega
   .have g:((b:Int)==0)=false:=by assumption
    have s:b≠0:=by simpa using g
    go_ret;have c:=mh m.e a p i (.inr (by rw[<-l.e];omega));exact⟨⟨_,rfl,⟨_,c.1,c.2.1,by omega,q.e.cut a p⟩,λe h=>h.same⟩,rfl⟩
theorem mN{v:Value}{xs:List Nat}{w:World}(h:Own w v xs)(d:Lo xs):Calls Tryz.prog 98 #[v] w λc b=>(∃a,c=.returned a/\sA w xs a)/\b=w:=by
 go_fit (C7 h d);rintro c b⟨⟨a,e,f,-⟩,g⟩;exact⟨⟨a,e,f⟩,g⟩
theorem r_{v:Value}{xs:List Nat}{i:Int}{w:World}(h:Own w v xs)(d:Lo xs)(f:0<=i):Calls Tryz.prog 139 #[v,.int .i64 i] w λj e=>j=.returned (.int .u64 ((xs.getD i.toNat 0:Nat):Int))/\e=w:=by
 obtain⟨p,o,rfl,n,q,c,s,_⟩:=h.open_;obtain⟨b,rfl⟩:=nV f;rw[D7];by_cases g:b<xs.length
 .obtain⟨m,rfl,l⟩:=c b g;obtain⟨k,a⟩:=hQ (xs.getD b 0);have r:k<4294967296:=by rw[a];exact jW d b
  rw[<-a]at l|-;clear c a;go_in;go_wp2;go_ret;exact⟨rfl,rfl⟩
 .have a:xs.getD b 0=0:=by simp[List.getD,l4 (by omega:xs.length<=b)]
  rw[a];clear c a;go_in;go_wp2;go_ret;exact⟨rfl,rfl⟩
def kP(w b:World)(v:Value)(n L:Nat):Prop:=(∃a,l9 a/\val a=n/\a.length<=L/\Own b v a)/\Below w.heap.size w b
theorem qw{v u:Value}{xs ys:List Nat}{w:World}(p:Own w v xs)(s:Own w u ys)(o:Lo xs)(q:Lo ys)(aj:xs.length<=1000000000)(am:ys.length<=1000000000):Calls Tryz.prog 101 #[v,u] w λh i=>∃l,h=.returned l/\kP w i l (val xs+val ys) (max xs.length ys.length+1):=by
 obtain⟨aa,aq,J,ag,an,-⟩:=p.open_;obtain⟨ao,ad,H,ak,ab,-⟩:=s.open_;have Q:=a_ p;have T:=a_ s;clear p s;subst J;subst H;by_cases af:xs.length<ys.length;all_goals
  obtain⟨b,D⟩:=hQ (max xs.length ys.length+1);have G:xs.length<b:=by omega
  have Y:ys.length<b:=by omega
  have ah:b<=1000000001:=by omega
  first
   |(have L:b<=ys.length+1:=by omega)
   |(have L:b<=xs.length+1:=by omega)
  have j:=a_ D;clear D;go_in;go_wp2_with (at_make;refine mx rfl (.tmp 20) (.tmp 20) rfl (n:=b) rfl rfl ?_ ?_ (by omega) ?_)
  .have:=j.e;omega
  .have:=j.e;omega
  intro ai d e;have S:=d.lt;go_wp2_with fail;go_loopw [7,8] (λR m wr=>∃(a f:Nat) (c:List Nat),a<=b/\m=.int .i64 a/\f<=1/\R=.int .u64 f/\c.length=b/\Lo c/\Own wr (.slice (some ⟨w.heap.size,0,none⟩) b b) c/\Below w.heap.size w wr/\f_ (val (c.take a)+4294967296^a*f=val (xs.take a)+val (ys.take a))) (λ_ m _=>b-(intOf m).toNat)
  case atStart=>exact⟨0,0,_,hR,rfl,hR,rfl,sQ,mM b,d,e,a_ (by simp[val])⟩
  case round=>
   clear d e S;obtain⟨a,f,c,al,rfl,ae,rfl,g,x,d,e,C⟩:=hrel;by_cases X:a<b
   .have V:=jW o a;have M:=jW q a;have N:=d.cell g a X;have ac:=d.frozen g a;obtain⟨E,r⟩:=hQ (xs.getD a 0);obtain⟨B,k⟩:=hQ (ys.getD a 0);obtain⟨ap,A⟩:=hQ (c.getD a 0);rw[<-r]at V;rw[<-k]at M;rw[<-A]at N;have t:=a_ r;have z:=a_ k;clear r k A;go_wp2_with fail;go_fit (r_ (xs:=xs) (Q.e.below e) o (by omega));rintro h i⟨rfl,rfl⟩;rw[D7,<-t.e];go_wp2_with fail;go_fit (r_ (xs:=ys) (T.e.below e) q (by omega));rintro h i⟨rfl,rfl⟩;rw[D7,<-z.e];go_wp2;go_roundw
    case rel=>
     refine⟨a+1,(f+(E+B))/4294967296,c.set a ((f+(E+B))%4294967296),by omega,by go_num,by omega,by go_num,by simp[g],mf x _ _ (mQ _ (by decide)),?_,e.setCell c_ _,a_ ?_⟩
     .exact d.Z g a _ (by omega)
     .rw[k9 c a _ (by omega),h_,h_,<-t.e,<-z.e,jx];exact Ew C.e
    case measure=>simp[intOf];omega
   .have Z:b<=a:=by omega
    go_wp2_with fail;go_fit (mN (xs:=c) d x);rintro h i⟨⟨l,rfl,F⟩,rfl⟩;go_wp2;go_ret;obtain⟨K,P,W,I,U⟩:=F;refine⟨_,rfl,⟨K,P,?_,by rw[g]at I;have:=j.e;omega,U⟩,e⟩;have O:a=b:=by omega
    have y:=C.e;rw[O,ka (by omega),ka (by omega),ka (by omega)]at y;rw[W];exact Hv o q G Y y
theorem rK{v u:Value}{xs ys:List Nat}{w:World}(I:Own w v xs)(y:Own w u ys)(U:Lo xs)(J:Lo ys)(aq:xs.length<=1000000000)(G:val ys<=val xs)(H:ys.length<=xs.length):Calls Tryz.prog 103 #[v,u] w λm r=>∃j,m=.returned j/\kP w r j (val xs-val ys) xs.length/\FX w.heap.size j:=by
 obtain⟨ah,ao,Q,an,av,B,-,-⟩:=I.open_;obtain⟨aw,am,P,ar,ai,-⟩:=y.open_;have N:=a_ B;have ab:=a_ y;have X:=a_ H;have S:=a_ G;clear I y B H G;subst Q;subst P;go_in;go_wp2_with (at_make;refine mx rfl (.tmp 11) (.tmp 11) rfl rfl rfl rfl rfl (by omega) ?_);intro ap e c;go_wp2_with fail;go_loopw [6,7] (λY q wr=>∃(a d:Nat) (b:List Nat),a<=xs.length/\q=.int .i64 a/\d<=1/\Y=.int .u64 d/\b.length=xs.length/\Lo b/\Own wr (.slice (some ⟨w.heap.size,0,none⟩) xs.length xs.length) b/\Below w.heap.size w wr/\f_ (val (b.take a)+val (ys.take a)=val (xs.take a)+4294967296^a*d)) (λ_ q _=>xs.length-(intOf q).toNat)
 case atStart=>exact⟨0,0,_,hR,rfl,hR,rfl,sQ,mM _,e,c,a_ (by simp[val])⟩
 case round=>
  clear e c;obtain⟨a,d,b,au,rfl,D,rfl,g,i,e,c,x⟩:=hrel;by_cases M:a<xs.length
  .have t:=jW U a;have p:=jW J a;have T:=e.cell g a M;have aj:=e.frozen g a;obtain⟨al,rfl,E⟩:=N.e a M;have Z:=g_ c E;obtain⟨l,s⟩:=hQ (xs.getD a 0);obtain⟨k,o⟩:=hQ (ys.getD a 0);obtain⟨ax,K⟩:=hQ (b.getD a 0);rw[<-s]at t Z;rw[<-o]at p;rw[<-K]at T;have A:=a_ s;have n:=a_ o;have f:=a_ g;clear s o K E g;have h:=λO aa ae=>@nK (4294967296^a) O aa ae d l k;have F:=a_ h;clear h;by_cases L:l<k+d;all_goals
    go_wp2_with fail;go_fit (r_ (ab.e.below c) J (by omega));rintro m r⟨rfl,rfl⟩;rw[D7,<-n.e];go_wp2_with fail
   .go_roundw
    case rel=>
     refine⟨a+1,1,b.set a (l+4294967296-(k+d)),by omega,by go_num,by omega,rfl,by simp[f.e],mf i _ _ (by omega),e.Z f.e a _ (by omega),c.setCell c_ _,a_ ?_⟩;rw[k9 b a _ (by have:=f.e;omega),h_,h_,<-A.e,<-n.e,jx];have:=F.e _ _ _ x.e t p D;rw[if_pos L,if_pos L]at this;exact this
    case measure=>simp[intOf];omega
   .go_roundw
    case rel=>
     refine⟨a+1,0,b.set a (l-(k+d)),by omega,by go_num,by omega,rfl,by simp[f.e],mf i _ _ (by omega),e.Z f.e a _ (by omega),c.setCell c_ _,a_ ?_⟩;rw[k9 b a _ (by have:=f.e;omega),h_,h_,<-A.e,<-n.e,jx];have:=F.e _ _ _ x.e t p D;rw[if_neg (by omega),if_neg (by omega)]at this;exact this
    case measure=>simp[intOf];omega
  .have ag:xs.length<=a:=by omega
   go_wp2_with fail;go_fit (C7 e i);rintro m r⟨⟨j,rfl,h,z⟩,rfl⟩;have af:=a_ (z _ (FX.mk _ _ c_));clear z;go_wp2;go_ret;obtain⟨R,W,ad,ak,ac⟩:=h;refine⟨_,rfl,⟨⟨R,W,?_,by omega,ac⟩,c⟩,af.e⟩;have V:a=xs.length:=by omega
   have C:=x.e;have:=X.e;rw[V,ka (by omega),ka (by omega),ka (by omega)]at C;rw[ad];exact yP i g S.e C
theorem qC{v u:Value}{xs ys:List Nat}{w:World}(j:Own w v xs)(k:Own w u ys)(f:Lo xs)(l:Lo ys)(d:xs.length<=1000000000)(e:val ys<=val xs)(g:ys.length<=xs.length):Calls Tryz.prog 103 #[v,u] w λc b=>∃a,c=.returned a/\kP w b a (val xs-val ys) xs.length:=by
 go_fit (rK j k f l d e g);rintro c b⟨a,h,i,-⟩;exact⟨a,h,i⟩
theorem prod_bound{x y:Nat}(a:x<4294967296)(c:y<4294967296):(0:Int)<=(x:Int)*(y:Int)/\(x:Int)*(y:Int)<=18446744065119617025:=by
 have b:x*y<=4294967295*4294967295:=jR (by omega) (by omega);rw[<-m_];omega
theorem tA(x y:Nat):(x:Int)*(y:Int)=((x*y:Nat):Int):=(m_ x y).symm
theorem wA{v u:Value}{xs ys:List Nat}{w:World}(B:Own w v xs)(N:Own w u ys)(W:Lo xs)(ak:Lo ys)(aI:xs.length<=500000000)(Y:ys.length<=500000000):Calls Tryz.prog 100 #[v,u] w λH M=>∃s,H=.returned s/\kP w M s (val xs*val ys) (xs.length+ys.length):=by
 obtain⟨an,az,V,aH,ay,E,-,-⟩:=B.open_;obtain⟨aF,aC,T,ax,au,C,-,-⟩:=N.open_;have ag:=a_ E;have Q:=a_ C;clear B N E C;subst V;subst T;go_in;go_wp2_with (at_make;refine mx rfl (.tmp 13) (.tmp 13) rfl (n:=xs.length+ys.length) rfl rfl ?_ ?_ (by omega) ?_)
 .omega
 .omega
 intro aq c e;go_wp2_with fail;go_loopw [6] (λd wr=>∃(b:Nat) (h:List Nat),b<=xs.length/\d=.int .i64 b/\h.length=xs.length+ys.length/\Lo h/\Own wr (.slice (some ⟨w.heap.size,0,none⟩) (xs.length+ys.length) (xs.length+ys.length)) h/\Below w.heap.size w wr/\f_ (val h=val (xs.take b)*val ys/\∀a,b+ys.length<=a->h.getD a 0=0)) (λd _=>xs.length-(intOf d).toNat)
 case atStart=>
  refine⟨0,_,hR,rfl,sQ,mM _,c,e,a_ ⟨?_,λa _=>?_⟩⟩
  .rw[lG (λl m=>rQ m)];simp[val]
  .by_cases L:a<xs.length+ys.length<;>simp[List.getD,L]
 case round=>
  clear c e;obtain⟨b,h,aD,rfl,A,j,c,e,y⟩:=hrel;by_cases Z:b<xs.length
  .obtain⟨av,rfl,p⟩:=ag.e b Z;have G:=jW W b;obtain⟨l,m⟩:=hQ (xs.getD b 0);rw[<-m]at G p;have aa:=a_ m;have U:=a_ p;have R:=a_ A;clear m p A;have aJ:ys.length<=500000000:=Y;go_wp2_with fail;go_loopw [7,8] (λae d z=>∃(a i:Nat) (g:List Nat),a<=ys.length/\d=.int .i64 a/\i<=4294967295/\ae=.int .u64 i/\f_ (g.length=xs.length+ys.length)/\Lo g/\Own z (.slice (some ⟨w.heap.size,0,none⟩) (xs.length+ys.length) (xs.length+ys.length)) g/\Below w.heap.size w z/\f_ (val g+4294967296^(b+a)*i=val (xs.take b)*val ys+4294967296^b*(l*val (ys.take a))/\∀a,b+ys.length<=a->g.getD a 0=0)) (λ_ d _=>ys.length-(intOf d).toNat)
   case atStart=>
    exact⟨0,0,h,hR,rfl,by omega,rfl,R,j,c,e,a_ ⟨by have:=y.f;simp[val,this],y.i⟩⟩
   case round=>
    clear c e j;obtain⟨a,i,g,L,rfl,aw,rfl,f,j,c,e,k⟩:=hrel;have ar:=g_ e U.e;by_cases af:a<ys.length
    .obtain⟨aG,rfl,J⟩:=Q.e a af;have aj:=g_ e J;have F:=jW ak a;have X:=jW j (b+a);have t:=c.cell f.e (b+a) (by omega);have ai:=c.frozen f.e (b+a);obtain⟨r,q⟩:=hQ (ys.getD a 0);obtain⟨D,x⟩:=hQ (g.getD (b+a) 0);rw[<-q]at F aj;rw[<-x]at t X;obtain⟨ap,S⟩:=prod_bound G F;have ah:=a_ q;have O:=a_ x;clear q x J;go_wp2_with fail;go_quiet (fail);go_wp2_with fail;have aB:l*r<=18446744065119617025:=by rw[tA]at S;omega
     go_roundw
     case rel=>
      refine⟨a+1,(i+(l*r+D))/4294967296,g.set (b+a) ((i+(l*r+D))%4294967296),by omega,by go_num,by omega,by rw[tA];go_num,a_ (by simp[f.e]),mf j _ _ (mQ _ (by decide)),c.Z f.e (b+a) _ (by rw[tA];omega),im (e.setCell c_ _) _,a_ ⟨?_,λd K=>?_⟩⟩
      .rw[h_,<-ah.e,O.e];exact Fe (by have:=f.e;omega) k.f
      .rw[getD_set_ne _ _ _ _ (by omega)];exact k.i d K
     case measure=>simp[intOf];omega
    .have aE:ys.length<=a:=by omega
     have o:=k.i (b+ys.length) c_;have t:=c.cell f.e (b+ys.length) (by omega);have ai:=c.frozen f.e (b+ys.length);have P:=a_ o;rw[o]at t;clear o;go_wp2;go_roundw
     case rel=>
      refine⟨b+1,g.set (b+ys.length) i,by omega,by go_num,by simp[f.e],mf j _ _ (by omega),c.Z f.e (b+ys.length) _ (by omega),e.setCell c_ _,a_ ⟨?_,λd K=>?_⟩⟩
      .refine GA (by have:=f.e;omega) P.e ?_;have:=k.f;rw[show a=ys.length from by omega,ka c_]at this;rw[<-aa.e];exact this
      .rw[getD_set_ne _ _ _ _ (by omega)];exact k.i d (by omega)
     case measure=>simp[intOf];omega
  .have aA:xs.length<=b:=by omega
   go_wp2_with fail;go_fit (mN (xs:=h) c j);rintro H M⟨⟨s,rfl,ab⟩,rfl⟩;go_wp2;go_ret;obtain⟨ac,ad,am,ao,al⟩:=ab;refine⟨_,rfl,⟨ac,ad,?_,by omega,al⟩,e⟩;have I:=y.f;rw[ka (by omega)]at I;rw[am,I]
theorem At{xs ys:List Nat}(h:xs.drop 0=ys.drop 0):xs=ys:=by simpa using h
theorem lT{v u:Value}{xs ys:List Nat}{w:World}(r:Own w v xs)(z:Own w u ys)(l:l9 xs)(n:l9 ys):Calls Tryz.prog 102 #[v,u] w λA F=>A=.returned (.bool (decide (val xs<val ys)))/\∃f,F=w.drewN f:=by
 obtain⟨J,P,rfl,O,T,q,I,_⟩:=r.open_;obtain⟨W,N,rfl,Q,K,x,C,_⟩:=z.open_;clear r z I C;by_cases e:xs.length=ys.length
 .have b:=a_ e;have B:((xs.length:Int)!=(ys.length:Int))=false:=by simp[e]
  clear e;go_in;go_wp2;go_loopw [5] (λk wr=>∃a:Nat,a<=xs.length/\k=.int .i64 ((a:Int)-1)/\(∃f,wr=w.drewN f)/\f_ (xs.drop a=ys.drop a)) (λk _=>(intOf k+1).toNat)
  case atStart=>exact⟨xs.length,c_,rfl,⟨0,rfl⟩,by rw[show xs.drop xs.length=[]from by simp,show ys.drop xs.length=[]from by rw[b.e];simp];rfl⟩
  case round=>
   obtain⟨a,R,rfl,⟨f,rfl⟩,j⟩:=hrel;by_cases G:a=0
   .subst G;go_wp2;go_ret;have:=At j.e;exact⟨by rw[this];simp,f,rfl⟩
   .obtain⟨M,rfl,E⟩:=q (a-1) (by omega);obtain⟨U,rfl,D⟩:=x (a-1) (by have:=b.e;omega);have y:a-1<ys.length:=by have:=b.e;omega
    obtain⟨g,o⟩:=hQ (xs.getD (a-1) 0);obtain⟨h,i⟩:=hQ (ys.getD (a-1) 0);rw[<-o]at E;rw[<-i]at D;have p:=a_ o;have s:=a_ i;clear o i q x;by_cases d:g=h
    .have H:((g:Int)!=(h:Int))=false:=by simp[d]
     have m:=a_ d;clear d;go_wp2;go_quiet (fail);go_wp2;go_roundw
     case rel=>
      refine⟨a-1,by omega,by go_num,⟨_,rfl⟩,a_ ?_⟩;rw[iz xs (a-1) (by omega),iz ys (a-1) y,<-p.e,<-s.e,m.e,show a-1+1=a from by omega,j.e]
     case measure=>simp[intOf];omega
    .have H:((g:Int)!=(h:Int))=true:=by simp;omega
     have m:=a_ d;clear d;go_wp2;go_quiet (fail);go_wp2;go_quiet (fail);go_wp2;go_ret;refine⟨?_,_,by rw[World.drewN_drewN,World.drewN_drewN]⟩;have S:=p.e;have V:=s.e;have L:=m.e;have t:xs.drop (a-1+1)=ys.drop (a-1+1):=by rw[show a-1+1=a from by omega];exact j.e
     by_cases c:g<h
     .have:=C4 l.1 b.e (a-1) (by omega) t (by omega);simp[c,this]
     .have:=C4 n.1 b.e.symm (a-1) y t.symm (by omega);simp[c,show¬val xs<val ys from by omega]
 .have B:((xs.length:Int)!=(ys.length:Int))=true:=by simp;omega
  have b:=a_ e;clear e;go_in;go_wp2;go_ret;refine⟨?_,0,rfl⟩;have:=b.e;by_cases c:xs.length<ys.length
  .have:=jH l.1 n c;simp[c,this]
  .have:=jH n.1 l (by omega);simp[c,show¬val xs<val ys from by omega]
def jE(w:World)(v:Value)(z:Int)(L:Nat):Prop:=∃b a,v=.agg #[.bool (decide (z<0)),b]/\l9 a/\val a=z.natAbs/\a.length<=L/\Own w b a
theorem jE.below{w:World}{v:Value}{z:Int}{L:Nat}(h:jE w v z L)(e:Below w.heap.size w W):jE W v z L:=by
 obtain⟨g,f,c,d,i,b,a⟩:=h;exact⟨g,f,c,d,i,b,a.below e⟩
theorem jE.hV{w:World}{v:Value}{z:Int}{L:Nat}(h:jE w v z L)(e:KU w W):jE W v z L:=by
 obtain⟨g,f,c,d,i,b,a⟩:=h;exact⟨g,f,c,d,i,b,a.hV e⟩
theorem jE.mono{w:World}{v:Value}{z:Int}{L M:Nat}(h:jE w v z L)(g:L<=M):jE w v z M:=by
 obtain⟨e,d,b,c,f,i,a⟩:=h;exact⟨e,d,b,c,f,by omega,a⟩
theorem jE.mk'{w:World}{b:Bool}{z:Int}{L:Nat}{xs:List Nat}(e:b=true↔z<0)(d:l9 xs)(f:val xs=z.natAbs)(c:xs.length<=L)(a:Own w x xs):jE w (.agg #[.bool b,x]) z L:=by
 refine⟨x,xs,?_,d,f,c,a⟩;rw[show b=decide (z<0)from by rw[r4];simpa using e]
theorem ET{n:Nat}{z:Int}(h:n=0↔z=0)(a:¬z<0):(!((n:Int)==0))=true↔-z<0:=by
 rw[Bool.not_eq_true',iK];omega
theorem jE.zero(w:World)(L:Nat):jE w (.agg #[.bool false,.slice none 0 0]) 0 L:=⟨_,[],rfl,⟨mz,.inl rfl⟩,rfl,hR,Own.nil w⟩
theorem k5{xs:List Nat}{z:Int}(h:l9 xs)(a:val xs=z.natAbs):xs.length=0↔z=0:=by
 have:=kS h;rw[a]at this;rw[qG,<-this];omega
theorem k0{n:Nat}{w:World}:Calls Tryz.prog 68 #[.agg #[.bool u,.slice O n i]] w λb a=>b=.returned (.bool ((n:Int)==0))/\a=w.alloc (.cells #[.bool u,.slice O n i] 79):=by
 go_in;go_wp2;go_ret;exact⟨rfl,rfl⟩
def jD(w a:World)(v:Value)(z:Int)(L:Nat):Prop:=jE a v z L/\Below w.heap.size w a
theorem n_{v:Value}{z:Int}{L:Nat}{w:World}(h:jE w v z L):Calls Tryz.prog 68 #[v] w λb a=>b=.returned (.bool (decide (z=0)))/\Below w.heap.size w a:=by
 obtain⟨g,j,rfl,d,e,f,c⟩:=h;obtain⟨i,k,rfl,-⟩:=c.open_;go_fit (k0);rintro b a⟨rfl,rfl⟩;refine⟨?_,hS⟩;have:=k5 d e;congr 2;rw[r4];simp only[jY,pA];omega
theorem nA{v:Value}{z:Int}{L:Nat}{w:World}(h:jE w v z L):Calls Tryz.prog 66 #[v] w λl p=>∃q,l=.returned q/\jD w p q (-z) L:=by
 obtain⟨u,b,rfl,d,i,f,c⟩:=h;obtain⟨j,k,rfl,-⟩:=c.open_;have r:=hY d i f c;have s:=a_ (k5 d i);clear d i f c;by_cases e:z<0
 .have o:decide (z<0)=true:=by simpa using e
  have n:=a_ e;clear e;rw[o];go_in;go_wp2_with fail;go_region_with (go_at_call 68;refine(k0).mono ?_;rintro l p⟨rfl,rfl⟩);all_goals
   go_wp2_with fail;refine ig (v:=.agg #[.bool false,.slice j b.length k]) (by simp[results,Tryz.results66,go_sem]) rfl ?_;obtain⟨d,i,f,c⟩:=r.e;have m:∀a,Below w.heap.size w a->jD w a (.agg #[.bool false,.slice j b.length k]) (-z) L:=λa g=>⟨⟨_,b,by rw[show decide (-z<0)=false from by have:=n.e;simp;omega],d,by omega,f,c.below g⟩,g⟩;refine⟨_,rfl,m _ ?_⟩;exact((hS).alloc (by simp) _).drew
 .have o:decide (z<0)=false:=by simpa using e
  have n:=a_ e;clear e;rw[o];go_in;go_wp2_with fail;go_region_with (go_at_call 68;refine(k0).mono ?_;rintro l p⟨rfl,rfl⟩);all_goals
   go_wp2_with fail;refine ig (v:=.agg #[.bool (!((b.length:Int)==0)),.slice j b.length k]) (by simp[results,Tryz.results66,go_sem]) rfl ?_;obtain⟨d,i,f,c⟩:=r.e;have m:∀a,Below w.heap.size w a->jD w a (.agg #[.bool (!((b.length:Int)==0)),.slice j b.length k]) (-z) L:=λa g=>by
    have t:=s.e;have x:=n.e;exact⟨jE.mk' (ET t (by omega)) d (by omega) f (c.below g),g⟩
   refine⟨_,rfl,m _ ?_⟩;repeat(first|exact hP|refine iV ?_|refine ia ?_ (by simp<;>omega) _)
theorem kP.shape{w:World}{v:Value}{n L:Nat}(h:kP w W v n L):∃c b a,v=.slice c a.length b/\f_ (l9 a/\val a=n/\a.length<=L/\Own W v a)/\Below w.heap.size w W:=by
 obtain⟨⟨a,f,e,j,d⟩,g⟩:=h;obtain⟨c,b,i,-⟩:=d.open_;exact⟨c,b,a,i,⟨f,e,j,d⟩,g⟩
theorem add_same{o:Option Addr}{xs ys:List Nat}{w:World}(l:Own w (.slice O xs.length i) xs)(h:Own w (.slice o ys.length j) ys)(t:Lo xs)(z:Lo ys)(s:xs.length<=1000000000)(x:ys.length<=1000000000):Calls Tryz.prog 67 #[.agg #[.bool u,.slice O xs.length i],.agg #[.bool u,.slice o ys.length j]] w λg A=>∃c p b,g=.returned (.agg #[.bool u,.slice c p b])/\kP w A (.slice c p b) (val xs+val ys) (max xs.length ys.length+1):=by
 have y:=a_ l;have B:=a_ h;clear l h;go_in;go_wp2_with fail;go_region_with (go_at_call 101;go_must (refine(qw (y.e.below (by repeat(first|exact hP|refine iV ?_|refine ia ?_ (by simp<;>omega) _))) (B.e.below (by repeat(first|exact hP|refine iV ?_|refine ia ?_ (by simp<;>omega) _))) t z s x).mono ?_;rintro g k⟨C,rfl,f⟩;obtain⟨c,b,m,rfl,d,a⟩:=f.shape;obtain⟨q,D⟩:=oG a;have e:Ty k (w.heap.size+2) 79:=Ty.below (Ty.drew (Ty.at_ _ _ _ (by simp))) a (by simp);have E:w.heap.size+2<k.heap.size:=e.lt;have n:=a_ e;have r:=a_ a;clear e f a));all_goals
  go_wp2_with fail;refine ig (v:=.agg #[.bool u,.slice c m.length b]) ?_ rfl ?_
  ·(simp[results,Tryz.results67,go_sem,q];done)
  .refine⟨_,_,_,rfl,⟨m,d.f,d.g,d.j,d.o.hV (KU.setCell (KU.setCell (KU.refl _) n.e (by decide) _) (n.e.setCell _ _) (by decide) _)⟩,?_⟩;refine Below.trans ?_ ((hP.setCell (by simp<;>omega) _).setCell (by simp<;>omega) _);refine Below.trans ?_ (r.e.mono (by simp<;>omega));repeat(first|exact hP|refine iV ?_|refine ia ?_ (by simp<;>omega) _)
theorem Ty.drewN{w:World}{b:Nat}{t:TypeId}(h:Ty w b t)(n:Nat):Ty (w.drewN n) b t:=h
theorem pF{xs ys:List Nat}(c:l9 xs)(b:l9 ys)(h:val ys<=val xs):ys.length<=xs.length:=by
 rcases iX xs.length ys.length with a|a
 .have:=jH c.1 b a;omega
 .exact a
theorem Gm{t:Option Addr}{xs ys:List Nat}{w:World}(r:Own w (.slice O xs.length i) xs)(n:Own w (.slice t ys.length j) ys)(h:l9 xs)(k:l9 ys)(C:ys.length<=1000000000)(f:val xs<val ys):Calls Tryz.prog 67 #[.agg #[.bool u,.slice O xs.length i],.agg #[.bool (!u),.slice t ys.length j]] w λe E=>∃b x a,e=.returned (.agg #[.bool (!u),.slice b x a])/\kP w E (.slice b x a) (val ys-val xs) ys.length:=by
 have q:=a_ r;have y:=a_ n;have z:=a_ (pF k h (by omega));have D:=a_ f;clear r n;have B:decide (val xs<val ys)=true:=by simpa using f
 clear f
 cases u;all_goals
  try rw[Bool.not_true]
  try rw[Bool.not_false]
  go_in;go_wp2_with fail;go_fit (lT (q.e.below ?_) (y.e.below ?_) h k)
  .repeat(first|exact hP|refine iV ?_|refine ia ?_ (by simp<;>omega) _)
  .repeat(first|exact hP|refine iV ?_|refine ia ?_ (by simp<;>omega) _)
  rintro e F⟨rfl,H,rfl⟩;rw[B];go_wp2_with fail;go_region_with (go_at_call 103;go_must (refine(qC (y.e.below (by repeat(first|exact hP|refine iV ?_|refine im ?_ _|refine ia ?_ (by simp<;>omega) _))) (q.e.below (by repeat(first|exact hP|refine iV ?_|refine im ?_ _|refine ia ?_ (by simp<;>omega) _))) k.1 h.1 C (by have:=D.e;omega) z.e).mono ?_;rintro e p⟨G,rfl,m⟩;obtain⟨b,a,l,rfl,d,c⟩:=m.shape;obtain⟨o,I⟩:=oG c;have g:Ty p (w.heap.size+2) 79:=Ty.below (Ty.drewN (Ty.at_ _ _ _ (by simp)) _) c (by simp);have J:w.heap.size+2<p.heap.size:=g.lt;have s:=a_ g;have A:=a_ c;clear g m c));all_goals
   go_wp2_with fail;first
    |(refine ig (v:=.agg #[.bool true,.slice b l.length a]) ?_ rfl ?_;focus(simp[results,Tryz.results67,go_sem,o];done))
    |(refine ig (v:=.agg #[.bool false,.slice b l.length a]) ?_ rfl ?_;focus(simp[results,Tryz.results67,go_sem,o];done))
   refine⟨_,_,_,rfl,⟨l,d.f,d.g,d.j,d.o.hV (KU.setCell (KU.setCell (KU.refl _) s.e (by decide) _) (s.e.setCell _ _) (by decide) _)⟩,?_⟩;refine Below.trans ?_ ((hP.setCell (by simp<;>omega) _).setCell (by simp<;>omega) _);refine Below.trans ?_ (A.e.mono (by simp<;>omega));repeat(first|exact hP|refine iV ?_|refine im ?_ _|refine ia ?_ (by simp<;>omega) _)
theorem FO{x:Option Addr}{xs ys:List Nat}{w:World}(s:Own w (.slice O xs.length i) xs)(o:Own w (.slice x ys.length j) ys)(k:l9 xs)(l:l9 ys)(C:xs.length<=1000000000)(h:val ys<=val xs):Calls Tryz.prog 67 #[.agg #[.bool u,.slice O xs.length i],.agg #[.bool (!u),.slice x ys.length j]] w λf E=>∃b m a,f=.returned (.agg #[.bool (u&&decide (0<m)),.slice b m a])/\kP w E (.slice b m a) (val xs-val ys) xs.length:=by
 have r:=a_ s;have y:=a_ o;have z:=a_ (pF k l h);have D:=a_ h;clear s o;have B:decide (val xs<val ys)=false:=by simp;omega
 clear h
 cases u;all_goals
  try simp only[Bool.not_true,Bool.true_and]
  try simp only[Bool.not_false,Bool.false_and]
  go_in;go_wp2_with fail;go_fit (lT (r.e.below ?_) (y.e.below ?_) k l)
  .repeat(first|exact hP|refine iV ?_|refine ia ?_ (by simp<;>omega) _)
  .repeat(first|exact hP|refine iV ?_|refine ia ?_ (by simp<;>omega) _)
  rintro f F⟨rfl,H,rfl⟩;rw[B];go_wp2_with fail;go_fit (qC (r.e.below ?_) (y.e.below ?_) k.1 l.1 C D.e z.e)
  .repeat(first|exact hP|refine iV ?_|refine im ?_ _|refine ia ?_ (by simp<;>omega) _)
  .repeat(first|exact hP|refine iV ?_|refine im ?_ _|refine ia ?_ (by simp<;>omega) _)
  rintro f q⟨G,rfl,n⟩;obtain⟨b,a,d,rfl,e,c⟩:=n.shape;obtain⟨p,I⟩:=oG c;have g:Ty q (w.heap.size+2) 79:=Ty.below (Ty.drewN (Ty.at_ _ _ _ (by simp)) _) c (by simp);have J:w.heap.size+2<q.heap.size:=g.lt;have t:=a_ g;have A:=a_ c;clear g n c;go_wp2_with fail;first
   |(refine ig (v:=.agg #[.bool false,.slice b d.length a]) ?_ rfl ?_;focus(simp[results,Tryz.results67,go_sem,p];done))
   |(refine ig (v:=.agg #[.bool (decide (0<d.length)),.slice b d.length a]) ?_ rfl ?_;focus(simp[results,Tryz.results67,go_sem,p];done))
  refine⟨_,_,_,rfl,⟨d,e.f,e.g,e.j,e.o.hV (KU.setCell (KU.setCell (KU.refl _) t.e (by decide) _) (t.e.setCell _ _) (by decide) _)⟩,?_⟩;refine Below.trans ?_ ((hP.setCell (by simp<;>omega) _).setCell (by simp<;>omega) _);refine Below.trans ?_ (A.e.mono (by simp<;>omega));repeat(first|exact hP|refine iV ?_|refine im ?_ _|refine ia ?_ (by simp<;>omega) _)
theorem jD.vz{w:World}{b:Bool}{n L M:Nat}{z:Int}(h:kP w v x n L)(k:n=z.natAbs)(e:b=true↔z<0)(g:L<=M):jD w v (.agg #[.bool b,x]) z M:=by
 obtain⟨⟨f,c,j,i,d⟩,a⟩:=h;exact⟨jE.mk' e c (by omega) (by omega) d,a⟩
theorem ny{v u:Value}{x y:Int}{L M:Nat}{w:World}(r:jE w v x L)(t:jE w u y M)(N:L<=1000000000)(A:M<=1000000000):Calls Tryz.prog 67 #[v,u] w λb e=>∃k,b=.returned k/\jD w e k (x+y) (max L M+1):=by
 obtain⟨K,j,rfl,c,F,R,d⟩:=r;obtain⟨P,i,rfl,g,O,S,f⟩:=t;obtain⟨C,I,rfl,-⟩:=d.open_;obtain⟨T,G,rfl,-⟩:=f.open_;by_cases o:(x<0↔y<0)
 .rw[show decide (y<0)=decide (x<0)from by simp only[o]];go_fit (add_same d f c.1 g.1 (by omega) (by omega));rintro b e⟨m,h,l,rfl,a⟩;exact⟨_,rfl,jD.vz a (by omega) (by simp;omega) (by omega)⟩
 .rw[show decide (y<0)=!decide (x<0)from by
   by_cases q:x<0<;>by_cases c:y<0<;>simp[q,c]<;>omega]
  by_cases p:val j<val i
  .go_fit (Gm d f c g (by omega) p);rintro b e⟨m,h,l,rfl,a⟩;exact⟨_,rfl,jD.vz a (by omega) (by simp;omega) (by omega)⟩
  .go_fit (FO d f c g (by omega) (by omega));rintro b e⟨m,h,l,rfl,a⟩;have D:h=0↔val j-val i=0:=by
    obtain⟨⟨Q,z,s,B,b⟩,H⟩:=a;obtain⟨J,E,n,-⟩:=b.open_;simp only[iC]at n;rw[n.2.1,qG,<-kS z,s]
   exact⟨_,rfl,jD.vz a (by omega) (by simp;omega) (by omega)⟩
theorem F9{n:Nat}{x y:Int}(h:n=0↔x*y=0)(hd:(x<0/\¬y<0)\/(¬x<0/\y<0)):decide (0<n)=true↔x*y<0:=by
 have c:x*y<=0:=by
  rcases hd with⟨b,a⟩|⟨b,a⟩
  .exact Int.mul_nonpos_of_nonpos_of_nonneg (by omega) (by omega)
  .exact Int.mul_nonpos_of_nonneg_of_nonpos (by omega) (by omega)
 rw[pA];omega
theorem E0{x y:Int}(hd:(x<0/\y<0)\/(¬x<0/\¬y<0)):false=true↔x*y<0:=by
 have d:0<=x*y:=by
  rcases hd with⟨c,a⟩|⟨c,a⟩
  .exact zm (by omega) (by omega)
  .exact pT (by omega) (by omega)
 constructor
 .intro b;cases b
 .omega
theorem j0{v u:Value}{x y:Int}{L M:Nat}{w:World}(U:jE w v x L)(W:jE w u y M)(ad:L<=500000000)(X:M<=500000000):Calls Tryz.prog 65 #[v,u] w λB V=>∃l,B=.returned l/\jD w V l (x*y) (L+M):=by
 obtain⟨ac,aa,rfl,O,D,K,i⟩:=U;obtain⟨ae,Y,rfl,J,I,N,s⟩:=W;obtain⟨Z,ai,rfl,-⟩:=i.open_;obtain⟨ah,ab,rfl,-⟩:=s.open_;have a:=hY O D K i;have b:=hY J I N s;clear O D K i J I N s;by_cases q:x<0;all_goals by_cases h:y<0
 all_goals
  have t:=a_ q;have H:=a_ h;simp only[q,h,decide_true,decide_false];clear q h;go_in;go_wp2_with fail;go_fit (wA (a.o.below ?_) (b.o.below ?_) a.f.1 b.f.1 (by have:=a.j;omega) (by have:=b.j;omega))
  .repeat(first|exact hP|refine ia ?_ (by simp<;>omega) _)
  .repeat(first|exact hP|refine ia ?_ (by simp<;>omega) _)
  rintro B c⟨l,rfl,⟨d,o,m,R,r⟩,f⟩;obtain⟨p,n,rfl,-⟩:=r.open_;obtain⟨G,ag⟩:=oG f;have k:Ty c (w.heap.size+2) 79:=Ty.below (Ty.at_ _ _ _ (by simp)) f (by simp);have af:w.heap.size+2<c.heap.size:=k.lt;have F:Below w.heap.size w c:=Below.trans (by repeat(first|exact hP|refine ia ?_ (by simp<;>omega) _)) (f.mono (by simp<;>omega));have E:d.length=0↔x*y=0:=k5 (z:=x*y) o (by rw[m,a.g,b.g,np]);have C:∀(j:Bool) (e:World),(j=true↔x*y<0)->KU c e->Below w.heap.size c e->jD w e (.agg #[.bool j,.slice p d.length n]) (x*y) (L+M):=by
   intro j e S T Q;exact⟨jE.mk' S o (by rw[m,a.g,b.g,np]) (by have:=a.j;have:=b.j;omega) (r.hV T),F.trans Q⟩
  have A:=a_ C;have P:=a_ E;have g:=a_ k;clear f F o m R r C E k;go_wp2_with fail;first
   |(refine ig (v:=.agg #[.bool false,.slice p d.length n]) ?_ rfl ?_
     ·(simp[results,Tryz.results65,go_sem,G];done)
     .exact⟨_,rfl,A.e _ _ (E0 (by have:=t.e;have:=H.e;omega)) (KU.setCell (KU.setCell (KU.refl _) g.e (by decide) _) (g.e.setCell _ _) (by decide) _) ((hP.setCell (by simp<;>omega) _).setCell (by simp<;>omega) _)⟩)
   |(refine ig (v:=.agg #[.bool (decide (0<d.length)),.slice p d.length n]) ?_ rfl ?_
     ·(simp[results,Tryz.results65,go_sem,G];done)
     .exact⟨_,rfl,A.e _ _ (F9 P.e (by have:=t.e;have:=H.e;omega)) (KU.setCell (KU.setCell (KU.refl _) g.e (by decide) _) (g.e.setCell _ _) (by decide) _) ((hP.setCell (by simp<;>omega) _).setCell (by simp<;>omega) _)⟩)
def r7(b n:Nat):Prop:=∀a,b<=a↔n<2^a
theorem Ae:r7 0 0:=λa=>⟨λ_=>kx (by decide),λ_=>hR⟩
theorem DC{b n:Nat}(f:n<2^b)(a:b=0\/2^(b-1)<=n):r7 b n:=by
 intro c;constructor
 .intro d;exact l_ f (jb (by decide) d)
 .intro d;rcases a with a|a
  .omega
  .rcases iX c b with e|e
   .have:2^c<=2^(b-1):=jb (by decide) (by omega);omega
   .exact e
theorem uQ(m:Nat):4294967296^m=2^(32*m):=by rw[qb]
theorem GK{xs:List Nat}{j:Nat}(d:Lo xs)(i:0<xs.length)(h:0<xs.getD (xs.length-1) 0)(e:xs.getD (xs.length-1) 0<2^j)(f:j=0\/2^(j-1)<=xs.getD (xs.length-1) 0):r7 ((xs.length-1)*32+j) (val xs):=by
 have b:=ir xs (xs.length-1) (by omega);rw[iz xs (xs.length-1) (by omega),iN,show xs.length-1+1=xs.length from by omega,xx,q7,l6,nt]at b;have c:=j8 (mG d (xs.length-1));rw[kv,o_ (by omega)]at c;generalize xs.getD (xs.length-1) 0=a at*;rw[uQ]at b c;have g:j≠0:=by rintro rfl;simp at e;omega
 refine DC ?_ (.inr ?_)
 .rw[ij (xs.length-1) 32,kg];have:2^(32*(xs.length-1))*(a+1)<=2^(32*(xs.length-1))*2^j:=jJ _ (by omega);rw[jd,qd]at this;omega
 .rw[show(xs.length-1)*32+j-1=32*(xs.length-1)+(j-1)from by omega,kg];have:2^(32*(xs.length-1))*2^(j-1)<=2^(32*(xs.length-1))*a:=jJ _ (f.resolve_left g);omega
theorem tW{t q j:Nat}(a:q=t/2^j):q/2=t/2^(j+1):=by rw[a,Nat.div_div_eq_div_mul,jx]
theorem FA{t q j:Nat}(b:q=t/2^j)(h:0<q):2^j<=t:=by
 rcases iX t (2^j)with a|a
 .rw[uO a]at b;omega
 .exact a
theorem EO{t q j:Nat}(b:q=t/2^j)(h:q=0):t<2^j:=by
 rcases iX t (2^j)with a|a
 .exact a
 .have:=Nat.div_pos a (kx (by decide));omega
theorem B8{t j:Nat}(b:t<4294967296)(h:2^j<=t):j<32:=by
 rcases iX j 32 with a|a
 .exact a
 .have:2^32<=2^j:=jb (by decide) a;omega
theorem rY{v:Value}{xs:List Nat}{w:World}(i:Own w v xs)(c:l9 xs)(G:xs.length<=1000000000):Calls Tryz.prog 131 #[v] w λr z=>∃d:Nat,r=.returned (.int .i64 d)/\r7 d (val xs)/\z=w:=by
 obtain⟨A,I,rfl,-,-,h,-,-⟩:=i.open_;by_cases f:xs=[]
 .subst f;rw[q7];clear c i h;go_in;go_wp2;go_ret;exact⟨0,rfl,Ae,rfl⟩
 .have s:0<xs.length:=rE.2 f;have o:=c.2.resolve_left f;obtain⟨d,rfl,m⟩:=h (xs.length-1) (by omega);have n:=jW c.1 (xs.length-1);have E:d<w.heap.size:=sD w _ m;obtain⟨e,l⟩:=hQ (xs.getD (xs.length-1) 0);have t:=a_ (λa=>@GK xs a c.1 s o);rw[<-l]at m n o;have q:=a_ l;have H:((xs.length:Int)==0)=false:=iK.2 (by omega);clear h c i f l;go_in;go_wp2_with fail;go_loop [4,5] (λy b=>∃a k:Nat,y=.int .i64 (((xs.length:Int)-1)*32+a)/\b=.int .u32 k/\k<=e/\a<=32/\f_ (k=e/2^a/\(a=0\/2^(a-1)<=e))) (λ_ b=>(intOf b).toNat)
  case atStart=>exact⟨0,e,by simp,rfl,c_,by omega,a_ ⟨by simp,.inl rfl⟩⟩
  case round=>
   obtain⟨a,b,rfl,rfl,B,F,g⟩:=hrel;by_cases p:b=0
   .have D:=a_ p;subst p;go_wp2;go_ret;refine⟨(xs.length-1)*32+a,?_,?_,rfl⟩
    .exact lb (by omega)
    .refine t.e a ?_ ?_
     .rw[<-q.e];exact EO g.f rfl
     .rw[<-q.e];exact g.i
   .have u:0<b:=by omega
    have j:=FA g.f u;have C:=B8 n j;have x:=a_ j;clear j;go_wp2_with fail;go_round
    case rel=>exact⟨a+1,b/2,by go_num,by go_num,by omega,by omega,a_ ⟨tW g.f,.inr x.e⟩⟩
    case measure=>simp[intOf];omega
theorem Gi{v:Value}{z:Int}{L:Nat}{w:World}(n:jE w v z L)(q:L<=1000000000):Calls Tryz.prog 91 #[v] w λi e=>∃a:Nat,i=.returned (.int .i64 a)/\r7 a z.natAbs/\Below w.heap.size w e:=by
 obtain⟨r,p,rfl,h,j,f,c⟩:=n;obtain⟨m,o,rfl,-⟩:=c.open_;have b:=hY h j f c;clear h j f c;go_in;go_wp2_with fail;have d:=hU w (.cells #[.bool (decide (z<0)),.slice m p.length o] 79);go_fit (rY (b.o.below d) b.f (by have:=b.j;omega));rintro i e⟨a,rfl,g,rfl⟩;have l:=a_ g;have k:=a_ d;clear g d;go_wp2;go_ret;refine⟨a,rfl,?_,k.e⟩;rw[<-b.g];exact l.e
theorem Hk(w:World):Own (w.alloc (.cells #[.int .u32 1,.int .u32 0] 144)) (.slice (some ⟨w.heap.size,0,none⟩) 2 2) [1,0]:=by
 have:=uS (base:=0) (e:=144) (size:=1) w #[.int .u32 1,.int .u32 0] 2 hR (by simp[maxLen]) rfl;simpa[Own,il]using this
theorem yf(w:World)(c e:Array Value)(o:Obj):KU ((w.alloc (.cells c 79)).alloc o) ((w.alloc (.cells e 79)).alloc o):=by
 intro d g a;change((w.heap.push (.cells c 79)).push o)[d]?=_ at a;change((w.heap.push (.cells e 79)).push o)[d]?=_;simp only[Array.getElem?_push,Array.size_push]at a|-;split at a
 .rename_i b;rw[if_pos b];exact a
 .rename_i b;rw[if_neg b];split at a
  .simp at a
  .rename_i f;rw[if_neg f];exact a
theorem mU{w:World}:Calls Tryz.prog 62 #[.int .i64 1] w λg f=>∃e,g=.returned e/\jD w f e 1 2:=by
 go_in;go_wp2_with fail;go_fit (@mN _ [1,0] _ ?_ (by intro n h;simp at h;omega))
 .have:=Hk (w.alloc (.cells #[.bool false,.slice none 0 0] 79));simpa using this
 rintro g f⟨⟨e,rfl,j⟩,rfl⟩;obtain⟨i,b,c,d,a⟩:=j;obtain⟨l,k,rfl,-⟩:=a.open_;have m:=hY b c d a;clear b c d a;go_wp2_with fail;refine ig (v:=.agg #[.bool false,.slice l i.length k]) ?_ rfl ?_
 ·(simp[results,Tryz.results62,go_sem];done)
 .obtain⟨b,c,d,a⟩:=m.e;refine⟨_,rfl,jE.mk' (by simp) b (by rw[c];simp[val]) (by simpa using d) (a.hV (yf _ _ _ _)),?_⟩;repeat(first|exact hP|refine ia ?_ (by simp<;>omega) _)
def iA(w:World)(e:Value)(n:Nat)(zs:List Int)(L:Nat):Prop:=
 zs.length=n/\∃b,w.ownsRow 0 79 2 e n b/\∀a,a<n->∃d c,b[2*a]?=some d/\b[2*a+1]?=some c/\jE w (.agg #[d,c]) (zs.getD a 0) L
def i_(w:World)(v:Value)(r c:Nat)(zs:List Int)(L:Nat):Prop:=r<=99/\c<=99/\∃a,v=.agg #[.int .i64 r,.int .i64 c,a]/\iA w a (r*c) zs L
theorem iA.below{w:World}{n L:Nat}{zs:List Int}(h:iA w x n zs L)(a:Below w.heap.size w v):iA v x n zs L:=by
 obtain⟨s,e,b,t⟩:=h;refine⟨s,e,⟨b.1,?_⟩,λo r=>?_⟩
 .rcases b.2 with i|⟨c,y,g,q,k,d,m⟩
  .exact .inl i
  .exact .inr ⟨c,y,g,q,k,by rw[a.block c (jt.1 d).1];exact d,m⟩
 .obtain⟨u,j,f,p,l⟩:=t o r;exact⟨u,j,f,p,l.below a⟩
theorem i_.below{w:World}{v:Value}{r c L:Nat}{zs:List Int}(h:i_ w v r c zs L)(e:Below w.heap.size w W):i_ W v r c zs L:=by
 obtain⟨a,b,f,d,g⟩:=h;exact⟨a,b,f,d,g.below e⟩
theorem iA.mono{w:World}{n L M:Nat}{zs:List Int}(h:iA w x n zs L)(c:L<=M):iA w x n zs M:=by
 obtain⟨e,i,f,g⟩:=h;refine⟨e,i,f,λm l=>?_⟩;obtain⟨j,a,k,b,d⟩:=g m l;exact⟨j,a,k,b,d.mono c⟩
theorem i_.mono{w:World}{v:Value}{r c L M:Nat}{zs:List Int}(h:i_ w v r c zs L)(a:L<=M):i_ w v r c zs M:=by
 obtain⟨b,d,f,e,g⟩:=h;exact⟨b,d,f,e,g.mono a⟩
theorem iA.shape{w:World}{n L:Nat}{zs:List Int}(h:iA w x n zs L):∃d a,x=.slice d n a/\n<=a/\a<=9223372036854775807/\(∀c,c<n->∃b,d=some ⟨b,0,none⟩):=by
 obtain⟨m,p,e,q⟩:=h;rcases e.2 with⟨rfl,f⟩|⟨b,a,r,rfl,j,k,i,g,l,o⟩
 .subst f;exact⟨none,0,rfl,c_,by omega,λc s=>by omega⟩
 .exact⟨_,a,rfl,i,by simpa[maxLen]using g,λc _=>⟨b,rfl⟩⟩
theorem iA.cell{w:World}{g n L:Nat}{zs:List Int}(h:iA w (.slice (some ⟨g,0,none⟩) n i) n zs L)(k:Nat)(p:k<n):∃d a j b,w.cell? ⟨g,2*k,none⟩=some (.bool d)/\w.cell? ⟨g,2*k+1,none⟩=some (.slice a j b)/\jE w (.agg #[.bool d,.slice a j b]) (zs.getD k 0) L:=by
 obtain⟨z,s,f,q⟩:=h;obtain⟨B,u,l,o,c⟩:=q k p;have m:=c;obtain⟨v,t,e,A,x,y,r⟩:=c;obtain⟨a,b,rfl,-⟩:=r.open_;simp only[j9,j_,kb,jh]at e;obtain⟨rfl,rfl⟩:=e;exact⟨_,_,_,_,by rw[vF f _ (by omega),l],by rw[vF f _ (by omega),o],m⟩
theorem iA.frozen{w:World}{g n L:Nat}{zs:List Int}(h:iA w (.slice (some ⟨g,0,none⟩) n i) n zs L)(j:Nat):w.frozen? ⟨g,j,none⟩=false:=by
 obtain⟨b,d,a,c⟩:=h;exact World.ownsRow.frozenAt a j
theorem iA.ty{w:World}{g n L:Nat}{zs:List Int}(h:iA w (.slice (some ⟨g,0,none⟩) n i) n zs L):Ty w g 79:=by
 obtain⟨j,l,b,k⟩:=h;rcases b.2 with⟨d,_⟩|⟨f,p,o,a,e,c,m⟩
 .simp at d
 .simp only[iC,iH,jj]at a;obtain⟨⟨rfl,_⟩,_⟩:=a;exact⟨_,_,c⟩
theorem iA.stored{w:World}{g n L:Nat}{zs:List Int}(h:iA w (.slice (some ⟨g,0,none⟩) n i) n zs L)(k:Nat)(y:k<n){a b:Value}{z:Int}(v:jE w (.agg #[a,b]) z L):iA ((w.setCell ⟨g,2*k,none⟩ a).setCell ⟨g,2*k+1,none⟩ b) (.slice (some ⟨g,0,none⟩) n i) n (zs.set k z) L/\KU w ((w.setCell ⟨g,2*k,none⟩ a).setCell ⟨g,2*k+1,none⟩ b):=by
 have j:=h.ty;have d:KU w ((w.setCell ⟨g,2*k,none⟩ a).setCell ⟨g,2*k+1,none⟩ b):=KU.setCell (KU.setCell (KU.refl _) j (by decide) _) (j.setCell _ _) (by decide) _;obtain⟨r,f,e,s⟩:=h;refine⟨⟨by simpa using r,(f.set (2*k) a).set (2*k+1) b,((e.stored (2*k) a).1.stored (2*k+1) b).1,λc u=>?_⟩,d⟩;have x:f.length=n*2:=e.1;by_cases l:c=k
 .subst l;refine⟨a,b,?_,?_,?_⟩
  .rw[mb (by omega),List.getElem?_set_self (by omega)]
  .rw[List.getElem?_set_self (by simp;omega)]
  .rw[show(zs.set c z).getD c 0=z from by simp[List.getD,show c<zs.length from by omega]];exact v.hV d
 .obtain⟨o,p,t,m,q⟩:=s c u;refine⟨o,p,?_,?_,?_⟩
  .rw[mb (by omega),mb (by omega),t]
  .rw[mb (by omega),mb (by omega),m]
  .rw[show(zs.set k z).getD c 0=zs.getD c 0 from by simp[List.getD,mb (Ne.symm l)]];exact q.hV d
def hasB(r c row a:Int):Bool:=decide (0<=row/\row<r/\0<=a/\a<c)
theorem n3{a b:Bool}(h:a=b):Ending.returned (.bool a)=.returned (.bool b):=by rw[h]
theorem yL{r c row:Int}(h:row<0\/r<=row\/a<0):false=hasB r c row a:=by
 unfold hasB;rw[eq_comm,decide_eq_false_iff_not];omega
theorem FW{r c row:Int}(e:0<=row)(b:row<r)(d:0<=a):decide (a<c)=hasB r c row a:=by
 unfold hasB;rw[decide_eq_decide];omega
theorem yS{r c row:Int}{n:Nat}{w:World}:Calls Tryz.prog 99 #[.agg #[.int .i64 r,.int .i64 c,.slice O n i],.int .i64 row,.int .i64 a] w λh g=>h=.returned (.bool (hasB r c row a))/\g=w.alloc (.cells #[.int .i64 r,.int .i64 c,.slice O n i] 66):=by
 by_cases d:0<=row
 .by_cases e:row<r
  .by_cases f:0<=a
   .go_in;go_wp2;go_ret;exact⟨n3 (FW d e f),rfl⟩
   .have b:f_ (a<0):=a_ (by omega);have l:decide (0<=a)=false:=by simpa using f
    go_in;go_wp2;go_ret;exact⟨n3 (yL (.inr (.inr b.e))),rfl⟩
  .have b:f_ (r<=row):=a_ (by omega);have k:decide (row<r)=false:=by simpa using e
   go_in;go_wp2;go_ret;exact⟨n3 (yL (.inr (.inl b.e))),rfl⟩
 .have b:f_ (row<0):=a_ (by omega);have j:decide (0<=row)=false:=by simpa using d
  go_in;go_wp2;go_ret;exact⟨n3 (yL (.inl b.e)),rfl⟩
theorem nC{r c:Int}{n:Nat}{w:World}:Calls Tryz.prog 38 #[.agg #[.int .i64 r,.int .i64 c,.slice O n i]] w λa b=>a=.returned (.bool (r==c))/\b=w.alloc (.cells #[.int .i64 r,.int .i64 c,.slice O n i] 66):=by
 go_in;go_wp2;go_ret;exact⟨rfl,rfl⟩
theorem uM{w:World}{a:Addr}{v:Value}(h:w.cell? a=some v):∀d b c,(((w.alloc d).alloc b).alloc c).cell? a=some v:=λd b c=>
 g_ (by repeat(first|exact hP|refine ia ?_ (by simp<;>omega) _)) h
theorem ze{r c:Nat}{row:Nat}(b:row<r)(a:i<c):hasB r c row i=true:=by
 unfold hasB;rw[pA];omega
theorem jq{r c row:Nat}(a:row<r)(b:i<c):row*c+i<r*c:=by
 have:(row+1)*c<=r*c:=jo _ a;rw[jV,j7]at this;omega
theorem BW{r c row:Nat}(d:r<=99)(a:c<=99)(b:row<r):(0:Int)<=(row:Int)*(c:Int)/\(row:Int)*(c:Int)<=9801:=by
 have:row*c<=99*99:=jR (by omega) a;rw[<-m_];omega
theorem jy{v:Value}{r c row a:Nat}{zs:List Int}{L:Nat}{w:World}(t:i_ w v r c zs L)(e:row<r)(l:a<c):Calls Tryz.prog 64 #[v,.int .i64 row,.int .i64 a] w λh k=>∃n,h=.returned n/\jD w k n (zs.getD (row*c+a) 0) L:=by
 obtain⟨o,p,K,rfl,b⟩:=t;obtain⟨G,N,rfl,C,D,j⟩:=b.shape;have d:=jq e l;obtain⟨y,rfl⟩:=j _ d;obtain⟨q,z,A,s,f,i,g⟩:=b.cell _ d;have J:y<w.heap.size:=sD w _ f;have B:=ze e l;obtain⟨I,E⟩:=BW o p e;have x:=a_ g;rw[ij 2]at f i;clear b g j;obtain⟨u,m⟩:=hQ (r*c);rw[<-m]at C d|-;have H:(row:Int)*(c:Int)+(a:Int)<(u:Int):=by rw[<-m_];omega
 clear m;have M:=uM f;have F:=uM i;go_in;go_wp2_with (go_at_call 99;refine(yS).mono ?_;rintro h k⟨rfl,rfl⟩;rw[B]);refine ig (v:=.agg #[.bool q,.slice z A s]) ?_ rfl ?_
 ·(simp[results,Tryz.results64,go_sem];done)
 .refine⟨_,rfl,x.e.below ?_,?_⟩
  .repeat(first|exact hP|refine ia ?_ (by simp<;>omega) _)
  .repeat(first|exact hP|refine ia ?_ (by simp<;>omega) _)
theorem iL{w:World}{a:Addr}{v:Value}(h:w.cell? a=some v):∀b,(w.alloc b).cell? a=some v:=λb=>
 g_ (by repeat(first|exact hP|refine ia ?_ (by simp<;>omega) _)) h
theorem qh{w:World}{a:Addr}{v:Value}(h:w.cell? a=some v):∀c b,((w.alloc c).alloc b).cell? a=some v:=λc b=>
 g_ (by repeat(first|exact hP|refine ia ?_ (by simp<;>omega) _)) h
theorem ra{w:World}{a:Addr}(h:w.frozen? a=false)(d:a.block<w.heap.size):∀c b,((w.alloc c).alloc b).frozen? a=false:=λc b=>by
 rw[Below.frozen (w:=w) (B:=w.heap.size) (by repeat(first|exact hP|refine ia ?_ (by simp<;>omega) _)) d];exact h
theorem wm{w W:World}{g i j:Nat}{a b:Value}(h:Below ((w.setCell ⟨g,i,none⟩ a).setCell ⟨g,j,none⟩ b).heap.size ((w.setCell ⟨g,i,none⟩ a).setCell ⟨g,j,none⟩ b) W):w.grownBy W (some g):=by
 have f:((w.setCell ⟨g,i,none⟩ a).setCell ⟨g,j,none⟩ b).heap.size=w.heap.size:=by simp[World.setCell]
 refine⟨h.os,h.tape,h.output,by have:=h.size;omega,λe k d=>?_⟩;rw[h.block e (by omega),js _ _ _ _ (λc=>d (by simp[c])),js _ _ _ _ (λc=>d (by simp[c]))]
theorem B3{p g r c row:Nat}{zs:List Int}{L:Nat}{x:Value}{z:Int}{w:World}(q:w.cell? ⟨p,0,none⟩=some (.int .i64 r))(u:w.cell? ⟨p,1,none⟩=some (.int .i64 c))(s:w.cell? ⟨p,2,none⟩=some (.slice (some ⟨g,0,none⟩) (r*c) k))(d:iA w (.slice (some ⟨g,0,none⟩) (r*c) k) (r*c) zs L)(B:jE w x z L)(N:r<=99)(V:c<=99)(y:row<r)(K:l<c):Calls Tryz.prog 92 #[.pointer (some ⟨p,0,none⟩),.int .i64 row,.int .i64 l,x] w λE m=>E=.returned (.tuple #[])/\iA m (.slice (some ⟨g,0,none⟩) (r*c) k) (r*c) (zs.set (row*c+l) z) L/\w.grownBy m (some g)/\KU w m:=by
 have h:=jq y K;obtain⟨am,ab,X,Y,n,f,-⟩:=d.cell _ h;have v:=d.frozen (2*(row*c+l));have o:=d.frozen (2*(row*c+l)+1);have t:g<w.heap.size:=sD w _ n;have ad:=ze y K;obtain⟨al,ae⟩:=BW N V y;obtain⟨an,S,rfl,R,ac,T,G⟩:=id B;obtain⟨P,O,rfl,-⟩:=G.open_;rw[ij 2]at n f v o;have au:=qh n;have ah:=qh f;have ap:=ra v t;have ag:=ra o t;have ao:∀e,∀A C,(((w.setCell ⟨g,(row*c+l)*2,none⟩ e).alloc A).alloc C).cell? ⟨g,(row*c+l)*2+1,none⟩=some (.slice ab X Y):=λe=>qh (by rw[jZ _ _ _ _ (by simp)];exact f);have aj:∀e,∀A C,(((w.setCell ⟨g,(row*c+l)*2,none⟩ e).alloc A).alloc C).frozen? ⟨g,(row*c+l)*2+1,none⟩=false:=λe=>ra (by rw[World.frozen?_setCell];exact o) (by simp[World.setCell];exact t);have aq:=qh q;have ai:=qh u;have W:=qh s;have af:=iL q;have ar:=iL u;have Z:=iL s;have D:=a_ B;have H:=a_ d;have U:=a_ h;clear B d R ac T G q u s n f v o;obtain⟨Q,I⟩:=hQ (decide (z<0));rw[<-I]at D|-;clear I;obtain⟨aa,M⟩:=hQ (r*c);rw[<-M]at h W Z H|-;have ak:(row:Int)*(c:Int)+(l:Int)<(aa:Int):=by rw[<-m_];omega
 clear M U;go_in;go_wp2_with (go_at_call 99;refine(yS).mono ?_;rintro E m⟨rfl,rfl⟩;rw[ad]);go_region;all_goals
  go_end0;obtain⟨J,F⟩:=H.e.stored _ h D.e;rw[ij 2]at J F;refine⟨rfl,?_,?_,?_⟩
  .refine J.below ?_;repeat(first|exact hP|refine iV ?_|refine ia ?_ (by simp<;>omega) _)
  .refine wm (i:=(row*c+l)*2) (j:=(row*c+l)*2+1) (a:=.bool Q) (b:=.slice P S.length O) ?_;repeat(first|exact hP|refine iV ?_|refine ia ?_ (by simp<;>omega) _)
  .refine F.trans (KU.I ?_);repeat(first|exact hP|refine iV ?_|refine ia ?_ (by simp<;>omega) _)
theorem Tryz.w3:(Tryz.prog.info? 79).map (λa=>(a.zero,a.size,a.bytes))=some (some (.agg #[.bool false,.slice none 0 0]),2,32):=by kernel_rfl
theorem Ar(n:Nat)(i:Nat)(a:i<n):(madeCells #[Value.bool false,.slice none 0 0] (n*2)).toList[2*i]?=some (.bool false)/\(madeCells #[Value.bool false,.slice none 0 0] (n*2)).toList[2*i+1]?=some (.slice none 0 0):=by
 constructor
 .simp[madeCells,show 2*i<n*2 from by omega,show 2*i%2=0 from by omega]
 .simp[madeCells,show 2*i+1<n*2 from by omega,show(2*i+1)%2=1 from by omega]
theorem D4{w:World}{ops:Array Oper}{i:List Oper}{o:Oper}{a:Act}{Q:Exit->Act->World->Prop}(m:o.guard=none)(e c:Operand)(j:o.op=Op.makeSlice 64 e c){L C:Int}{n:Nat}(v:a.eval e=.int .i64 L)(p:a.eval c=.int .i64 C)(s:L=(n:Int))(x:C=(n:Int))(b:n<=1000000000)(t:∀d,iA d (.slice (some ⟨w.heap.size,0,none⟩) n n) n (List.replicate n 0) 0->Below w.heap.size w d->w.heap.size<d.heap.size->wpList Tryz.prog ops Q i (a.put o.dst (.slice (some ⟨w.heap.size,0,none⟩) n n)) d):wpList Tryz.prog ops Q (o::i) a w:=by
 obtain⟨q,u,k,r,l⟩:=kO Tryz.w3;refine wpList_make_full w m e c 64 j 0 79 q (.agg #[.bool false,.slice none 0 0]) 2 Tryz.underlying64 u k r .i64 .i64 L C n v p s x (by rw[l];omega) (by unfold maxLen;omega) hR ?_;intro d h y;rw[show(Value.agg #[.bool false,.slice none 0 0]).cells=#[.bool false,.slice none 0 0]from rfl]at h;refine t d ⟨by simp,_,h,λf g=>⟨_,_,(Ar n f g).1,(Ar n f g).2,?_⟩⟩ (hP.grown y c_ (by simp)) (kF h _ rfl).2;rw[show(List.replicate n (0:Int)).getD f 0=0 from by simp[List.getD,g]];exact jE.zero d 0
theorem IQ{B:Nat}{W:World}(d:Below B W w):(∀a b,a<B->w.cell? ⟨a,b,none⟩=W.cell? ⟨a,b,none⟩)/\(∀a b,a<B->w.frozen? ⟨a,b,none⟩=W.frozen? ⟨a,b,none⟩):=
 ⟨λa b c=>d.cell (p:=⟨a,b,none⟩) c,λa b c=>d.frozen (p:=⟨a,b,none⟩) c⟩
theorem iA.oJ{w W:World}{n L:Nat}{zs:List Int}(h:iA w x n zs L)(i:∀(a:Nat) (d:Array Value),w.heap[a]?=some (.cells d 79 (0,0))->W.heap[a]?=some (.cells d 79 (0,0)))(q:KU w W):iA W x n zs L:=by
 obtain⟨t,f,c,u⟩:=h;refine⟨t,f,⟨c.1,?_⟩,λo s=>?_⟩
 .rcases c.2 with j|⟨e,z,b,r,k,y,m⟩
  .exact .inl j
  .exact .inr ⟨e,z,b,r,k,i e b y,m⟩
 .obtain⟨v,a,g,p,l⟩:=u o s;exact⟨v,a,g,p,l.hV q⟩
def KT(w b:World):Prop:=(∀(a:Nat) (c:Array Value),w.heap[a]?=some (.cells c 79 (0,0))->b.heap[a]?=some (.cells c 79 (0,0)))/\KU w b
theorem KT.refl(w:World):KT w w:=⟨λ_ _ a=>a,KU.refl w⟩
theorem KT.trans{a b c:World}(h:KT a b)(k:KT b c):KT a c:=⟨λd e f=>k.1 d e (h.1 d e f),h.2.trans k.2⟩
theorem KT.I{w:World}(h:Below w.heap.size w v):KT w v:=⟨λb c a=>by rw[h.block b (jt.1 a).1];exact a,KU.I h⟩
theorem KT.setCell{a w:World}(h:KT a w){b o:Nat}{t:TypeId}(e:Ty w b t)(k:t≠144)(j:t≠79)(u:Value):KT a (w.setCell ⟨b,o,none⟩ u):=by
 refine⟨λd i l=>?_,h.2.setCell e k u⟩;have f:=h.1 d i l;obtain⟨n,m,c⟩:=e;by_cases g:d=b
 .subst g;rw[f]at c;simp only[iH,ur]at c;exact absurd c.2.1.symm j
 .rw[js _ _ _ _ g];exact f
theorem iA.hV{w W:World}{n L:Nat}{zs:List Int}(h:iA w x n zs L)(a:KT w W):iA W x n zs L:=h.oJ a.1 a.2
theorem kh{r c:Nat}{w:World}(g:r<=99)(h:c<=99):Calls Tryz.prog 90 #[.int .i64 r,.int .i64 c] w λm f=>∃d,m=.returned (.agg #[.int .i64 r,.int .i64 c,.slice (some ⟨d,0,none⟩) (r*c) (r*c)])/\w.heap.size<=d/\iA f (.slice (some ⟨d,0,none⟩) (r*c) (r*c)) (r*c) (List.replicate (r*c) 0) 0/\Below w.heap.size w f:=by
 have o:(0:Int)<=(r:Int)*(c:Int)/\(r:Int)*(c:Int)<=9801:=by
  have:r*c<=99*99:=jR g h;rw[<-m_];omega
 obtain⟨t,s⟩:=o;go_in;go_wp2_with (at_make;refine D4 rfl (.tmp 24) (.tmp 24) rfl (n:=r*c) rfl rfl ?_ ?_ ?_ ?_)
 .simp
 .simp
 .have:r*c<=99*99:=jR g h;omega
 intro p e a u;obtain⟨l,q⟩:=IQ a;have i:Ty p w.heap.size 66:=(Ty.new w _ _).below a (by omega);have j:=a_ e;have k:=a_ a;have b:=a_ i;clear e i;go_wp2_with fail;refine ig (v:=.agg #[.int .i64 r,.int .i64 c,.slice (some ⟨w.heap.size+1,0,none⟩) (r*c) (r*c)]) ?_ rfl ?_
 ·(simp[results,Tryz.results90,go_sem,l];done)
 .refine⟨w.heap.size+1,rfl,by omega,j.e.hV ?_,?_⟩
  .exact KT.setCell (KT.setCell (KT.setCell (KT.refl _) b.e (by decide) (by decide) _) (b.e.setCell _ _) (by decide) (by decide) _) ((b.e.setCell _ _).setCell _ _) (by decide) (by decide) _
  .refine uu (uu (uu ?_ (by simp) _) (by simp) _) (by simp) _;exact(hU w _).trans (k.e.mono (by omega))
def skip(a j:Nat):Nat:=if j<a then j else j+1
def jK(r c e d k:Nat)(zs ms:List Int):Prop:=∀a b,a<r-1->b<c-1->(a+1<d\/(a+1=d/\skip e b<k))->ms.getD (a*(c-1)+b) 0=zs.getD ((a+1)*c+skip e b) 0
theorem zi{d i j:Nat}(a:j<d)(b:l<d)(h:i*d+j=k*d+l):i=k/\j=l:=by
 have c:(i*d+j)/d=i:=by rw[ij,si (by omega),uO a];omega
 have e:(k*d+l)/d=k:=by rw[ij,si (by omega),uO b];omega
 have f:i=k:=by rw[<-c,<-e,h]
 subst f;exact⟨rfl,by omega⟩
theorem jK.step{r c k t:Nat}{zs ms:List Int}(h:jK r c i j k zs ms)(s:ms.length=(r-1)*(c-1))(y:1<=j)(q:t<c-1)(l:skip i t=k):jK r c i j (k+1) zs (ms.set ((j-1)*(c-1)+t) (zs.getD (j*c+k) 0)):=by
 intro d b m g f;by_cases e:d=j-1/\b=t
 .obtain⟨rfl,rfl⟩:=e;have:(j-1)*(c-1)+b<ms.length:=by rw[s];exact jq m g
  rw[l,show j-1+1=j from by omega];simp[List.getD,this]
 .have o:(j-1)*(c-1)+t≠d*(c-1)+b:=λa=>by
   obtain⟨u,n⟩:=zi q g a;exact e ⟨u.symm,n.symm⟩
  rw[show(ms.set ((j-1)*(c-1)+t) (zs.getD (j*c+k) 0)).getD (d*(c-1)+b) 0=ms.getD (d*(c-1)+b) 0 from by simp[List.getD,mb o]];refine h d b m g ?_;rcases f with f|⟨p,x⟩
  .exact .inl f
  .refine .inr ⟨p,?_⟩;have v:b≠t:=λa=>e ⟨by omega,a⟩;have w:skip i b≠k:=by
    intro a;rw[<-l]at a;unfold skip at a;split at a<;>split at a<;>omega
   omega
theorem jK.pass{r c:Nat}{zs ms:List Int}(h:jK r c i j i zs ms):jK r c i j (i+1) zs ms:=by
 intro g d e k a;refine h g d e k ?_;rcases a with a|⟨f,b⟩
 .exact .inl a
 .refine .inr ⟨f,?_⟩;unfold skip at b|-;split at b
  .rw[if_pos (by omega)];omega
  .omega
theorem jK.next{r c:Nat}{zs ms:List Int}(h:jK r c i j c zs ms):jK r c i (j+1) 0 zs ms:=by
 intro b e f g a;refine h b e f g ?_;rcases a with a|⟨_,k⟩
 .by_cases d:b+1<j
  .exact .inl d
  .refine .inr ⟨by omega,?_⟩;unfold skip;split<;>omega
 .omega
theorem jK.Ki{r c k:Nat}{zs ms:List Int}(h:jK r c i j k zs ms)(a:k=i):jK r c i j (k+1) zs ms:=by subst a;exact h.pass
theorem jK.next'{r c k:Nat}{zs ms:List Int}(h:jK r c i j k zs ms)(a:k=c):jK r c i (j+1) 0 zs ms:=by subst a;exact h.next
theorem jK.start(r c b:Nat)(zs ms:List Int):jK r c b 1 0 zs ms:=by
 intro g d f h a;rcases a with a|⟨_,e⟩<;>omega
theorem ib{W a b:World}{g:Option Nat}(h:W.grownBy a g)(c:Below a.heap.size a b):W.grownBy b g:=
 ⟨c.os.trans h.os,c.tape.trans h.tape,c.output.trans h.output,iy h.size c.size,λe d f=>(c.block e (l_ d h.size)).trans (h.block e d f)⟩
theorem hZ{W a b:World}{g:Option Nat}(h:W.grownBy a g)(k:a.grownBy b g):W.grownBy b g:=
 ⟨k.os.trans h.os,k.tape.trans h.tape,k.output.trans h.output,iy h.size k.size,λe d c=>(k.block e (l_ d h.size) c).trans (h.block e d c)⟩
theorem jE.shape{w:World}{v:Value}{z:Int}{L:Nat}(h:jE w v z L):∃e a d b,v=.agg #[.bool e,.slice a d b]:=by
 obtain⟨g,j,rfl,i,k,f,c⟩:=h;obtain⟨a,b,rfl,-⟩:=c.open_;exact⟨_,_,_,_,rfl⟩
def CM(r c d:Nat)(zs ms:List Int):Prop:=∀a b,a<r-1->b<c-1->ms.getD (a*(c-1)+b) 0=zs.getD ((a+1)*c+skip d b) 0
theorem me(v:Value)(r c o:Nat)(zs:List Int)(L:Nat)(w:World)(aA:i_ w v r c zs L)(aN:1<=r)(bb:o<c):Calls Tryz.prog 63 #[v,.int .i64 o] w λm aG=>∃ab,m=.returned ab/\(∃d,i_ aG ab (r-1) (c-1) d L/\CM r c o zs d)/\Below w.heap.size w aG:=by
 have aw:=a_ aA;obtain⟨ba,bg,a6,rfl,av⟩:=aA;obtain⟨aj,aB,rfl,-⟩:=av.shape;clear av;obtain⟨ar,aL⟩:=hQ (r*c);rw[<-aL]at aw|-;clear aL;obtain⟨b,am⟩:=hQ (r-1);obtain⟨a,aH⟩:=hQ (c-1);have a4:b+1<=r:=by omega
 have a5:r<=b+1:=by omega
 have bf:a+1<=c:=by omega
 have bh:c<=a+1:=by omega
 have aE:=b_ am aH;clear am aH;go_in;go_wp2_with fail;rw[show((r:Int)-1)=(b:Int)from by omega,show((c:Int)-1)=(a:Int)from by omega];go_fit (kh (by omega) (by omega));rintro m p⟨h,rfl,ap,S,M⟩;obtain⟨P,aU⟩:=oG M;have be:w.heap.size+1<p.heap.size:=by have:=M.size;simp at this;omega
 have a7:w.heap.size+2<=h:=by simpa using ap
 have a3:h<p.heap.size:=S.ty.lt;have ay:Below w.heap.size w p:=by
  refine Below.trans ?_ (M.mono (by simp<;>omega));repeat(first|exact hP|refine ia ?_ (by simp<;>omega) _)
 go_wp2_with fail;obtain⟨i,j⟩:=hQ (p.alloc (.cells #[.int .i64 b,.int .i64 a,.slice (some ⟨h,0,none⟩) (b*a) (b*a)] 66));rw[<-j];have aD:i.cell? ⟨w.heap.size,0,none⟩=some (.int .i64 r):=by rw[j];exact iL (by rw[P _ _ (by simp<;>omega)];simp) _
 have aK:i.cell? ⟨w.heap.size,1,none⟩=some (.int .i64 c):=by rw[j];exact iL (by rw[P _ _ (by simp<;>omega)];simp) _
 have aJ:i.cell? ⟨w.heap.size,2,none⟩=some (.slice aj ar aB):=by rw[j];exact iL (by rw[P _ _ (by simp<;>omega)];simp) _
 have aC:i.cell? ⟨p.heap.size,0,none⟩=some (.int .i64 b):=by rw[j];simp
 have al:i.cell? ⟨p.heap.size,1,none⟩=some (.int .i64 a):=by rw[j];simp
 have ax:i.cell? ⟨p.heap.size,2,none⟩=some (.slice (some ⟨h,0,none⟩) (b*a) (b*a)):=by rw[j];simp
 have an:i.heap.size=p.heap.size+1:=by rw[j];simp
 have aq:iA i (.slice (some ⟨h,0,none⟩) (b*a) (b*a)) (b*a) (List.replicate (b*a) 0) L:=by
  rw[j];exact(S.mono hR).below hS
 have aF:Below w.heap.size w i:=by rw[j];exact ay.alloc (by omega) _
 have au:i.heap[w.heap.size+1]?=some (.cells #[.int .i64 0,.int .i64 0,.slice none 0 0] 66 (0,0)):=by
  rw[j,qL _ _ _ (by omega),M.block _ (by simp)];have:=iP (w.alloc (.cells #[.int .i64 r,.int .i64 c,.slice aj ar aB] 66)) (.cells #[.int .i64 0,.int .i64 0,.slice none 0 0] 66);simpa using this
 have A:=hO aD aK aJ;have C:=hO aC al ax;have aM:=a_ au;have aQ:=a_ an;clear aD aK aJ aC al ax au P aU j S M ay an ap;go_loopw [6] (λl wr=>∃(e:Nat) (d:List Int),1<=e/\e<=r/\l=.int .i64 e/\iA wr (.slice (some ⟨h,0,none⟩) (b*a) (b*a)) (b*a) d L/\i.grownBy wr (some h)/\Below w.heap.size w wr/\f_ (jK r c o e 0 zs d)) (λl _=>r-(intOf l).toNat)
 case atStart=>exact⟨1,_,c_,aN,rfl,aq,jM _ _,aF,a_ (jK.start _ _ _ _ _)⟩
 case round=>
  clear aq aF;obtain⟨e,d,aT,a8,rfl,y,g,s,z⟩:=hrel;have V:=g.cell A.f (by simp;omega);have R:=g.cell A.g (by simp;omega);have X:=g.cell A.l (by simp;omega);by_cases a1:e<r
  .go_wp2_with fail;go_loopw [7] (λl T=>∃(f:Nat) (d:List Int),f<=c/\l=.int .i64 f/\iA T (.slice (some ⟨h,0,none⟩) (b*a) (b*a)) (b*a) d L/\i.grownBy T (some h)/\Below w.heap.size w T/\f_ (jK r c o e f zs d)) (λl _=>c-(intOf l).toNat)
   case atStart=>exact⟨0,d,hR,rfl,y,g,s,z⟩
   case round=>
    clear y g s V R X z;obtain⟨f,d,bc,rfl,y,g,s,z⟩:=hrel;have V:=g.cell A.f (by simp;omega);have R:=g.cell A.g (by simp;omega);have X:=g.cell A.l (by simp;omega);by_cases aZ:f<c
    .go_wp2_with fail;go_fit (jy (aw.e.below s) a1 aZ);rintro m U⟨ab,rfl,O,Q⟩;obtain⟨I,K,G,N,rfl⟩:=O.shape;have D:=y.below Q;have x:=ib g Q;have E:Below w.heap.size w U:=d_ s Q;clear y g s Q V R X;have aI:=hU U (.cells #[.bool I,.slice K G N] 79);have af:=iL (x.cell C.f (by simp;omega)) (.cells #[.bool I,.slice K G N] 79);have ag:=iL (x.cell C.g (by simp;omega)) (.cells #[.bool I,.slice K G N] 79);have ac:=iL (x.cell C.l (by simp;omega)) (.cells #[.bool I,.slice K G N] 79);have B:=hO af ag ac;have n:=a_ aI;clear af ag ac aI;have aX:d.length=b*a:=D.1;have ak:∀(u:Nat) (k:World) (F:Int),F=zs.getD (e*c+f) 0->u<a->skip o u=f->iA k (.slice (some ⟨h,0,none⟩) (b*a) (b*a)) (b*a) (d.set ((e-1)*a+u) F) L->(U.alloc (.cells #[.bool I,.slice K G N] 79)).grownBy k (some h)->iA k (.slice (some ⟨h,0,none⟩) (b*a) (b*a)) (b*a) (d.set ((e-1)*a+u) F) L/\i.grownBy k (some h)/\Below w.heap.size w k/\jK r c o e (f+1) zs (d.set ((e-1)*a+u) F):=by
      intro u k F a0 bd aS ad ai;subst a0;refine⟨ad,hZ (ib x n.e) ai,?_,?_⟩
      .refine((d_ E n.e)).grown ai (by have:=E.size;simp;omega) ?_;intro ao ae;simp at ae;omega
      .have m:=aE.e;have:=z.e.step (t:=u) (by rw[aX,m.1,m.2]) aT (by omega) aS;rw[<-m.2]at this;exact this
     have az:=a_ ak;clear ak;by_cases ad:f<o
     .go_wp2_with fail;rw[show((e:Int)-1)=((e-1:Nat):Int)from by omega];go_fit (B3 B.f B.g B.l (D.below n.e) (O.below n.e) (by omega) (by omega) (by omega) (by omega));rintro m k⟨rfl,J,H,-⟩;obtain⟨ah,W,Z,Y⟩:=az.e f k _ rfl (by omega) (by unfold skip;rw[if_pos ad]) J H;clear J H D x E O;go_wp2;go_roundw
      case rel=>exact⟨f+1,_,by omega,by go_num,ah,W,Z,a_ Y⟩
      case measure=>simp[intOf];omega
     .by_cases ai:o<f
      .go_wp2_with fail;rw[show((e:Int)-1)=((e-1:Nat):Int)from by omega,show((f:Int)-1)=((f-1:Nat):Int)from by omega];go_fit (B3 B.f B.g B.l (D.below n.e) (O.below n.e) (by omega) (by omega) (by omega) (by omega));rintro m k⟨rfl,J,H,-⟩;obtain⟨ah,W,Z,Y⟩:=az.e (f-1) k _ rfl (by omega) (by unfold skip;rw[if_neg (by omega)];omega) J H;clear J H D x E O;go_wp2;go_roundw
       case rel=>exact⟨f+1,_,by omega,by go_num,ah,W,Z,a_ Y⟩
       case measure=>simp[intOf];omega
      .go_wp2;go_roundw
       case rel=>exact⟨f+1,d,by omega,by go_num,D.below n.e,ib x n.e,d_ E n.e,a_ (z.e.Ki (by omega))⟩
       case measure=>simp[intOf];omega
    .go_wp2;go_roundw
     case rel=>exact⟨e+1,d,by omega,by omega,by go_num,y,g,s,a_ (z.e.next' (by omega))⟩
     case measure=>simp[intOf];omega
  .have af:=g.cell C.f (by simp;omega);have ag:=g.cell C.g (by simp;omega);have ac:=g.cell C.l (by simp;omega);have q:wr.heap[w.heap.size+1]?=some (.cells #[.int .i64 0,.int .i64 0,.slice none 0 0] 66 (0,0)):=by
    rw[g.block _ (by have:=aQ.e;omega) (by simp;omega)];exact aM.e
   have aY:wr.cell? ⟨w.heap.size+1,0,none⟩=some (.int .i64 0):=by simp[World.cell?,q]
   have aO:wr.cell? ⟨w.heap.size+1,1,none⟩=some (.int .i64 0):=by simp[World.cell?,q]
   have aP:wr.cell? ⟨w.heap.size+1,2,none⟩=some (.slice none 0 0):=by simp[World.cell?,q]
   have a9:wr.frozen? ⟨w.heap.size+1,0,none⟩=false:=by simp[World.frozen?,q]
   have a2:wr.frozen? ⟨w.heap.size+1,1,none⟩=false:=by simp[World.frozen?,q]
   have bi:wr.frozen? ⟨w.heap.size+1,2,none⟩=false:=by simp[World.frozen?,q]
   have aa:f_ (Ty wr (w.heap.size+1) 66):=a_ ⟨_,_,q⟩;clear q;go_wp2_with fail;refine ig (v:=.agg #[.int .i64 b,.int .i64 a,.slice (some ⟨h,0,none⟩) (b*a) (b*a)]) ?_ rfl ?_
   ·(simp[results,Tryz.results63,go_sem,aY,aO,aP];done)
   .obtain⟨aR,aV⟩:=aE.e;subst aR;subst aV;refine⟨_,rfl,⟨d,⟨by omega,by omega,_,rfl,y.hV (KT.setCell (KT.setCell (KT.setCell (KT.refl _) aa.e (by decide) (by decide) _) (aa.e.setCell _ _) (by decide) (by decide) _) ((aa.e.setCell _ _).setCell _ _) (by decide) (by decide) _)⟩,?_⟩,?_⟩
    .intro l ao aW ae;exact z.e l ao aW ae (.inl (by omega))
    .exact((s.setCell (by simp) _).setCell (by simp) _).setCell (by simp) _
def iO(c:List UInt8):Nat:=c.foldl (λa b=>10*a+(b.toNat-48)) 0
def B1(b:List UInt8):Prop:=∀a∈b,48<=a.toNat/\a.toNat<=57
theorem qY(a:List UInt8)(c:UInt8):iO (a++[c])=10*iO a+(c.toNat-48):=by simp[iO]
theorem uJ(a:List UInt8)(k:Nat)(b:k<a.length):iO (a.take (k+1))=10*iO (a.take k)+(a[k].toNat-48):=by
 rw[oW b,qY]
def lB(B:Nat)(w:World)(v:Value)(xs:List Nat):Prop:=w.ownsRow B 144 1 v xs.length (il xs)
theorem lB.own{B:Nat}{w:World}{v:Value}{xs:List Nat}(h:lB B w v xs):Own w v xs:=by
 refine⟨h.1,?_⟩;rcases h.2 with a|⟨c,f,e,b,g,d⟩
 .exact .inl a
 .exact .inr ⟨c,f,e,b,hR,d⟩
theorem lB.base{B:Nat}{w:World}{g n:Nat}{xs:List Nat}(h:lB B w (.slice (some ⟨g,0,none⟩) n i) xs):B<=g:=(kF h g rfl).1
theorem lB.Z{B:Nat}{w:World}{g n:Nat}{zs:List Nat}(h:lB B w (.slice (some ⟨g,0,none⟩) n i) zs)(a:zs.length=n)(k c:Nat){z:Int}(b:z=(c:Int)):lB B (w.setCell ⟨g,k,none⟩ (.int .u32 z)) (.slice (some ⟨g,0,none⟩) n i) (zs.set k c):=by
 subst a;subst b;have:=(Fy (w:=w) h k (.int .u32 (c:Nat))).1;rw[pH]at this;unfold lB;rw[vC];exact this
theorem AG{w:World}{ops:Array Oper}{g:List Oper}{o:Oper}{a:Act}{Q:Exit->Act->World->Prop}(i:o.guard=none)(s x:Operand)(j:o.op=.call {callee:=.builtin .append,args:=#[s,x],argTypes:=#[77,77]}){B:Nat}{v:Value}{zs:List Nat}(m:a.eval s=v)(E:lB B w v zs)(f:Addr)(A:a.eval x=.slice (some f) 1 1)(c:Nat)(p:w.cell? (f.add 0)=some (.int .u32 (c:Nat)))(F:zs.length<=30000)(C:B<=w.heap.size)(y:∀d b,lB B b d (zs++[c])->w.grownBy b v.ownBlock->wpList Tryz.prog ops Q g (a.put o.dst d) b):wpList Tryz.prog ops Q (o::g) a w:=by
 obtain⟨q,z,k,r,l⟩:=kO Tryz.CT;refine wC w i s x 77 j B 144 q (.int .u32 0) 1 4 Tryz.underlying77 z k r l rfl (by decide) v zs.length (il zs) m E f 1 1 [.int .u32 (c:Nat)] A rfl ?_ ?_ ?_ ?_ C ?_
 .intro t n e;match t,e with
  |0,e=>simp at e;subst e;exact p
 .intro n h;simp at h;subst h;rfl
 .unfold maxLen;omega
 .omega
 .intro d b u D _;refine y d b ?_ D;unfold lB;rw[show il (zs++[c])=il zs++[.int .u32 (c:Nat)]from by simp[il],j6,nn];exact u
theorem Dy{P X c x d:Nat}(h:i+P*c=10*X+d):i+P*((c+x*10)%4294967296)+P*4294967296*((c+x*10)/4294967296)=10*(X+P*x)+d:=by
 have a:P*((c+x*10)%4294967296)+P*4294967296*((c+x*10)/4294967296)=P*(c+x*10):=by
  rw[jG,<-jd,tF]
 have b:P*(x*10)=10*(P*x):=by rw[ij x 10,wS]
 rw[jd]at a;omega
theorem last_pos{zs:List Nat}(h:Lo zs)(d:zs≠[])(f:4294967296^(zs.length-1)<=val zs):0<zs.getD (zs.length-1) 0:=by
 rcases kl (zs.getD (zs.length-1) 0)with a|a
 .exfalso;have e:0<zs.length:=rE.2 d;have b:=ir zs (zs.length-1) (by omega);rw[iz zs (zs.length-1) (by omega),iN,a,show zs.length-1+1=zs.length from by omega,xx,q7]at b;have c:=j8 (mG h (zs.length-1));rw[kv,o_ (by omega)]at c;omega
 .exact a
theorem Ch{s:ByteArray}(h:B1 s.data.toList)(k:Nat)(a:k<s.size):48<=(s[k].toNat:Int)/\(s[k].toNat:Int)<=57:=by
 have:=h (s.data.toList[k]'(by simpa using a)) (lf _);have b:s.data.toList[k]'(by simpa using a)=s[k]:=rfl;rw[b]at this;omega
theorem rb(s:ByteArray)(k:Nat)(a:k<s.size):iO (s.data.toList.take (k+1))=10*iO (s.data.toList.take k)+(s[k].toNat-48):=
 uJ s.data.toList k (by simpa using a)
theorem xk(zs a:List Nat)(j c:Nat)(h:a.drop j=zs.drop j):(a.set j c).drop (j+1)=zs.drop (j+1):=by
 rw[vL (by omega),<-List.drop_drop,h,List.drop_drop]
theorem y8(zs a:List Nat)(j:Nat)(h:a.drop j=zs.drop j):a.getD j 0=zs.getD j 0:=by
 have b:(a.drop j)[0]?=(zs.drop j)[0]?:=by rw[h]
 simp only[List.getElem?_drop,nt]at b;simp[List.getD,b]
theorem Gx{zs:List Nat}{d:Nat}(e:l9 zs)(c:Lo X)(a:X.length=zs.length)(h:val X=10*val zs+d):l9 X:=by
 refine⟨c,?_⟩;by_cases b:X=[]
 .exact .inl b
 .refine .inr (last_pos c b ?_);have:=oY e (by rintro rfl;simp at a;exact b a);rw[a];omega
theorem FE{c:Nat}(a:Lo X)(d:0<c)(b:c<4294967296):l9 (X++[c]):=by
 refine⟨ub a (zk b mz),.inr ?_⟩;simp[List.getD];exact d
theorem kZ{s:ByteArray}{w:World}(ai:s.size<=4000)(hd:B1 s.data.toList):Calls Tryz.prog 130 #[.string s] w λQ y=>∃F,Q=.returned F/\jD w y F (iO s.data.toList) s.size:=by
 have R:=a_ hd;clear hd;obtain⟨n,u⟩:=hQ (w.alloc (.cells #[.bool false,.slice none 0 0] 79));have E:n.heap.size=w.heap.size+1:=by rw[u];simp
 have r:=a_ u;have q:=a_ E;clear E u;go_in;go_wp2_with fail;go_loopw [3,4] (λS t wr=>∃(d:Nat) (b:List Nat),d<=s.size/\t=.int .i64 d/\b.length<=d/\lB (w.heap.size+1) wr S b/\Below (w.heap.size+1) n wr/\f_ (l9 b/\val b=iO (s.data.toList.take d))) (λ_ t _=>s.size-(intOf t).toNat)
 case atStart=>
  refine⟨0,[],hR,rfl,c_,?_,?_,a_ ⟨⟨mz,.inl rfl⟩,rfl⟩⟩
  .have:=uS (base:=w.heap.size+1) (e:=144) (size:=1) (w.alloc (.cells #[.bool false,.slice none 0 0] 79)) #[] 0 (by simp) (by simp[maxLen]) rfl;simpa[lB,il]using this
  .rw[r.e];exact hP.alloc (by simp) _
 case round=>
  obtain⟨d,b,am,rfl,al,g,i,k⟩:=hrel;obtain⟨A,D,rfl,ar,-,M,-,H⟩:=g.own.open_;have N:=a_ M;have ap:=a_ H;clear M H;by_cases z:d<s.size
  .obtain⟨aq,ad⟩:=Ch (s:=s) R.e d z;go_wp2_with fail;go_loopw [5,6] (λX l C=>∃(a f:Nat) (c:List Nat),a<=b.length/\l=.int .i64 a/\f<=9/\X=.int .u64 f/\f_ (c.length=b.length)/\Lo c/\lB (w.heap.size+1) C (.slice A b.length D) c/\Below (w.heap.size+1) n C/\f_ (val (c.take a)+4294967296^a*f=10*val (b.take a)+(s[d].toNat-48)/\c.drop a=b.drop a)) (λ_ l _=>b.length-(intOf l).toNat)
   case atStart=>
    exact⟨0,s[d].toNat-48,b,hR,rfl,by omega,by go_num,a_ rfl,k.f.1,g,i,a_ ⟨by simp[val],rfl⟩⟩
   case round=>
    clear g i;obtain⟨a,f,c,ao,rfl,aj,rfl,h,o,g,i,p⟩:=hrel;by_cases J:a<b.length
    .obtain⟨ah,rfl,-⟩:=N.e a J;have T:=g.own.cell h.e a J;have ag:=g.own.frozen h.e a;have V:=jW o a;obtain⟨K,x⟩:=hQ (c.getD a 0);rw[<-x]at T V;have O:=a_ x;clear x;go_wp2;go_roundw
     case rel=>
      refine⟨a+1,(f+K*10)/4294967296,c.set a ((f+K*10)%4294967296),by omega,by go_num,by omega,by go_num,a_ (by simp[h.e]),mf o _ _ (mQ _ (by decide)),g.Z h.e a _ (by omega),i.setCell g.base _,a_ ⟨?_,xk b c a _ p.i⟩⟩;rw[k9 c a _ (by have:=h.e;omega),h_,<-y8 b c a p.i,<-O.e,jx];exact Dy p.f
     case measure=>simp[intOf];omega
    .have af:b.length<=a:=by omega
     have G:val c+4294967296^b.length*f=10*val b+(s[d].toNat-48):=by
      have:=p.f;rw[show a=b.length from by omega,ka (by have:=h.e;omega),ka c_]at this;exact this
     have L:=a_ G;clear G;by_cases P:f=0
     .subst P;go_wp2;go_roundw
      case rel=>
       have m:=L.e;rw[l6,nt]at m;exact⟨d+1,c,by omega,by go_num,by have:=h.e;omega,by rw[<-h.e]at g|-;exact g,i,a_ ⟨Gx k.f o h.e m,by rw[m,rb s d z,k.i]⟩⟩
      case measure=>simp[intOf];omega
     .have W:0<f:=by omega
      go_wp2_with (at_builtin;refine AG rfl (.tmp 42) (.tmp 45) rfl (B:=w.heap.size+1) (zs:=c) rfl ?_ ⟨_,0,none⟩ rfl f ?_ ?_ ?_ ?_)
      .exact kK g _
      .simp[Addr.add]
      .have:=h.e;omega
      .have:=i.size;have:=q.e;simp;omega
      intro ak y U aa;have ab:Below (w.heap.size+1) n y:=(i.alloc (by have:=i.size;have:=q.e;omega) _).grown aa (by have:=i.size;have:=q.e;simp;omega) (λl Y=>(kF g l Y).1);go_wp2;go_roundw
      case rel=>
       refine⟨d+1,c++[f],by omega,by go_num,by have:=h.e;simp;omega,U,ab,a_ ⟨FE o W (by omega),?_⟩⟩;have m:=L.e;rw[lC,h.e,show val [f]=f from by simp[val],m,rb s d z,k.i]
      case measure=>simp[intOf];omega
  .have j:wr.heap[w.heap.size]?=some (.cells #[.bool false,.slice none 0 0] 79 (0,0)):=by
    rw[i.block _ (by omega),r.e];exact iP w _
   have Z:wr.cell? ⟨w.heap.size,0,none⟩=some (.bool false):=by simp[World.cell?,j]
   have ac:wr.cell? ⟨w.heap.size,1,none⟩=some (.slice none 0 0):=by simp[World.cell?,j]
   have an:wr.frozen? ⟨w.heap.size,0,none⟩=false:=by simp[World.frozen?,j]
   have ae:wr.frozen? ⟨w.heap.size,1,none⟩=false:=by simp[World.frozen?,j]
   have I:f_ (Ty wr w.heap.size 79):=a_ ⟨_,_,j⟩;clear j;go_wp2_with fail;refine ig (v:=.agg #[.bool false,.slice A b.length D]) ?_ rfl ?_
   ·(simp[results,Tryz.results130,go_sem,Z,ac];done)
   .refine⟨_,rfl,jE.mk' (by simp) k.f ?_ (by omega) (g.own.hV (KU.setCell (KU.setCell (KU.refl _) I.e (by decide) _) (I.e.setCell _ _) (by decide) _)),?_⟩
    .rw[k.i,ka (by simp;omega)];simp
    .refine Below.trans ?_ (((i.mono (by omega)).setCell (by simp) _).setCell (by simp) _);rw[r.e];exact hS
theorem Gz(c x:Nat)(f:c<1000000000)(e:x<4294967296):bits BinOp.or IntKind.u64 ((c:Int)*4294967296) (x:Int)=(c:Int)*4294967296+(x:Int):=by
 have a:=u64_or_nat (c*4294967296) x (by omega) (by omega);rw[show((c*4294967296:Nat):Int)=(c:Int)*4294967296 from by omega]at a;rw[a];have d:=B9 (i:=32) (b:=x) (by omega) c;rw[Nat.shiftLeft_eq]at d;rw[show c*4294967296=c*2^32 from rfl,<-d];omega
theorem Ao(B D a c x:Nat):x+B*(D*a+c)=D*((c*B+x)/D+B*a)+(c*B+x)%D:=by
 have b:=kY (c*B+x) D;rw[jd,jd,wS B D a,ij B c];omega
theorem Eb{xs zs:List Nat}{k c D:Nat}(g:0<k)(f:k<=xs.length)(i:zs.length=xs.length)(h:val (xs.drop k)=D*val (zs.drop k)+c):val (xs.drop (k-1))=D*val ((zs.set (k-1) ((c*4294967296+xs.getD (k-1) 0)/D)).drop (k-1))+(c*4294967296+xs.getD (k-1) 0)%D:=by
 generalize e:(c*4294967296+xs.getD (k-1) 0)/D=a;have b:(zs.set (k-1) a).drop (k-1)=a::zs.drop k:=by
  rw[iz (zs.set (k-1) a) (k-1) (by simp;omega),show k-1+1=k from by omega,vL (by omega)];simp[List.getD,show k-1<zs.length from by omega]
 have d:xs.drop (k-1)=xs.getD (k-1) 0::xs.drop k:=by
  rw[iz xs (k-1) (by omega),show k-1+1=k from by omega]
 rw[b,d,iN,iN,h,<-e];exact Ao _ _ _ _ _
theorem v8{v:Value}{xs:List Nat}{w:World}(q:Own w v xs)(E:Lo xs)(U:xs.length<=1000000000):Calls Tryz.prog 69 #[v] w λo s=>∃h,o=.returned (.tuple #[h,.int .u64 ((val xs%1000000000:Nat):Int)])/\kP w s h (val xs/1000000000) xs.length:=by
 obtain⟨O,aa,C,S,V,n,-,-⟩:=q.open_;have x:=a_ n;clear q n;subst C;go_in;go_wp2_with (at_make;refine mx rfl (.tmp 8) (.tmp 8) rfl rfl rfl rfl rfl (by omega) ?_);intro T d e;go_wp2_with fail;go_loopw [5,6] (λI j wr=>∃(a c:Nat) (b:List Nat),a<=xs.length/\j=.int .i64 ((a:Int)-1)/\c<1000000000/\I=.int .u64 c/\b.length=xs.length/\Lo b/\Own wr (.slice (some ⟨w.heap.size,0,none⟩) xs.length xs.length) b/\Below w.heap.size w wr/\f_ (val (xs.drop a)=1000000000*val (b.drop a)+c)) (λ_ j _=>(intOf j+1).toNat)
 case atStart=>exact⟨xs.length,0,_,c_,rfl,by omega,rfl,sQ,mM _,d,e,a_ (by simp[val])⟩
 case round=>
  clear d e;obtain⟨a,c,b,F,rfl,B,rfl,f,m,d,e,u⟩:=hrel;by_cases L:a=0
  .subst L;go_wp2_with fail;go_fit (mN d m);rintro o s⟨⟨h,rfl,z⟩,rfl⟩;go_wp2;go_ret2;obtain⟨i,G,X,Q,K⟩:=z;have H:=u.e;simp only[pO]at H;have A:c=val xs%1000000000:=by omega
   have W:val b=val xs/1000000000:=by omega
   have M:val i=val xs/1000000000:=by omega
   have N:i.length<=xs.length:=by omega
   subst A;exact⟨_,rfl,⟨i,G,M,N,K⟩,e⟩
  .have t:=jW E (a-1);have D:=d.cell f (a-1) (by omega);have P:=d.frozen f (a-1);obtain⟨R,rfl,p⟩:=x.e (a-1) (by omega);have J:=g_ e p;obtain⟨l,k⟩:=hQ (xs.getD (a-1) 0);obtain⟨Y,r⟩:=hQ (b.getD (a-1) 0);rw[<-k]at t J;rw[<-r]at D;have y:=a_ k;have g:=a_ f;clear k r p f;have Z:=Gz c l B t;go_wp2;go_roundw
   case rel=>
    refine⟨a-1,(c*4294967296+l)%1000000000,b.set (a-1) ((c*4294967296+l)/1000000000),by omega,by go_num,by omega,by go_num,by simp[g.e],mf m _ _ (by omega),d.Z g.e (a-1) _ (by omega),e.setCell c_ _,a_ ?_⟩;rw[y.e];exact Eb (by omega) F g.e u.e
   case measure=>simp[intOf];omega
section
open Go.Sort
def vx(w:World):Prop:=Lib.TabIs Tryz.prog w "internal/strconv.uint64pow10" .u64 Lib.pow10Tab
theorem vx.alloc{w:World}(h:vx w)(o:Obj):vx (w.alloc o):=Lib.tabIs_alloc h o
theorem BN(w:World)(e:TypeId)(a:Nat)(f:a<=24):Holds (λ(d:UInt8)=>Value.int .u8 (d.toNat:Int)) (w.alloc (.cells Lib.zeros24 e)) w.heap.size 0 (Array.replicate a (0:UInt8)):=λb c=>by
 have g:b<a:=by simpa using c
 refine⟨?_,yF _ _ _ _⟩;rw[World.cell?_alloc_new,jF,Lib.zeros24_at _ (by omega),getElem!_pos _ b c];simp
theorem DL(w:World)(o:Obj)(b:Array UInt8)(k:Nat):Below w.heap.size w ((putRow (λ(a:UInt8)=>Value.int .u8 (a.toNat:Int)) (w.alloc o) w.heap.size 0 b).drewN k):=by
 rw[alloc_eq_grow];obtain⟨c,_,d⟩:=putRow_grow_new (λ(a:UInt8)=>Value.int .u8 (a.toNat:Int)) w #[o] w.heap.size 0 b c_;rw[d];refine⟨rfl,rfl,rfl,by simp[grow],λf e=>?_⟩;show(w.heap++c)[f]?=_;rw[Array.getElem?_append_left e]
theorem xj{u:Nat}(h:u<18446744073709551616){w:World}(s:vx w):Calls Tryz.prog 104 #[.int .u64 u,.int .i64 10] w λd f=>d=.returned (.string ⟨(Lib.decDigits u).toArray⟩)/\Below w.heap.size w f:=by
 by_cases q:u<100
 .go_in;go_wp2_with (go_at_call 140;refine(Tryz.internal_strconv_small u q _).mono ?_;rintro d f⟨rfl,rfl⟩);go_ret;exact⟨rfl,hP⟩
 .have n:1<=u:=by omega
  have A:Lib.nDigits u<=20:=by have:=Lib.numDigits_eq u n h;split at this<;>omega
  have p:Tryz.prog.arrayLen 159=24:=by kernel_rfl
  have z:∀e,(Instr.sliceAt 159 (.pointer (some ⟨w.heap.size,0,none⟩)) none (some (.int .i64 (Lib.nDigits u:Int))) none).run Tryz.prog e=.ok (.slice (some ⟨w.heap.size,0,none⟩) (Lib.nDigits u) 24) e:=λe=>by
   rw[run_sliceAt_array_h e 159 ⟨w.heap.size,0,none⟩ (by kernel_rfl) .i64 (Lib.nDigits u:Int) (by omega) (by rw[p];omega)];go_simp
  have k:=BN w 159 (Lib.nDigits u) (by omega);have g:=Tryz.internal_strconv_formatBase10 w.heap.size 0 24 u (Array.replicate (Lib.nDigits u) 0) (w.alloc (.cells Lib.zeros24 159)) k (by rw[yB];exact Lib.lt_pow_nDigits u) h (by rw[yB];omega);rw[yB]at g;have t:=a_ k;clear k p;have v:=a_ g;clear g;go_in;go_wp2_with (go_at_call 141;refine(Tryz.internal_strconv_numDigits u n h _ (s.alloc _)).mono ?_;rintro d f⟨rfl,rfl⟩);refine v.e.mono ?_;rintro d f⟨rfl,c,x,b,rfl,i⟩;have y:(convert 85 9 (.slice (some ⟨w.heap.size,0,none⟩) (Lib.nDigits u) 24)).run Tryz.prog ((putRow (λ(a:UInt8)=>Value.int .u8 (a.toNat:Int)) (w.alloc (.cells Lib.zeros24 159)) w.heap.size 0 b).drewN c)=.ok (.string ⟨(Lib.decDigits u).toArray⟩) ((putRow (λ(a:UInt8)=>Value.int .u8 (a.toNat:Int)) (w.alloc (.cells Lib.zeros24 159)) w.heap.size 0 b).drewN c):=by
   have l:=run_convert_bytes_back (P:=Tryz.prog) ((putRow (λ(a:UInt8)=>Value.int .u8 (a.toNat:Int)) (w.alloc (.cells Lib.zeros24 159)) w.heap.size 0 b).drewN c) 85 9 5 ⟨w.heap.size,0,none⟩ 24 (Lib.decDigits u) Tryz.underlying85 Tryz.underlying5 Tryz.underlying9 (λo j=>by
    rw[Lib.row_is_numeral i o j,Lib.add_plain,World.cell?_drewN];exact cell?_putRow (λ(a:UInt8)=>Value.int .u8 (a.toNat:Int)) _ w.heap.size 0 _ b t.e (by rw[i.size,yB]) o (by rw[i.size];rw[Lib.decDigits_length]at j;exact j))
   rw[Lib.decDigits_length]at l;exact l
  have m:=DL w (.cells Lib.zeros24 159) b c;have r:=a_ m;clear m;go_wp2;go_ret;exact⟨rfl,r.e⟩
theorem zX{u:Nat}(c:u<18446744073709551616){w:World}(d:vx w):Calls Tryz.prog 70 #[.int .u64 u,.int .i64 10] w λb a=>b=.returned (.string ⟨(Lib.decDigits u).toArray⟩)/\Below w.heap.size w a:=by
 go_in;go_wp2_with (go_at_call 104;refine(xj c d).mono ?_;rintro b a⟨rfl,e⟩);go_ret;exact⟨rfl,e⟩
end
end Go.Proofs.YtfjbijpagaipnabGreatDoor
