import Derived.Test.YtfjbijpagaipnabGreatDoorA03
import Derived.Lib.ItoaLen
import Derived.Deep.RegionLaw
set_option maxRecDepth 100000
set_option maxHeartbeats 8000000
namespace Go.Proofs.YtfjbijpagaipnabGreatDoor
open Go.RowKit
variable{i j k l m n p q r s:Nat}{w v W:World}{x y z:Value}{A B F G:Nat->Nat->Int}{L K:List UInt8}{S T:ByteArray}{o h:Nat->Nat}{O:Option Addr}
namespace R
theorem Av{v u:Value}{xs ys:List Nat}{w:World}(I:Own w v xs)(J:Own w u ys)(O:Lo xs)(Q:Lo ys)(am:xs.length<=50000000000)(aq:ys.length<=xs.length)(N:val ys<=val xs):Calls Tryz.prog 229 #[v,u] w λM l=>∃E,M=.returned E/\Cc w l E (val xs-val ys) xs.length:=by
 obtain⟨af,av,rfl,al,ap,-⟩:=I.open_;obtain⟨ar,ai,rfl,an,ag,-⟩:=J.open_;have r:=iu I J O Q N;clear I J O Q N;go_in;go_wp2_with fail;go_loopw [5,6,7] (λW ae G wr=>∃(a c:Nat) (f:List Nat),a<=xs.length/\G=.int .i64 a/\c<=1/\ae=.int .i64 c/\f_ (f.length=a)/\Lo f/\lB w.heap.size wr W f/\Below w.heap.size w wr/\f_ (val f+val (ys.take a)=val (xs.take a)+10000^a*c)) (λ_ _ G _=>xs.length-(intOf G).toNat)
 case atStart=>exact⟨0,0,[],hR,rfl,by omega,rfl,a_ rfl,mz,oI _ _ _ _,hP,a_ (by simp[val])⟩
 case round=>
  obtain⟨a,c,f,ao,rfl,A,rfl,e,L,T,D,z⟩:=hrel;have C:=D.size;have b:=hO T D L;clear T D L;by_cases aa:a<xs.length
  .obtain⟨aj,rfl,ab⟩:=(r.f.below b.g).at_ rfl a aa;have t:=jW r.j a;obtain⟨d,s⟩:=hQ (xs.getD a 0);obtain⟨m,q⟩:=hQ (ys.getD a 0);rw[<-s]at ab t;by_cases S:a<ys.length
   .obtain⟨au,rfl,X⟩:=(r.g.below b.g).at_ rfl a S;have F:=jW r.m a;rw[<-q]at X F;have n:=b_ s q;clear s q;by_cases V:d<m+c
    .have K:(d:Int)-(c:Int)-(m:Int)<0:=by omega
     go_wp2_with (at_builtin;refine iZ rfl _ _ rfl (B:=w.heap.size) (zs:=f) rfl ?_ ⟨_,0,none⟩ rfl (d+10000-(m+c)) ?_ ?_ ?_ ?_)
     .exact kK b.f _
     .simp[Addr.add];omega
     .have:=e.e;omega
     .simp;omega
     intro H l h i;have k:Below w.heap.size w l:=(b.g.alloc C _).grown i (by simp;omega) (λo p=>(kF b.f o p).1);have j:=b_ h k;clear h i k;go_wp2;go_roundw
     .refine⟨a+1,1,f++[d+10000-(m+c)],by omega,by go_num,by omega,by go_num,a_ (by have:=e.e;simp;omega),mC b.l (by omega),j.f,j.i,a_ ?_⟩;have g:=nK (x:=d) (y:=m) z.e t F A;rw[if_pos (by omega),if_pos (by omega)]at g;rw[lR,e.e,h_,h_,<-n.f,<-n.i,jx];omega
     simp[intOf];omega
    .have K:decide ((d:Int)-(c:Int)-(m:Int)<0)=false:=ic (by omega);go_wp2_with (at_builtin;refine iZ rfl _ _ rfl (B:=w.heap.size) (zs:=f) rfl ?_ ⟨_,0,none⟩ rfl (d-(m+c)) ?_ ?_ ?_ ?_)
     .exact kK b.f _
     .simp[Addr.add];omega
     .have:=e.e;omega
     .simp;omega
     intro H l h i;have k:Below w.heap.size w l:=(b.g.alloc C _).grown i (by simp;omega) (λo p=>(kF b.f o p).1);have j:=b_ h k;clear h i k;go_wp2;go_roundw
     .refine⟨a+1,0,f++[d-(m+c)],by omega,by go_num,by omega,by go_num,a_ (by have:=e.e;simp;omega),mC b.l (by omega),j.f,j.i,a_ ?_⟩;have g:=nK (x:=d) (y:=m) z.e t F A;rw[if_neg (by omega),if_neg (by omega)]at g;rw[lR,e.e,h_,h_,<-n.f,<-n.i,jx];omega
     simp[intOf];omega
   .have ah:decide (a<ys.length)=false:=ic S;have n:=b_ s q;clear s q;by_cases V:d<c
    .have K:(d:Int)-(c:Int)<0:=by omega
     go_wp2_with (at_builtin;refine iZ rfl _ _ rfl (B:=w.heap.size) (zs:=f) rfl ?_ ⟨_,0,none⟩ rfl (d+10000-c) ?_ ?_ ?_ ?_)
     .exact kK b.f _
     .simp[Addr.add];omega
     .have:=e.e;omega
     .simp;omega
     intro H l h i;have k:Below w.heap.size w l:=(b.g.alloc C _).grown i (by simp;omega) (λo p=>(kF b.f o p).1);have j:=b_ h k;clear h i k;go_wp2;go_roundw
     .refine⟨a+1,1,f++[d+10000-c],by omega,by go_num,by omega,by go_num,a_ (by have:=e.e;simp;omega),mC b.l (by omega),j.f,j.i,a_ ?_⟩;have g:=nK (x:=d) (y:=0) z.e t (by omega) A;simp only[jF,l6,nt]at g;rw[if_pos (by omega),if_pos (by omega)]at g;rw[lR,e.e,h_,h_,<-n.f,ld ys a (by omega),jx,l6,nt];omega
     simp[intOf];omega
    .have K:decide ((d:Int)-(c:Int)<0)=false:=ic (by omega);go_wp2_with (at_builtin;refine iZ rfl _ _ rfl (B:=w.heap.size) (zs:=f) rfl ?_ ⟨_,0,none⟩ rfl (d-c) ?_ ?_ ?_ ?_)
     .exact kK b.f _
     .simp[Addr.add];omega
     .have:=e.e;omega
     .simp;omega
     intro H l h i;have k:Below w.heap.size w l:=(b.g.alloc C _).grown i (by simp;omega) (λo p=>(kF b.f o p).1);have j:=b_ h k;clear h i k;go_wp2;go_roundw
     .refine⟨a+1,0,f++[d-c],by omega,by go_num,by omega,by go_num,a_ (by have:=e.e;simp;omega),mC b.l (by omega),j.f,j.i,a_ ?_⟩;have g:=nK (x:=d) (y:=0) z.e t (by omega) A;simp only[jF,l6,nt]at g;rw[if_neg (by omega),if_neg (by omega)]at g;rw[lR,e.e,h_,h_,<-n.f,ld ys a (by omega),jx,l6,nt];omega
     simp[intOf];omega
  .have R:a=xs.length:=by omega
   go_wp2_with fail;go_fit (tC (xs:=f) b.f.own b.l);rintro M l⟨⟨E,rfl,g⟩,rfl⟩;have Y:=a_ g;clear g;go_wp2;go_ret;obtain⟨Z,U,ac,ak,ad⟩:=Y.e;refine⟨_,rfl,⟨Z,U,?_,by have:=e.e;omega,ad _ b.f.own⟩,b.g⟩;have P:=z.e;rw[R,ka c_,ka (by omega)]at P;rw[ac];exact yP b.l (by rw[e.e,R]) r.x P
theorem Ax{v u:Value}{xs ys:List Nat}{w:World}(l:Own w v xs)(m:Own w u ys)(g:Lo xs)(n:Lo ys)(e:xs.length<=50000000000)(i:ys.length<=xs.length)(f:val ys<=val xs):Calls Tryz.prog 229 #[v,u] w λc b=>∃a,c=.returned a/\y7 w b a (val xs-val ys) xs.length:=by
 go_fit (Av l m g n e i f);rintro c b⟨a,rfl,⟨d,j,k,p,h⟩,o⟩;exact⟨a,rfl,⟨d,j.1,k,p,h⟩,o⟩
def oi(z:Int):Int:=if z<0 then-1 else if 0<z then 1 else 0
theorem kB.parts{w:World}{v:Value}{z:Int}{L:Nat}(h:kB w v z L):∃neg b c a,v=.agg #[.bool neg,.slice b a.length c]/\Own w (.slice b a.length c) a/\l9 a/\(neg=true->a≠[])/\z=(if neg then-(val a:Int)else(val a:Int))/\a.length<=L:=by
 obtain⟨neg,j,a,rfl,d,i,f,e,g⟩:=h;obtain⟨b,c,rfl,-⟩:=d.open_;exact⟨neg,b,c,a,rfl,d,i,f,e,g⟩
theorem kB.mono{w:World}{v:Value}{z:Int}{L M:Nat}(h:kB w v z L)(e:L<=M):kB w v z M:=by
 obtain⟨neg,i,g,c,d,j,b,a,f⟩:=h;exact⟨neg,i,g,c,d,j,b,a,iy f e⟩
theorem vm{xs:List Nat}(h:l9 xs)(a:xs≠[]):0<val xs:=by
 have:=yD h (rE.2 a);have b:0<10000^(xs.length-1):=kx (by decide);omega
theorem kp{v:Value}{z:Int}{L:Nat}{w:World}(h:kB w v z L):Calls Tryz.prog 206 #[v] w λi l=>i=.returned (.int .i64 (oi z))/\Below w.heap.size w l:=by
 obtain⟨neg,q,p,d,rfl,o,j,g,a,r⟩:=h.parts;have f:=hO j g a;clear h o j g a;by_cases c:d.length=0
 .have n:((d.length:Int)==0)=true:=jY.2 (by omega);have b:d=[]:=lp c;have m:=a_ b;clear b c;go_in;go_wp2;go_ret;refine⟨lb ?_,hS⟩;obtain⟨j,g,a⟩:=f.e;rw[a,m.e]
  cases neg<;>simp[val,oi]
 .have n:((d.length:Int)==0)=false:=iK.2 (by omega);have b:d≠[]:=by intro i;rw[i]at c;simp at c
  have e:=vm f.f b;have k:=a_ e;clear b c e
  cases neg
  .go_in;go_wp2;go_ret;refine⟨lb ?_,hS⟩;have a:=f.l;have e:=k.e;simp only[r6,km]at a;unfold oi;rw[if_neg (by omega),if_pos (by omega)]
  .go_in;go_wp2;go_ret;refine⟨lb ?_,hS⟩;have a:=f.l;have e:=k.e;simp only[if_true]at a;unfold oi;rw[if_pos (by omega)]
def KI(w c:World):Prop:=∀(a:Nat) (b:Array Value),w.heap[a]?=some (.cells b 3 (0,0))->c.heap[a]?=some (.cells b 3 (0,0))
theorem KI.refl(w:World):KI w w:=λ_ _ a=>a
theorem KI.trans{a b c:World}(h:KI a b)(k:KI b c):KI a c:=λd e f=>k d e (h d e f)
theorem KI.I{w:World}(h:Below w.heap.size w v):KI w v:=λb c a=>by rw[h.block b (jt.1 a).1];exact a
theorem KI.setCell{a w:World}(h:KI a w){b o:Nat}{t:TypeId}(g:Ty w b t)(j:t≠3)(u:Value):KI a (w.setCell ⟨b,o,none⟩ u):=by
 intro d i k;have e:=h d i k;obtain⟨m,l,c⟩:=g;by_cases f:d=b
 .subst f;rw[e]at c;simp only[iH,ur]at c;exact absurd c.2.1.symm j
 .rw[js _ _ _ _ f];exact e
theorem Own.hV{w:World}{v:Value}{xs:List Nat}(h:Own w v xs)(d:KI w W):Own W v xs:=by
 refine⟨h.1,?_⟩;rcases h.2 with e|⟨a,j,b,f,c,i,g⟩
 .exact .inl e
 .exact .inr ⟨a,j,b,f,c,d a b i,g⟩
theorem kB.hV{w:World}{v:Value}{z:Int}{L:Nat}(h:kB w v z L)(a:KI w W):kB W v z L:=by
 obtain⟨neg,e,d,b,c,f⟩:=h;exact⟨neg,e,d,b,c.hV a,f⟩
theorem kB.box{w:World}{v:Value}{z:Int}{L b:Nat}{t:TypeId}(h:kB w v z L)(c:Ty w b t)(a:t≠3)(x y:Value):kB ((w.setCell ⟨b,0,none⟩ x).setCell ⟨b,1,none⟩ y) v z L:=
 h.hV (KI.setCell (KI.setCell (KI.refl _) c a _) (c.setCell _ _) a _)
def ih(w:World)(b:Nat)(x y:Value):Prop:=w.heap[b]?=some (.cells #[x,y] 171 (0,0))
theorem ih.lt{w:World}{b:Nat}{x y:Value}(h:ih w b x y):b<w.heap.size:=(jt.1 h).1
theorem ih.below{B:Nat}{w:World}{b:Nat}{x y:Value}(h:ih w b x y)(a:Below B w v)(c:b<B):ih v b x y:=by unfold ih;rw[a.block b c];exact h
theorem ih.new(w:World)(x y:Value){b:Nat}(a:b=w.heap.size):ih (w.alloc (.cells #[x,y] 171)) b x y:=by rw[a];exact iP w _
theorem ih.alloc{w:World}{b:Nat}{x y:Value}(h:ih w b x y)(o:Obj):ih (w.alloc o) b x y:=h.below hS h.lt
theorem ih.ty{w:World}{b:Nat}{x y:Value}(h:ih w b x y):Ty w b 171:=⟨_,_,h⟩
theorem ih.cells{w:World}{b:Nat}{x y:Value}(h:ih w b x y):w.cell? ⟨b,0,none⟩=some x/\w.cell? ⟨b,1,none⟩=some y/\w.frozen? ⟨b,0,none⟩=false/\w.frozen? ⟨b,1,none⟩=false:=by
 unfold ih at h;refine⟨?_,?_,?_,?_⟩<;>simp[World.cell?,World.frozen?,h]
theorem ih.put{w:World}{b:Nat}{x y:Value}(h:ih w b x y)(a y':Value):ih ((w.setCell ⟨b,0,none⟩ a).setCell ⟨b,1,none⟩ y') b a y':=by
 unfold ih at*;rw[ja _ _ _ _ _ _ (ja _ _ _ _ _ _ h)];simp
theorem ih.oz{w:World}{b:Nat}{x y:Value}(h:ih w b x y)(a:Value):(w.setCell ⟨b,0,none⟩ a).cell? ⟨b,0,none⟩=some a:=sH _ _ _ h.cells.1
def xe(w a:World)(v:Value)(z:Int)(L:Nat):Prop:=kB a v z L/\Below w.heap.size w a
theorem xu{v:Value}{z:Int}{L:Nat}{w:World}(h:kB w v z L):Calls Tryz.prog 226 #[v] w λn u=>∃g,n=.returned g/\xe w u g (-z) L:=by
 obtain⟨neg,x,C,y,rfl,l,e,k,b,c⟩:=h.parts;have j:=iu l e k b c;clear h l e k b c;go_in;go_wp2_with fail;go_fit (oh (j.f.below ?_) j.g.1)
 .repeat(first|exact hP|refine ia ?_ (by simp<;>omega) _)
 rintro n i⟨g,rfl,d,a⟩;obtain⟨o,r,q,s,rfl,-⟩:=d.parts;obtain⟨t,B⟩:=oG a;have f:Ty i (w.heap.size+1) 171:=Ty.below (Ty.at_ _ _ _ (by simp)) a (by simp);have A:w.heap.size+1<i.heap.size:=f.lt;have p:Below w.heap.size w i:=Below.trans (by repeat(first|exact hP|refine ia ?_ (by simp<;>omega) _)) (a.mono (by simp<;>omega));have m:=hO d p f;clear d a p f;go_wp2_with fail;refine ig (v:=.agg #[.bool o,.slice r s.length q]) ?_ rfl ?_
 ·(simp[results,Tryz.results226,go_sem,t];done)
 .obtain⟨l,e,k,b,c⟩:=j.e;refine⟨_,rfl,?_,(m.g.setCell (by simp) _).setCell (by simp) _⟩;have:=(m.f.box m.l (by decide) (.bool o) (.slice r s.length q)).mono c;rw[b]
  cases neg
  .simpa using this
  .simpa using this
theorem y7.parts{w:World}{v:Value}{n L:Nat}(h:y7 w W v n L):∃b c a,v=.slice b a.length c/\Own W (.slice b a.length c) a/\Lo a/\val a=n/\a.length<=L/\Below w.heap.size w W:=by
 obtain⟨⟨a,f,g,i,d⟩,e⟩:=h;obtain⟨b,c,rfl,-⟩:=d.open_;exact⟨b,c,a,rfl,d,f,g,i,e⟩
theorem pg{v u:Value}{x y:Int}{L M:Nat}{w:World}(aj:kB w v x L)(av:kB w u y M)(aF:L<=50000000000)(aD:M<=50000000000):Calls Tryz.prog 213 #[v,u] w λA aC=>∃X,A=.returned X/\xe w aC X (x+y) (max L M+1):=by
 obtain⟨i,Q,T,f,rfl,ax,af,au,ag,aB⟩:=aj.parts;obtain⟨N,S,R,e,rfl,ap,al,ar,an,aA⟩:=av.parts;have k:=iu ax af au ag aB;have l:=iu ap al ar an aA;clear aj av ax af au ag ap al ar an;by_cases P:i=N
 .subst P;have az:(i==i)=true:=by simp
  have j:=hO ((((ih.new w (.bool i) (.slice Q f.length T) rfl).alloc (.cells #[.bool i,.slice S e.length R] 171)).alloc (.cells #[.bool false,.slice none 0 0] 171))) ((ih.new (w.alloc (.cells #[.bool i,.slice Q f.length T] 171)) (.bool i) (.slice S e.length R) (b:=w.heap.size+1) (by simp)).alloc (.cells #[.bool false,.slice none 0 0] 171)) (ih.new ((w.alloc (.cells #[.bool i,.slice Q f.length T] 171)).alloc (.cells #[.bool i,.slice S e.length R] 171)) (.bool false) (.slice none 0 0) (b:=w.heap.size+1+1) (by simp));go_in;go_wp2_with fail;go_fit (Hw (k.f.below ?_) (l.f.below ?_) k.g.1 l.g.1 (by omega) (by omega))
  .repeat(first|exact hP|refine ia ?_ (by simp<;>omega) _)
  .repeat(first|exact hP|refine ia ?_ (by simp<;>omega) _)
  rintro A Y⟨X,rfl,z⟩;obtain⟨aw,ai,am,rfl,J,H,F,B,c⟩:=z.parts;have m:=j.f.below c j.f.lt;have n:=j.g.below c j.g.lt;have a:=j.l.below c j.l.lt;have q:Below w.heap.size w Y:=Below.trans (by repeat(first|exact hP|refine ia ?_ (by simp<;>omega) _)) (c.mono (by simp<;>omega));obtain⟨C,-,-,-⟩:=m.cells;obtain⟨E,-,-,-⟩:=n.cells;have d:=hO (vO J H F B) q a;clear z c q J H F B m n a;go_wp2_with fail;go_fit (oh d.f.1 d.f.2.1);rintro A ao⟨ak,rfl,o,s⟩;obtain⟨p,I,G,D,rfl,-⟩:=o.parts;have a:=d.l.below s d.l.lt;obtain⟨aq,W,ae,ad⟩:=a.cells;have Z:=a.oz (.bool p);have r:=hO o (d_ d.g s) a.ty;clear o s a C E;go_wp2_with fail;refine ig (v:=.agg #[.bool p,.slice I D.length G]) ?_ rfl ?_
  ·(simp[results,Tryz.results213,go_sem,W,Z];done)
  .refine⟨_,rfl,?_,(r.g.setCell (by simp<;>omega) _).setCell (by simp<;>omega) _⟩;have h:=(r.f.box r.l (by decide) (.bool p) (.slice I D.length G)).mono (M:=max L M+1) (by have:=d.f.2.2.2;omega);have V:=d.f.2.2.1;have O:=k.m;have K:=l.m;rw[V]at h;rw[O,K]
   cases i
   .simpa using h
   .simp only[if_true]at h|-;rw[show-(val f:Int)+-(val e:Int)=-((val f+val e:Nat):Int)from by omega];exact h
 .have az:(i==N)=false:=iK.2 P;have j:=hO ((((ih.new w (.bool i) (.slice Q f.length T) rfl).alloc (.cells #[.bool N,.slice S e.length R] 171)).alloc (.cells #[.bool false,.slice none 0 0] 171))) ((ih.new (w.alloc (.cells #[.bool i,.slice Q f.length T] 171)) (.bool N) (.slice S e.length R) (b:=w.heap.size+1) (by simp)).alloc (.cells #[.bool false,.slice none 0 0] 171)) (ih.new ((w.alloc (.cells #[.bool i,.slice Q f.length T] 171)).alloc (.cells #[.bool N,.slice S e.length R] 171)) (.bool false) (.slice none 0 0) (b:=w.heap.size+1+1) (by simp));go_in;go_wp2_with fail;go_fit (wO (k.f.below ?_) (l.f.below ?_) k.g l.g (by omega))
  .repeat(first|exact hP|refine ia ?_ (by simp<;>omega) _)
  .repeat(first|exact hP|refine ia ?_ (by simp<;>omega) _)
  rintro A ay⟨rfl,c⟩;have q:Below w.heap.size w ay:=Below.trans (by repeat(first|exact hP|refine ia ?_ (by simp<;>omega) _)) (c.mono (by simp<;>omega));have m:=j.f.below c j.f.lt;have n:=j.g.below c j.g.lt;have a:=j.l.below c j.l.lt;obtain⟨C,ab,-,-⟩:=m.cells;obtain⟨E,ac,-,-⟩:=n.cells;have g:=hY q m n a;clear c q m n a j;by_cases ah:val f<val e
  .have U:mL (val f) (val e)=-1:=by unfold mL;rw[if_pos ah]
   rw[U];clear U;go_wp2_with fail;go_fit (Ax (l.f.below g.f) (k.f.below g.f) l.g.1 k.g.1 (by omega) ?_ (by omega))
   .rcases iX e.length f.length with t|t
    .have:=vr l.g.1 k.g t;omega
    .exact t
   clear C ab E ac;rintro A Y⟨X,rfl,z⟩;obtain⟨aw,ai,am,rfl,J,H,F,B,c⟩:=z.parts;have m:=g.g.below c g.g.lt;have n:=g.j.below c g.j.lt;have a:=g.o.below c g.o.lt;have q:Below w.heap.size w Y:=d_ g.f c;obtain⟨C,-,-,-⟩:=m.cells;obtain⟨E,-,-,-⟩:=n.cells;have d:=hO (vO J H F B) q a;clear z c q J H F B m n a;go_wp2_with fail;go_fit (oh d.f.1 d.f.2.1);rintro A ao⟨ak,rfl,o,s⟩;obtain⟨p,I,G,D,rfl,-⟩:=o.parts;have a:=d.l.below s d.l.lt;obtain⟨aq,W,ae,ad⟩:=a.cells;have Z:=a.oz (.bool p);have r:=hO o (d_ d.g s) a.ty;clear o s a C E;go_wp2_with fail;refine ig (v:=.agg #[.bool p,.slice I D.length G]) ?_ rfl ?_
   ·(simp[results,Tryz.results213,go_sem,W,Z];done)
   .refine⟨_,rfl,?_,(r.g.setCell (by simp<;>omega) _).setCell (by simp<;>omega) _⟩;have h:=(r.f.box r.l (by decide) (.bool p) (.slice I D.length G)).mono (M:=max L M+1) (by have:=d.f.2.2.2;omega);have V:=d.f.2.2.1;have O:=k.m;have K:=l.m;rw[V]at h
    cases i<;>cases N
    .exact absurd rfl P
    .simp only[if_true,r6,km]at h O K|-;rw[show x+y=-((val e-val f:Nat):Int)from by omega];exact h
    .simp only[if_true,r6,km]at h O K|-;rw[show x+y=((val e-val f:Nat):Int)from by omega];exact h
    .exact absurd rfl P
  .obtain⟨aa,U,aE⟩:∃aa:Nat,mL (val f) (val e)=(aa:Int)/\aa<=1:=by
    unfold mL;rw[if_neg ah];by_cases t:val e<val f
    .exact⟨1,by rw[if_pos t];rfl,c_⟩
    .exact⟨0,by rw[if_neg t];rfl,hR⟩
   rw[U];clear U;go_wp2_with fail;go_fit (Ax (k.f.below g.f) (l.f.below g.f) k.g.1 l.g.1 (by omega) ?_ (by omega))
   .rcases iX f.length e.length with t|t
    .have:=vr k.g.1 l.g t;omega
    .exact t
   clear C ab E ac;rintro A Y⟨X,rfl,z⟩;obtain⟨aw,ai,am,rfl,J,H,F,B,c⟩:=z.parts;have m:=g.g.below c g.g.lt;have n:=g.j.below c g.j.lt;have a:=g.o.below c g.o.lt;have q:Below w.heap.size w Y:=d_ g.f c;obtain⟨C,-,-,-⟩:=m.cells;obtain⟨E,-,-,-⟩:=n.cells;have d:=hO (vO J H F B) q a;clear z c q J H F B m n a;go_wp2_with fail;go_fit (oh d.f.1 d.f.2.1);rintro A ao⟨ak,rfl,o,s⟩;obtain⟨p,I,G,D,rfl,-⟩:=o.parts;have a:=d.l.below s d.l.lt;obtain⟨aq,W,ae,ad⟩:=a.cells;have Z:=a.oz (.bool p);have r:=hO o (d_ d.g s) a.ty;clear o s a C E;go_wp2_with fail;refine ig (v:=.agg #[.bool p,.slice I D.length G]) ?_ rfl ?_
   ·(simp[results,Tryz.results213,go_sem,W,Z];done)
   .refine⟨_,rfl,?_,(r.g.setCell (by simp<;>omega) _).setCell (by simp<;>omega) _⟩;have h:=(r.f.box r.l (by decide) (.bool p) (.slice I D.length G)).mono (M:=max L M+1) (by have:=d.f.2.2.2;omega);have V:=d.f.2.2.1;have O:=k.m;have K:=l.m;rw[V]at h
    cases i<;>cases N
    .exact absurd rfl P
    .simp only[if_true,r6,km]at h O K|-;rw[show x+y=((val f-val e:Nat):Int)from by omega];exact h
    .simp only[if_true,r6,km]at h O K|-;rw[show x+y=-((val f-val e:Nat):Int)from by omega];exact h
    .exact absurd rfl P
theorem tg{w:World}{a:Addr}{v:Value}(h:w.cell? a=some v):∀b,(w.alloc b).cell? a=some v:=λb=>by
 rw[World.cell?_alloc_old _ _ _ (by have:=sD w _ h;omega)];exact h
theorem DB{v u:Value}{x y:Int}{L M:Nat}{w:World}(k:kB w v x L)(l:kB w u y M)(P:L<=50000000000)(F:M<=50000000000):Calls Tryz.prog 225 #[v,u] w λh U=>∃j,h=.returned j/\xe w U j (x-y) (max L M+1):=by
 obtain⟨C,p,E,r,rfl,-⟩:=id k.parts;obtain⟨z,D,s,n,rfl,-⟩:=id l.parts;have B:=b_ k l;clear k l;go_in;go_wp2_with fail;go_fit (xu (B.i.below ?_))
 .repeat(first|exact hP|refine ia ?_ (by simp<;>omega) _)
 rintro h O⟨j,rfl,f,e⟩;obtain⟨J,R,Q,T,rfl,-⟩:=id f.parts;have d:=(((ih.new w (.bool C) (.slice p r.length E) rfl).alloc (.cells #[.bool z,.slice D n.length s] 171)).alloc (.cells #[.bool false,.slice none 0 0] 171)).below e (by simp<;>omega);have a:=(ih.new ((w.alloc (.cells #[.bool C,.slice p r.length E] 171)).alloc (.cells #[.bool z,.slice D n.length s] 171)) (.bool false) (.slice none 0 0) (b:=w.heap.size+1+1) (by simp)).below e (by simp);have t:Below w.heap.size w O:=Below.trans (by repeat(first|exact hP|refine ia ?_ (by simp<;>omega) _)) (e.mono (by simp<;>omega));obtain⟨q,o,-,-⟩:=d.cells;have G:=tg q;have H:=tg o;have ab:=d.lt;have Y:=a.lt;have c:=hY f t d a;clear f e t d a;go_wp2_with fail;go_fit (pg (B.f.below (c.g.trans ?_)) (c.f.below ?_) P F)
 .exact(hS).mono c.g.size
 .exact hS
 rintro h aa⟨Z,rfl,g,m⟩;obtain⟨A,S,N,K,rfl,-⟩:=id g.parts;have a:=(c.o.alloc (.cells #[.bool J,.slice R T.length Q] 171)).below m (by simp;omega);obtain⟨ac,I,X,W⟩:=a.cells;have V:=a.oz (.bool A);have i:=hO g (c.g.trans (((hS).trans (m.mono (by simp))).mono c.g.size)) a.ty;clear g m a q o G H;go_wp2_with fail;refine ig (v:=.agg #[.bool A,.slice S K.length N]) ?_ rfl ?_
 ·(simp[results,Tryz.results225,go_sem,I,V];done)
 .exact⟨_,rfl,i.f.box i.l (by decide) _ _,(i.g.setCell (by simp<;>omega) _).setCell (by simp<;>omega) _⟩
theorem mc(v u:Value)(x y:Int)(L M:Nat)(w:World)(c:kB w v x L)(d:kB w u y M)(m:L<=50000000000)(j:M<=50000000000):Calls Tryz.prog 200 #[v,u] w λb n=>b=.returned (.int .i64 (oi (x-y)))/\Below w.heap.size w n:=by
 obtain⟨E,p,G,q,rfl,-⟩:=id c.parts;obtain⟨z,F,r,o,rfl,-⟩:=id d.parts;have h:=b_ c d;clear c d;go_in;go_wp2_with fail;go_fit (DB (h.f.below ?_) (h.i.below ?_) m j)
 .repeat(first|exact hP|refine ia ?_ (by simp<;>omega) _)
 .repeat(first|exact hP|refine ia ?_ (by simp<;>omega) _)
 rintro b l⟨t,rfl,a,f⟩;obtain⟨s,B,A,C,rfl,-⟩:=id a.parts;have g:Below w.heap.size w l:=Below.trans (by repeat(first|exact hP|refine ia ?_ (by simp<;>omega) _)) (f.mono (by simp<;>omega));have e:=b_ a g;clear a f g;go_wp2_with fail;go_fit (kp (e.f.below ?_))
 .exact hS
 rintro b D⟨rfl,i⟩;have k:=a_ (e.i.trans (((hS).trans (i.mono (by simp))).mono e.i.size));clear i;go_wp2;go_ret;exact⟨rfl,k.e⟩
theorem Je{n m:Nat}{zs:List Nat}(h:n=val zs+10000^zs.length*m)(d:m≠0)(c:n<=1000000000):zs.length<=2:=by
 rcases iX 2 zs.length with a|a
 .exfalso;have b:10000^3<=10000^zs.length:=jb (by decide) a;have e:10000^zs.length*1<=10000^zs.length*m:=jJ _ (by omega);omega
 .exact a
theorem Gl{zs:List Nat}{d:Nat}(h:Lo zs)(hd:d<10000)(a:0<d):l9 (zs++[d]):=⟨mC h hd,.inr (by simp[List.getD,a])⟩
theorem pX{n:Nat}{w:World}(p:n<=1000000000):Calls Tryz.prog 207 #[.int .i64 n] w λG m=>∃t,G=.returned t/\xe w m t (n:Int) 3:=by
 have D:decide ((n:Int)<0)=false:=ic (by omega);obtain⟨k,x⟩:=hQ (w.alloc (.cells #[.bool false,.slice none 0 0] 171));have g:=a_ x;clear x;go_in;go_wp2_with fail;rw[<-g.e];clear D;go_loopw [0,4] (λl E wr=>∃(b:Nat) (a:List Nat),l=.int .i64 b/\b<=1000000000/\Lo a/\lB (w.heap.size+1) wr E a/\Below (w.heap.size+1) k wr/\f_ (n=val a+10000^a.length*b/\a.length<=3/\(b=0->l9 a))) (λl _ _=>(intOf l).toNat)
 case atStart=>exact⟨n,[],rfl,p,mz,oI _ _ _ _,hP,a_ ⟨by simp[val],by simp,λ_=>⟨mz,.inl rfl⟩⟩⟩
 case round=>
  obtain⟨b,a,rfl,V,o,C,j,e⟩:=hrel;have T:=j.size;have W:k.heap.size=w.heap.size+1:=by rw[g.e];simp
  have d:=hO o C j;clear o C j;by_cases c:b=0
  .have F:((b:Int)==0)=true:=jY.2 (by omega);have f:=a_ c;have h:ih wr w.heap.size (.bool false) (.slice none 0 0):=(ih.new w (.bool false) (.slice none 0 0) rfl).below (by rw[<-g.e];exact d.l) (by omega);obtain⟨X,J,R,Q⟩:=h.cells;have K:=a_ h;obtain⟨z,u,H,-⟩:=d.g.own.open_;subst H;have N:=h.oz (.bool false);clear c h;go_wp2_with fail;refine ig (v:=.agg #[.bool false,.slice z a.length u]) ?_ rfl ?_
   ·(simp[results,Tryz.results207,go_sem,J,N];done)
   .have c:=f.e;have i:=e.f;rw[c,l6,nt]at i;have O:kB wr (.agg #[.bool false,.slice z a.length u]) (n:Int) 3:=⟨false,_,a,rfl,d.g.own,e.l c,(by simp),(by rw[i];rfl),e.g⟩;refine⟨_,rfl,O.box K.e.ty (by decide) _ _,?_⟩;have I:Below w.heap.size w wr:=by
     have y:=d.l;rw[g.e]at y;exact(hU w _).trans (y.mono (by omega))
    exact(I.setCell (by simp) _).setCell (by simp) _
  .have F:((b:Int)==0)=false:=iK.2 (by omega);have S:decide ((b:Int)%10000<0)=false:=ic (by omega);have f:=a_ c;clear c;go_wp2_with (at_builtin;refine iZ rfl _ _ rfl (B:=w.heap.size+1) (zs:=a) rfl ?_ ⟨_,0,none⟩ rfl (b%10000) ?_ ?_ ?_ ?_)
   .exact kK d.g _
   .simp[Addr.add]
   .have:=e.g;omega
   .simp;omega
   intro U m q r;have A:Below (w.heap.size+1) k m:=(d.l.alloc (by omega) _).grown r (by simp;omega) (λL M=>(kF d.g L M).1);have s:=b_ q A;clear q r A;go_wp2;go_roundw
   .have c:=f.e;refine⟨b/10000,a++[b%10000],by go_num,by omega,mC d.f (mQ _ (by decide)),s.f,s.i,a_ ⟨?_,?_,λP=>Gl d.f (mQ _ (by decide)) (by omega)⟩⟩
    .have i:=e.f;rw[lR,j6,nn,jx,jG,zz,<-jd,tF];exact i
    .have:=Je e.f c p;simp;omega
   have:=f.e;simp[intOf];omega
theorem Fc{v:Value}{z:Int}{L k:Nat}{w:World}(x:kB w v z L)(aA:L<=50000000000)(aL:k<=1000):Calls Tryz.prog 199 #[v,.int .i64 k] w λo an=>o=.returned (.bool (decide (2^k<=z.natAbs)))/\Below w.heap.size w an:=by
 obtain⟨Q,ae,ak,c,rfl,h,M,ac,R,aP⟩:=id x.parts;have A:=iu x h M ac R;clear x h M ac R;go_in;go_wp2_with fail;go_fit (@pX 1 _ (by omega));rintro o f⟨aK,rfl,D,I⟩;obtain⟨al,am,ar,av,rfl,-⟩:=id D.parts;have O:Below w.heap.size w f:=Below.trans (by repeat(first|exact hP|refine ia ?_ (by simp<;>omega) _)) (I.mono (by simp<;>omega));have d:=(ih.new w (.bool Q) (.slice ae c.length ak) rfl).below I (by simp);have e:=hO D O d;have aN:=d.lt;clear D I O d;obtain⟨ah,F⟩:=hQ f.heap.size;have t:=a_ F;go_wp2_with fail;rw[<-F];clear F;go_loopw [6] (λy wr=>∃(a:Nat) (m:Bool) (G:Option Addr) (E:Nat) (H:List Nat),a<=k/\y=.int .i64 a/\ih wr ah (.bool m) (.slice G H.length E)/\kB wr (.agg #[.bool m,.slice G H.length E]) (2^a:Nat) (3+a)/\Below f.heap.size f wr) (λy _=>k-(intOf y).toNat)
 case atStart=>exact⟨0,al,am,ar,av,hR,rfl,ih.new f _ _ t.e,e.f.below hS,hS⟩
 case round=>
  obtain⟨a,m,G,E,H,aM,rfl,p,ad,C⟩:=hrel;have ag:=C.size;obtain⟨T,s,K,J⟩:=p.cells;have aB:=p.lt;have b:=hO p ad C;clear p ad C;by_cases aG:a<k
  .go_wp2_with fail;go_fit (@pg _ _ _ _ (3+a) (3+a) _ b.g b.g (by omega) (by omega));rintro o aO⟨aJ,rfl,B,u⟩;obtain⟨ab,S,P,N,rfl,-⟩:=id B.parts;have n:=b.f.below u b.f.lt;clear T s K J;obtain⟨T,s,K,J⟩:=n.cells;have aH:=n.lt;have j:=hO B n (b.l.trans (u.mono ag));clear B u n;go_wp2;go_roundw
   .refine⟨a+1,ab,S,P,N,by omega,by go_num,j.g.put _ _,?_,(j.l.setCell (by simp;have:=t.e;omega) _).setCell (by simp;have:=t.e;omega) _⟩;have g:=j.f.box j.g.ty (by decide) (.bool ab) (.slice S N.length P);rw[show((2^a:Nat):Int)+((2^a:Nat):Int)=((2^(a+1):Nat):Int)from by rw[jx];omega]at g;exact g.mono (by omega)
   simp[intOf];omega
  .have aa:a=k:=by omega
   have ai:=a_ aa;obtain⟨aD,az,aC,l,q,W,Y,X,Z,af⟩:=b.g.parts;simp only[j9,j_,kb,Value.bool.injEq,iC,jh]at q;obtain⟨rfl,rfl,q,rfl⟩:=q;have d:=e.l.below b.l e.l.lt;obtain⟨aI,aE,-,-⟩:=d.cells;rw[q]at s;have r:=iu W Y X Z af;clear W Y X Z aa d;go_wp2_with fail;go_fit (@wO _ _ c l _ (A.g.below (d_ e.g b.l)) r.f A.j r.g (by omega));rintro o ay⟨rfl,V⟩;have aq:=a_ ((d_ e.g b.l).trans (V.mono (by have:=e.g.size;omega)));clear V;have U:decide (0<=mL (val c) (val l))=decide (2^k<=z.natAbs):=by
    obtain⟨_,_,_,_,au⟩:=A.e;obtain⟨_,_,_,i,_⟩:=r.e;have aw:z.natAbs=val c:=by rw[au];cases Q<;>simp
    have aj:val l=2^k:=by
     rw[ai.e]at i;have ao:0<2^k:=kx (by decide);generalize 2^k=ax at i ao|-
     cases m
     .simp only[r6,km]at i;omega
     .simp only[if_true]at i;omega
    rw[aw,aj];unfold mL;by_cases g:val c<2^k
    .rw[if_pos g];simp;omega
    .rw[if_neg g];by_cases h:2^k<val c
     .rw[if_pos h];simp;omega
     .rw[if_neg h];simp;omega
   generalize mL (val c) (val l)=aF at*;have ap:=a_ U;clear U;go_wp2;go_ret;exact⟨by rw[<-ap.e];rfl,aq.e⟩
theorem sG(a b:List UInt8):(⟨a.toArray⟩:ByteArray)++⟨b.toArray⟩=⟨(a++b).toArray⟩:=by
 apply zR;simp
theorem xb{s t:ByteArray}(h:s=t):Ending.returned (.string s)=.returned (.string t):=by rw[h]
theorem wx{s t:ByteArray}(h:s=t):Value.string s=.string t:=by rw[h]
theorem xV(w:World)(d:Nat)(hd:d<10)(z:Int)(h:z=48+(d:Int))(a:UInt8)(c:a=UInt8.ofNat (48+d)):(convert 85 9 (.slice (some ⟨w.heap.size,0,none⟩) 1 1)).run Tryz.prog (w.alloc (.cells #[.int .u8 z] 5))=.ok (.string ⟨[a].toArray⟩) (w.alloc (.cells #[.int .u8 z] 5)):=by
 subst c;have b:=run_convert_bytes_back (P:=Tryz.prog) (w.alloc (.cells #[.int .u8 z] 5)) 85 9 5 ⟨w.heap.size,0,none⟩ 1 [UInt8.ofNat (48+d)] Tryz.underlying85 Tryz.underlying5 Tryz.underlying9 (λe i=>by
  have g:e=0:=by simpa using i
  subst g;rw[Lib.add_plain,World.cell?_alloc_new];have f:((UInt8.ofNat (48+d)).toNat:Int)=z:=by
   rw[h,zo,oO (by omega)];omega
  simp only[List.getElem_cons_zero];rw[f];rfl)
 exact b
theorem Ez(m d a:Nat)(hd:d<10)(b:a<10^m):qm (m+1) (d*10^m+a)=UInt8.ofNat (48+d)::qm m a:=by
 induction m generalizing a with
 |zero=>
  have c:a=0:=by simpa using b
  subst c;simp[qm,oO hd]
 |succ m e=>
  rw[qm];have f:(d*10^(m+1)+a)/10=d*10^m+a/10:=by
   rw[jx,<-jG];omega
  have g:(d*10^(m+1)+a)%10=a%10:=by
   rw[jx,<-jG];omega
  rw[f,g,e (a/10) (by rw[jx]at b;omega)];rfl
def Tx(b v m:Nat)(t:List UInt8):Prop:=∃a,a<10^m/\b=v*10^m+a/\t=qm m a
theorem Tx.next{v m:Nat}{t:List UInt8}(h:Tx i v m t):Tx i (v/10) (m+1) (UInt8.ofNat (48+v%10)::t):=by
 obtain⟨a,b,c,d⟩:=h;refine⟨v%10*10^m+a,?_,?_,?_⟩
 .rw[jx];have:=jo (10^m) (show v%10<=9 from by omega);omega
 .rw[c,jx];have e:v/10*(10^m*10)+v%10*10^m=v*10^m:=by
   rw[ij (10^m) 10,<-jG,<-jV];congr 1;omega
  omega
 .rw[Ez m _ a (by omega) b,d]
theorem Tx.last{v m:Nat}{t:List UInt8}(h:Tx i v m t)(d:0<v)(a:v<10):UInt8.ofNat (48+v%10)::t=Lib.decDigits i:=by
 obtain⟨e,b,c,f⟩:=h;rw[c,qg m v e d b,Lib.decDigits_one a,f,oO a];rfl
theorem HC{xs:List Nat}(h:l9 xs):xs≠[]->0<xs.getD (xs.length-1) 0:=λb=>by
 rcases h.2 with a|a
 .exact absurd a b
 .exact a
theorem K8(i:Nat):(10000:Nat)^i=10^(4*i):=by rw[qb]
def TP(b a m:Nat)(t:List UInt8):Prop:=(0<a->Tx b a m t)/\(a=0->t=Lib.decDigits b)
theorem TP.step{m:Nat}{t:List UInt8}(h:TP i j m t)(a:0<j):TP i (j/10) (m+1) (UInt8.ofNat (48+j%10)::t):=
 ⟨λ_=>(h.1 a).next,λb=>(h.1 a).last a (by omega)⟩
def EI(v k D:Nat):Nat:=v+10^(4-k)*D
theorem A7(v k D:Nat)(b:k<4):EI v k D%10=v%10/\EI v k D/10=EI (v/10) (k+1) D:=by
 unfold EI;have a:10^(4-k)*D=10*(10^(4-(k+1))*D):=by
  rw[show 4-k=(4-(k+1))+1 from by omega,jx,ij (10^(4-(k+1))) 10,jG]
 rw[a];constructor
 .omega
 .omega
theorem Db(v k D:Nat)(h:0<v\/0<D):0<EI v k D:=by
 unfold EI;rcases h with h|h
 .omega
 .have:0<10^(4-k)*D:=tB (kx (by decide)) h;omega
theorem En(xs:List Nat)(i:Nat)(a:i<xs.length):val (xs.drop i)=EI (xs.getD i 0) 0 (val (xs.drop (i+1))):=by
 rw[iz xs i a,iN];rfl
theorem HX(D:Nat):EI 0 4 D=D:=by simp[EI]
theorem zP{xs:List Nat}(h:l9 xs)(i:Nat)(b:i<xs.length):0<val (xs.drop i):=by
 have f:xs≠[]:=by intro e;rw[e]at b;simp at b
 have g:=HC h f;have d:=ir xs i (by omega);have k:=yD h (by omega);rcases kl (val (xs.drop i))with a|a
 .exfalso;rw[a,l6,nt]at d;have c:=j8 (mG h.1 i);rw[kv,o_ (by omega)]at c;have j:10000^i<=10000^(xs.length-1):=jb (by decide) (by omega);omega
 .exact a
theorem sZ{v:Value}{z:Int}{L:Nat}{w:World}(R:kB w v z L)(az:L<=50000000000):Calls Tryz.prog 158 #[v] w λI aq=>I=.returned (.string ⟨(Lib.itoa z).toArray⟩)/\Below w.heap.size w aq:=by
 obtain⟨m,B,s,a,rfl,af,N,x,e,aH⟩:=id R.parts;have g:=hY af N x e;clear R af N x e;obtain⟨F,ac⟩:=hQ (w.alloc (.cells #[.bool m,.slice B a.length s] 171));have p:=a_ ac;clear ac;by_cases M:a.length=0
 .have ak:((a.length:Int)==0)=true:=jY.2 (by omega);have q:a=[]:=lp M;have H:=a_ q;clear q M;go_in;go_wp2;go_ret;refine⟨xb ?_,hS⟩;have e:=g.o;have x:=g.j;rw[H.e]at e x;have au:z=0:=by rw[e];cases m<;>simp[val]
  rw[au,show Lib.itoa 0=[48]from by rw[show(0:Int)=((0:Nat):Int)from rfl,Lib.itoa_nonneg,Lib.decDigits_one (by decide)];rfl]
 .have ak:((a.length:Int)==0)=false:=iK.2 (by omega);have G:0<a.length:=by omega
  clear M;go_in;go_wp2_with fail;rw[<-p.e];go_loopw [3,4] (λC b wr=>∃(i:Nat) (k:List UInt8),i<=a.length/\b=.int .i64 i/\C=.string ⟨k.toArray⟩/\k.length<=4*i/\Below (w.heap.size+1) F wr/\f_ (TP (val a) (val (a.drop i)) (4*i) k)) (λ_ b _=>a.length-(intOf b).toNat)
  case atStart=>
   refine⟨0,[],hR,rfl,rfl,by simp,hP,a_ ⟨λ_=>⟨0,by simp,by simp,by simp[qm]⟩,λam=>?_⟩⟩;have:=zP g.g 0 G;omega
  case round=>
   rename World=>E;obtain⟨b,k,aF,rfl,rfl,an,h,ae⟩:=hrel;have aB:F.heap.size=w.heap.size+1:=by rw[p.e];simp
   have ax:=h.size;have r:ih E w.heap.size (.bool m) (.slice B a.length s):=(ih.new w (.bool m) (.slice B a.length s) rfl).below (by rw[<-p.e];exact h) (by omega);obtain⟨V,T,-,-⟩:=r.cells;have av:=a_ h;clear r;by_cases aa:b<a.length
   .obtain⟨P,rfl,X⟩:=(g.f.below (show Below w.heap.size w E from by rw[p.e]at h;exact(hU w _).trans (h.mono (by omega)))).at_ rfl b aa;clear h;obtain⟨ao,q⟩:=hQ (a.getD b 0);have aj:=jW g.g.1 b;rw[<-q]at X aj;have H:=a_ q;clear q;go_wp2_with fail;go_loopw [3,5,6] (λC v i ah=>∃(d c:Nat) (f:List UInt8),d<=4/\v=.int .i64 c/\i=.int .i64 d/\C=.string ⟨f.toArray⟩/\f.length<=4*b+d/\c<=9999/\Below (w.heap.size+1) F ah/\f_ (c<10^(4-d)/\TP (val a) (EI c d (val (a.drop (b+1)))) (4*b+d) f)) (λ_ _ i _=>4-(intOf i).toNat)
    case atStart=>
     refine⟨0,ao,k,by omega,rfl,rfl,rfl,an,by omega,av.e,a_ ⟨by omega,?_⟩⟩;have j:=ae.e;rw[En a b aa,<-H.e]at j;exact j
    case round=>
     clear V T X;obtain⟨d,c,f,ay,rfl,rfl,rfl,aA,aE,A,l⟩:=hrel;have aC:=A.size;have r:ih wr w.heap.size (.bool m) (.slice (some ⟨P,0,none⟩) a.length s):=(ih.new w (.bool m) (.slice (some ⟨P,0,none⟩) a.length s) rfl).below (by rw[<-p.e];exact A) (by omega);obtain⟨V,T,-,-⟩:=r.cells;have y:=a_ A;clear r A;by_cases D:d<4
     .by_cases W:0<c
      .have ag:(0:Int)<(c:Int):=by omega
       obtain⟨n,o⟩:=hQ (UInt8.ofNat (48+c%10));have ap:=xV wr (c%10) (by omega) (48+(c:Int)%10) (by omega) n o;have J:=a_ o;clear o;go_wp2;go_roundw
       .refine⟨d+1,c/10,n::f,by omega,by go_num,by go_num,wx (sG [n] f),by simp;omega,by omega,y.e.alloc (by omega) _,a_ ⟨?_,?_⟩⟩
        .have:=l.f;rw[show 4-d=(4-(d+1))+1 from by omega,jx]at this;omega
        .have t:=A7 c d (val (a.drop (b+1))) D;have:=l.i.step (Db c d _ (.inl W));rw[t.1,t.2,<-J.e]at this;exact this
       simp[intOf];omega
      .have ag:decide (0<(c:Int))=false:=ic (by omega);have aD:decide (0<c)=false:=ic W;by_cases al:b+1<a.length
       .have ar:(b:Int)<(a.length:Int)-1:=by omega
        obtain⟨n,o⟩:=hQ (UInt8.ofNat (48+c%10));have ap:=xV wr (c%10) (by omega) (48+(c:Int)%10) (by omega) n o;have J:=a_ o;clear o;go_wp2;go_roundw
        .refine⟨d+1,c/10,n::f,by omega,by go_num,by go_num,wx (sG [n] f),by simp;omega,by omega,y.e.alloc (by omega) _,a_ ⟨?_,?_⟩⟩
         .have:=l.f;rw[show 4-d=(4-(d+1))+1 from by omega,jx]at this;omega
         .have t:=A7 c d (val (a.drop (b+1))) D;have:=l.i.step (Db c d _ (.inr (zP g.g (b+1) al)));rw[t.1,t.2,<-J.e]at this;exact this
        simp[intOf];omega
       .have ar:decide ((b:Int)<(a.length:Int)-1)=false:=ic (by omega);have u:c=0:=by omega
        go_wp2;go_roundw
        .refine⟨b+1,f,by omega,by go_num,rfl,by omega,y.e,a_ ?_⟩;have j:=l.i;have ab:val (a.drop (b+1))=0:=by rw[lA (by omega)];rfl
         rw[u,ab,show EI 0 d 0=0 from by simp[EI]]at j;rw[ab];exact⟨λam=>by omega,j.2⟩
        simp[intOf];omega
     .have aG:decide ((d:Int)<4)=false:=ic (by omega);have aw:decide (d<4)=false:=ic D;have K:d=4:=by omega
      have u:c=0:=by have:=l.f;rw[K]at this;simpa using this
      have S:=b_ K u;clear K u;go_wp2;go_roundw
      .refine⟨b+1,f,by omega,by go_num,rfl,by omega,y.e,a_ ?_⟩;have j:=l.i;rw[S.f,S.i,HX]at j;rw[show 4*(b+1)=4*b+4 from by omega];exact j
      simp[intOf];omega
   .have Q:b=a.length:=by omega
    have Z:k=Lib.decDigits (val a):=ae.i (by rw[Q,xx];rfl);have U:=a_ Z;have Y:=vm g.g (by intro I;rw[I]at G;simp at G);have ai:=a_ Y;have O:Below w.heap.size w E:=by rw[p.e]at h;exact(hU w _).trans (h.mono (by omega))
    have ad:=a_ O;clear Q Z Y h O
    cases m
    .go_wp2;go_ret;refine⟨xb ?_,ad.e⟩;have e:=g.o;simp only[r6,km]at e;rw[e,Lib.itoa_nonneg,U.e]
    .go_wp2;go_ret;refine⟨xb ?_,ad.e⟩;have e:=g.o;simp only[if_true]at e;rw[e,Lib.itoa_neg _ ai.e,<-U.e];exact sG [45] k
def k6(c:List UInt8):Nat:=c.foldl (λa b=>10*a+(b.toNat-48)) 0
def l8(c:UInt8):Prop:=48<=c.toNat/\c.toNat<=57
theorem Eg(b:List UInt8):∀a:Nat,b.foldl (λa c=>10*a+(c.toNat-48)) a=a*10^b.length+k6 b:=by
 induction b with
 |nil=>intro a;simp[k6]
 |cons c e d=>
  intro a;unfold k6;simp only[List.foldl_cons,j3];rw[d,d,jx,l6,jF,jV,ij (10^e.length) 10,<-jG,ij 10 a];omega
theorem xH(c:UInt8)(r:List UInt8):k6 (c::r)=(c.toNat-48)*10^r.length+k6 r:=by
 conv=>lhs;unfold k6
 rw[List.foldl_cons,Eg];simp
theorem x9(a:List UInt8)(c:UInt8):k6 (a++[c])=10*k6 a+(c.toNat-48):=by simp[k6]
theorem qs(u:Nat):k6 (Lib.decDigits u)=u/\∀c∈Lib.decDigits u,l8 c:=by
 induction u using Nat.strongRecOn with
 |ind u f=>
  have e:∀d,d<10->(UInt8.ofNat (48+d)).toNat=48+d:=λd b=>by rw[zo,oO (by omega)]
  by_cases b:u<10
  .rw[Lib.decDigits_one b];refine⟨?_,λc a=>?_⟩
   .unfold k6;simp only[List.foldl_cons,List.foldl_nil];rw[e u b];omega
   .rw[rM]at a;unfold l8;rw[a,e u b];omega
  .obtain⟨g,h⟩:=f (u/10) (by omega);rw[kI b];refine⟨?_,λc a=>?_⟩
   .rw[x9,g,e _ (by omega)];omega
   .rcases ji.1 a with a|a
    .exact h c a
    .rw[rM]at a;unfold l8;rw[a,e _ (by omega)];omega
def ql(a:List UInt8)(z:Int):Prop:=a=Lib.itoa z
theorem ql.neg{z:Int}(h:ql (45::L) z):(∀b∈L,l8 b)/\z=-(k6 L:Int):=by
 unfold ql at h;by_cases c:z<0
 .obtain⟨a,rfl⟩:∃a:Nat,z=-(a:Int):=⟨z.natAbs,by omega⟩;rw[Lib.itoa_neg a (by omega)]at h;injection h with _ h
  rw[h];exact⟨(qs a).2,by rw[(qs a).1]⟩
 .exfalso;obtain⟨a,rfl⟩:∃a:Nat,z=(a:Int):=⟨z.natAbs,by omega⟩;rw[Lib.itoa_nonneg]at h;have:=(qs a).2 45 (by rw[<-h];simp);exact absurd this.1 (by decide)
theorem ql.pos{z:Int}(h:ql L z)(b:∀c,L≠45::c):(∀d∈L,l8 d)/\z=(k6 L:Int):=by
 unfold ql at h;by_cases e:z<0
 .exfalso;obtain⟨a,rfl⟩:∃a:Nat,z=-(a:Int):=⟨z.natAbs,by omega⟩;rw[Lib.itoa_neg a (by omega)]at h;exact b _ h
 .obtain⟨a,rfl⟩:∃a:Nat,z=(a:Int):=⟨z.natAbs,by omega⟩;rw[Lib.itoa_nonneg]at h;rw[h];exact⟨(qs a).2,by rw[(qs a).1]⟩
def Part(a:List UInt8)(i:Nat)(zs:List Nat):Prop:=Lo zs/\val zs=k6 (a.drop (a.length-i))/\zs.getD (i/4) 0<10^(i%4)/\(∀b,i/4<b->zs.getD b 0=0)/\∀c∈a.drop (a.length-i),l8 c
theorem zB(zs:List Nat)(k a j:Nat)(d:k<zs.length):(zs.set k a).getD j 0=if j=k then a else zs.getD j 0:=by
 by_cases b:j=k
 .subst b;simp[List.getD,d]
 .have c:¬k=j:=λe=>b e.symm;simp[List.getD,b,c]
theorem Part.start(c:List UInt8)(n:Nat):Part c 0 (List.replicate n 0):=by
 refine⟨mM n,?_,?_,λd _=>?_,?_⟩
 .rw[Nat.sub_zero,xx];rw[lG (λe a=>(List.mem_replicate.1 a).2)];rfl
 .have:(List.replicate n 0).getD (0/4) 0=0:=by simp[List.getD,wi];split<;>rfl
  rw[this];decide
 .simp[List.getD,wi];split<;>rfl
 .rw[Nat.sub_zero,xx];intro f b;cases b
theorem Part.next{i:Nat}{zs:List Nat}(h:Part L i zs)(u:i<L.length)(w:L.length/4<zs.length)(c:UInt8)(b:L[L.length-1-i]?=some c)(hd:l8 c):Part L (i+1) (zs.set (i/4) (zs.getD (i/4) 0+10^(i%4)*(c.toNat-48))):=by
 obtain⟨o,r,s,g,l⟩:=h;have e:i/4<zs.length:=by omega
 have f:L.drop (L.length-(i+1))=c::L.drop (L.length-i):=by
  have a:L.length-(i+1)=L.length-1-i:=by omega
  rw[a,ow (show L.length-1-i<L.length from by omega)];rw[iI (show L.length-1-i<L.length from by omega)]at b;injection b with b
  rw[b,show L.length-1-i+1=L.length-i from by omega]
 have x:10^(i%4)*(c.toNat-48)<=10^(i%4)*9:=jJ _ (by unfold l8 at hd;omega);have k:i%4=0\/i%4=1\/i%4=2\/i%4=3:=by omega
 have n:zs.getD (i/4) 0+10^(i%4)*(c.toNat-48)<10^(i%4)*10:=by omega
 have t:10^(i%4)<=1000:=by rcases k with a|a|a|a<;>rw[a]<;>decide
 refine⟨mf o _ _ (by omega),?_,?_,λp v=>?_,?_⟩
 .have q:=oH zs (i/4) (zs.getD (i/4) 0+10^(i%4)*(c.toNat-48)) e;rw[jd,r]at q;rw[f,xH];have a:(L.drop (L.length-i)).length=i:=by rw[pJ];omega
  rw[a];have m:10^i=10000^(i/4)*10^(i%4):=by
   rw[K8,<-kg];congr 1;omega
  rw[m,ij (c.toNat-48),jG];omega
 .rw[zB _ _ _ _ e];by_cases a:(i+1)/4=i/4
  .rw[if_pos a,show(i+1)%4=i%4+1 from by omega,jx];exact n
  .rw[if_neg a,g _ (by omega),show(i+1)%4=0 from by omega];decide
 .rw[zB _ _ _ _ e,if_neg (by omega)];exact g p (by omega)
 .rw[f];intro j d;rcases jU.1 d with rfl|d
  .exact hd
  .exact l j d
theorem toList_empty(s:ByteArray):s.toList.isEmpty=decide (s.size=0):=by
 rw[vV]
 cases s with
 |mk a=>
  cases a with
  |mk b=>cases b<;>simp[ByteArray.size]
def K_(v c:Value):Prop:=∃a e b d,v=.slice a e b/\c=.slice a d b
def Gq(v r:Value):Prop:=∃a e b d,v=.slice a e b/\∃c,r=.agg #[.bool c,.slice a d b]
theorem K_.of{v:Value}{k:Nat}(h:K_ v (.slice O k i)):∀a,Gq v (.agg #[.bool a,.slice O k i]):=by
 obtain⟨e,d,g,f,c,b⟩:=h;simp only[iC]at b;obtain⟨rfl,rfl,rfl⟩:=b;exact λa=>⟨O,d,i,k,c,a,rfl⟩
def tZ(B:Nat)(v:Value):Prop:=∀d a f b c e,v=.agg #[d,.slice (some ⟨a,f,b⟩) c e]->B<=a
theorem tZ.none(B:Nat)(x:Value)(n b:Nat):tZ B (.agg #[x,.slice none n b]):=by
 intro c d h e f g a;simp at a
theorem tZ.mono{B:Nat}{v:Value}(h:tZ B v)(a:i<=B):tZ i v:=λf b j d e g c=>iy a (h f b j d e g c)
theorem tZ.at_{B g:Nat}(c:B<=g)(x:Value)(o:Nat)(s:Option Nat)(n b:Nat):tZ B (.agg #[x,.slice (some ⟨g,o,s⟩) n b]):=by
 intro e f h d i j a;simp only[j9,j_,kb,iC,iH,jj,jh]at a;omega
theorem FF{v:Value}{xs:List Nat}{w:World}(h:Own w v xs)(o:Lo xs):Calls Tryz.prog 233 #[v] w λq u=>(∃f,q=.returned f/\sA v xs f/\K_ v f)/\u=w:=by
 obtain⟨z,C,rfl,B,D,n,F,_⟩:=h.open_;have E:=a_ h;clear h;have m:=a_ o;clear o;go_in;go_wp2;go_loop [3] (λk=>∃a:Nat,a<=xs.length/\k=.int .i64 a/\∀b∈xs.drop a,b=0) (λk=>(intOf k).toNat)
 case atStart=>exact⟨xs.length,c_,rfl,by simp⟩
 case round=>
  obtain⟨a,p,rfl,i⟩:=hrel;by_cases y:a=0
  .subst y;go_wp2;go_ret;have c:=mh m.e 0 hR i (.inl rfl);exact⟨⟨_,rfl,⟨_,c.1,c.2.1,by omega,λs e=>e.cut 0 hR⟩,⟨_,_,_,_,rfl,rfl⟩⟩,rfl⟩
  .obtain⟨A,rfl,t⟩:=n (a-1) (by omega);obtain⟨b,j⟩:=hQ (xs.getD (a-1) 0);rw[<-j]at t;clear n;have l:=a_ j;clear j;go_wp2
   .have g:((b:Int)==0)=true:=by assumption
    have r:b=0:=by simpa using g
    go_round
    case rel=>
     refine⟨a-1,by omega,by go_num,λx d=>?_⟩;rw[iz xs (a-1) (by omega),<-l.e,show a-1+1=a from by omega]at d;rcases jU.1 d with d|d
     .omega
     .exact i x d
    case measure=>simp[intOf];omega
   .have g:((b:Int)==0)=false:=by assumption
    have r:b≠0:=by simpa using g
    go_ret;have c:=mh m.e a p i (.inr (by rw[<-l.e];omega));exact⟨⟨_,rfl,⟨_,c.1,c.2.1,by omega,λs e=>e.cut a p⟩,⟨_,_,_,_,rfl,rfl⟩⟩,rfl⟩
theorem HE{neg:Bool}{v:Value}{xs:List Nat}{w:World}(t:Own w v xs)(q:Lo xs):Calls Tryz.prog 223 #[.bool neg,v] w λe l=>∃k,e=.returned k/\kB l k (if neg then-(val xs:Int)else(val xs:Int)) xs.length/\Below w.heap.size w l/\Gq v k:=by
 have f:=b_ t q;clear t q;go_in;go_wp2_with fail;go_fit (FF (f.f.below hS) f.i);rintro e l⟨⟨I,rfl,G,p⟩,rfl⟩;obtain⟨a,s,x,A,m⟩:=G;obtain⟨b,d,rfl,J,K,-⟩:=(m _ f.f).open_;have j:=a_ p.of;clear p;have r:=hY s x A m;clear s x m;have u:∀(c:Bool) (h:World),Below w.heap.size w h->(c=true->a≠[])->kB h (.agg #[.bool c,.slice b a.length d]) (if c then-(val xs:Int)else(val xs:Int)) xs.length:=by
  intro c h z H;obtain⟨y,D,B,E⟩:=r.e;exact⟨c,_,a,rfl,(E _ f.f).below z,y,H,by rw[D],B⟩
 have n:=a_ u;clear u
 cases neg
 .go_wp2_with fail;refine ig (v:=.agg #[.bool false,.slice b a.length d]) (by simp[results,Tryz.results223,go_sem]) rfl ?_;exact⟨_,rfl,n.e false _ hS (λg=>by cases g),hS,j.e _⟩
 .by_cases i:0<a.length
  .go_wp2_with fail;refine ig (v:=.agg #[.bool true,.slice b a.length d]) (by simp[results,Tryz.results223,go_sem]) rfl ?_;exact⟨_,rfl,n.e true _ hS (λ_ e=>by rw[e]at i;simp at i),hS,j.e _⟩
  .have L:decide (0<a.length)=false:=ic i;have o:a=[]:=lp (by omega);have C:=a_ o;clear o;go_wp2_with fail;refine ig (v:=.agg #[.bool false,.slice b a.length d]) (by simp[results,Tryz.results223,go_sem]) rfl ?_;have F:val xs=0:=by rw[<-r.g,C.e];rfl
   have:=n.e false (w.alloc (.cells #[.bool false,.slice b a.length d] 171)) hS (λg=>by cases g);refine⟨_,rfl,?_,hS,j.e _⟩;rw[F]at this|-;exact this
def qZ(s:ByteArray)(w c:World)(r:Value)(b:Bool):Prop:=(∃a,kB c r a (s.size+1)/\(b=true->ql s.data.toList a)/\(b=false->∀a,¬ql s.data.toList a))/\Below w.heap.size w c/\tZ w.heap.size r
def Cut(s a:ByteArray)(neg:Bool):Prop:=(neg=false/\s.data.toList=a.data.toList/\∀b,s.data.toList≠45::b)\/(neg=true/\s.data.toList=45::a.data.toList)
theorem Cut.says{s:ByteArray}{neg:Bool}(h:Cut s S neg){z:Int}(b:ql s.data.toList z):(∀d∈S.data.toList,l8 d)/\z=if neg then-(k6 S.data.toList:Int)else(k6 S.data.toList:Int):=by
 rcases h with⟨rfl,a,c⟩|⟨rfl,a⟩
 .have:=b.pos c;rw[a]at this;simpa using this
 .rw[a]at b;simpa using b.neg
theorem qZ.bad{s:ByteArray}{neg:Bool}{w W:World}(d:Cut s S neg)(f:∃a∈S.data.toList,¬l8 a)(g:Below w.heap.size w W):qZ s w W (.agg #[.bool false,.slice none 0 0]) false:=by
 refine⟨⟨0,⟨false,_,[],rfl,Own.nil _,⟨mz,.inl rfl⟩,by simp,by simp[val],by simp⟩,(λb=>by cases b),λ_ i h=>?_⟩,g,tZ.none _ _ _ _⟩;obtain⟨a,e,c⟩:=f;exact c ((d.says h).1 a e)
theorem qZ.K7{s:ByteArray}{neg b:Bool}{w W:World}{r:Value}{z:Int}{L:Nat}(g:Cut s S neg)(i:kB W r z L)(f:L<=s.size+1)(l:z=if neg then-(k6 S.data.toList:Int)else(k6 S.data.toList:Int))(k:Below w.heap.size w W)(h:b=true↔s.data.toList=Lib.itoa z)(d:tZ w.heap.size r):qZ s w W r b:=by
 refine⟨⟨z,i.mono f,h.1,λc e a=>?_⟩,k,d⟩;have j:e=z:=by rw[l,(g.says a).2]
 rw[j]at a;rw[h.2 a]at c
 cases c
theorem Lp{s:ByteArray}(h:S=⟨L.toArray⟩):(S.toList==s.toList)=true↔s.data.toList=L:=by
 rw[jY,vV,vV,h];exact eq_comm
theorem head_tail(s:ByteArray)(a:0<s.size):s.data.toList=(s[0]'a)::(s.extract 1 s.size).data.toList:=by
 rw[ByteArray.data_extract,Array.toList_extract,Cj]
 cases s with
 |mk b=>
  cases b with
  |mk c=>
   cases c with
   |nil=>simp[ByteArray.size]at a
   |cons e d=>
    simp only[ByteArray.size,y6,j3,List.drop_succ_cons,pO,Nat.add_sub_cancel,List.take_length];rfl
theorem FH{k:Nat}(h:i=10^(k%4)):(if i=1000 then 1 else i*10)=10^((k+1)%4):=by
 have b:k%4=0\/k%4=1\/k%4=2\/k%4=3:=by omega
 rcases b with a|a|a|a
 .rw[h,a,show(k+1)%4=1 from by omega];decide
 .rw[h,a,show(k+1)%4=2 from by omega];decide
 .rw[h,a,show(k+1)%4=3 from by omega];decide
 .rw[h,a,show(k+1)%4=0 from by omega];decide
theorem KB{k:Nat}(h:i=10^(k%4))(c:¬i=1000):i<=100:=by
 have b:k%4=0\/k%4=1\/k%4=2\/k%4=3:=by omega
 rcases b with a|a|a|a<;>rw[a]at h<;>omega
theorem B7{s:ByteArray}{w:World}(aE:s.size<=50000000000):Calls Tryz.prog 198 #[.string s] w λi a5=>∃r ai,i=.returned (.tuple #[r,.bool ai])/\qZ s w a5 r ai:=by
 obtain⟨ah,aK⟩:=hQ (w.alloc (.cells #[.bool false,.slice none 0 0] 171));have N:=a_ aK;clear aK;have aU:s.size=0\/(∃c:0<s.size,(((s[0]'c).toNat:Int)==45)=false/\∀r,s.data.toList≠45::r)\/(∃c:0<s.size,(((s[0]'c).toNat:Int)==45)=true/\s.data.toList=45::(s.extract 1 s.size).data.toList):=by
  rcases kl s.size with c|c
  .exact .inl c
  .by_cases D:(s[0]'c)=45
   .refine .inr (.inr ⟨c,by rw[D];rfl,?_⟩);rw[head_tail s c,D]
   .refine .inr (.inl ⟨c,iK.2 (λi=>D (UInt8.toNat_inj.1 (by have:((s[0]'c).toNat:Int)=((45:UInt8).toNat:Int):=i;omega))),λr i=>D ?_⟩);rw[head_tail s c]at i;injection i
 rcases aU with c|⟨c,D,V⟩|⟨c,D,V⟩
 case' inl=>
  have aB:s.toList.isEmpty=true:=by rw[toList_empty];exact jm c
  obtain⟨neg,l⟩:∃neg:Bool,neg=false:=⟨_,rfl⟩;obtain⟨a,e⟩:=hQ s;obtain⟨m,t⟩:=hQ (a.size/4+1);have ao:=a_ l;have x:f_ (Cut s a neg/\a.size<=s.size):=a_ ⟨.inl ⟨l,by rw[e],λr i=>by
   have:=kX List.length i;simp at this;omega⟩,by rw[e];exact c_⟩
  have g:=a_ t;have aI:a.size<=50000000000:=by rw[e];exact aE
  have ar:f_ (s.size=a.size):=a_ (by rw[e]);subst e;clear t c l;go_in;go_wp2_with (at_make;refine lJ rfl _ _ rfl (n:=m) rfl rfl ?_ ?_ ?_ ?_)
  .have:=g.e;omega
  .have:=g.e;omega
  .have:=g.e;omega
 case' inr.inl=>
  have aB:s.toList.isEmpty=false:=by rw[toList_empty];exact ic (by omega)
  obtain⟨neg,l⟩:∃neg:Bool,neg=false:=⟨_,rfl⟩;obtain⟨a,e⟩:=hQ s;obtain⟨m,t⟩:=hQ (a.size/4+1);have ao:=a_ l;have x:f_ (Cut s a neg/\a.size<=s.size):=a_ ⟨.inl ⟨l,by rw[e],V⟩,by rw[e];exact c_⟩;have g:=a_ t;have aI:a.size<=50000000000:=by rw[e];exact aE
  have ar:f_ (s.size=a.size):=a_ (by rw[e]);subst e;clear t V l;go_in;go_wp2_with (at_make;refine lJ rfl _ _ rfl (n:=m) rfl rfl ?_ ?_ ?_ ?_)
  .have:=g.e;omega
  .have:=g.e;omega
  .have:=g.e;omega
 case' inr.inr=>
  have aB:s.toList.isEmpty=false:=by rw[toList_empty];exact ic (by omega)
  obtain⟨neg,l⟩:∃neg:Bool,neg=true:=⟨_,rfl⟩;obtain⟨a,e⟩:=hQ (s.extract 1 s.size);have aZ:=a_ e;obtain⟨m,t⟩:=hQ (a.size/4+1);have ao:=a_ l;have x:f_ (Cut s a neg/\a.size<=s.size):=a_ ⟨.inr ⟨l,by rw[e];exact V⟩,by rw[e,ByteArray.size_extract];omega⟩;have g:=a_ t;have aI:a.size<=50000000000:=by have:=x.i;omega
  have ar:f_ (s.size-1=a.size):=a_ (by rw[e,ByteArray.size_extract];omega);clear e t V l;go_in;go_wp2_with (at_make;rw[<-aZ.e,ar.e];refine lJ rfl _ _ rfl (n:=m) rfl rfl ?_ ?_ ?_ ?_)
  .have:=g.e;omega
  .have:=g.e;omega
  .have:=g.e;omega
 all_goals
  intro aP k o;have bG:=k.lt;have av:Below (w.heap.size+1) ah aP:=by rw[N.e];simpa using o
  have bn:ah.heap.size=w.heap.size+1:=by rw[N.e];simp
  have ay:=b_ k av;clear k o av;go_wp2_with fail;go_loopw [8,9] (λaT am wr=>∃(d f:Nat) (h:List Nat),d<=a.size/\am=.int .i64 d/\1<=f/\f<=1000/\aT=.int .i64 f/\f_ (h.length=m)/\Own wr (.slice (some ⟨w.heap.size+1,0,none⟩) m m) h/\Below (w.heap.size+1) ah wr/\f_ (f=10^(d%4)/\Part a.data.toList d h)) (λ_ am _=>a.size-(intOf am).toNat)
  case atStart=>exact⟨0,1,_,hR,rfl,by omega,by omega,rfl,a_ sQ,ay.f,ay.i,a_ ⟨rfl,Part.start _ _⟩⟩
  case round=>
   obtain⟨d,f,h,bz,rfl,ba,bC,rfl,q,k,o,I⟩:=hrel;have bi:=o.size;have bk:=k.lt;have B:ih wr w.heap.size (.bool false) (.slice none 0 0):=(ih.new w (.bool false) (.slice none 0 0) rfl).below (by rw[<-N.e];exact o) (by omega);have p:=hO k o B;by_cases bE:d<a.size
   .obtain⟨S,aJ⟩:=hQ (a.size-1-d);have bm:(a.size:Int)-1-(d:Int)=(S:Int):=by omega
    have an:S<a.size:=by omega
    have bu:(S:Int)<(a.size:Int):=by omega
    obtain⟨b,au⟩:=hQ (a[S]'an);have az:a.data.toList[a.data.toList.length-1-d]?=some b:=by
     have i:a.data.toList.length=a.size:=by simp
     rw[i,<-aJ,iI (by rw[i];exact an),au];rfl
    have aF:=a_ az;have bb:(a[S]'an).toNat=b.toNat:=by rw[au]
    clear au az aJ;by_cases u:l8 b
    .have bI:48<=b.toNat:=u.1;have bB:b.toNat<=57:=u.2;have X:decide ((b.toNat:Int)<48)=false:=ic (by omega);have ap:decide (57<(b.toNat:Int))=false:=ic (by omega);have aH:decide (b.toNat<48)=false:=ic (by omega);have aW:decide (57<b.toNat)=false:=ic (by omega);have ab:=a_ u;obtain⟨y,ac⟩:=hQ (b.toNat-48);have bJ:(b.toNat:Int)-48=(y:Int):=by omega
     have a4:y<=9:=by omega
     obtain⟨j,O⟩:=hQ (d/4);have bg:(d:Int)/4=(j:Int):=by omega
     have aV:j<m:=by have:=g.e;omega
     have bF:(j:Int)<(m:Int):=by omega
     obtain⟨U,H⟩:=hQ (h.getD j 0);have aX:=k.cell q.e j aV;have be:=k.frozen q.e j;rw[<-H]at aX;obtain⟨G,K⟩:=hQ (f*y);have a9:(f:Int)*(y:Int)=(G:Int):=by rw[K];exact(m_ f y).symm
     have aQ:U+G<10000/\U<10000:=by
      have aN:=I.m;rw[<-I.f,<-O,<-H]at aN;have:f*y<=f*9:=jJ _ a4;omega
     obtain⟨bx,bv⟩:=aQ;have a0:=hY H K O ac;clear u ac H K O k o B;have ae:f_ (Part a.data.toList (d+1) (h.set j (U+G))/\(if f=1000 then 1 else f*10)=10^((d+1)%4)):=a_ (by
      obtain⟨H,K,O,ac⟩:=a0.e;obtain⟨ax,a3⟩:=I.e;have bH:a.data.toList.length=a.size:=by simp
      have:=a3.next (by omega) (by have:=q.e;have:=g.e;omega) b aF.e ab.e;rw[<-ax,<-O,<-ac,<-H,<-K]at this;refine⟨this,?_⟩;exact FH ax)
     by_cases ak:f=1000
     .subst ak;go_wp2;go_roundw;exact⟨d+1,1,h.set j (U+G),by omega,by go_num,by omega,by omega,rfl,a_ (by rw[vC];exact q.e),p.f.Z q.e j _ (by rw[show(1000:Int)*(y:Int)=(G:Int)from a9];omega),p.g.setCell (by simp) _,a_ ⟨ae.i,ae.f⟩⟩;simp[intOf];omega
     .have bp:((f:Int)*10==10000)=false:=iK.2 (by omega);have bf:f<=100:=KB I.f ak;go_wp2;go_roundw
      .have aC:=ae.i;rw[if_neg ak]at aC;exact⟨d+1,f*10,h.set j (U+G),by omega,by go_num,by omega,by omega,by go_num,a_ (by rw[vC];exact q.e),p.f.Z q.e j _ (by omega),p.g.setCell (by simp) _,a_ ⟨aC,ae.f⟩⟩
      simp[intOf];omega
    .have ab:=a_ u;obtain⟨a2,aS,bl,bj⟩:=B.cells;have bA:=B.oz (.bool false);have aL:∃b∈a.data.toList,¬l8 b:=⟨b,List.mem_of_getElem? aF.e,u⟩;have E:Below w.heap.size w wr:=Below.trans hS ((by rw[<-N.e];exact o:Below (w.heap.size+1) (w.alloc (.cells #[.bool false,.slice none 0 0] 171)) wr).mono (by omega));have ag:=b_ aL E;clear k o B aL E u;by_cases bw:b.toNat<48
     .have X:decide ((b.toNat:Int)<48)=true:=jm (by omega);have aH:decide (b.toNat<48)=true:=jm (by omega);go_wp2_with fail;refine ig (v:=.tuple #[.agg #[.bool false,.slice none 0 0],.bool false]) ?_ rfl ?_
      .obtain⟨M,R,-,-⟩:=(p.l.put (.bool false) (.slice none 0 0)).cells;(simp[results,Tryz.results198,go_sem,M,R];done)
      .exact⟨_,_,rfl,qZ.bad x.f ag.f ((ag.i.setCell (by simp) _).setCell (by simp) _)⟩
     .have X:decide ((b.toNat:Int)<48)=false:=ic (by omega);have ap:decide (57<(b.toNat:Int))=true:=jm (by have:=ab.e;unfold l8 at this;omega);have aH:decide (b.toNat<48)=false:=ic (by omega);have aW:decide (57<b.toNat)=true:=jm (by have:=ab.e;unfold l8 at this;omega);go_wp2_with fail;refine ig (v:=.tuple #[.agg #[.bool false,.slice none 0 0],.bool false]) ?_ rfl ?_
      .obtain⟨M,R,-,-⟩:=(p.l.put (.bool false) (.slice none 0 0)).cells;(simp[results,Tryz.results198,go_sem,M,R];done)
      .exact⟨_,_,rfl,qZ.bad x.f ag.f ((ag.i.setCell (by simp) _).setCell (by simp) _)⟩
   .have aG:d=a.size:=by omega
    have aR:=a_ aG;clear k o B aG;go_wp2_with fail;go_fit (HE (xs:=h) (w:=wr) p.f I.g);rintro i Q⟨r,rfl,W,af,aA⟩;have a7:f_ (tZ w.heap.size r):=a_ (by
     obtain⟨bc,bq,bd,d,X,ai,ap⟩:=aA;simp only[iC]at X;obtain⟨rfl,rfl,rfl⟩:=X;rw[ap];exact tZ.at_ (by omega) _ _ _ _ _)
    clear aA;obtain⟨T,aj⟩:∃T:Int,T=(if neg then-(val h:Int)else(val h:Int)):=⟨_,rfl⟩;replace W:kB Q r T h.length:=by rw[aj,ao.e];exact W
    have aM:=a_ aj;clear aj;obtain⟨F,Y,Z,P,rfl,-⟩:=id W.parts;have bh:=af.size;have A:=p.l.below af p.l.lt;have J:=hO W (p.g.trans (af.mono (by omega))) A;clear W af A;obtain⟨bo,aq⟩:=hQ Q.heap.size;have aw:=a_ aq;go_wp2_with fail;rw[<-aq];clear aq;have aO:h.length<=50000000000:=by have:=q.e;have:=g.e;omega
    go_fit (sZ (z:=T) (L:=h.length) (J.f.below hS) aO);rintro i a8⟨rfl,C⟩;have a6:=C.size;simp at a6;have aD:=(ih.new Q (.bool F) (.slice Y P.length Z) aw.e).below C (by simp;have:=aw.e;omega);have A:=J.l.below hS J.l.lt|>.below C (by simp;have:=J.l.lt;omega);obtain⟨a2,aS,-,-⟩:=aD.cells;obtain⟨bD,br,bt,bs⟩:=A.cells;have bK:=A.oz (.bool F);have ad:=hO A ((J.f.below hS).below C) C;clear aD A C;obtain⟨aa,al⟩:∃aa:ByteArray,aa=⟨(Lib.itoa T).toArray⟩:=⟨_,rfl⟩;have aY:=a_ al;rw[<-al];clear al;go_wp2_with fail;first
     |refine ig (v:=.tuple #[.agg #[.bool F,.slice Y P.length Z],.bool (aa.toList==s.toList)]) ?_ rfl ?_
     |refine ig (v:=.tuple #[.agg #[.bool F,.slice Y P.length Z],.bool (aa.toList==a.toList)]) ?_ rfl ?_
    .obtain⟨M,R,-,-⟩:=(ad.f.put (.bool F) (.slice Y P.length Z)).cells;(simp[results,Tryz.results198,go_sem,M,R];done)
    .refine⟨_,_,rfl,qZ.K7 x.f (ad.g.box ad.f.ty (by decide) (.bool F) (.slice Y P.length Z)) ?_ ?_ ?_ (Lp aY.e) a7.e⟩
     .have:=q.e;have:=g.e;have:=x.i;omega
     .have:=I.j;rw[aR.e,show a.size=a.data.toList.length from by simp,Nat.sub_self,pO]at this;rw[aM.e,this]
     .have E:Below w.heap.size w Q:=Below.trans hS ((by rw[<-N.e];exact J.g:Below (w.heap.size+1) (w.alloc (.cells #[.bool false,.slice none 0 0] 171)) Q).mono (by omega));have a1:Below w.heap.size w a8:=(E.trans (hP.alloc (by have:=E.size;omega) _)).trans (ad.l.mono (by simp;have:=E.size;omega));exact(a1.setCell (by simp) _).setCell (by simp) _
def th(ts:List (List UInt8)):List Value:=ts.map λa=>Value.string ⟨a.toArray⟩
def nF(B:Nat)(w:World)(v:Value)(ts:List (List UInt8)):Prop:=w.ownsRow B 9 1 v ts.length (th ts)
theorem nF.nil(B:Nat)(w:World):nF B w (.slice none 0 0) []:=oI _ _ _ _
theorem nF.below{B:Nat}{w:World}{v:Value}{ts:List (List UInt8)}(h:nF B w v ts)(g:Below w.heap.size w W):nF B W v ts:=by
 refine⟨h.1,?_⟩;rcases h.2 with j|⟨a,i,f,d,c,b,e⟩
 .exact .inl j
 .exact .inr ⟨a,i,f,d,c,by rw[g.block a (jt.1 b).1];exact b,e⟩
theorem nF.shape{B:Nat}{w:World}{v:Value}{ts:List (List UInt8)}(h:nF B w v ts):∃d b,v=.slice d ts.length b/\ts.length<=b/\b<=9223372036854775807/\(∀a,a<ts.length->∃c,d=some ⟨c,0,none⟩/\w.cell? ⟨c,a,none⟩=some (.string ⟨(ts.getD a []).toArray⟩)):=by
 have f:=h;rcases h.2 with⟨rfl,g⟩|⟨c,b,n,rfl,k,o,j,i,l,m⟩
 .rw[g];exact⟨none,0,rfl,c_,by omega,λa e=>by omega⟩
 .refine⟨_,b,rfl,j,by simpa[maxLen]using i,λa e=>⟨c,rfl,?_⟩⟩;rw[vF f a (by omega)];simp[th,List.getD,iI e]
theorem Tryz.KC:(Tryz.prog.info? 9).map (λa=>(a.zero,a.size,a.bytes))=some (some (.string ⟨#[]⟩),1,16):=by kernel_rfl
theorem vQ{w:World}{ops:Array Oper}{f:List Oper}{o:Oper}{a:Act}{Q:Exit->Act->World->Prop}(h:o.guard=none)(s x:Operand)(i:o.op=.call {callee:=.builtin .append,args:=#[s,x],argTypes:=#[127,127]}){B:Nat}{v:Value}{ts:List (List UInt8)}(l:a.eval s=v)(E:nF B w v ts)(e:Addr)(A:a.eval x=.slice (some e) 1 1)(t:List UInt8)(n:w.cell? (e.add 0)=some (.string ⟨t.toArray⟩))(F:ts.length<=60000000000)(C:B<=w.heap.size)(y:∀c b,nF B b c (ts++[t])->w.grownBy b v.ownBlock->wpList Tryz.prog ops Q f (a.put o.dst c) b):wpList Tryz.prog ops Q (o::f) a w:=by
 obtain⟨p,z,j,q,k⟩:=kO Tryz.KC;refine wC w h s x 127 i B 9 p (.string ⟨#[]⟩) 1 16 Tryz.underlying127 z j q k rfl (by decide) v ts.length (th ts) l E e 1 1 [.string ⟨t.toArray⟩] A rfl ?_ ?_ ?_ ?_ C ?_
 .intro r m d;match r,d with
  |0,d=>simp at d;subst d;exact n
 .intro m g;simp at g;subst g;rfl
 .unfold maxLen;omega
 .omega
 .intro c b u D _;refine y c b ?_ D;unfold nF;rw[show th (ts++[t])=th ts++[.string ⟨t.toArray⟩]from by simp[th],j6,nn];exact u
def iY(c:UInt8):List UInt8->List (List UInt8)
 |[]=>[[]]
 |a::b=>if a=c then[]::iY c b else match iY c b with
  |[]=>[[a]]
  |d::e=>(a::d)::e
theorem rr(c:UInt8)(a:List UInt8):iY c a≠[]:=by
 cases a with
 |nil=>simp[iY]
 |cons b d=>
  unfold iY;split
  .simp
  .split<;>simp
def glue(o:List (List UInt8))(t:List UInt8):List (List UInt8)->List (List UInt8)
 |[]=>o++[t]
 |a::b=>o++((t++a)::b)
theorem Gb{o:List (List UInt8)}{t:List UInt8}{c:UInt8}(r:List UInt8):glue o t (iY c (c::r))=glue (o++[t]) [] (iY c r):=by
 have a:iY c (c::r)=[]::iY c r:=by rw[iY,if_pos rfl]
 rw[a]
 cases h:iY c r with
 |nil=>exact absurd h (rr c r)
 |cons d b=>simp[glue]
theorem HV{o:List (List UInt8)}{t:List UInt8}{c x:UInt8}(a:x≠c)(r:List UInt8):glue o t (iY c (x::r))=glue o (t++[x]) (iY c r):=by
 rw[iY,if_neg a]
 cases h:iY c r with
 |nil=>exact absurd h (rr c r)
 |cons b d=>simp[glue]
theorem vw(c:UInt8)(a:List UInt8):(iY c a).length<=a.length+1:=by
 induction a with
 |nil=>simp[iY]
 |cons g d b=>
  unfold iY;split
  .simp;omega
  .cases h:iY c d with
   |nil=>simp
   |cons f e=>rw[h]at b;simp at b|-;omega
theorem GY(s:ByteArray)(k:Nat)(a:k<s.size):s.extract k (k+1)=⟨[s[k]'a].toArray⟩:=by
 apply zR;have b:(s.extract k (k+1)).data.toList=[s[k]'a]:=by
  rw[ByteArray.data_extract,Array.toList_extract,Cj,w4,ow (show k<s.data.toList.length from by simpa using a)];rfl
 rw[<-Array.toArray_toList (xs:=(s.extract k (k+1)).data),b]
def JE(c:UInt8)(s:ByteArray)(w a:World)(v:Value):Prop:=nF w.heap.size a v (iY c s.data.toList)/\Below w.heap.size w a
theorem u6{s:ByteArray}{c:UInt8}{w:World}(P:s.size<=50000000000):Calls Tryz.prog 196 #[.string s,.int .u8 (c.toNat:Nat)] w λy l=>∃D,y=.returned D/\JE c s w l D:=by
 go_in;go_wp2_with fail;go_loopw [5,6,7] (λI H r wr=>∃(a:Nat) (e:List (List UInt8)) (b:List UInt8),a<=s.size/\r=.int .i64 a/\H=.string ⟨b.toArray⟩/\b.length<=a/\e.length<=a/\nF w.heap.size wr I e/\Below w.heap.size w wr/\f_ (glue e b (iY c (s.data.toList.drop a))=iY c s.data.toList)) (λ_ _ r _=>s.size-(intOf r).toNat)
 case atStart=>
  refine⟨0,[],[],hR,rfl,rfl,by simp,by simp,nF.nil _ _,hP,a_ ?_⟩;rw[pO]
  cases h:iY c s.data.toList with
  |nil=>exact absurd h (rr _ _)
  |cons T N=>simp[glue]
 case round=>
  obtain⟨a,e,b,Q,rfl,rfl,R,O,F,p,v⟩:=hrel;have A:=p.size;have d:=b_ F p;clear F p;by_cases n:a<s.size
  .obtain⟨f,o⟩:=hQ (s[a]'n);have z:s.data.toList.drop a=f::s.data.toList.drop (a+1):=by
    rw[ow (show a<s.data.toList.length from by simpa using n),o];rfl
   have S:(s[a]'n).toNat=f.toNat:=by rw[o]
   have x:s.extract a (a+1)=⟨[f].toArray⟩:=by rw[o];exact GY s a n
   have C:=a_ z;have L:=a_ x;have M:(a:Int)<(s.size:Int):=by omega
   clear o z x;by_cases g:f=c
   .have G:((f.toNat:Int)==(c.toNat:Int))=true:=jY.2 (by rw[g]);have q:=a_ g;clear g;go_wp2_with (at_builtin;refine vQ rfl _ _ rfl (B:=w.heap.size) (ts:=e) rfl ?_ ⟨_,0,none⟩ rfl b ?_ ?_ ?_ ?_)
    .exact kK d.f _
    .simp[Addr.add]
    .omega
    .simp;omega
    intro J l i j;have m:Below w.heap.size w l:=(d.i.alloc A _).grown j (by simp;omega) (λt u=>(kF d.f t u).1);have k:=b_ i m;clear i j m;go_wp2;go_roundw
    .refine⟨a+1,e++[b],[],by omega,by go_num,rfl,by simp,by simp;omega,k.f,k.i,a_ ?_⟩;have:=v.e;rw[C.e,q.e,Gb]at this;exact this
    simp[intOf];omega
   .have G:((f.toNat:Int)==(c.toNat:Int))=false:=iK.2 (λy=>g (UInt8.toNat_inj.1 (by omega)));have q:=a_ g;clear g;go_wp2;go_roundw
    .refine⟨a+1,e,b++[f],by omega,by go_num,?_,by simp;omega,by omega,d.f,d.i,a_ ?_⟩
     .rw[L.e];exact wx (sG b [f])
     .have:=v.e;rw[C.e,HV q.e]at this;exact this
    simp[intOf];omega
  .have E:a=s.size:=by omega
   have K:=a_ E;clear E;go_wp2_with (at_builtin;refine vQ rfl _ _ rfl (B:=w.heap.size) (ts:=e) rfl ?_ ⟨_,0,none⟩ rfl b ?_ ?_ ?_ ?_)
   .exact kK d.f _
   .simp[Addr.add]
   .omega
   .simp;omega
   intro J l i j;have m:Below w.heap.size w l:=(d.i.alloc A _).grown j (by simp;omega) (λt u=>(kF d.f t u).1);have k:=b_ i m;clear i j m;go_wp2;go_ret;refine⟨_,rfl,?_,k.i⟩;have:=v.e;rw[K.e,lA (by simp)]at this;simp only[iY,glue,rV]at this;rw[<-this];exact k.f
def mq(a:List UInt8):Prop:=a≠[]/\a.length<=2/\(∀c∈a,l8 c)/\(a.length=2->∀b d,a=b::d->b.toNat≠48)
def GF(a:List UInt8)(i:Int):Prop:=(i=-1/\¬mq a)\/(i=(k6 a:Int)/\mq a/\i<=99)
theorem DA(a:List UInt8)(k:Nat)(b:k<a.length):k6 (a.take (k+1))=10*k6 (a.take k)+(a[k].toNat-48):=by
 rw[oW b,x9]
theorem zJ{s:ByteArray}{w:World}(an:s.size<=50000000000):Calls Tryz.prog 197 #[.string s] w λz Y=>∃m,z=.returned (.int .i64 m)/\GF s.data.toList m/\Below w.heap.size w Y:=by
 have J:s.data.toList.length=s.size:=by simp
 have j:=a_ J;clear J;by_cases x:s.size=0
 .have W:(s.size:Int)<1:=by omega
  have X:=a_ x;clear x;go_in;go_wp2;go_ret;exact⟨_,rfl,.inl ⟨rfl,λc=>c.1 (lp (by have:=j.e;have:=X.e;omega))⟩,hP⟩
 .by_cases C:2<s.size
  .have W:(2:Int)<(s.size:Int):=by omega
   have P:decide ((s.size:Int)<1)=false:=ic (by omega);have ac:=a_ C;clear x;go_in;go_wp2;go_ret;exact⟨_,rfl,.inl ⟨rfl,λc=>by have:=c.2.1;have:=j.e;have:=ac.e;omega⟩,hP⟩
  .have y:0<s.size:=by omega
   have ao:decide ((s.size:Int)<1)=false:=ic (by omega);have P:decide ((2:Int)<(s.size:Int))=false:=ic (by omega);have aq:s.size<=2:=by omega
   have ah:(s.size:Int)<=2:=by omega
   obtain⟨l,n⟩:=hQ (s[0]'y);have ag:(s[0]'y).toNat=l.toNat:=by rw[n]
   have E:∃t,s.data.toList=l::t:=⟨_,by rw[n];exact head_tail s y⟩;have I:=a_ E;clear x C n E;by_cases v:s.size=2/\l.toNat=48
   .have G:((s.size:Int)==2)=true:=jY.2 (by omega);have U:((l.toNat:Int)==48)=true:=jY.2 (by omega);have r:=a_ v;clear v;go_in;go_wp2_with fail;try go_quiet (fail)
    try go_wp2
    go_ret;refine⟨_,rfl,.inl ⟨rfl,λc=>?_⟩,?_⟩
    .obtain⟨t,k⟩:=I.e;exact c.2.2.2 (by have:=j.e;have:=r.e;omega) l t k r.i
    .first|exact hP|exact im hP _
   .have Q:s.size=1\/(s.size=2/\((l.toNat:Int)==48)=false):=by
     by_cases d:s.size=1
     .exact .inl d
     .exact .inr ⟨by omega,iK.2 (by omega)⟩
    have r:=a_ v;clear v;rcases Q with d|⟨d,U⟩
    case' inl=>have G:((s.size:Int)==2)=false:=iK.2 (by omega)
    case' inr=>have G:((s.size:Int)==2)=true:=jY.2 (by omega)
    all_goals
     have ak:=a_ d;clear d;go_in;go_wp2_with fail;go_loop [3,4] (λad m=>∃(a f:Nat),a<=s.size/\m=.int .i64 a/\ad=.int .i64 f/\f<=99/\(a<=1->f<=9)/\(a=0->f=0)/\f_ (f=k6 (s.data.toList.take a)/\∀u∈s.data.toList.take a,l8 u)) (λ_ m=>s.size-(intOf m).toNat)
     case atStart=>exact⟨0,0,hR,rfl,rfl,by omega,by omega,λ_=>rfl,a_ ⟨rfl,λu e=>by simp at e⟩⟩
     case round=>
      obtain⟨a,f,al,rfl,rfl,ae,S,N,B⟩:=hrel;by_cases g:a<s.size
      .obtain⟨b,p⟩:=hQ (s[a]'g);have am:(s[a]'g).toNat=b.toNat:=by rw[p]
       have H:b∈s.data.toList:=by rw[p];exact List.mem_of_getElem (i:=a) (h:=by simpa using g) rfl
       have L:k6 (s.data.toList.take (a+1))=10*k6 (s.data.toList.take a)+(b.toNat-48):=by
        rw[DA _ a (by simpa using g),p];rfl
       have F:s.data.toList.take (a+1)=s.data.toList.take a++[b]:=by
        rw[oW (show a<s.data.toList.length from by simpa using g),p];rfl
       have q:=hO H L F;have af:(a:Int)<(s.size:Int):=by omega
       clear p H L F;by_cases o:b.toNat<48
       .have R:decide ((b.toNat:Int)<48)=true:=jm (by omega);have aa:decide (b.toNat<48)=true:=jm (by omega);have A:=a_ o;clear o;go_wp2;go_ret;exact⟨_,rfl,.inl ⟨rfl,λc=>by have:=(c.2.2.1 b q.f).1;have:=A.e;omega⟩,hP⟩
       .have R:decide ((b.toNat:Int)<48)=false:=ic (by omega);have aa:decide (b.toNat<48)=false:=ic (by omega);by_cases D:57<b.toNat
        .have T:decide (57<(b.toNat:Int))=true:=jm (by omega);have Z:decide (57<b.toNat)=true:=jm (by omega);have A:=a_ D;clear o D;go_wp2;go_ret;exact⟨_,rfl,.inl ⟨rfl,λc=>by have:=(c.2.2.1 b q.f).2;have:=A.e;omega⟩,hP⟩
        .have T:decide (57<(b.toNat:Int))=false:=ic (by omega);have Z:decide (57<b.toNat)=false:=ic (by omega);have ab:48<=b.toNat:=by omega
         have O:b.toNat<=57:=by omega
         have ap:f<=9:=S (by omega);clear o D;go_wp2_with fail;go_round
         case measure=>simp[intOf];omega
         case rel=>
          refine⟨a+1,10*f+(b.toNat-48),by omega,by go_num,by go_num,by omega,?_,by omega,a_ ⟨?_,?_⟩⟩
          .intro c;have:=N (by omega);omega
          .rw[q.g,B.f]
          .rw[q.l];intro u e;rcases ji.1 e with e|e
           .exact B.i u e
           .rw[rM]at e;rw[e];exact⟨ab,O⟩
      .have aj:decide (a<s.size)=false:=ic g;have o:decide ((a:Int)<(s.size:Int))=false:=ic (by omega);have K:a=s.size:=by omega
       have V:=a_ K;clear K g;go_wp2;go_ret;have d:=B.e;rw[V.e,ka (by simp)]at d;refine⟨_,rfl,.inr ⟨by rw[d.1],⟨?_,by have:=j.e;omega,d.2,?_⟩,by omega⟩,hP⟩
       .intro z;have:=j.e;rw[z]at this;simp at this;omega
       .intro C ar ai M n;obtain⟨t,k⟩:=I.e;rw[M]at k;injection k with k _
        rw[k]at n;exact r.e ⟨by have:=j.e;omega,n⟩
theorem uW{P:Program}{ops:Array Oper}{o:Oper}{a:Act}{w:World}{K:Act->World->Prop}{Q:Exit->Act->World->Prop}{E:Prop}(B:o.guard=none)(s x:Operand){t:TypeId}(l:o.op=Op.call {callee:=Callee.builtin Builtin.append,args:=#[s,x],argTypes:=#[t,t]})(base:Nat){e:TypeId}(i:TypeInfo)(z:Value)(size j:Nat)(J:P.underlying t=some (.slice e))(S:P.info? e=some i)(y:i.zero=some z)(R:i.size=size)(A:i.bytes=j)(N:z.cells.size=size)(U:0<size)(v:Value)(n:Nat)(xs:List Value)(D:a.eval s=v)(T:w.ownsRow base e size v n xs)(h:Addr)(m c:Nat)(b:List Value)(O:a.eval x=.slice (some h) m c)(q:b.length=m*size)(G:∀k f,b[k]?=some f->w.cell? (h.add k)=some f)(C:∀f∈b,f.oneCell'=true)(H:n+m<=maxLen)(p:(n+m)*j<=140737488355328)(F:base<=w.heap.size)(L:∀g d,d.ownsRow base e size g (n+m) (xs++b)->w.grownBy d v.ownBlock->K (a.put o.dst g) d):if Region.wanted o (yielded ops a.tmps)=true then Oper.wp P o a w K Q else E:=by
 have u:Region.wanted o (yielded ops a.tmps)=true:=by simp[Region.wanted,B]
 rw[if_pos u];obtain⟨g,d,I,r,M,_⟩:=run_append_own (P:=P) w base t o.type e i z size j J S y R A N U v n xs T h m c b q G C H p F;unfold Oper.wp;simp[execOp,l,resolve,invoke,builtin,D,O,I,Result.andThen];exact L g d r M
def pI(B:Nat)(w:World)(g c:Nat)(f:Nat->Int)(L:Nat):Prop:=∃a:Array Value,w.heap[g]?=some (.cells a 171 (0,0))/\a.size=2*c/\∀b,b<c->∃e d,a[2*b]?=some e/\a[2*b+1]?=some d/\kB w (.agg #[e,d]) (f b) L/\tZ B (.agg #[e,d])
def uz(n c:Nat)(a:Nat->Nat):List Value:=(List.range n).map λb=>Value.slice (some ⟨a b,0,none⟩) c c
def pZ(B:Nat)(w:World)(v:Value)(n c:Nat)(b:Nat->Nat)(f:Nat->Nat->Int)(L:Nat):Prop:=w.ownsRow B 202 1 v n (uz n c b)/\(∀a,a<n->B<=b a/\pI B w (b a) c (f a) L)/\(∀a d,a<d->d<n->b a<b d)
def jO(B:Nat)(w:World)(b r c:Nat)(d:Nat->Nat)(f:Nat->Nat->Int)(L:Nat):Prop:=B<=b/\∃a,w.heap[b]?=some (.cells #[.int .i64 r,.int .i64 c,a] 178 (0,0))/\pZ B w a r c d f L
def KR(w d:World):Prop:=∀(c:Nat) (b:Array Value) (a:TypeId),(a=3\/a=171\/a=202\/a=178)->w.heap[c]?=some (.cells b a (0,0))->d.heap[c]?=some (.cells b a (0,0))
theorem KR.I{w:World}(h:Below w.heap.size w v):KR w v:=λb d c _ a=>by rw[h.block b (jt.1 a).1];exact a
def KQ(w d:World):Prop:=∀(c:Nat) (b:Array Value) (a:TypeId),(a=3\/a=171\/a=202)->w.heap[c]?=some (.cells b a (0,0))->d.heap[c]?=some (.cells b a (0,0))
theorem KR.kq{w:World}(h:KR w v):KQ w v:=λe c b a d=>h e c b (by rcases a with h|h|h;exact .inl h;exact .inr (.inl h);exact .inr (.inr (.inl h))) d
theorem KQ.ki{w:World}(h:KQ w v):KI w v:=λa c b=>h a c _ (.inl rfl) b
theorem KQ.setCell{w:World}{b o:Nat}{t:TypeId}(e:Ty w b t)(c:t≠3/\t≠171/\t≠202)(u:Value):KQ w (w.setCell ⟨b,o,none⟩ u):=by
 intro i k l f d;rw[js _ _ _ _ ?_]
 .exact d
 .intro g;have h:i=b:=by simpa using g
  subst h;obtain⟨m,j,a⟩:=e;rw[d]at a;simp only[iH,ur]at a;rcases f with rfl|rfl|rfl
  .exact c.1 a.2.1.symm
  .exact c.2.1 a.2.1.symm
  .exact c.2.2 a.2.1.symm
theorem pI.hV{B:Nat}{w:World}{g c:Nat}{f:Nat->Int}{L:Nat}(h:pI B w g c f L)(a:KQ w v):pI B v g c f L:=by
 obtain⟨b,m,n,q⟩:=h;refine⟨b,a g b _ (.inr (.inl rfl)) m,n,λk i=>?_⟩;obtain⟨o,d,p,e,j,l⟩:=q k i;exact⟨o,d,p,e,j.hV a.ki,l⟩
theorem pI.lt{B:Nat}{w:World}{g c:Nat}{f:Nat->Int}{L:Nat}(h:pI B w g c f L):g<w.heap.size:=by
 obtain⟨b,a,-⟩:=h;exact(jt.1 a).1
theorem pZ.hV{B:Nat}{w:World}{v:Value}{n c:Nat}{f:Nat->Nat->Int}{L:Nat}(h:pZ B w v n c o f L)(a:KQ w W):pZ B W v n c o f L:=by
 refine⟨⟨h.1.1,?_⟩,λg e=>⟨(h.2.1 g e).1,(h.2.1 g e).2.hV a⟩,h.2.2⟩;rcases h.1.2 with j|⟨b,p,d,k,i,m,l⟩
 .exact .inl j
 .exact .inr ⟨b,p,d,k,i,a b d _ (.inr (.inr rfl)) m,l⟩
theorem jO.hV{B:Nat}{w:World}{b r c:Nat}{f:Nat->Nat->Int}{L:Nat}(h:jO B w b r c o f L)(a:KR w v):jO B v b r c o f L:=by
 obtain⟨d,i,e,g⟩:=h;exact⟨d,i,a b _ _ (.inr (.inr (.inr rfl))) e,g.hV a.kq⟩
theorem pZ.nil(B:Nat)(w:World)(c:Nat)(a:Nat->Nat)(f:Nat->Nat->Int)(L:Nat):pZ B w (.slice none 0 0) 0 c a f L:=⟨oI _ _ _ _,λb e=>by omega,λb d _ g=>by omega⟩
theorem pZ.shape{B:Nat}{w:World}{v:Value}{n c:Nat}{f:Nat->Nat->Int}{L:Nat}(h:pZ B w v n c o f L):∃e b,v=.slice e n b/\n<=b/\b<=9223372036854775807/\(∀a,a<n->∃d,e=some ⟨d,0,none⟩/\w.cell? ⟨d,a,none⟩=some (.slice (some ⟨o a,0,none⟩) c c)):=by
 rcases h.1.2 with⟨rfl,j⟩|⟨d,b,q,rfl,m,r,i,k,p,l⟩
 .subst j;exact⟨none,0,rfl,c_,by omega,λa g=>by omega⟩
 .refine⟨_,b,rfl,i,by simpa[maxLen]using k,λa g=>⟨d,rfl,?_⟩⟩;rw[vF h.1 a (by omega)];simp[uz,g]
theorem BK(n c:Nat)(b:Nat->Nat)(g:Nat):uz n c b++[Value.slice (some ⟨g,0,none⟩) c c]=uz (n+1) c (λa=>if a=n then g else b a):=by
 unfold uz;rw[lW,kT,tL];simp only[if_true];congr 1;apply pN;intro a d;have:=jB.1 d;rw[if_neg (by omega)]
theorem Tryz.yi:(Tryz.prog.info? 171).map (λa=>(a.zero,a.size,a.bytes))=some (some (.agg #[.bool false,.slice none 0 0]),2,32):=by kernel_rfl
theorem Tryz.HP:(Tryz.prog.info? 202).map (λa=>(a.zero,a.size,a.bytes))=some (some (.slice none 0 0),1,24):=by kernel_rfl
def u2(c:Nat):Array Value:=madeCells #[Value.bool false,.slice none 0 0] (c*2)
theorem EF(c:Nat)(h:c<=1000000)(w:World):(Instr.makeSlice 202 (.int .i64 (c:Int)) (.int .i64 (c:Int))).run Tryz.prog w=.ok (.slice (some ⟨w.heap.size,0,none⟩) c c) (w.alloc (.cells (u2 c) 171)):=by
 obtain⟨g,e,d,b,f⟩:=kO Tryz.yi;have a:=run_make (P:=Tryz.prog) w 202 171 g (.agg #[.bool false,.slice none 0 0]) Tryz.underlying202 e d .i64 .i64 c c (by omega) (xz _) (by rw[f];omega) (by omega);simp only[D7,b]at a;exact a
theorem HO(B:Nat)(w:World)(g c:Nat)(L:Nat)(h:w.heap[g]?=some (.cells (u2 c) 171 (0,0))):pI B w g c (λ_=>0) L:=by
 refine⟨u2 c,h,by simp[u2,size_madeCells];omega,λa b=>⟨.bool false,.slice none 0 0,?_,?_,⟨false,_,[],rfl,Own.nil _,⟨mz,.inl rfl⟩,by simp,by simp[val],by simp⟩,tZ.none _ _ _ _⟩⟩
 .simp[u2,madeCells,show 2*a<c*2 from by omega,show 2*a%2=0 from by omega]
 .simp[u2,madeCells,show 2*a+1<c*2 from by omega,show(2*a+1)%2=1 from by omega]
def DH(w:World)(b r c n:Nat)(v:Value)(B:Nat)(a:Nat->Nat)(f:Nat->Nat->Int)(L:Nat):Prop:=w.heap[b]?=some (.cells #[.int .i64 r,.int .i64 c,v] 178 (0,0))/\pZ B w v n c a f L
theorem DH.cells{w:World}{b r c n:Nat}{v:Value}{B:Nat}{f:Nat->Nat->Int}{L:Nat}(h:DH w b r c n v B o f L):w.cell? ⟨b,0,none⟩=some (.int .i64 r)/\w.cell? ⟨b,1,none⟩=some (.int .i64 c)/\w.cell? ⟨b,2,none⟩=some v/\(∀a,w.frozen? ⟨b,a,none⟩=false):=by
 have d:=h.1;refine⟨?_,?_,?_,λa=>?_⟩<;>simp[World.cell?,World.frozen?,d]
theorem DH.lt{w:World}{b r c n:Nat}{v:Value}{B:Nat}{f:Nat->Nat->Int}{L:Nat}(h:DH w b r c n v B o f L):b<w.heap.size:=(jt.1 h.1).1
def CE(W:World)(b r c n:Nat)(v:Value)(B:Nat)(L:Nat)(d:Value)(a:World):Prop:=W.grownBy a v.ownBlock/\a.heap[b]?=some (.cells #[.int .i64 r,.int .i64 c,v] 178 (0,0))/\∃e,pZ B a d (n+1) c e (λ_ _=>0) L
theorem A8{B:Nat}{w:World}{v:Value}{n c:Nat}{f:Nat->Nat->Int}{L:Nat}(h:pZ B w v n c o f L):∀a,v.ownBlock=some a->B<=a/\Ty w a 202:=by
 intro a b;rcases h.1.2 with⟨rfl,_⟩|⟨g,k,j,rfl,d,e,i⟩
 .simp[Value.ownBlock]at b
 .simp[Value.ownBlock]at b;subst b;exact⟨d,_,_,e⟩
theorem pj{w:World}{b:Nat}{t u:TypeId}{d:Array Value}(h:w.heap[b]?=some (.cells d u (0,0)))(c:Ty w b t):u=t:=by
 obtain⟨f,e,a⟩:=c;rw[h]at a;simp only[iH,ur]at a;exact a.2.1
theorem Fw{W X:World}{b r c n B L g:Nat}{v:Value}(h:DH W b r c n v B o (λ_ _=>0) L)(d:Below W.heap.size W X)(Z:W.heap.size<=g)(J:X.heap[g]?=some (.cells (u2 c) 171 (0,0)))(T:B<=g)(N:w.ownsRow B 202 1 x (n+1) (uz n c o++[Value.slice (some ⟨g,0,none⟩) c c]))(i:X.grownBy w v.ownBlock):CE W b r c n v B L x w:=by
 have U:=A8 h.2;have V:=d.size;have l:∀(a:Nat) (j:Array Value) (k:TypeId),k≠202->X.heap[a]?=some (.cells j k (0,0))->w.heap[a]?=some (.cells j k (0,0)):=by
  intro a j k P f;rw[i.block a (jt.1 f).1 ?_]
  .exact f
  .intro z;have q:=(U a z.symm).2;have S:X.heap[a]?=W.heap[a]?:=d.block a q.lt;rw[S]at f;exact P (pj f q)
 have y:KI X w:=λa j f=>l a j _ (by decide) f;refine⟨⟨i.os.trans d.os,i.tape.trans d.tape,i.output.trans d.output,iy V i.size,λm M F=>?_⟩,l b _ _ (by decide) (by rw[d.block b h.lt];exact h.1),λa=>if a=n then g else o a,by rw[<-BK];exact N,λa aa=>?_,λa e O t=>?_⟩
 .rw[i.block m (by omega) F];exact d.block m M
 .show B<=(if a=n then g else o a)/\pI B w (if a=n then g else o a) c (λ_=>0) L;by_cases u:a=n
  .rw[if_pos u];exact⟨T,HO B w g c L (l g _ _ (by decide) J)⟩
  .rw[if_neg u];obtain⟨A,C,p,Q,E⟩:=h.2.2.1 a (by omega);have G:o a<W.heap.size:=(jt.1 p).1;refine⟨A,C,l _ _ _ (by decide) (by rw[d.block _ G];exact p),Q,λe t=>?_⟩;obtain⟨Y,R,D,K,H,I⟩:=E e t;exact⟨Y,R,D,K,(H.below d).hV y,I⟩
 .show(if a=n then g else o a)<(if e=n then g else o e);by_cases s:e=n
  .rw[if_pos s,if_neg (by omega)];have:=(h.2.2.1 a (by omega)).2.lt;omega
  .rw[if_neg s,if_neg (by omega)];exact h.2.2.2 a e O (by omega)
theorem mw{r c:Nat}{w:World}(X:r<=99)(ab:c<=99):Calls Tryz.prog 174 #[.int .i64 r,.int .i64 c] w λN u=>N=.returned (.pointer (some ⟨w.heap.size,0,none⟩))/\(∃d,jO w.heap.size u w.heap.size r c d (λ_ _=>0) 0)/\Below w.heap.size w u:=by
 have ac:=EF c (by omega);obtain⟨W,L,v,G,y⟩:=kO Tryz.HP;have l:=hY L v G y;clear L v G y;go_in;go_wp2_with fail;go_loopw [6] (λt wr=>∃(a:Nat) (f:Value) (d:Nat->Nat),a<=r/\t=.int .i64 a/\DH wr w.heap.size r c a f w.heap.size d (λ_ _=>0) 0/\Below w.heap.size w wr) (λt _=>r-(intOf t).toNat)
 case atStart=>exact⟨0,.slice none 0 0,id,hR,rfl,⟨iP w _,pZ.nil _ _ _ _ _ _⟩,hS⟩
 case round=>
  obtain⟨a,f,d,ae,rfl,m,o⟩:=hrel;have B:=o.size;have Z:=m.lt;obtain⟨S,U,z,P⟩:=m.cells;have b:=b_ m o;clear m o;by_cases af:a<r
  .go_upto_region 5 with fail
   go_cut [7]from 17 to 25 (λH O=>CE wr w.heap.size r c a f w.heap.size 0 H O)
   case first=>
    obtain⟨J,j⟩:=hQ ((((wr.alloc (.cells (u2 c) 171)).alloc (.cells #[.slice (some ⟨wr.heap.size,0,none⟩) c c] 202)).drew));have s:Below wr.heap.size wr J:=by rw[j];exact((hS).alloc (by simp) _).drew
    have A:(((wr.alloc (.cells (u2 c) 171)).alloc (.cells #[.slice (some ⟨wr.heap.size,0,none⟩) c c] 202)).drew).ownsRow w.heap.size 202 1 f a (uz a c d):=by rw[<-j];exact(b.f.2.hV (KR.I s).kq).1
    have C:∀(g:Nat) (e:Value),[Value.slice (some ⟨wr.heap.size,0,none⟩) c c][g]?=some e->(((wr.alloc (.cells (u2 c) 171)).alloc (.cells #[.slice (some ⟨wr.heap.size,0,none⟩) c c] 202)).drew).cell? (Addr.add ⟨wr.heap.size+1,0,none⟩ g)=some e:=by
     intro g e i;match g,i with
     |0,i=>
      simp at i;subst i;simp[Addr.add]
    have D:J.heap[wr.heap.size]?=some (.cells (u2 c) 171 (0,0)):=by
     rw[j];show((wr.alloc (.cells (u2 c) 171)).alloc _).heap[wr.heap.size]?=_;rw[qL _ _ _ (by simp)];exact iP wr _
    have E:∀e∈[Value.slice (some ⟨wr.heap.size,0,none⟩) c c],e.oneCell'=true:=by
     intro e K;simp at K;subst K;rfl
    obtain⟨x,M,q,-⟩:=b.f.2.shape;subst q;have h:=ju A C D E j s;have Y:=tg z;clear A C D E j s;go_region_law (refine uW rfl (.tmp 20) (.tmp 23) rfl w.heap.size W (.slice none 0 0) 1 24 Tryz.underlying176 l.f l.g l.j l.o rfl (by decide) (.slice x a M) a (uz a c d) rfl h.f ⟨wr.heap.size+1,0,none⟩ 1 1 [Value.slice (some ⟨wr.heap.size,0,none⟩) c c] rfl rfl h.g h.m (by unfold maxLen;omega) (by omega) (by simp;omega) ?_;intro H u Q R);all_goals
     go_wp2_with fail;go_meet
     case rel=>
      refine Fw b.f h.z c_ h.j B Q ?_;rw[h.r];exact R
   case rest=>
    obtain⟨F,n,V,p⟩:=hcut;obtain⟨x,M,q,-⟩:=p.shape;subst q;have I:Below w.heap.size w wc:=b.i.grown F B (λg i=>(A8 b.f.2 g i).1);have ad:wc.cell? ⟨w.heap.size,2,none⟩=some f:=by simp[World.cell?,n]
    have aa:wc.frozen? ⟨w.heap.size,2,none⟩=false:=by simp[World.frozen?,n]
    have k:=hO n p I;clear F n p I S U z P;go_wp2;go_roundw
    .refine⟨a+1,_,V,by omega,by go_num,⟨?_,k.g.hV (KQ.setCell ⟨_,_,k.f⟩ (by decide) _)⟩,k.l.setCell c_ _⟩;rw[ja _ _ _ _ _ _ k.f];simp
    simp[intOf];omega
  .have T:a=r:=by omega
   subst T;go_wp2;go_ret;exact⟨rfl,⟨d,c_,f,b.f.1,b.f.2⟩,b.i⟩
def uV(f:Nat->Nat->Int)(i j:Nat)(z:Int):Nat->Nat->Int:=λb a=>if b=i/\a=j then z else f b a
theorem KI.zv{w:World}{g o:Nat}(a:Ty w g 171)(u:Value):KI w (w.setCell ⟨g,o,none⟩ u):=KI.setCell (KI.refl _) a (by decide) u
theorem Ei{w:World}{g k:Nat}{c:Array Value}{t:TypeId}(h:w.heap[g]?=some (.cells c t (0,0)))(a b:Value):((w.setCell ⟨g,k,none⟩ a).setCell ⟨g,k+1,none⟩ b).heap[g]?=some (.cells ((c.setIfInBounds k a).setIfInBounds (k+1) b) t (0,0)):=by
 rw[ja _ _ _ _ _ _ (ja _ _ _ _ _ _ h)]
theorem pI.set{B:Nat}{w:World}{g c:Nat}{f:Nat->Int}{L:Nat}(h:pI B w g c f L){j:Nat}(y:j<c){a b:Value}{z:Int}(u:kB w (.agg #[a,b]) z L)(v:tZ B (.agg #[a,b])):pI B ((w.setCell ⟨g,2*j,none⟩ a).setCell ⟨g,2*j+1,none⟩ b) g c (λd=>if d=j then z else f d) L:=by
 obtain⟨A,k,r,x⟩:=h;have l:Ty w g 171:=⟨_,_,k⟩;have i:KI w ((w.setCell ⟨g,2*j,none⟩ a).setCell ⟨g,2*j+1,none⟩ b):=(KI.zv l a).trans (KI.zv (l.setCell _ _) b);refine⟨_,Ei k a b,by simp[r],λd p=>?_⟩;by_cases e:d=j
 .subst e;refine⟨a,b,?_,?_,by simpa using u.hV i,v⟩
  .rw[r8 (by omega),yt,if_pos (by omega)]
  .rw[yt,if_pos (by simp;omega)]
 .obtain⟨s,n,t,m,o,q⟩:=x d p;refine⟨s,n,?_,?_,by simp only[e,km];exact o.hV i,q⟩
  .rw[r8 (by omega),r8 (by omega),t]
  .rw[r8 (by omega),r8 (by omega),m]
theorem sB{w:World}{g i k:Nat}(h:i≠g)(a b:Value):((w.setCell ⟨g,k,none⟩ a).setCell ⟨g,k+1,none⟩ b).heap[i]?=w.heap[i]?:=by
 rw[js _ _ _ _ (by simpa using h),js _ _ _ _ (by simpa using h)]
theorem jO.set{B:Nat}{w:World}{b r c:Nat}{f:Nat->Nat->Int}{L:Nat}(h:jO B w b r c o f L){i j:Nat}(v:i<r)(T:j<c){x y:Value}{z:Int}(S:kB w (.agg #[x,y]) z L)(aa:tZ B (.agg #[x,y])):jO B ((w.setCell ⟨o i,2*j,none⟩ x).setCell ⟨o i,2*j+1,none⟩ y) b r c o (uV f i j z) L:=by
 obtain⟨W,O,Q,A,l,s⟩:=h;have u:=(l i v).2;obtain⟨ac,D,-⟩:=id u;have m:Ty w (o i) 171:=⟨_,_,D⟩;have C:KI w ((w.setCell ⟨o i,2*j,none⟩ x).setCell ⟨o i,2*j+1,none⟩ y):=(KI.zv m x).trans (KI.zv (m.setCell _ _) y);have t:∀(a:Nat) (p:Array Value) (d:TypeId),d≠171->w.heap[a]?=some (.cells p d (0,0))->((w.setCell ⟨o i,2*j,none⟩ x).setCell ⟨o i,2*j+1,none⟩ y).heap[a]?=some (.cells p d (0,0)):=by
  intro a p d n e;rw[sB (λg=>by subst g;exact n (pj e m))];exact e
 refine⟨W,O,t _ _ _ (by decide) Q,⟨A.1,?_⟩,λa e=>⟨(l a e).1,?_⟩,s⟩
 .rcases A.2 with k|⟨X,ab,G,R,I,Z,r⟩
  .exact .inl k
  .exact .inr ⟨X,ab,G,R,I,t _ _ _ (by decide) Z,r⟩
 .by_cases q:a=i
  .subst q;have:=u.set T S aa;have g:uV f a j z a=λb=>if b=j then z else f a b:=by
    funext b;simp[uV]
   rw[g];exact this
  .have Y:o a≠o i:=by
    rcases Nat.lt_or_gt_of_ne q with k|k
    .have:=s a i k v;omega
    .have:=s i a k e;omega
   have g:uV f i j z a=f a:=by
    funext b;simp[uV,q]
   rw[g];obtain⟨N,M,H,E⟩:=(l a e).2;refine⟨N,by rw[sB Y];exact M,H,λd n=>?_⟩;obtain⟨U,V,F,P,J,K⟩:=E d n;exact⟨U,V,F,P,J.hV C,K⟩
theorem jO.congr{B:Nat}{w:World}{b r c:Nat}{f:Nat->Nat->Int}{L:Nat}(h:jO B w b r c o f L)(j:∀a d,a<r->d<c->f a d=A a d):jO B w b r c o A L:=by
 obtain⟨x,s,u,y,g,v⟩:=h;refine⟨x,s,u,y,λa e=>⟨(g a e).1,?_⟩,v⟩;obtain⟨k,l,n,C⟩:=(g a e).2;refine⟨k,l,n,λd i=>?_⟩;obtain⟨z,b,m,t,p,q⟩:=C d i;exact⟨z,b,m,t,by rw[<-j a d e i];exact p,q⟩
theorem jO.mono{B:Nat}{w:World}{b r c:Nat}{f:Nat->Nat->Int}{L M:Nat}(h:jO B w b r c o f L)(g:L<=M):jO B w b r c o f M:=by
 obtain⟨x,p,t,y,a,v⟩:=h;refine⟨x,p,t,y,λd e=>⟨(a d e).1,?_⟩,v⟩;obtain⟨i,j,l,A⟩:=(a d e).2;refine⟨i,j,l,λs u=>?_⟩;obtain⟨z,b,k,q,m,n⟩:=A s u;exact⟨z,b,k,q,m.mono g,n⟩
theorem jO.open_{B:Nat}{w:World}{b r c:Nat}{f:Nat->Nat->Int}{L:Nat}(h:jO B w b r c o f L):b<w.heap.size/\∃g e,w.cell? ⟨b,0,none⟩=some (.int .i64 r)/\w.cell? ⟨b,1,none⟩=some (.int .i64 c)/\w.cell? ⟨b,2,none⟩=some (.slice g r e)/\r<=e/\e<=9223372036854775807/\(∀a,a<r->∃s,g=some ⟨s,0,none⟩/\w.cell? ⟨s,a,none⟩=some (.slice (some ⟨o a,0,none⟩) c c))/\(∀a d,a<r->d<c->∃l k t j,w.cell? ⟨o a,2*d,none⟩=some (.bool l)/\w.cell? ⟨o a,2*d+1,none⟩=some (.slice k t j)/\w.frozen? ⟨o a,2*d,none⟩=false/\w.frozen? ⟨o a,2*d+1,none⟩=false/\kB w (.agg #[.bool l,.slice k t j]) (f a d) L):=by
 obtain⟨J,H,m,q⟩:=h;obtain⟨g,e,rfl,y,x,u⟩:=q.shape;refine⟨(jt.1 m).1,g,e,by simp[World.cell?,m],by simp[World.cell?,m],by simp[World.cell?,m],y,x,u,λa d A C=>?_⟩;obtain⟨E,i,F,D⟩:=(q.2.1 a A).2;obtain⟨K,I,v,z,n,-⟩:=D d C;obtain⟨l,k,j,G,p,-⟩:=n.parts;simp only[j9,j_,kb,jh]at p;obtain⟨rfl,rfl⟩:=p;exact⟨l,k,_,j,by simp[World.cell?,i,v],by simp[World.cell?,i,z],by simp[World.frozen?,i],by simp[World.frozen?,i],n⟩
def num(a:List UInt8):Int:=if a.head?=some 45 then-(k6 a.tail:Int)else(k6 a:Int)
theorem ql.num{z:Int}(h:ql L z):num L=z:=by
 unfold R.num;by_cases c:∃a,L=45::a
 .obtain⟨a,rfl⟩:=c;rw[if_pos (show((45::a:List UInt8)).head?=some 45 from rfl),h.neg.2];rfl
 .rw[if_neg (λb=>?_),(h.pos (λa b=>c ⟨a,b⟩)).2]
  cases L with
  |nil=>simp at b
  |cons d a=>simp at b;exact c ⟨a,by rw[b]⟩
end R
end Go.Proofs.YtfjbijpagaipnabGreatDoor
