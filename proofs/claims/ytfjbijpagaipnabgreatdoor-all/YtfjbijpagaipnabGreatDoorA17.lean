import Derived.Test.YtfjbijpagaipnabGreatDoorA16
set_option maxRecDepth 100000
set_option maxHeartbeats 8000000
namespace Go.Proofs.YtfjbijpagaipnabGreatDoor
open Go.RowKit
variable{i j k l m n p q r s:Nat}{w v W:World}{x y z:Value}{A B F G:Nat->Nat->Int}{a b c d:Int}{P Q:Nat->Int}
def Bk(w:World)(p a b n c m:Nat):Prop:=w.heap[p]?=some (.cells #[.int .i64 n,.int .i64 c,.slice (some ⟨a,0,none⟩) (n*c) (n*c),.int .i64 n,.int .i64 m,.slice (some ⟨b,0,none⟩) (n*m) (n*m)] 133 (0,0))
theorem Bk.lP{w:World}{p n c m g1 g2 g3:Nat}(h:Bk w p i j n c m)(a:jv w v g1 g2 g3)(b:p≠g1)(d:p≠g2)(e:p≠g3):Bk v p i j n c m:=by
 unfold Bk;rw[a.block p (jt.1 h).1 b d e];exact h
theorem Bk.lt{w:World}{p n c m:Nat}(h:Bk w p i j n c m):p<w.heap.size:=(jt.1 h).1
theorem Bv{p n c m a b:Nat}{zs ts:List Int}{L K:Nat}{w:World}(h:Cw w p i j n c m zs ts L K)(v:a<n)(t:b<n):Calls Tryz.prog 127 #[.pointer (some ⟨p,0,none⟩),.int .i64 a,.int .i64 b] w λg B=>g=.returned (.tuple #[])/\∃H x,Cw B p i j n c m H x L K/\(∀e f,e<n->f<c->e_ c H e f=e_ c zs (sw a b e) f)/\(∀e f,e<n->f<m->e_ m x e f=e_ m ts (sw a b e) f)/\jv w B i j j:=by
 have d:=a_ h;clear h;go_in;go_wp2_with fail;go_fit (nI d.e.R d.e.d1 v t);rintro g r⟨rfl,⟨A,C,D⟩,q⟩;have F:KU w r:=KU.N q d.e.R.kA.ty (by decide);have s:iT r p 3 j n m ts K:=d.e.T.other q F d.e.d1 (λg=>d.e.d3 g.symm);have k:=hY C D s (jv.N (g1:=i) (g2:=j) (g3:=j) q (.inl rfl));clear C D q F s;go_wp2_with fail;go_fit (nI k.j d.e.d2 v t);rintro g E⟨rfl,⟨I,G,z⟩,o⟩;have u:KU r E:=KU.N o k.j.kA.ty (by decide);have y:iT E p 0 i n c A L:=k.f.other o u d.e.d2 d.e.d3;have l:=hY G z y (k.o.trans (jv.N (g1:=i) (g2:=j) (g3:=j) o (.inr (.inl rfl))));clear G z o u y;go_wp2;go_end0;exact⟨rfl,A,I,⟨l.j,l.f,d.e.d1,d.e.d2,d.e.d3⟩,k.g,l.g,l.o⟩
theorem H4{w:World}{p:Nat}{b c f:Value}{t:TypeId}(h:w.heap[p]?=some (.cells #[x,y,z,b,c,f] t (0,0)))(a e d:Value):(((w.setCell ⟨p,0,none⟩ a).setCell ⟨p,1,none⟩ e).setCell ⟨p,2,none⟩ d).heap[p]?=some (.cells #[a,e,d,b,c,f] t (0,0)):=by
 rw[ja _ _ _ _ _ _ (ja _ _ _ _ _ _ (ja _ _ _ _ _ _ h))];simp
theorem GM{w:World}{p:Nat}{d e f:Value}{t:TypeId}(h:w.heap[p]?=some (.cells #[x,y,z,d,e,f] t (0,0)))(a c b:Value):(((w.setCell ⟨p,3,none⟩ a).setCell ⟨p,4,none⟩ c).setCell ⟨p,5,none⟩ b).heap[p]?=some (.cells #[x,y,z,a,c,b] t (0,0)):=by
 rw[ja _ _ _ _ _ _ (ja _ _ _ _ _ _ (ja _ _ _ _ _ _ h))];simp
theorem GQ(w:World)(p a b c:Nat)(d e f:Value):w.grownBy (((w.setCell ⟨p,a,none⟩ d).setCell ⟨p,b,none⟩ e).setCell ⟨p,c,none⟩ f) (some p):=hZ (hZ (iE _ _ _ _) (iE _ _ _ _)) (iE _ _ _ _)
theorem Dv{p N n c m row:Nat}{zs ts:List Int}{L K:Nat}{w:World}(h:Cw w p i j N c m zs ts L K)(T:Bk w p i j N c m)(ap:N=n+1):Calls Tryz.prog 125 #[.pointer (some ⟨p,0,none⟩),.int .i64 row] w λQ q=>Q=.returned (.tuple #[])/\∃P M af al,Cw q p P M n c m af al L K/\Bk q p P M n c m/\(∀e l,e<n->l<c->e_ c af e l=e_ c zs (if e<row then e else e+1) l)/\(∀e l,e<n->l<m->e_ m al e l=e_ m ts (if e<row then e else e+1) l)/\w.grownBy q (some p)/\w.heap.size<=P/\w.heap.size<=M:=by
 have au:=T.lt;have x:∀q:World,Below w.heap.size w q->q.heap[p]?=some (.cells #[.int .i64 N,.int .i64 c,.slice (some ⟨i,0,none⟩) (N*c) (N*c),.int .i64 N,.int .i64 m,.slice (some ⟨j,0,none⟩) (N*m) (N*m)] 133 (0,0)):=λq aF=>(aF.block p au).trans T;obtain⟨H,ai⟩:=hQ (N*c);obtain⟨s,X⟩:=hQ (N*m);have I:=h.R.sv;have V:=h.T.sv;have C:=a_ h;rw[<-ai]at I x;rw[<-X]at V x;have A:=x w hP;have av:w.cell? ⟨p,0,none⟩=some (.int .i64 N):=by simp[World.cell?,A]
 have aD:w.cell? ⟨p,1,none⟩=some (.int .i64 c):=by simp[World.cell?,A]
 have aw:w.cell? ⟨p,2,none⟩=some (.slice (some ⟨i,0,none⟩) H H):=by simp[World.cell?,A]
 have aE:=a_ x;have ao:=b_ I V;have F:=a_ ap;clear h T x I V ai X ap A;go_in;go_wp2_with fail;go_fit (CA ao.f F.e);rintro Q b⟨v,aG,rfl,ab,am,ae,J⟩;obtain⟨B,S⟩:=hQ (n*c);rw[<-S];have Y:=a_ S;have o:=aE.e b J;have ac:∀y,b.frozen? ⟨p,y,none⟩=false:=λy=>by simp[World.frozen?,o]
 have an:b.cell? ⟨p,0,none⟩=some (.int .i64 N):=by simp[World.cell?,o]
 have ah:b.cell? ⟨p,1,none⟩=some (.int .i64 c):=by simp[World.cell?,o]
 have ak:b.cell? ⟨p,2,none⟩=some (.slice (some ⟨i,0,none⟩) H H):=by simp[World.cell?,o]
 obtain⟨k,u⟩:=hQ (((b.setCell ⟨p,0,none⟩ (.int .i64 n)).setCell ⟨p,1,none⟩ (.int .i64 c)).setCell ⟨p,2,none⟩ (.slice (some ⟨v,0,none⟩) B B));have W:k.heap[p]?=some (.cells #[.int .i64 n,.int .i64 c,.slice (some ⟨v,0,none⟩) B B,.int .i64 N,.int .i64 m,.slice (some ⟨j,0,none⟩) s s] 133 (0,0)):=by rw[u];exact H4 o _ _ _
 have ad:b.grownBy k (some p):=by rw[u];exact GQ _ _ _ _ _ _ _ _
 have z:Ty b p 133:=⟨_,_,o⟩;have ag:KT b k:=by
  rw[u];exact((KT.refl b).setCell z (by decide) (by decide) _).trans (((KT.refl _).setCell (z.setCell _ _) (by decide) (by decide) _).trans ((KT.refl _).setCell ((z.setCell _ _).setCell _ _) (by decide) (by decide) _))
 have aC:=a_ u;have a:=kM am ae J W ad ag ab;clear am ae J W ad ag ab u o z av aD aw S;go_upto_region 1 with fail
 rw[<-aC.e];clear ac an ah ak;have ay:k.cell? ⟨p,3,none⟩=some (.int .i64 N):=by simp[World.cell?,a.m]
 have ax:k.cell? ⟨p,4,none⟩=some (.int .i64 m):=by simp[World.cell?,a.m]
 have aH:k.cell? ⟨p,5,none⟩=some (.slice (some ⟨j,0,none⟩) s s):=by simp[World.cell?,a.m]
 go_wp2_with fail;go_fit (CA ((ao.i.below a.j).oJ a.y) F.e);rintro Q d⟨t,aB,rfl,aa,G,E,r⟩;obtain⟨g,R⟩:=hQ (n*m);rw[<-R];have Z:=a_ R;have aI:b.heap.size<=k.heap.size:=a.r.size;have aJ:w.heap.size<=b.heap.size:=a.j.size;have f:d.heap[p]?=_:=(r.block p (by omega)).trans a.m;have ac:∀y,d.frozen? ⟨p,y,none⟩=false:=λy=>by simp[World.frozen?,f]
 have an:d.cell? ⟨p,3,none⟩=some (.int .i64 N):=by simp[World.cell?,f]
 have ah:d.cell? ⟨p,4,none⟩=some (.int .i64 m):=by simp[World.cell?,f]
 have ak:d.cell? ⟨p,5,none⟩=some (.slice (some ⟨j,0,none⟩) s s):=by simp[World.cell?,f]
 have aA:=iu f G E r aa;clear f G E r R ay ax aH;go_wp2;go_end0;obtain⟨f,G,E,r,aa⟩:=aA.e;have D:=GM f (.int .i64 n) (.int .i64 m) (.slice (some ⟨t,0,none⟩) g g);have aj:=GQ d p 3 4 5 (.int .i64 n) (.int .i64 m) (.slice (some ⟨t,0,none⟩) g g);have O:Ty d p 133:=⟨_,_,f⟩;have U:KT d (((d.setCell ⟨p,3,none⟩ (.int .i64 n)).setCell ⟨p,4,none⟩ (.int .i64 m)).setCell ⟨p,5,none⟩ (.slice (some ⟨t,0,none⟩) g g)):=
  ((KT.refl d).setCell O (by decide) (by decide) _).trans (((KT.refl _).setCell (O.setCell _ _) (by decide) (by decide) _).trans ((KT.refl _).setCell ((O.setCell _ _).setCell _ _) (by decide) (by decide) _))
 generalize((d.setCell ⟨p,3,none⟩ (.int .i64 n)).setCell ⟨p,4,none⟩ (.int .i64 m)).setCell ⟨p,5,none⟩ (.slice (some ⟨t,0,none⟩) g g)=az at D aj U|-;have aK:v<b.heap.size:=a.f.ty.lt;have aq:KT b az:=(a.y.trans (KT.I r)).trans U;have ar:w.heap.size<=v:=a.C;refine⟨rfl,v,t,aG,aB,⟨⟨by have:=C.e.R.hr;have:=F.e;omega,C.e.R.hc,?_,a.f.hV aq⟩,⟨by have:=C.e.R.hr;have:=F.e;omega,C.e.T.hc,?_,G.hV U⟩,by omega,by omega,by omega⟩,?_,a.g,E,?_,ar,by omega⟩
 .rw[<-Y.e];refine⟨?_,?_,?_⟩<;>simp[World.cell?,D]
 .rw[<-Z.e];refine⟨?_,?_,?_⟩<;>simp[World.cell?,D]
 .unfold Bk;rw[<-Y.e,<-Z.e];exact D
 .exact hZ (hZ (hZ (ib (jM _ _) a.j) a.r) (ib (jM _ _) r)) aj
namespace R
def ip(c:Nat)(x y:Nat->Int):Int:=sm (λa=>x a*y a) c
def gm(c:Nat)(xs ys:List (Nat->Int)):Int:=mv (xs.map (λa=>λb=>ip c a (ys.getD b (λ_=>0)))) (List.range ys.length)
def Fq(c:Nat)(b:Nat->Nat->Int)(q:Nat)(x y:Nat->Int):Int:=gm c ((List.range q).map b++[x]) ((List.range q).map b++[y])
def iv(c:Nat)(b:Nat->Nat->Int)(q:Nat):Int:=gm c ((List.range q).map b) ((List.range q).map b)
theorem lv(c:Nat)(b:Nat->Nat->Int)(q:Nat):iv c b (q+1)=Fq c b q (b q) (b q):=by
 unfold iv Fq;rw[lW,kT,tL]
theorem py(c:Nat)(x y:Nat->Int):ip c x y=ip c y x:=iq c (λ_ _=>wa _ _)
theorem qM(c:Nat)(b:Nat->Nat->Int):iv c b 0=1:=by simp[iv,gm,mv]
theorem y_(c:Nat)(b:Nat->Nat->Int)(x y:Nat->Int):Fq c b 0 x y=ip c x y:=by simp[Fq,gm,mv,jP,signed]
theorem wH(c:Nat)(b:Nat->Nat->Int)(q:Nat)(m:q<=2)(x y:Nat->Int):Fq c b (q+1) x y*iv c b q=Fq c b q x y*iv c b (q+1)-Fq c b q x (b q)*Fq c b q (b q) y:=by
 match q,m with
 |0,_=>
  simp[iv,Fq,gm,mv,jP,signed,lW];rw[py c (b 0) y];grind[py]
 |1,_=>
  simp[iv,Fq,gm,mv,jP,signed,lW];generalize ip c (b 0) (b 0)=g;generalize a:ip c (b 0) (b 1)=n;rw[py c (b 1) (b 0),a];generalize ip c (b 1) (b 1)=d;generalize ip c (b 0) y=e;generalize ip c (b 1) y=k;generalize ip c x (b 0)=h;generalize ip c x (b 1)=i;generalize ip c x y=j;grind
 |2,_=>
  simp[iv,Fq,gm,mv,jP,signed,lW];generalize ip c (b 0) (b 0)=g;generalize a:ip c (b 0) (b 1)=n;rw[py c (b 1) (b 0),a];generalize f:ip c (b 0) (b 2)=s;rw[py c (b 2) (b 0),f];generalize l:ip c (b 1) (b 2)=t;rw[py c (b 2) (b 1),l];generalize ip c (b 1) (b 1)=d;generalize ip c (b 2) (b 2)=p;generalize ip c (b 0) y=e;generalize ip c (b 1) y=k;generalize ip c (b 2) y=r;generalize ip c x (b 0)=h;generalize ip c x (b 1)=i;generalize ip c x (b 2)=o;generalize ip c x y=j;grind
theorem Ju(c:Nat)(s t:Int)(x y z:Nat->Int):ip c (λa=>s*x a+t*y a) z=s*ip c x z+t*ip c y z:=by
 unfold ip;rw[<-rP];exact iq c (λb _=>by grind)
theorem EM(c:Nat)(s t:Int)(x y:Nat->Int)(xs zs ys:List (Nat->Int)):gm c (xs++(λa=>s*x a+t*y a)::zs) ys=s*gm c (xs++x::zs) ys+t*gm c (xs++y::zs) ys:=by
 unfold gm;simp only[kT,nr];rw[<-yG];congr 3;funext a;exact Ju c s t x y _
theorem CH(c:Nat)(u:Nat->Int)(xs zs vs ys:List (Nat->Int))(b:ys.length=xs.length+zs.length+vs.length+2)(a:ys.length<=4):gm c (xs++u::zs++u::vs) ys=0:=by
 unfold gm;simp only[kT,nr];exact vl _ (by simp;omega) (by simpa using a)
theorem Ig(c:Nat)(u v:Nat->Int)(xs zs ys:List (Nat->Int))(b:ys.length=xs.length+zs.length+2)(a:ys.length<=4):gm c (xs++u::v::zs) ys=-gm c (xs++v::u::zs) ys:=by
 unfold gm;simp only[kT,nr];exact yd _ _ _ _ _ (by simp;omega) (by simp;omega)
theorem yb(xs:List (Nat->Int))(f:(Nat->Int)->Nat->Int):xs.map f=(List.range xs.length).map (λa=>f (xs.getD a (λ_=>0))):=by
 apply sq
 .simp
 .intro a b c;have:a<xs.length:=by simpa using b
  simp[List.getD,iI this]
theorem yo(c:Nat)(xs ys:List (Nat->Int))(d:xs.length=ys.length)(e:xs.length<=4):gm c xs ys=gm c ys xs:=by
 unfold gm;rw[yb xs,yb ys,d];have:=@x_ (λa b=>ip c (ys.getD a (λ_=>0)) (xs.getD b (λ_=>0))) (List.range ys.length) (List.range ys.length) rfl (by simp;omega);rw[<-this];congr 1;refine pN (λa _=>?_);funext b;exact py c _ _
theorem Di(c:Nat)(b:Nat->Nat->Int)(q:Nat)(s t:Int)(x y z:Nat->Int):Fq c b q (λa=>s*x a+t*y a) z=s*Fq c b q x z+t*Fq c b q y z:=EM c s t x y _ [] _
theorem wP(c:Nat)(b:Nat->Nat->Int)(q:Nat)(a:q<=3)(x y:Nat->Int):Fq c b q x y=Fq c b q y x:=yo c _ _ (by simp) (by simp;omega)
theorem JZ(c:Nat)(b:Nat->Nat->Int)(q i:Nat)(h:q<=3)(f:i<q)(y:Nat->Int):Fq c b q (b i) y=0:=by
 obtain⟨d,a,e⟩:=wU (show i∈List.range q from jB.2 f);have g:d.length+a.length+1=q:=by have:=kX List.length e;simp at this;omega
 unfold Fq;have:=CH c (b i) (d.map b) (a.map b) [] ((List.range q).map b++[y]) (by simp;omega) (by simp;omega);rw[show(List.range q).map b++[b i]=d.map b++b i::a.map b++b i::[]from by rw[e];simp];exact this
theorem ED{f:Nat->Int}(n:Nat)(h:∀a,a<n->0<=f a):0<=sm f n:=by
 induction n with
 |zero=>exact xz 0
 |succ n b=>rw[sm];have:=b (λa c=>h a (by omega));have:=h n (by omega);omega
theorem q6(c:Nat)(x:Nat->Int):0<=ip c x x:=ED c (λb _=>by
 rcases Int.le_total 0 (x b)with a|a
 .exact pT a a
 .exact zm a a)
theorem CS(c:Nat)(b:Nat->Nat->Int):∀a,a<=3->(∀i,i<=a->0<iv c b i)->∀d,0<=Fq c b a d d:=by
 intro a;induction a with
 |zero=>intro _ _ d;rw[y_];exact q6 c d
 |succ a q=>
  intro s l d;have k:=q (by omega) (λi u=>l i (by omega)) (λm=>iv c b (a+1)*d m+-Fq c b a d (b a)*b a m);have o:=wH c b a (by omega) d d;have p:=l a (by omega);have r:=l (a+1) c_;rw[Di,wP c b a (by omega) d,wP c b a (by omega) (b a),Di,Di,<-lv]at k;rw[wP c b a (by omega) (b a) d]at k o;generalize Fq c b a d d=n at*;generalize Fq c b a d (b a)=g at*;generalize iv c b (a+1)=f at*;generalize iv c b a=j at*;generalize Fq c b (a+1) d d=h at*;have t:0<=f*(h*j):=by
   rw[o];have:f*(n*f-g*g)=f*(f*n+-g*g)+-g*(f*g+-g*f):=by grind
   rw[this];exact k
  have v:0<=h*j:=by
   rcases tV (h*j) 0 with e|e
   .have:=Int.mul_neg_of_pos_of_neg r e;omega
   .exact e
  rcases tV h 0 with e|e
  .have:=Int.mul_neg_of_neg_of_pos e p;omega
  .exact e
theorem I8(c:Nat)(b:Nat->Nat->Int)(q:Nat)(e:q<=2)(x:Nat->Int):Fq c b (q+1) x x*iv c b q<=Fq c b q x x*iv c b (q+1):=by
 have d:=wH c b q e x x;rw[wP c b q (by omega) (b q) x]at d;have:0<=Fq c b q x (b q)*Fq c b q x (b q):=by
  rcases Int.le_total 0 (Fq c b q x (b q))with a|a
  .exact pT a a
  .exact zm a a
 omega
theorem vS{c:Nat}{x y y':Nat->Int}(d:∀a,a<c->x a=P a)(e:∀a,a<c->y a=y' a):ip c x y=ip c P y':=iq c (λa b=>by rw[d a b,e a b])
theorem Bb{c n:Nat}{a b b':Nat->Nat->Int}(i:∀d,d<n->∀e,e<c->a d e=A d e)(j:∀d,d<n->∀e,e<c->b d e=b' d e):gm c ((List.range n).map a) ((List.range n).map b)=gm c ((List.range n).map A) ((List.range n).map b'):=by
 unfold gm;simp only[rJ,j1,List.map_map];refine As _ _ _ (by simp) (λd l k h=>?_);have g:d<n:=by simpa using l
 have f:=jB.1 h;simp[List.getD,g,f];exact vS (i d g) (j k f)
theorem mr{c q:Nat}{b b':Nat->Nat->Int}(h:∀a,a<q->∀d,d<c->b a d=b' a d):iv c b q=iv c b' q:=Bb h h
theorem C3(c:Nat)(b:Nat->Nat->Int)(q:Nat)(x y:Nat->Int):Fq c b q x y=gm c ((List.range (q+1)).map (λa=>if a=q then x else b a)) ((List.range (q+1)).map (λa=>if a=q then y else b a)):=by
 have e:∀d:Nat->Int,(List.range (q+1)).map (λa=>if a=q then d else b a)=(List.range q).map b++[d]:=λd=>by
  rw[lW,kT,tL,if_pos rfl];congr 1;exact pN (λa f=>if_neg (by have:=jB.1 f;omega))
 rw[e,e];rfl
theorem zq{c q:Nat}{b b':Nat->Nat->Int}{x y y':Nat->Int}(h:∀e,e<q->∀a,a<c->b e a=b' e a)(g:∀a,a<c->x a=P a)(i:∀a,a<c->y a=y' a):Fq c b q x y=Fq c b' q P y':=by
 rw[C3,C3];refine Bb (λe j a f=>?_) (λe j a f=>?_)
 .by_cases d:e=q
  .rw[if_pos d,if_pos d];exact g a f
  .rw[if_neg d,if_neg d];exact h e (by omega) a f
 .by_cases d:e=q
  .rw[if_pos d,if_pos d];exact i a f
  .rw[if_neg d,if_neg d];exact h e (by omega) a f
def lam(c:Nat)(b:Nat->Nat->Int)(i q:Nat):Int:=Fq c b q (b i) (b q)
theorem mo{c i q:Nat}{b b':Nat->Nat->Int}(h:∀i,i<=q->∀a,a<c->b i a=b' i a)(d:∀a,a<c->b i a=b' i a):lam c b i q=lam c b' i q:=zq (λi d=>h i (by omega)) d (h q c_)
def oj(b:Nat->Nat->Int)(k q:Nat)(s:Int):Nat->Nat->Int:=λa=>if a=k then λc=>1*b k c+-s*b q c else b a
theorem tx{n k:Nat}(a:k<n)(f:Nat->Nat->Int):(List.range n).map f=(List.range k).map f++f k::(List.range' (k+1) (n-k-1)).map f:=by
 rw[<-nr,<-kT,<-zC,rO,rO];have:=List.range'_append_1 (s:=0) (m:=k) (n:=n-k-1+1);rw[jF]at this;rw[this,show k+(n-k-1+1)=n from by omega]
theorem CC{c n k q:Nat}(b:Nat->Nat->Int)(s:Int)(l:q<k)(g:k<n)(p:n<=4)(ys:List (Nat->Int))(r:ys.length=n):gm c ((List.range n).map (oj b k q s)) ys=gm c ((List.range n).map b) ys:=by
 have m:(List.range k).map (oj b k q s)=(List.range k).map b:=pN (λo d=>if_neg (by have:=jB.1 d;omega));have i:(List.range' (k+1) (n-k-1)).map (oj b k q s)=(List.range' (k+1) (n-k-1)).map b:=pN (λo d=>if_neg (by have:=x6.1 d;omega));have j:oj b k q s k=λh=>1*b k h+-s*b q h:=if_pos rfl;rw[tx g (oj b k q s),m,i,j,EM,<-tx g b];obtain⟨e,a,f⟩:=wU (show q∈List.range k from jB.2 l);have t:e.length+a.length+1=k:=by have:=kX List.length f;simp at this;omega
 have:=CH c (b q) (e.map b) (a.map b) ((List.range' (k+1) (n-k-1)).map b) ys (by simp;omega) (by omega);rw[show(List.range k).map b++b q::(List.range' (k+1) (n-k-1)).map b=e.map b++b q::a.map b++b q::(List.range' (k+1) (n-k-1)).map b from by rw[f];simp,this];omega
theorem FJ{c k q:Nat}(b:Nat->Nat->Int)(s:Int)(e:q<k)(n:Nat)(a:n<=4):iv c (oj b k q s) n=iv c b n:=by
 rcases iX k n with d|d
 .unfold iv;rw[CC b s e d a _ (by simp),yo c _ _ (by simp) (by simpa using a),CC b s e d a _ (by simp)]
 .exact mr (λh g f _=>by unfold oj;rw[if_neg (by omega)])
theorem F4{c k q t:Nat}(b:Nat->Nat->Int)(s:Int)(h:q<k)(g:k<=3)(f:t<k)(i:q<=t):lam c (oj b k q s) k t=lam c b k t-if t=q then s*iv c b (q+1)else 0:=by
 have e:lam c (oj b k q s) k t=Fq c b t (λa=>1*b k a+-s*b q a) (b t):=zq (λl j a _=>by unfold oj;rw[if_neg (by omega)]) (λa _=>by unfold oj;rw[if_pos rfl]) (λa _=>by unfold oj;rw[if_neg (by omega)]);rw[e,Di];unfold lam;by_cases d:t=q
 .subst d;rw[if_pos rfl,<-lv];grind
 .rw[if_neg d,JZ c b t q (by omega) (by omega)];grind
def l7(b:Nat->Nat->Int)(k:Nat):Nat->Nat->Int:=λa=>b (ky k (k+1) a)
theorem IG{c n k:Nat}(b:Nat->Nat->Int)(o:k+1<n)(l:n<=4)(ys:List (Nat->Int))(m:ys.length=n):gm c ((List.range n).map (l7 b k)) ys=-gm c ((List.range n).map b) ys:=by
 have e:∀a:Nat->Nat->Int,(List.range n).map a=(List.range k).map a++a k::a (k+1)::(List.range' (k+2) (n-k-2)).map a:=λa=>by
  rw[tx (show k<n by omega) a,show n-k-1=(n-k-2)+1 from by omega,zC,nr]
 have i:(List.range k).map (l7 b k)=(List.range k).map b:=pN (λj d=>by
  have:=jB.1 d;unfold l7 ky;rw[if_neg (by omega),if_neg (by omega)])
 have f:(List.range' (k+2) (n-k-2)).map (l7 b k)=(List.range' (k+2) (n-k-2)).map b:=pN (λj d=>by
  have:=x6.1 d;unfold l7 ky;rw[if_neg (by omega),if_neg (by omega)])
 have g:l7 b k k=b (k+1):=by unfold l7 ky;rw[if_pos rfl]
 have h:l7 b k (k+1)=b k:=by unfold l7 ky;rw[if_neg (by omega),if_pos rfl]
 rw[e (l7 b k),i,f,g,h,e b];exact Ig c _ _ _ _ _ (by simp;omega) (by omega)
theorem I5{c k:Nat}(b:Nat->Nat->Int)(n:Nat)(a:n<=4)(f:n≠k+1):iv c (l7 b k) n=iv c b n:=by
 rcases iX (k+1) n with d|d
 .unfold iv;rw[IG b d a _ (by simp),yo c _ _ (by simp) (by simpa using a),IG b d a _ (by simp)];omega
 .exact mr (λh g e _=>by unfold l7 ky;rw[if_neg (by omega),if_neg (by omega)])
theorem xT{c k:Nat}(b:Nat->Nat->Int)(e:k<=2):iv c (l7 b k) (k+1)*iv c b (k+1)=iv c b (k+2)*iv c b k+lam c b (k+1) k*lam c b (k+1) k:=by
 have f:iv c (l7 b k) (k+1)=Fq c b k (b (k+1)) (b (k+1)):=by
  rw[lv];exact zq (λh g d _=>by unfold l7 ky;rw[if_neg (by omega),if_neg (by omega)]) (λd _=>by unfold l7 ky;rw[if_pos rfl]) (λd _=>by unfold l7 ky;rw[if_pos rfl])
 have a:=wH c b k e (b (k+1)) (b (k+1));rw[wP c b k (by omega) (b k) (b (k+1)),<-lv]at a;rw[f];unfold lam;have:k+1+1=k+2:=rfl;rw[this]at a;omega
theorem wo{c k i t:Nat}(b:Nat->Nat->Int)(g:i<k)(d:t<i):lam c (l7 b k) i t=lam c b i t:=
 mo (λf e a _=>by unfold l7 ky;rw[if_neg (by omega),if_neg (by omega)]) (λa _=>by unfold l7 ky;rw[if_neg (by omega),if_neg (by omega)])
theorem Du{c k X:Nat}{b:Nat->Nat->Int}(I:k<=3)(o:∀l,l<=k->0<iv c b l)(m:∀h,h<=k->iv c b (h+1)<=X*iv c b h)(x:∀a,a<k->2*lam c b k a<=iv c b (a+1)/\-(2*lam c b k a)<=iv c b (a+1)):4*ip c (b k) (b k)<=(4+k)*X:=by
 have u:∀d,d<=k->4*Fq c b (k-d) (b k) (b k)<=(4+d)*X*iv c b (k-d):=by
  intro d;induction d with
  |zero=>
   intro _;have:=m k c_;rw[lv]at this;rw[Nat.sub_zero];grind
  |succ d y=>
   intro D;have n:=y (by omega);obtain⟨a,r⟩:=hQ (k-(d+1));have z:k-d=a+1:=by omega
   rw[<-r];rw[z]at n;have A:=wH c b a (by omega) (b k) (b k);rw[wP c b a (by omega) (b a) (b k)]at A;obtain⟨j,i⟩:=x a (by omega);have H:=o a (by omega);have B:=o (a+1) (by omega);have v:=m a (by omega);unfold lam at j i;generalize Fq c b a (b k) (b k)=p at*;generalize Fq c b a (b k) (b a)=g at*;generalize iv c b (a+1)=e at*;generalize iv c b a=f at*;generalize Fq c b (a+1) (b k) (b k)=t at*;have G:4*(g*g)<=e*e:=by
    rcases Int.le_total 0 g with q|q
    .have:=q0 j j (by omega) (by omega);grind
    .have:=q0 i i (by omega) (by omega);grind
   have F:4*(p*e)<=(4+d)*X*e*f+e*(X*f):=by
    have E:4*t*f<=(4+↑d)*↑X*e*f:=sC n (by omega);have C:e*e<=e*(X*f):=Gw v (by omega);grind
   have w:(4*p)*e<=((4+(d+1))*X*f)*e:=by grind
   have s:=wG w B;push_cast;exact s
 have:=u k c_;rw[Nat.sub_self,y_,qM,Int.mul_one]at this;exact this
structure uD (c n k z X:Nat) (b:Nat->Nat->Int):Prop where
 kz:k<=z
 zn:z<=n
 n4:n<=4
 pos:∀i,i<=z->0<iv c b i
 dep:z=n\/iv c b (z+1)=0
 rat:∀j,j<z->iv c b (j+1)<=X*iv c b j
 len:∀i,i<n->ip c (b i) (b i)<=2*X
 red:∀i,i<k->∀j,j<i->2*lam c b i j<=iv c b (j+1)/\-(2*lam c b i j)<=iv c b (j+1)
 ord:∀i,i+1<k->3*(iv c b (i+1)*iv c b (i+1))<=4*(iv c b (i+2)*iv c b i+lam c b (i+1) i*lam c b (i+1) i)
theorem sq_nonneg(x:Int):0<=x*x:=by
 rcases Int.le_total 0 x with a|a
 .exact pT a a
 .exact zm a a
theorem Ir{c q:Nat}{b:Nat->Nat->Int}(k:q<=3)(d:∀a,a<=q->0<iv c b a)(x:Nat->Int):Fq c b q x x<=ip c x x*iv c b q:=by
 induction q with
 |zero=>rw[y_,qM];omega
 |succ q f=>
  have g:=f (by omega) (λa l=>d a (by omega));have i:=I8 c b q (by omega) x;have h:=d q (by omega);have j:=d (q+1) c_;have m:Fq c b q x x*iv c b (q+1)<=ip c x x*iv c b q*iv c b (q+1):=sC g (by omega);have e:Fq c b (q+1) x x*iv c b q<=(ip c x x*iv c b (q+1))*iv c b q:=by grind
  exact wG e h
theorem Jp{c n:Nat}{b:Nat->Nat->Int}(p:∀d,d<=n->0<=iv c b d\/∃g,g<d/\iv c b g=0):∀a,a<=n->(∀d,d<=a->0<iv c b d)->∃e,a<=e/\e<=n/\(∀d,d<=e->0<iv c b d)/\(e=n\/iv c b (e+1)=0):=by
 intro a i;obtain⟨h,w⟩:=hQ (n-a);induction h generalizing a with
 |zero=>intro f;exact⟨a,c_,i,f,.inl (by omega)⟩
 |succ h r=>
  intro f;by_cases q:iv c b (a+1)=0
  .exact⟨a,c_,i,f,.inr q⟩
  .have o:0<iv c b (a+1):=by
    rcases p (a+1) (by omega)with s|⟨g,v,s⟩
    .omega
    .have:=f g (by omega);omega
   obtain⟨e,t,j,m,l⟩:=r (a+1) (by omega) (by omega) (λd u=>by
    by_cases k:d=a+1
    .rw[k];exact o
    .exact f d (by omega))
   exact⟨e,by omega,j,m,l⟩
theorem Fa{c n:Nat}{b:Nat->Nat->Int}(q:n<=4):∀e,e<=n->0<=iv c b e\/∃a,a<e/\iv c b a=0:=by
 intro e s;by_cases f:∃a,a<e/\iv c b a=0
 .exact .inr f
 .refine .inl ?_;have g:∀d,d<=e->(∀a,a<d->0<iv c b a)->0<=iv c b d:=by
   intro d o k
   cases d with
   |zero=>rw[qM];decide
   |succ d=>rw[lv];exact CS c b d (by omega) (λa i=>k a (by omega)) _
  have j:∀d,d<=e->∀a,a<d->0<iv c b a:=by
   intro d;induction d with
   |zero=>intro _ a i;omega
   |succ d h=>
    intro o a i;by_cases m:a=d
    .subst m;have p:=g a (by omega) (h (by omega));have r:iv c b a≠0:=λl=>f ⟨a,by omega,l⟩;omega
    .exact h (by omega) a (by omega)
  exact g e c_ (j e c_)
theorem uD.make{c n k X:Nat}{b:Nat->Nat->Int}(h:n<=4)(t:k<=n)(m:∀a,a<=k->0<iv c b a)(i:∀a,a<n->ip c (b a) (b a)<=X)(u:∀d,d<k->iv c b (d+1)<=X*iv c b d)(s:∀a,a<k->∀d,d<a->2*lam c b a d<=iv c b (d+1)/\-(2*lam c b a d)<=iv c b (d+1))(r:∀a,a+1<k->3*(iv c b (a+1)*iv c b (a+1))<=4*(iv c b (a+2)*iv c b a+lam c b (a+1) a*lam c b (a+1) a)):∃f,uD c n k f X b:=by
 obtain⟨f,o,l,e,p⟩:=Jp (Fa h) k t m;refine⟨f,o,l,h,e,p,λd w=>?_,λa j=>by have:=i a j;have:=q6 c (b a);omega,s,r⟩;rcases iX d k with g|g
 .exact u d g
 .rw[lv];have v:=Ir (c:=c) (b:=b) (q:=d) (by omega) (λa j=>e a (by omega)) (b d);have x:ip c (b d) (b d)*iv c b d<=X*iv c b d:=sC (i d (by omega)) (by have:=e d (by omega);omega);omega
theorem uD.Fh{c n k z X:Nat}{b b':Nat->Nat->Int}(h:uD c n k z X b)(y:k<n)(j:∀a,a≠k->∀e,e<c->b' a e=b a e)(f:∀a,a<=4->iv c b' a=iv c b a)(v:∀d,d<k->2*lam c b' k d<=iv c b (d+1)/\-(2*lam c b' k d)<=iv c b (d+1)):uD c n k z X b'/\(∀d,d<k->2*lam c b' k d<=iv c b' (d+1)/\-(2*lam c b' k d)<=iv c b' (d+1)):=by
 have w:=h.kz;have u:=h.zn;have t:=h.n4;have p:∀d,d<k->2*lam c b' k d<=iv c b' (d+1)/\-(2*lam c b' k d)<=iv c b' (d+1):=λd r=>by rw[f (d+1) (by omega)];exact v d r
 refine⟨⟨w,u,t,λa i=>by rw[f a (by omega)];exact h.pos a i,?_,λe m=>by rw[f (e+1) (by omega),f e (by omega)];exact h.rat e m,λa i=>?_,λa i e m=>?_,λa i=>?_⟩,p⟩
 .rcases h.dep with l|l
  .exact .inl l
  .by_cases g:z=n
   .exact .inl g
   .exact .inr (by rw[f (z+1) (by omega)];exact l)
 .by_cases g:a=k
  .subst g;have:=Du (c:=c) (k:=a) (X:=X) (b:=b') (by omega) (λe m=>by rw[f e (by omega)];exact h.pos e (by omega)) (λe m=>by
    rw[f (e+1) (by omega),f e (by omega)];rcases iX e z with l|l
    .exact h.rat e l
    .have g:e=z:=by omega
     rcases h.dep with q|q
     .omega
     .rw[g,q];exact pT (by omega) (by have:=h.pos z c_;omega)) p
   have x:(4+(a:Int))*X<=8*X:=sC (by omega) (by omega);omega
  .rw[vS (j a g) (j a g)];exact h.len a i
 .rw[f (e+1) (by omega),mo (b':=b) (λo s=>j o (by omega)) (j a (by omega))];exact h.red a i e m
 .rw[f (a+1) (by omega),f (a+2) (by omega),f a (by omega),mo (b':=b) (λo s=>j o (by omega)) (j (a+1) (by omega))];exact h.ord a i
theorem uD.next{c n k z X:Nat}{b:Nat->Nat->Int}(h:uD c n k z X b)(A:k<n)(q:∀e,e<k->2*lam c b k e<=iv c b (e+1)/\-(2*lam c b k e)<=iv c b (e+1))(w:k=0->0<ip c (b 0) (b 0))(i:∀a,k=a+1->3*(iv c b (a+1)*iv c b (a+1))<=4*(iv c b (a+2)*iv c b a+lam c b (a+1) a*lam c b (a+1) a)):uD c n (k+1) z X b:=by
 have v:=h.zn;have B:=h.kz;have x:k+1<=z:=by
  rcases iX k z with m|m
  .exact m
  .exfalso;have d:k=z:=by omega
   rcases h.dep with g|g
   .omega
   .cases k with
    |zero=>
     have:=w rfl;rw[<-d,lv,y_]at g;omega
    |succ a=>
     have t:=i a rfl;obtain⟨s,o⟩:=q a (by omega);rw[show a+2=z+1 from by omega,g]at t;have r:=h.pos (a+1) (by omega);generalize iv c b (a+1)=j at*;generalize lam c b (a+1) a=f at*;have y:4*(f*f)<=j*j:=by
      rcases Int.le_total 0 f with h|h
      .have:=q0 s s (by omega) (by omega);grind
      .have:=q0 o o (by omega) (by omega);grind
     have:=Int.mul_pos r r;omega
 refine⟨x,v,h.n4,h.pos,h.dep,h.rat,h.len,λa u l p=>?_,λa u=>?_⟩
 .by_cases d:a=k
  .subst d;exact q l p
  .exact h.red a (by omega) l p
 .by_cases d:a+1=k
  .exact i a d.symm
  .exact h.ord a (by omega)
theorem uD.swap{c n k z X:Nat}{b:Nat->Nat->Int}(h:uD c n (k+1) z X b)(D:k+1<n)(t:4*(iv c b (k+2)*iv c b k+lam c b (k+1) k*lam c b (k+1) k)<3*(iv c b (k+1)*iv c b (k+1))):∃l,uD c n k l X (l7 b k)/\((l=z/\4*iv c (l7 b k) (k+1)<3*iv c b (k+1))\/l<z)/\(∀a,a<=4->a≠k+1->iv c (l7 b k) a=iv c b a):=by
 have G:=h.kz;have F:=h.zn;have o:=h.n4;have I:=xT (c:=c) b (show k<=2 by omega);have e:∀a,a<=4->a≠k+1->iv c (l7 b k) a=iv c b a:=λa f H=>I5 b a f H;have L:=h.pos (k+1) G;have B:=h.pos k (by omega);have y:0<=iv c (l7 b k) (k+1):=by
  rw[lv];exact CS c _ k (by omega) (λa f=>by rw[e a (by omega) (by omega)];exact h.pos a (by omega)) _
 have A:4*iv c (l7 b k) (k+1)<3*iv c b (k+1):=by
  rw[<-I]at t;have:(4*iv c (l7 b k) (k+1))*iv c b (k+1)<(3*iv c b (k+1))*iv c b (k+1):=by grind
  exact Int.lt_of_mul_lt_mul_right this (by omega)
 have q:∀a,a<n->ip c (l7 b k a) (l7 b k a)<=2*X:=λa f=>h.len _ (j2 (by omega) D f);have r:∀a,a<k->∀d,d<a->2*lam c (l7 b k) a d<=iv c (l7 b k) (d+1)/\-(2*lam c (l7 b k) a d)<=iv c (l7 b k) (d+1):=λa f d i=>by
  rw[e (d+1) (by omega) (by omega),wo b f i];exact h.red a (by omega) d i
 have m:∀a,a+1<k->3*(iv c (l7 b k) (a+1)*iv c (l7 b k) (a+1))<=4*(iv c (l7 b k) (a+2)*iv c (l7 b k) a+lam c (l7 b k) (a+1) a*lam c (l7 b k) (a+1) a):=λa f=>by
  rw[e (a+1) (by omega) (by omega),e (a+2) (by omega) (by omega),e a (by omega) (by omega),wo b f (by omega)];exact h.ord a (by omega)
 have x:iv c b (k+1)<=X*iv c b k:=h.rat k (by omega);have M:0<=iv c b (k+2):=by
  rcases iX (k+1) z with g|g
  .have:=h.pos (k+2) (by omega);omega
  .rcases h.dep with s|s
   .omega
   .rw[show k+2=z+1 from by omega,s];exact xz 0
 have u:iv c b (k+2)<=X*iv c (l7 b k) (k+1):=by
  have K:iv c b (k+2)*iv c b k<=iv c (l7 b k) (k+1)*iv c b (k+1):=by
   have:=sq_nonneg (lam c b (k+1) k);omega
  have J:iv c (l7 b k) (k+1)*iv c b (k+1)<=iv c (l7 b k) (k+1)*(X*iv c b k):=Gw x y;have C:iv c b (k+2)*iv c b k<=(X*iv c (l7 b k) (k+1))*iv c b k:=by grind
  exact wG C B
 have E:iv c (l7 b k) (k+1)<=X*iv c b k:=by omega
 by_cases v:iv c (l7 b k) (k+1)=0
 .refine⟨k,⟨c_,by omega,o,λa f=>by rw[e a (by omega) (by omega)];exact h.pos a (by omega),.inr v,λd i=>by rw[e (d+1) (by omega) (by omega),e d (by omega) (by omega)];exact h.rat d (by omega),q,r,m⟩,.inr (by omega),e⟩
 .refine⟨z,⟨by omega,F,o,λa f=>?_,?_,λd i=>?_,q,r,m⟩,.inl ⟨rfl,A⟩,e⟩
  .by_cases j:a=k+1
   .rw[j];omega
   .rw[e a (by omega) j];exact h.pos a f
  .rcases h.dep with g|g
   .exact .inl g
   .by_cases j:z=n
    .exact .inl j
    .exact .inr (by rw[e (z+1) (by omega) (by omega)];exact g)
  .by_cases w:d=k
   .rw[w,e k (by omega) (by omega)];exact E
   .by_cases p:d=k+1
    .rw[p,e (k+1+1) (by omega) (by omega)];exact u
    .rw[e (d+1) (by omega) (by omega),e d (by omega) p];exact h.rat d i
def nG(b:Nat->Nat->Int)(k:Nat):Nat->Nat->Int:=λa=>if a<k then b a else b (a+1)
theorem uD.out{c n k z X:Nat}{b:Nat->Nat->Int}(h:uD c (n+1) k z X b)(p:k<n+1):∃m,uD c n k m (2*X) (nG b k):=by
 have r:=h.kz;have s:=h.zn;have o:=h.n4;have g:∀a,a<k->∀d,d<c->nG b k a d=b a d:=λa e d _=>by unfold nG;rw[if_pos e]
 have f:∀a,a<=k->iv c (nG b k) a=iv c b a:=λa e=>mr (λi l=>g i (by omega));refine uD.make (by omega) (by omega) (λa e=>by rw[f a e];exact h.pos a (by omega)) (λa e=>?_) (λd j=>?_) (λa e d j=>?_) (λa e=>?_)
 .have:ip c (nG b k a) (nG b k a)<=2*X:=by
   unfold nG;split
   .exact h.len a (by omega)
   .exact h.len (a+1) (by omega)
  omega
 .rw[f (d+1) (by omega),f d (by omega)];have q:=h.rat d (by omega);have t:=h.pos d (by omega);have u:(X:Int)*iv c b d<=((2*X:Nat):Int)*iv c b d:=sC (by omega) (by omega);omega
 .rw[f (d+1) (by omega),mo (b':=b) (λi l=>g i (by omega)) (g a e)];exact h.red a e d j
 .rw[f (a+1) (by omega),f (a+2) (by omega),f a (by omega),mo (b':=b) (λi l=>g i (by omega)) (g (a+1) (by omega))];exact h.ord a e
theorem Ci(c n:Nat)(A B:Nat->Nat->Int):gm c ((List.range n).map A) ((List.range n).map B)=jn n (λa b=>ip c (A a) (B b)):=by
 have g:mv ((List.range n).map (λa b=>ip c (A a) (B b))) (List.range n)=jn n (λa b=>ip c (A a) (B b)):=by
  rw[<-qR,tl _ (List.range n) (List.range n) rfl,j1];exact lH n _ _ (λa b d h=>by simp[List.getD,d,h])
 rw[<-g];unfold gm;rw[List.map_map,rJ,j1];refine As _ _ _ (by simp) (λa d i e=>?_);simp only[rJ,j1]at d;have f:=jB.1 e;simp[List.getD,d,f]
theorem vU(c:Nat)(b:Nat->Nat->Int)(n:Nat):o2 c b n=iv c b n:=(Ci c n b b).symm
theorem E6(c:Nat)(b:Nat->Nat->Int)(k q:Nat):sM c b k q=lam c b k q:=by
 unfold lam sM;rw[C3,Ci];refine lH (q+1) _ _ (λe d _ _=>?_);show ip c _ _=ip c _ _;by_cases a:d=q
 .rw[if_pos a,a]
 .rw[if_neg a]
theorem yX(f:Nat->Nat->Int)(k q:Nat)(s:Int):wj f k q s=oj f k q s:=by
 funext i j;unfold wj oj;by_cases a:i=k
 .rw[if_pos a,if_pos a,Int.one_mul,Int.neg_mul,wa];omega
 .rw[if_neg a,if_neg a]
theorem yQ{c k:Nat}{b:Nat->Nat->Int}(o:k<=3)(q:∀e,e<=k->0<iv c b e):∀d,d<=k->(∀f,f<=4->iv c (jQ c k b d) f=iv c b f)/\(∀a,k-d<=a->a<k->2*lam c (jQ c k b d) k a<=iv c b (a+1)/\-(2*lam c (jQ c k b d) k a)<=iv c b (a+1))/\∀e,e≠k->jQ c k b d e=b e:=by
 intro d;induction d with
 |zero=>intro _;exact⟨λ_ _=>rfl,λa g l=>by omega,λ_ _=>rfl⟩
 |succ d p=>
  intro s;obtain⟨g,l,r⟩:=p (by omega);have m:k-1-d<k:=by omega
  refine⟨λf j=>?_,λa t i=>?_,λe n=>?_⟩
  .rw[jQ,yX,FJ _ _ m f j,g f j]
  .rw[jQ,yX,F4 _ _ m o i (by omega)];by_cases h:a=k-1-d
   .rw[if_pos h,<-h];unfold GU;rw[E6,vU,g (a+1) (by omega)];have:=Ah (x:=lam c (jQ c k b d) k a) (q (a+1) (by omega));omega
   .rw[if_neg h,Int.sub_zero];exact l a (by omega) i
  .rw[jQ,yX];unfold oj;rw[if_neg n,r e n]
theorem HA{c k:Nat}{b:Nat->Nat->Int}(e:k<=3)(a:∀d,d<=k->0<iv c b d)(j:Nat)(f:j<k):0<o2 c (jQ c k b j) (k-1-j+1):=by
 rw[vU,(yQ e a j (by omega)).1 _ (by omega)];exact a _ (by omega)
def EH:Nat->Nat->Nat
 |0,_=>0
 |b+1,a=>if a<=1 then 0 else 1+EH b ((3*a-1)/4)
theorem sI:∀b c a,a<=b->a<=c->EH b a=EH c a
 |0,0,_,_,_=>rfl
 |0,c+1,a,e,_=>by rw[EH,EH,if_pos (by omega)]
 |b+1,0,a,_,e=>by rw[EH,EH,if_pos (by omega)]
 |b+1,c+1,a,e,f=>by
  rw[EH,EH];by_cases d:a<=1
  .rw[if_pos d,if_pos d]
  .rw[if_neg d,if_neg d,sI b c _ (by omega) (by omega)]
def C1(v:Nat):Nat:=EH v v
theorem zc{v:Nat}(h:v<=1):C1 v=0:=by
 unfold C1;rw[sI v (v+1) v (by omega) (by omega),EH,if_pos h]
theorem y5{v:Nat}(h:¬v<=1):C1 v=1+C1 ((3*v-1)/4):=by
 unfold C1;rw[sI v (v+1) v (by omega) (by omega),EH,if_neg h,sI v ((3*v-1)/4) _ (by omega) (by omega)]
theorem Gu:∀a b,b<=a->C1 b<=C1 a:=by
 intro a;induction a using Nat.strongRecOn with
 |_ a d=>
  intro b e;by_cases c:b<=1
  .rw[zc c];exact hR
  .rw[y5 c,y5 (v:=a) (by omega)];have:=d ((3*a-1)/4) (by omega) ((3*b-1)/4) (by omega);omega
theorem FD{u v:Nat}(a:1<=u)(h:4*u<3*v):C1 u+1<=C1 v:=by
 rw[y5 (v:=v) (by omega)];have:=Gu ((3*v-1)/4) u (by omega);omega
theorem wJ(v:Nat):C1 v<=1+C1 ((3*v-1)/4):=by
 by_cases a:v<=1
 .rw[zc a];omega
 .rw[y5 a];exact c_
theorem FL:∀b a,a<2^b->C1 a<=3*b:=by
 intro b;induction b with
 |zero=>intro a c;rw[zc (by simp at c;omega)];exact hR
 |succ b d=>
  intro a c;have f:=rS b;rw[jx]at c;have g:=wJ a;have h:=wJ ((3*a-1)/4);have i:=wJ ((3*((3*a-1)/4)-1)/4);have e:=d ((3*((3*((3*a-1)/4)-1)/4)-1)/4) (by omega);omega
def xN(c:Nat)(b:Nat->Nat->Int):Nat->Nat
 |0=>0
 |a+1=>xN c b a+C1 (iv c b (a+1)).toNat
theorem q3{c:Nat}{b b':Nat->Nat->Int}:∀a,(∀d,d<=a->iv c b' d=iv c b d)->xN c b' a=xN c b a
 |0,_=>rfl
 |a+1,e=>by rw[xN,xN,q3 a (λd f=>e d (by omega)),e (a+1) c_]
theorem Ai(c:Nat)(b:Nat->Nat->Int){z z':Nat}(h:z'<=z):xN c b z'<=xN c b z:=by
 induction h with
 |refl=>exact c_
 |step _ a=>rw[xN];omega
theorem A6{c k:Nat}{b b':Nat->Nat->Int}(l:0<iv c b' (k+1))(m:4*iv c b' (k+1)<3*iv c b (k+1)):∀a,k+1<=a->(∀d,d<=a->d≠k+1->iv c b' d=iv c b d)->xN c b' a+1<=xN c b a:=by
 intro a;induction a with
 |zero=>intro j;omega
 |succ a f=>
  intro n e;rw[xN,xN];by_cases g:a=k
  .subst g;rw[q3 a (λd i=>e d (by omega) (by omega))];have:=FD (u:=(iv c b' (a+1)).toNat) (v:=(iv c b (a+1)).toNat) (by omega) (by omega);omega
  .rw[e (a+1) c_ (by omega)];have:=f (by omega) (λd i h=>e d (by omega) h);omega
theorem uD.E1{c n k z X:Nat}{b:Nat->Nat->Int}(h:uD c n k z X b)(i:X<=2^102):∀a,a<=z->iv c b a<=((2^(102*a):Nat):Int):=by
 intro a;induction a with
 |zero=>intro _;rw[qM];decide
 |succ a e=>
  intro l;have f:=e (by omega);have j:=h.rat a (by omega);have m:=h.pos a (by omega);have g:(X:Int)*iv c b a<=((2^102:Nat):Int)*((2^(102*a):Nat):Int):=q0 (by omega) f (by omega) (by omega);have d:2^(102*(a+1))=2^102*2^(102*a):=by rw[<-kg];congr 1;omega
  rw[d,m_];omega
theorem mH{c n k z X:Nat}{b:Nat->Nat->Int}(h:uD c n k z X b)(d:X<=2^102){i:Nat}(a:i<=z):C1 (iv c b i).toNat<=3*(102*i+1):=by
 refine FL _ _ ?_;have f:=h.E1 d i a;have e:2^(102*i)<2^(102*i+1):=Nat.pow_lt_pow_right (by decide) (by omega);omega
theorem uD.C5{c n k z X:Nat}{b:Nat->Nat->Int}(h:uD c n k z X b)(a:X<=2^102):xN c b z<=3072:=by
 have d:z<=4:=iy h.zn h.n4;obtain rfl|rfl|rfl|rfl|rfl:z=0\/z=1\/z=2\/z=3\/z=4:=by omega
 .exact hR
 .simp only[xN];have:=mH h a (i:=0+1) (by omega);omega
 .simp only[xN];have:=mH h a (i:=0+1) (by omega);have:=mH h a (i:=1+1) (by omega);omega
 .simp only[xN];have:=mH h a (i:=0+1) (by omega);have:=mH h a (i:=1+1) (by omega);have:=mH h a (i:=2+1) (by omega);omega
 .simp only[xN];have:=mH h a (i:=0+1) (by omega);have:=mH h a (i:=1+1) (by omega);have:=mH h a (i:=2+1) (by omega);have:=mH h a (i:=3+1) (by omega);omega
def xi(c n k z:Nat)(b:Nat->Nat->Int):Nat:=6300*n+2*xN c b z+2*z+(n-k)
theorem JK{c k q:Nat}{b:Nat->Nat->Int}(g:q<=2)(a:∀d,d<=q+1->0<iv c b d):lam c b k q*lam c b k q<=ip c (b k) (b k)*iv c b q*iv c b (q+1):=by
 have e:=wH c b q g (b k) (b k);rw[wP c b q (by omega) (b q) (b k)]at e;have f:=CS c b (q+1) (by omega) a (b k);have h:=Ir (c:=c) (b:=b) (q:=q) (by omega) (λd n=>a d (by omega)) (b k);have m:=a q (by omega);have l:=a (q+1) c_;have j:0<=Fq c b (q+1) (b k) (b k)*iv c b q:=pT f (by omega);have i:Fq c b q (b k) (b k)*iv c b (q+1)<=ip c (b k) (b k)*iv c b q*iv c b (q+1):=sC h (by omega);unfold lam;omega
theorem HK{d N:Int}(hd:0<d)(f:0<=N)(h:a*a<=N*d):qK a d<=N/\-N<=qK a d:=by
 have j:=Ah (x:=a) hd;have g:0<=N*d:=pT f (by omega);have i:a<=N*d/\-a<=N*d:=by
  generalize N*d=b at*;constructor
  .rcases tV b a with c|c
   .have:(b+1)*(b+1)<=a*a:=q0 (by omega) (by omega) (by omega) (by omega);have:(b+1)*(b+1)=b*b+2*b+1:=by grind
    have:=sq_nonneg b;omega
   .exact c
  .rcases tV b (-a)with c|c
   .have:(b+1)*(b+1)<=-a*-a:=q0 (by omega) (by omega) (by omega) (by omega);have:(b+1)*(b+1)=b*b+2*b+1:=by grind
    have:-a*-a=a*a:=by grind
    have:=sq_nonneg b;omega
   .exact c
 generalize qK a d=e at*;constructor
 .have:(2*e)*d<=(2*N+1)*d:=by grind
  have:=wG this hd;omega
 .have:(2*-e)*d<=(2*N+1)*d:=by grind
  have:=wG this hd;omega
theorem Dr{c B:Nat}{x:Nat->Int}(h:∀a,a<c->(x a).natAbs<2^B):ip c x x<=(c:Int)*((2^(2*B):Nat):Int):=by
 induction c with
 |zero=>simp[ip,sm]
 |succ c f=>
  have g:=f (λa j=>h a (by omega));have k:=h c (by omega);have l:x c*x c<=((2^(2*B):Nat):Int):=by
   have i:x c*x c=(((x c).natAbs*(x c).natAbs:Nat):Int):=Int.natAbs_mul_self.symm;have d:2^(2*B)=2^B*2^B:=by rw[<-kg];congr 1;omega
   have e:(x c).natAbs*(x c).natAbs<=2^B*2^B:=jR (by omega) (by omega);rw[i,d];exact Int.ofNat_le.2 e
  unfold ip at g|-;rw[sm];generalize((2^(2*B):Nat):Int)=b at*;have:((c+1:Nat):Int)*b=c*b+b:=by push_cast;grind
  omega
theorem HU{c k q B:Nat}{b:Nat->Nat->Int}(s:c<=4)(g:q<=2)(a:∀d,d<=q+1->0<iv c b d)(o:iv c b q<=((2^204:Nat):Int))(h:∀e,e<c->(b k e).natAbs<2^B):(GU c b k q).natAbs<2^(2*B+207):=by
 have m:=JK (k:=k) g a;have t:=a q (by omega);have p:=a (q+1) c_;have w:=Dr h;have i:=q6 c (b k);have r:0<=ip c (b k) (b k)*iv c b q:=pT i (by omega);have v:=HK p r m;unfold GU;rw[E6,vU];have j:ip c (b k) (b k)<=((2^(2*B+2):Nat):Int):=by
  have:2^(2*B+2)=4*2^(2*B):=by rw[kg,ij]
  rw[this,m_];have:(c:Int)*((2^(2*B):Nat):Int)<=4*((2^(2*B):Nat):Int):=sC (by omega) (by omega);omega
 have n:ip c (b k) (b k)*iv c b q<=((2^(2*B+2):Nat):Int)*((2^204:Nat):Int):=q0 j o (by omega) (by omega);have x:2^(2*B+207)=2*(2^(2*B+2)*2^204):=by
  have f:2^(2*B+207)=2^(2*B)*2^207:=kg _ _ _;have l:2^(2*B+2)=2^(2*B)*2^2:=kg _ _ _;rw[f,l];generalize 2^(2*B)=u;omega
 have y:0<2^(2*B+2)*2^204:=tB (rS _) (rS _);rw[<-m_]at n;omega
theorem xF{x y s:Int}{a:Nat}(c:x.natAbs<2^a)(g:y.natAbs<2^a)(d:s.natAbs<2^i):(x-y*s).natAbs<2^(a+i+1):=by
 have b:(x-y*s).natAbs<=x.natAbs+(y*s).natAbs:=wZ x (y*s);rw[np]at b;have f:y.natAbs*s.natAbs<=2^a*2^i:=jR (by omega) (by omega);have h:2^(a+i+1)=2^a*2^i+2^a*2^i:=by rw[jx,kg];omega
 have e:2^a*1<=2^a*2^i:=jJ _ (rS i);omega
def eB:Nat->Nat
 |0=>52
 |a+1=>3*eB a+208
def tS:Nat->Nat
 |0=>0
 |a+1=>tS a+(2*eB a+207)+1
theorem KJ(j:Nat):52<=eB j:=by
 cases j with
 |zero=>exact c_
 |succ j=>rw[eB];omega
theorem lO{x a b:Nat}(h:x<2^a)(c:a<=b):x<2^b:=l_ h (jb (by decide) c)
theorem F7{c m n k:Nat}{b t:Nat->Nat->Int}(y:k<=3)(u:k<n)(x:c<=4)(s:∀d,d<=k->0<iv c b d)(z:∀g,g<=2->g<=k->iv c b g<=((2^204:Nat):Int))(l:∀d a,d<n->a<c->(b d a).natAbs<2^52)(A:∀d a,d<n->a<m->(t d a).natAbs<2^i):∀a,a<=k->(∀e,e<c->(jQ c k b a k e).natAbs<2^eB a)/\∀d e,d<n->e<m->(pe c k b t a d e).natAbs<2^(i+tS a):=by
 intro a;induction a with
 |zero=>intro _;exact⟨λe f=>l k e u f,A⟩
 |succ a B=>
  intro C;obtain⟨p,h⟩:=B (by omega);obtain⟨r,-,w⟩:=yQ y s a (by omega);have o:=HU (b:=jQ c k b a) (k:=k) (q:=k-1-a) x (by omega) (λd v=>by rw[r d (by omega)];exact s d (by omega)) (by rw[r _ (by omega)];exact z _ (by omega) (by omega)) p;refine⟨λe f=>?_,λd e v f=>?_⟩
  .rw[jQ];unfold wj;rw[if_pos rfl,w _ (show k-1-a≠k by omega)];have:=xF (p e f) (lO (l (k-1-a) e (by omega) f) (KJ a)) o;rw[eB];exact lO this (by omega)
  .rw[pe];unfold wj;by_cases j:d=k
   .rw[if_pos j];exact lO (xF (h k e u f) (h (k-1-a) e (by omega) f) o) (by rw[tS];omega)
   .rw[if_neg j];exact lO (h d e v f) (by rw[tS];omega)
theorem uD.congr{c n k z X:Nat}{b b':Nat->Nat->Int}(h:uD c n k z X b)(i:∀a d,a<n->d<c->b' a d=b a d):uD c n k z X b':=by
 have q:=h.kz;have t:=h.zn;have f:∀a,a<=n->iv c b' a=iv c b a:=λa e=>mr (λo r d g=>i o d (by omega) g);have p:∀a d,a<n->d<n->lam c b' a d=lam c b a d:=λa d e g=>mo (λo r j l=>i o j (by omega) l) (λj l=>i a j e l);refine⟨q,t,h.n4,λa e=>by rw[f a (by omega)];exact h.pos a e,?_,λd g=>by rw[f (d+1) (by omega),f d (by omega)];exact h.rat d g,λa e=>by rw[vS (i a · e) (i a · e)];exact h.len a e,λa e d g=>by rw[p a d (by omega) (by omega),f (d+1) (by omega)];exact h.red a e d g,λa e=>by rw[p (a+1) a (by omega) (by omega),f (a+1) (by omega),f (a+2) (by omega),f a (by omega)];exact h.ord a e⟩;rcases h.dep with m|m
 .exact .inl m
 .by_cases s:z=n
  .exact .inl s
  .exact .inr (by rw[f (z+1) (by omega)];exact m)
theorem r9{c n k z:Nat}{b b':Nat->Nat->Int}(h:∀a,a<=z->iv c b' a=iv c b a):xi c n k z b'=xi c n k z b:=by unfold xi;rw[q3 z h]
theorem Sp.eq{k c:Nat}{v:Nat->Int}(h:Sp A k c v)(e:∀a,a<c->P a=v a):Sp A k c P:=by
 obtain⟨f,d⟩:=h;exact⟨f,λa b=>by rw[e a b];exact d a b⟩
theorem Sp.JJ(d:Nat->Nat->Int)(k:Nat){c:Nat}{v:Nat->Int}(b:∀a,a<c->v a=0):Sp d k c v:=⟨λ_=>0,λa e=>by rw[b a e,nH k (λ_ _=>by simp)]⟩
theorem Kv{b:Nat->Nat->Int}{n c k q:Nat}{v:Nat->Int}(s:Int)(j:k<n)(g:q<n)(i:k≠q)(h:Sp b n c v):Sp (wj b k q s) n c v:=by
 refine h.trans (λd e=>?_);by_cases a:d=k
 .subst a;refine Sp.eq (Sp.sub (Sp.row (wj b d q s) c e) (Sp.scale (-s) (Sp.row (wj b d q s) c g))) (λf _=>?_);unfold wj;rw[if_pos rfl,if_neg (λa=>i a.symm)];grind
 .refine Sp.eq (Sp.row (wj b k q s) c e) (λf _=>?_);unfold wj;rw[if_neg a]
theorem J1{b:Nat->Nat->Int}{n c k:Nat}{v:Nat->Int}(d:k+1<n)(h:Sp b n c v):Sp (l7 b k) n c v:=by
 refine h.trans (λe a=>?_);refine Sp.eq (Sp.row (l7 b k) c (j2 (show k<n by omega) d a)) (λf _=>?_);unfold l7;congr 1;unfold ky;split
 .rw[if_neg (by omega),if_pos rfl];assumption
 .split
  .rw[if_pos rfl];assumption
  .rfl
theorem Jq{b:Nat->Nat->Int}{n c k:Nat}{v:Nat->Int}(i:k<n+1)(f:∀d,d<c->b k d=0)(h:Sp b (n+1) c v):Sp (nG b k) n c v:=by
 refine h.trans (λa j=>?_);by_cases g:a=k
 .subst g;exact Sp.JJ _ _ f
 .rcases iX a k with e|e
  .refine Sp.eq (Sp.row (nG b k) c (show a<n by omega)) (λd _=>?_);unfold nG;rw[if_pos e]
  .refine Sp.eq (Sp.row (nG b k) c (show a-1<n by omega)) (λd _=>?_);unfold nG;rw[if_neg (by omega),show a-1+1=a from by omega]
theorem IB{c j:Nat}(x:Nat->Int)(d:j<c):x j*x j<=ip c x x:=by
 induction c with
 |zero=>omega
 |succ c a=>
  unfold ip at a|-;rw[sm];by_cases b:j=c
  .subst b;have:=q6 j x;unfold ip at this;omega
  .have:=a (by omega);have:=sq_nonneg (x c);omega
theorem xQ{c E j:Nat}{x:Nat->Int}(h:ip c x x<=2*((2^E:Nat):Int))(b:E<=102)(d:j<c):(x j).natAbs<2^52:=by
 have e:=IB x d;have i:2^E<=2^102:=jb (by decide) b;have f:x j*x j=(((x j).natAbs*(x j).natAbs:Nat):Int):=Int.natAbs_mul_self.symm;rw[f]at e;rcases iX (x j).natAbs (2^52)with a|a
 .exact a
 .have g:=jR a a;omega
structure ll (c m n k kk:Nat) (A b t:Nat->Nat->Int):Prop where
 le:kk<=32000
 c4:c<=4
 st:∃z,uD c n k z (2^(102-n)) b/\xi c n k z b<=kk
 tm:∀i j,i<n->j<c->sm (λa=>t i a*A a j) m=b i j
 back:∀i,i<m->Sp b n c (A i)
 bits:∀i j,i<n->j<m->(t i j).natAbs<2^(1+4600*(32000-kk))
structure rC (c m n k kk:Nat) (A b t:Nat->Nat->Int):Prop where
 le:kk<=32000
 c4:c<=4
 st:∃z,uD c n k z (2^(102-n)) b/\xi c n k z b<=kk
 red:∀q,q<k->2*lam c b k q<=iv c b (q+1)/\-(2*lam c b k q)<=iv c b (q+1)
 tm:∀i j,i<n->j<c->sm (λa=>t i a*A a j) m=b i j
 back:∀i,i<m->Sp b n c (A i)
 bits:∀i j,i<n->j<m->(t i j).natAbs<2^(1+4600*(32000-kk)+4600)
theorem ll.congr{c m n k:Nat}{A b t b':Nat->Nat->Int}(h:ll c m n k i A b t)(l:∀d a,d<n->a<c->b' d a=b d a)(o:∀d a,d<n->a<m->B d a=t d a):ll c m n k i A b' B:=by
 obtain⟨r,p,q⟩:=h.st;have s:=p.zn;refine⟨h.le,h.c4,⟨r,p.congr l,?_⟩,λd a f e=>?_,λd f=>?_,λd a f e=>by rw[o d a f e];exact h.bits d a f e⟩
 .rw[r9 (λd f=>mr (λj g a e=>l j a (by omega) e))];exact q
 .rw[l d a f e,<-h.tm d a f e];exact iq m (λj g=>by rw[o d j f g])
 .exact(h.back d f).trans (λj g=>Sp.eq (Sp.row b' c g) (λa e=>(l j a g e).symm))
theorem rC.congr{c m n k:Nat}{A b t b':Nat->Nat->Int}(h:rC c m n k i A b t)(r:k<n)(j:∀d a,d<n->a<c->b' d a=b d a)(o:∀d a,d<n->a<m->B d a=t d a):rC c m n k i A b' B:=by
 obtain⟨u,p,s⟩:=h.st;have w:=p.zn;refine⟨h.le,h.c4,⟨u,p.congr j,?_⟩,λq v=>?_,λd a g e=>?_,λd g=>?_,λd a g e=>by rw[o d a g e];exact h.bits d a g e⟩
 .rw[r9 (λd g=>mr (λf l a e=>j f a (by omega) e))];exact s
 .rw[mr (b':=b) (λf l a e=>j f a (by omega) e),mo (b':=b) (λf l a e=>j f a (by omega) e) (λa e=>j k a r e)];exact h.red q v
 .rw[j d a g e,<-h.tm d a g e];exact iq m (λf l=>by rw[o d f g l])
 .exact(h.back d g).trans (λf l=>Sp.eq (Sp.row b' c l) (λa e=>(j f a l e).symm))
theorem yV(n:Nat):2^(102-n)<=2^102:=jb (by decide) (by omega)
theorem ll.start{c m:Nat}{A:Nat->Nat->Int}(l:m<=4)(i:c<=4)(h:∀a e,a<m->e<c->(A a e).natAbs<2^48):ll c m m 0 32000 A A kd:=by
 obtain⟨o,g⟩:=uD.make (c:=c) (n:=m) (k:=0) (X:=2^(102-m)) (b:=A) l hR (λa d=>by rw[show a=0 from by omega,qM];decide) (λa d=>by
  have r:=Dr (λe f=>h a e d f);have s:2^98<=2^(102-m):=jb (by decide) (by omega);have v:(c:Int)*((2^(2*48):Nat):Int)<=4*((2^(2*48):Nat):Int):=sC (by omega) (by omega);omega) (λe f=>by omega) (λa d=>by omega) (λa d=>by omega)
 have t:=g.zn;have q:=g.C5 (yV m);refine⟨c_,i,⟨o,g,by unfold xi;omega⟩,λa e d f=>?_,λa d=>Sp.row A c d,λa e _ _=>?_⟩
 .rw[ml m a d (λu _ p=>by unfold kd;rw[if_neg (λj=>p j.symm)];simp)];unfold kd;rw[if_pos rfl];simp
 .unfold kd;split<;>decide
theorem Ku{k:Nat}(h:k<=3):tS k<=4600:=by
 obtain rfl|rfl|rfl|rfl:k=0\/k=1\/k=2\/k=3:=by omega
 all_goals decide
theorem ll.short{c m n k:Nat}{A b t:Nat->Nat->Int}(h:ll c m n k i A b t):∀a d,a<n->d<c->(b a d).natAbs<2^52:=λa d f e=>by
 obtain⟨j,g,-⟩:=h.st;exact xQ (g.len a f) (by omega) e
theorem rC.short{c m n k:Nat}{A b t:Nat->Nat->Int}(h:rC c m n k i A b t):∀a d,a<n->d<c->(b a d).natAbs<2^52:=λa d f e=>by
 obtain⟨j,g,-⟩:=h.st;exact xQ (g.len a f) (by omega) e
theorem Jz{c m n k:Nat}{A b t:Nat->Nat->Int}(p:k<n)(h:∀a d,a<n->d<c->sm (λf=>t a f*A f d) m=b a d):∀e,e<=k->∀a d,a<n->d<c->sm (λf=>pe c k b t e a f*A f d) m=jQ c k b e a d:=by
 intro e;induction e with
 |zero=>intro _;exact h
 |succ e g=>
  intro o a d l i;rw[jQ,pe];unfold wj;by_cases j:a=k
  .subst j;simp only[if_true];rw[CN,g (by omega) a d l i,g (by omega) (a-1-e) d (by omega) i,wa]
  .simp only[if_neg j];exact g (by omega) a d l i
theorem Gv{c n k:Nat}{b:Nat->Nat->Int}{v:Nat->Int}(d:k<n)(h:Sp b n c v):∀a,a<=k->Sp (jQ c k b a) n c v:=by
 intro a;induction a with
 |zero=>intro _;exact h
 |succ a e=>intro f;rw[jQ];exact Kv _ d (by omega) (by omega) (e (by omega))
theorem ll.pos{c m n k:Nat}{A b t:Nat->Nat->Int}(h:ll c m n k i A b t):∀a,a<=k->0<iv c b a:=λa e=>by
 obtain⟨f,d,-⟩:=h.st;exact d.pos a (iy e d.kz)
theorem ll.less{c m n k:Nat}{A b t:Nat->Nat->Int}(h:ll c m n k i A b t)(g:k<n):rC c m n k i A (jQ c k b k) (pe c k b t k):=by
 obtain⟨w,f,s⟩:=h.st;have y:=f.n4;have C:=f.zn;have E:=f.kz;have l:k<=3:=by omega
 obtain⟨p,x,q⟩:=yQ l h.pos k c_;obtain⟨j,r⟩:=f.Fh (b':=jQ c k b k) g (λd e o _=>by rw[q d e]) p (λa j=>x a (by omega) j);have u:∀a,a<=2->a<=k->iv c b a<=((2^204:Nat):Int):=λa B D=>by
  have z:=f.E1 (yV n) a (by omega);have F:2^(102*a)<=2^204:=jb (by decide) (by omega);omega
 refine⟨h.le,h.c4,⟨w,j,by rw[r9 (λd e=>p d (by omega))];exact s⟩,r,Jz g h.tm k c_,λd e=>Gv g (h.back d e) k c_,λd o e v=>?_⟩;exact lO ((F7 l g h.c4 h.pos u h.short h.bits k c_).2 d o e v) (by have:=Ku l;omega)
theorem rC.H9{c m n k:Nat}{A b t:Nat->Nat->Int}(h:rC c m n k i A b t)(d:k<n):1<=i:=by
 obtain⟨e,f,a⟩:=h.st;unfold xi at a;omega
theorem rC.next{c m n k:Nat}{A b t:Nat->Nat->Int}(h:rC c m n k i A b t)(d:k<n)(g:k=0->0<ip c (b 0) (b 0))(e:∀a,k=a+1->3*(iv c b (a+1)*iv c b (a+1))<=4*(iv c b (a+2)*iv c b a+lam c b (a+1) a*lam c b (a+1) a)):ll c m n (k+1) (i-1) A b t:=by
 have r:=h.H9 d;have s:=h.le;obtain⟨o,q,l⟩:=h.st;refine⟨by omega,h.c4,⟨o,q.next d h.red g e,by unfold xi at l|-;omega⟩,h.tm,h.back,λa j p f=>lO (h.bits a j p f) (by omega)⟩
theorem rC.swap{c m n k:Nat}{A b t:Nat->Nat->Int}(h:rC c m n (k+1) i A b t)(f:k+1<n)(u:4*(iv c b (k+2)*iv c b k+lam c b (k+1) k*lam c b (k+1) k)<3*(iv c b (k+1)*iv c b (k+1))):ll c m n k (i-1) A (l7 b k) (l7 t k):=by
 have B:=h.H9 f;have E:=h.le;obtain⟨v,g,x⟩:=h.st;have r:=g.kz;have C:=g.zn;have z:=g.n4;obtain⟨e,j,l,p⟩:=g.swap f u;refine⟨by omega,h.c4,⟨e,j,?_⟩,λa o d q=>?_,λa d=>J1 f (h.back a d),λa o d q=>?_⟩
 .unfold xi at x|-;have F:=j.kz;rcases l with⟨rfl,l⟩|l
  .have:=A6 (j.pos (k+1) r) l e r (λa d s=>p a (by omega) s);omega
  .have:xN c (l7 b k) e<=xN c b v:=by
    by_cases y:e<=k
    .rw[q3 e (λa d=>p a (by omega) (by omega))];exact Ai c b (by omega)
    .have w:4*iv c (l7 b k) (k+1)<3*iv c b (k+1):=by
      rw[<-xT b (by omega)]at u;have D:=g.pos (k+1) r;have:(4*iv c (l7 b k) (k+1))*iv c b (k+1)<(3*iv c b (k+1))*iv c b (k+1):=by grind
      exact Int.lt_of_mul_lt_mul_right this (by omega)
     have:=A6 (j.pos (k+1) (by omega)) w e (by omega) (λa d s=>p a (by omega) s);have:=Ai c b (show e<=v by omega);omega
   omega
 .exact h.tm _ o (j2 (by omega) f d) q
 .exact lO (h.bits _ o (j2 (by omega) f d) q) (by omega)
theorem rC.out{c m n k:Nat}{A b t:Nat->Nat->Int}(h:rC c m (n+1) k i A b t)(l:k<n+1)(v:∀d,d<c->b k d=0):ll c m n k (i-1) A (nG b k) (nG t k):=by
 have x:=h.H9 l;have B:=h.le;obtain⟨C,q,s⟩:=h.st;have w:=q.n4;obtain⟨u,f⟩:=q.out l;have r:2*2^(102-(n+1))=2^(102-n):=by rw[ij,<-jx];congr 1;omega
 rw[r]at f;have z:=f.C5 (yV n);have y:=f.zn;have p:∀a,a<n->(if a<k then a else a+1)<n+1:=λa e=>by split<;>omega
 have g:∀(j:Nat->Nat->Int) a,nG j k a=j (if a<k then a else a+1):=λj a=>by unfold nG;split<;>rfl
 refine⟨by omega,h.c4,⟨u,f,by unfold xi at s|-;omega⟩,λa d e o=>?_,λa e=>Jq l v (h.back a e),λa d e o=>?_⟩
 .rw[g,g];exact h.tm _ d (p a e) o
 .rw[g];exact lO (h.bits _ d (p a e) o) (by omega)
end R
section
open R
structure RS where
 n:Nat
 k:Nat
 b:Nat->Nat->Int
 t:Nat->Nat->Int
structure Ag (c m:Nat) (x y:RS):Prop where
 n:x.n=y.n
 k:x.k=y.k
 b:∀i j,i<x.n->j<c->x.b i j=y.b i j
 t:∀i j,i<x.n->j<m->x.t i j=y.t i j
theorem Ag.trans{c m:Nat}{x y z:RS}(h:Ag c m x y)(f:Ag c m y z):Ag c m x z:=⟨h.n.trans f.n,h.k.trans f.k,λd a b e=>(h.b d a b e).trans (f.b d a (by rw[<-h.n];exact b) e),λd a b e=>(h.t d a b e).trans (f.t d a (by rw[<-h.n];exact b) e)⟩
theorem JA{c m n k:Nat}{b b' t:Nat->Nat->Int}(i:k<n)(q:∀d a,d<n->a<c->b d a=b' d a)(o:∀d a,d<n->a<m->t d a=A d a):∀e,e<=k->(∀d a,d<n->a<c->jQ c k b e d a=jQ c k b' e d a)/\∀d a,d<n->a<m->pe c k b t e d a=pe c k b' A e d a:=by
 intro e;induction e with
 |zero=>intro _;exact⟨q,o⟩
 |succ e p=>
  intro r;obtain⟨g,j⟩:=p (by omega);have l:GU c (jQ c k b e) k (k-1-e)=GU c (jQ c k b' e) k (k-1-e):=by
   unfold GU;rw[w2 (b':=jQ c k b' e) (λd a h f=>g d a (by omega) f) (λa f=>g k a i f),nL (b':=jQ c k b' e) (λd a h f=>g d a (by omega) f)]
  refine⟨λd a h f=>?_,λd a h f=>?_⟩
  .rw[jQ,jQ,l];unfold wj;rw[g k a i f,g (k-1-e) a (by omega) f,g d a h f]
  .rw[pe,pe,l];unfold wj;rw[j k a i f,j (k-1-e) a (by omega) f,j d a h f]
def RS.step(c:Nat)(x:RS):RS:=
 if∀a,a<c->jQ c x.k x.b x.k x.k a=0 then⟨x.n-1,x.k,nG (jQ c x.k x.b x.k) x.k,nG (pe c x.k x.b x.t x.k) x.k⟩
 else if x.k=0\/tv c (jQ c x.k x.b x.k) (x.k-1)then⟨x.n,x.k+1,jQ c x.k x.b x.k,pe c x.k x.b x.t x.k⟩
 else⟨x.n,x.k-1,l7 (jQ c x.k x.b x.k) (x.k-1),l7 (pe c x.k x.b x.t x.k) (x.k-1)⟩
theorem Ct{c n k:Nat}{b b':Nat->Nat->Int}(h:k+1<n)(f:∀d a,d<n->a<c->b d a=b' d a):tv c b k↔tv c b' k:=by
 unfold tv;rw[nL (n:=k+2) (b':=b') (λd a g e=>f d a (by omega) e),nL (n:=k) (b':=b') (λd a g e=>f d a (by omega) e),nL (n:=k+1) (b':=b') (λd a g e=>f d a (by omega) e),w2 (b':=b') (λd a g e=>f d a (by omega) e) (λa e=>f (k+1) a h e)]
theorem Hh{c m:Nat}{x y:RS}(h:Ag c m x y)(k:x.k<x.n):Ag c m (x.step c) (y.step c):=by
 obtain⟨v,a,j,w⟩:=x;obtain⟨C,B,u,z⟩:=y;obtain⟨rfl,rfl,r,t⟩:=h;simp only at r t k;obtain⟨f,o⟩:=JA k r t a c_;unfold RS.step;simp only;have q:(∀b,b<c->jQ c a j a a b=0)↔(∀b,b<c->jQ c a u a a b=0):=⟨λh b d=>(f a b k d).symm.trans (h b d),λh b d=>(f a b k d).trans (h b d)⟩;have s:(a=0\/tv c (jQ c a j a) (a-1))↔(a=0\/tv c (jQ c a u a) (a-1)):=by
  by_cases p:a=0
  .exact⟨λ_=>.inl p,λ_=>.inl p⟩
  .rw[Ct (n:=v) (by omega) f]
 by_cases l:∀b,b<c->jQ c a j a a b=0
 .rw[if_pos l,if_pos (q.1 l)];refine⟨rfl,rfl,λe b g d=>?_,λe b g d=>?_⟩
  .simp only at g|-;unfold nG;split
   .exact f e b (by omega) d
   .exact f (e+1) b (by omega) d
  .simp only at g|-;unfold nG;split
   .exact o e b (by omega) d
   .exact o (e+1) b (by omega) d
 .rw[if_neg l,if_neg (λh=>l (q.2 h))];by_cases i:a=0\/tv c (jQ c a j a) (a-1)
  .rw[if_pos i,if_pos (s.1 i)];exact⟨rfl,rfl,f,o⟩
  .rw[if_neg i,if_neg (λh=>i (s.2 h))];have A:a≠0:=λh=>i (.inl h);exact⟨rfl,rfl,λe b g d=>f _ b (j2 (by omega) (by omega) g) d,λe b g d=>o _ b (j2 (by omega) (by omega) g) d⟩
def RS.run(c:Nat):Nat->RS->RS
 |0,a=>a
 |b+1,a=>if a.k<a.n then RS.run c b (a.step c)else a
theorem F5{c m:Nat}:∀(d:Nat) (b f:RS),Ag c m b f->Ag c m (b.run c d) (f.run c d):=by
 intro d;induction d with
 |zero=>intro b f a;exact a
 |succ d g=>
  intro b f a;rw[RS.run,RS.run];by_cases e:b.k<b.n
  .rw[if_pos e,if_pos (by rw[<-a.n,<-a.k];exact e)];exact g _ _ (Hh a e)
  .rw[if_neg e,if_neg (by rw[<-a.n,<-a.k];exact e)];exact a
theorem H5{c f:Nat}{x:RS}(h:¬x.k<x.n):x.run c f=x:=by
 cases f with
 |zero=>rfl
 |succ f=>rw[RS.run,if_neg h]
theorem EU{c f:Nat}{x:RS}(h:x.k<x.n)(b:1<=f):x.run c f=(x.step c).run c (f-1):=by
 obtain⟨a,rfl⟩:∃a,f=a+1:=⟨f-1,by omega⟩;rw[RS.run,if_pos h];rfl
theorem yx{c m:Nat}{x y S:RS}(h:Ag c m (x.run c i) S)(b:x.k<x.n)(a:1<=i)(d:Ag c m y (x.step c)):Ag c m (y.run c (i-1)) S:=by
 rw[EU b a]at h;exact(F5 (i-1) _ _ d).trans h
theorem FG{c m n k:Nat}{b t:Nat->Nat->Int}(q:n=i+1)(j:k<n)(g:∀d a,d<n->a<c->A d a=jQ c k b k d a)(h:∀d a,d<n->a<m->B d a=pe c k b t k d a)(l:∀a,a<c->A k a=0)(p:∀d a,d<i->a<c->F d a=A (if d<k then d else d+1) a)(o:∀d a,d<i->a<m->G d a=B (if d<k then d else d+1) a):Ag c m ⟨i,k,F,G⟩ (RS.step c ⟨n,k,b,t⟩):=by
 unfold RS.step;simp only;rw[if_pos (λa e=>(g k a j e).symm.trans (l a e))];refine⟨by simp only;omega,rfl,λd a f e=>?_,λd a f e=>?_⟩
 .simp only at f|-;rw[p d a f e];unfold nG;split
  .exact g d a (by omega) e
  .exact g (d+1) a (by omega) e
 .simp only at f|-;rw[o d a f e];unfold nG;split
  .exact h d a (by omega) e
  .exact h (d+1) a (by omega) e
theorem xy{c m n k a:Nat}{b t:Nat->Nat->Int}(l:k<n)(g:∀d e,d<n->e<c->A d e=jQ c k b k d e)(i:∀d e,d<n->e<m->B d e=pe c k b t k d e)(h:a<c)(o:A k a≠0)(j:k=0\/tv c A (k-1)):Ag c m ⟨n,k+1,A,B⟩ (RS.step c ⟨n,k,b,t⟩):=by
 unfold RS.step;simp only;rw[if_neg (λf=>o ((g k a l h).trans (f a h))),if_pos]
 .exact⟨rfl,rfl,g,i⟩
 .rcases j with f|f
  .exact .inl f
  .by_cases p:k=0
   .exact .inl p
   .exact .inr ((Ct (n:=n) (by omega) g).1 f)
theorem Ee{c m n k a:Nat}{b t:Nat->Nat->Int}(q:k=i+1)(r:k<n)(j:∀e d,e<n->d<c->A e d=jQ c k b k e d)(s:∀e d,e<n->d<m->B e d=pe c k b t k e d)(l:a<c)(u:A k a≠0)(o:¬tv c A i)(v:∀e d,e<n->d<c->F e d=A (sw i k e) d)(p:∀e d,e<n->d<m->G e d=B (sw i k e) d):Ag c m ⟨n,i,F,G⟩ (RS.step c ⟨n,k,b,t⟩):=by
 subst q;unfold RS.step;simp only;rw[if_neg (λg=>u ((j (i+1) a r l).trans (g a l))),if_neg]
 .refine⟨rfl,rfl,λe d f h=>?_,λe d f h=>?_⟩
  .simp only at f|-;rw[v e d f h];exact j _ d (j2 (by omega) (by omega) f) h
  .simp only at f|-;rw[p e d f h];exact s _ d (j2 (by omega) (by omega) f) h
 .intro g;rcases g with g|g
  .omega
  .exact o ((Ct (n:=n) (by omega) j).2 g)
theorem iA.G5{w:World}{r c L K X:Nat}{zs:List Int}(h:iA w x (r*c) zs L)(t:∀a e,a<r->e<c->(e_ c zs a e).natAbs<2^X)(l:X<=32*K):iA w x (r*c) zs K:=by
 obtain⟨o,n,m,p⟩:=h;refine⟨o,n,m,λa b=>?_⟩;obtain⟨q,f,s,g,j⟩:=p a b;refine⟨q,f,s,g,j.fit ?_⟩;have k:0<c:=by
  rcases kl c with h|h
  .subst h;simp at b
  .exact h
 have d:=t (a/c) (a%c) (Nat.div_lt_of_lt_mul (by rw[ij];exact b)) (mQ _ k);unfold e_ at d;rw[ij,kY]at d;have i:(4294967296:Nat)^K=2^(32*K):=by rw[qb]
 rw[i];exact lO d l
theorem iT.G5{w:World}{p o g r c L K X:Nat}{zs:List Int}(h:iT w p o g r c zs L)(e:∀a b,a<r->b<c->(e_ c zs a b).natAbs<2^X)(d:X<=32*K):iT w p o g r c zs K:=⟨h.hr,h.hc,h.lX,h.kA.G5 e d⟩
theorem Kx{x:Int}(h:x≠0):0<x*x:=by
 rcases Int.lt_or_gt_of_ne h with a|a
 .exact Int.mul_pos_of_neg_of_neg a a
 .exact Int.mul_pos a a
theorem J8{c k:Nat}{b:Nat->Nat->Int}(i:k<=2)(a:∀d,d<=k+1->0<iv c b d):tv c b k↔3*(iv c b (k+1)*iv c b (k+1))<=4*(iv c b (k+2)*iv c b k+lam c b (k+1) k*lam c b (k+1) k):=by
 unfold tv;rw[vU,vU,vU,E6];have e:0<=iv c b (k+2):=by
  show 0<=iv c b (k+1+1);rw[lv];exact CS c b (k+1) (by omega) a _
 have j:=pT e (show 0<=iv c b k by have:=a k (by omega);omega);have m:=R.sq_nonneg (lam c b (k+1) k);have h:=R.sq_nonneg (iv c b (k+1));generalize iv c b (k+2)*iv c b k=l at*;generalize lam c b (k+1) k*lam c b (k+1) k=f at*;generalize iv c b (k+1)*iv c b (k+1)=g at*;omega
def JV(a wr:World)(p b d n c m k e:Nat)(A zs ts:List Int):Prop:=Cw wr p b d n c m zs ts 6 4700000/\Bk wr p b d n c m/\ll c m n k e (e_ c A) (e_ c zs) (e_ m ts)/\Below a.heap.size a wr/\a.heap.size<=p/\a.heap.size<=b/\a.heap.size<=d/\Ag c m (RS.run c e ⟨n,k,e_ c zs,e_ m ts⟩) (RS.run c 32000 ⟨m,0,e_ c A,kd⟩)
def Kg(w b:World)(e:Ending)(r c:Nat)(zs:List Int):Prop:=∃(a h g i:Nat) (d f:List Int),e=.returned (.agg #[.int .i64 a,.int .i64 c,.slice (some ⟨h,0,none⟩) (a*c) (a*c),.int .i64 a,.int .i64 r,.slice (some ⟨g,0,none⟩) (a*r) (a*r)])/\
 i_ b (.agg #[.int .i64 a,.int .i64 c,.slice (some ⟨h,0,none⟩) (a*c) (a*c)]) a c d 6/\i_ b (.agg #[.int .i64 a,.int .i64 r,.slice (some ⟨g,0,none⟩) (a*r) (a*r)]) a r f 4700000/\ll c r a a i (e_ c zs) (e_ c d) (e_ r f)/\Ag c r ⟨a,a,e_ c d,e_ r f⟩ (RS.run c 32000 ⟨r,0,e_ c zs,kd⟩)/\Below w.heap.size w b
theorem zD{v:Value}{r c:Nat}{zs:List Int}{w:World}(bi:i_ w v r c zs 2)(bG:r<=4)(a0:c<=4)(aw:∀j A,j<r->A<c->(e_ c zs j A).natAbs<2^48):Calls Tryz.prog 80 #[v] w λG u=>Kg w u G r c zs:=by
 have bR:=a_ bi;obtain⟨ae,bz,co,rfl,am⟩:=bi;obtain⟨Z,ad,rfl,-⟩:=am.shape;obtain⟨ai,aO⟩:=hQ (r*c);rw[<-aO]at bR am|-;have b1:=a_ aO;have b3:=a_ am;clear am aO;go_in;go_wp2_with fail;obtain⟨i,U⟩:=hQ ((w.alloc (.cells #[.int .i64 r,.int .i64 c,.slice Z ai ad] 66)).alloc (.cells #[.int .i64 0,.int .i64 0,.slice none 0 0,.int .i64 0,.int .i64 0,.slice none 0 0] 133));have cj:i.heap.size=w.heap.size+2:=by rw[U];simp
 have a8:Below w.heap.size w i:=by rw[U];repeat(first|exact hP|refine ia ?_ (by simp<;>omega) _)
 have bF:jk i w.heap.size (.int .i64 r) (.int .i64 c) (.slice Z ai ad):=by
  rw[U];exact jk.later (w:=w.alloc (.cells #[.int .i64 r,.int .i64 c,.slice Z ai ad] 66)) ⟨fa _ _ _ _ _ rfl rfl,fa _ _ _ _ _ rfl rfl,fa _ _ _ _ _ rfl rfl⟩ hS
 have a5:i.heap[w.heap.size+1]?=some (.cells #[.int .i64 0,.int .i64 0,.slice none 0 0,.int .i64 0,.int .i64 0,.slice none 0 0] 133 (0,0)):=by
  rw[U];have:=iP (w.alloc (.cells #[.int .i64 r,.int .i64 c,.slice Z ai ad] 66)) (.cells #[.int .i64 0,.int .i64 0,.slice none 0 0,.int .i64 0,.int .i64 0,.slice none 0 0] 133);simpa using this
 rw[<-U];clear U;have al:=hO a8 a5 bF;clear a8 bF a5;have bA:iA i (.slice Z ai ad) (r*c) zs 2:=by rw[<-b1.e];exact b3.e.below al.f
 go_fit (mF ae bz bA);rintro G s⟨B,rfl,bO,aX,aJ⟩;clear bA;obtain⟨D,ac⟩:=hQ (s.alloc (.cells #[.int .i64 r,.int .i64 c,.slice (some ⟨B,0,none⟩) (r*c) (r*c)] 66));have a1:Below s.heap.size s D:=by rw[ac];exact hS
 have br:jk D s.heap.size (.int .i64 r) (.int .i64 c) (.slice (some ⟨B,0,none⟩) (r*c) (r*c)):=by
  rw[ac];exact⟨fa _ _ _ _ _ rfl rfl,fa _ _ _ _ _ rfl rfl,fa _ _ _ _ _ rfl rfl⟩
 have aN:Below i.heap.size i D:=d_ aJ a1;have b8:s.heap.size<D.heap.size/\i.heap.size<=s.heap.size:=⟨by rw[ac];simp,aJ.size⟩;have b5:B<s.heap.size:=aX.ty.lt;have K:=hY (aX.below a1) aN br (al.l.later aN);have bu:=a_ (show∀u,Below D.heap.size D u->u.cell? ⟨w.heap.size,0,none⟩=some (.int .i64 r)/\u.cell? ⟨s.heap.size,0,none⟩=some (.int .i64 r)/\u.cell? ⟨s.heap.size,1,none⟩=some (.int .i64 c)/\u.cell? ⟨s.heap.size,2,none⟩=some (.slice (some ⟨B,0,none⟩) (r*c) (r*c))from λu R=>⟨(K.o.later R).1,(K.j.later R).1,(K.j.later R).2.1,(K.j.later R).2.2⟩);have bN:=a_ ac;clear aX aJ a1 br aN ac;go_upto_region 1 with fail
 rw[<-bN.e];go_region_held3 (λu=>u.cell? ⟨w.heap.size,0,none⟩=some (.int .i64 r)/\u.cell? ⟨s.heap.size,0,none⟩=some (.int .i64 r)/\u.cell? ⟨s.heap.size,1,none⟩=some (.int .i64 c)/\u.cell? ⟨s.heap.size,2,none⟩=some (.slice (some ⟨B,0,none⟩) (r*c) (r*c))) (exact bu.e _ (by first|exact hbU1.alloc hbU1.size _|exact(hbU1.alloc hbU1.size _).drew|exact hbU1|exact hP.drew|exact hP)) (first|(go_at_call 60;refine(nX ae).mono ?_;rintro ct x⟨f,ap,rfl,bB,aF,aH,a6⟩;have hbU1:Below D.heap.size D x:=(hP.drew).trans a6;clear a6));obtain⟨S,aq⟩:=hQ (x.alloc (.cells #[.int .i64 r,.int .i64 c,.slice (some ⟨B,0,none⟩) (r*c) (r*c),.int .i64 r,.int .i64 r,.slice (some ⟨f,0,none⟩) (r*r) (r*r)] 133));rw[<-aq];have ao:Below x.heap.size x S:=by rw[aq];exact hS
 have ar:Bk S x.heap.size B f r c r:=by rw[aq];exact iP x _
 have bf:=hbU1.size;have bV:D.heap.size<=f:=bB;have bP:f<x.heap.size:=aF.ty.lt;have bs:Below i.heap.size i S:=K.g.trans ((hbU1.trans (ao.mono bf)).mono (by omega));have a3:Cw S x.heap.size B f r c r zs ap 6 4700000:=by
  refine⟨⟨ae,bz,?_,((K.f.below hbU1).below ao).mono (by omega)⟩,⟨ae,ae,?_,(aF.below ao).mono (by omega)⟩,by omega,by omega,by omega⟩
  .refine⟨?_,?_,?_⟩<;>simp[World.cell?,show S.heap[x.heap.size]?=_ from ar]
  .refine⟨?_,?_,?_⟩<;>simp[World.cell?,show S.heap[x.heap.size]?=_ from ar]
 have bx:ll c r r 0 32000 (e_ c zs) (e_ c zs) (e_ r ap):=(ll.start bG a0 aw).congr (λ_ _ _ _=>rfl) aH;have bd:f_ (JV i S x.heap.size B f r c r 0 32000 zs zs ap):=a_ ⟨a3,ar,bx,bs,by omega,by omega,by omega,F5 32000 _ _ ⟨rfl,rfl,λ_ _ _ _=>rfl,aH⟩⟩;obtain⟨h,a9⟩:=hQ x.heap.size;rw[<-a9]at bd|-;have J:i.heap.size<=h:=by omega
 clear aq ao ar bf bB bV bP bs a3 bx aF aH hbU1 a9 b8 b5 bO K bu;go_wp2_with fail;go_loopg [5] 32000 (λb0 bH wr=>∃(e b l f:Nat) (au an:List Int),bH=.int .i64 b/\b<=e/\f_ (JV i wr h l f e c r b b0 zs au an))
 case atStart=>exact⟨r,0,B,f,zs,ap,rfl,hR,bd⟩
 case round=>
  obtain⟨e,b,l,f,au,an,rfl,cw,a⟩:=hrel;have m:=a.g;obtain⟨y,aM⟩:=hQ (e*c);obtain⟨X,ax⟩:=hQ (e*r);have ak:=a_ aM;have aG:=a_ ax;unfold Bk at m;rw[<-aM,<-ax]at m;have bQ:wr.cell? ⟨h,0,none⟩=some (.int .i64 e):=by simp[World.cell?,m]
  clear aM ax;by_cases p:b<e
  .clear m;have cg:e<=4:=by obtain⟨ba,af,-⟩:=a.j.st;exact af.n4
   have a4:b<=3:=by omega
   have ch:(b:Int)<e:=by omega
   go_wp2_with fail;go_fit (BV a.f p a4 a0 (by omega) (HA a4 a.j.pos));rintro G ab⟨rfl,g,E,T,aS,aQ,aZ⟩;have ag:=(a.j.less p).congr p aS aQ;have Q:=a.g.lP aZ a.f.d1 a.f.d2 a.f.d2;have ci:=ag.le;have aB:Cw ab h l f e c r g E 6 4700000:=⟨T.R.G5 ag.short (by omega),T.T.G5 ag.bits (by omega),T.d1,T.d2,T.d3⟩;have az:=a.m.size;have bl:Below i.heap.size i ab:=a.m.trans (aZ.below a.y a.A a.A az);have k:=hY aB Q ag bl;have F:=b_ aS aQ;unfold Bk at Q;rw[<-ak.e,<-aG.e]at Q;have aA:=a_ aB.R.sv;rw[<-ak.e]at aA;have aW:ab.cell? ⟨h,0,none⟩=some (.int .i64 e):=by simp[World.cell?,Q]
   have aV:ab.cell? ⟨h,1,none⟩=some (.int .i64 c):=by simp[World.cell?,Q]
   have aD:ab.cell? ⟨h,2,none⟩=some (.slice (some ⟨l,0,none⟩) y y):=by simp[World.cell?,Q]
   clear T aS aQ aZ ag Q aB bl bQ az;go_wp2_with fail;go_fit (qq aA.e p);rintro G aT⟨ba,rfl,bJ,W⟩;have cq:=W.size;have bL:=k.o.size;have o:=hY (k.f.later W) (k.g.lP (jv.I l f f W) k.f.d1 k.f.d2 k.f.d2) (k.o.trans (W.mono bL)) (aA.e.below W);have aj:=k.j.H9 p;clear W aW aV aD;rcases bJ with⟨j,q,rfl,bm,-⟩|⟨rfl,bq⟩
   .have m:=o.g;unfold Bk at m;rw[<-ak.e,<-aG.e]at m;have aW:aT.cell? ⟨h,0,none⟩=some (.int .i64 e):=by simp[World.cell?,m]
    have aV:aT.cell? ⟨h,1,none⟩=some (.int .i64 c):=by simp[World.cell?,m]
    have aD:aT.cell? ⟨h,2,none⟩=some (.slice (some ⟨l,0,none⟩) y y):=by simp[World.cell?,m]
    have cu:¬(j:Int)<0:=by omega
    have H:=b_ q bm;clear m bm q;go_wp2_with fail;rcases kl b with bD|bD
    .subst bD;go_fit (BI o.o);rintro G Y⟨rfl,t⟩;have ah:ll c r e 1 (gk-1) (e_ c zs) (e_ c g) (e_ r E):=k.j.next p (λ_=>by
      have af:=IB (e_ c g 0) H.f;have cz:=Kx H.i;omega) (λj q=>by omega)
     have N:=o.j.size;have z:=yx a.E p aj (xy p F.f F.i H.f H.i (.inl rfl));have n:f_ (JV i Y h l f e c r 1 (gk-1) zs g E):=a_ ⟨o.f.later t,o.g.lP (jv.I l f f t) k.f.d1 k.f.d2 k.f.d2,ah,o.j.trans (t.mono N),J,a.y,a.A,z⟩;clear t ah N z;go_wp2;go_roundg (gk-1);exact⟨e,1,l,f,g,E,by first|rfl|simp|go_num,by omega,n⟩;omega
    .obtain⟨d,bn⟩:∃d,b=d+1:=⟨b-1,by omega⟩;have bI:(b:Int)-1=(d:Nat):=by omega
     have cd:d<e:=by omega
     have I:=a_ bn;have be:d<=2:=by omega
     have aK:d+1<e:=by omega
     clear bn;go_fit (mc _ e c d g 6 _ o.o aK be a0 (by omega) b I.e);rintro G Y⟨bX,rfl,aE,t⟩;have aR:rC c r e (d+1) gk (e_ c zs) (e_ c g) (e_ r E):=by rw[<-I.e];exact k.j
     have a7:∀j,j<=d+1->0<iv c (e_ c g) j:=by
      obtain⟨ba,aw,-⟩:=aR.st;exact λj q=>aw.pos j (iy q aw.kz)
     have bc:=J8 be a7;have N:=o.j.size;have cr:=t.size;have n:=ju (o.f.later t) (o.g.lP (jv.I l f f t) k.f.d1 k.f.d2 k.f.d2) (o.j.trans (t.mono N)) aR aE (aE.trans bc);clear t aR a7 bc aE aW aV aD
     cases bX
     .have bh:4*(iv c (e_ c g) (d+2)*iv c (e_ c g) d+lam c (e_ c g) (d+1) d*lam c (e_ c g) (d+1) d)<3*(iv c (e_ c g) (d+1)*iv c (e_ c g) (d+1)):=by
       rcases tV (4*(iv c (e_ c g) (d+2)*iv c (e_ c g) d+lam c (e_ c g) (d+1) d*lam c (e_ c g) (d+1) d)) (3*(iv c (e_ c g) (d+1)*iv c (e_ c g) (d+1)))with V|V
       .exact V
       .have:=n.z.2 V
        cases this
      have bT:=a_ bh;clear bh;go_wp2_with fail;go_fit (Bv n.f cd p);rintro G bZ⟨rfl,M,L,bC,aY,aC,aI⟩;have aa:ll c r e d (gk-1) (e_ c zs) (e_ c M) (e_ r L):=(n.m.swap aK bT.e).congr (λj A q O=>by rw[aY j A q O,I.e];rfl) (λj A q O=>by rw[aC j A q O,I.e];rfl);have bj:=n.j.size;have z:=yx a.E p aj (Ee I.e p F.f F.i H.f H.i (λV=>by have:=n.r.2 V;cases this) aY aC);have aP:f_ (JV i bZ h l f e c r d (gk-1) zs M L):=a_ ⟨bC,n.g.lP aI k.f.d1 k.f.d2 k.f.d2,aa,n.j.trans (aI.below a.y a.A a.A bj),J,a.y,a.A,z⟩;clear bC aY aC aI aa bj z;go_wp2;go_roundg (gk-1);exact⟨e,d,l,f,M,L,by first|rfl|(rw[bI])|(have:=I.e;go_num),by omega,aP⟩;omega
     .have aa:ll c r e (b+1) (gk-1) (e_ c zs) (e_ c g) (e_ r E):=by
       rw[I.e];exact n.m.next aK (λV=>by omega) (λj q=>by
        obtain rfl:j=d:=by omega
        exact n.z.1 (by trivial))
      have z:=yx a.E p aj (xy p F.f F.i H.f H.i (.inr (by rw[show b-1=d from by have:=I.e;omega];exact n.r.1 (by trivial))));have aP:f_ (JV i Y h l f e c r (b+1) (gk-1) zs g E):=a_ ⟨n.f,n.g,aa,n.j,J,a.y,a.A,z⟩;clear aa z;go_wp2;go_roundg (gk-1);exact⟨e,b+1,l,f,g,E,by first|rfl|simp|go_num,by omega,aP⟩;omega
   .obtain⟨P,a2⟩:∃P,e=P+1:=⟨e-1,by omega⟩;have av:=a_ a2;have bp:=a_ bq;clear a2 bq;go_wp2_with fail;go_fit (Dv o.f o.g av.e);rintro G Y⟨rfl,bw,bb,M,L,bg,bt,ay,aL,bo,b6,cb⟩;have b7:b<=P:=by have:=av.e;omega
    have bv:rC c r (P+1) b gk (e_ c zs) (e_ c g) (e_ r E):=by rw[<-av.e];exact k.j
    have ah:ll c r P b (gk-1) (e_ c zs) (e_ c M) (e_ r L):=(bv.out (by omega) bp.e).congr (λj A q O=>by rw[ay j A q O];unfold nG;split<;>rfl) (λj A q O=>by rw[aL j A q O];unfold nG;split<;>rfl);have N:=o.j.size;have t:Below i.heap.size i Y:=o.j.trans ((jv.N (g1:=h) (g2:=h) (g3:=h) bo (.inl rfl)).below J J J N);have z:=yx a.E p aj (FG av.e p F.f F.i bp.e ay aL);have n:f_ (JV i Y h bw bb P c r b (gk-1) zs M L):=a_ ⟨bg,bt,ah,t,J,by omega,by omega,z⟩;clear z bg bt ay aL bo b6 cb bv ah t N;go_wp2;go_roundg (gk-1);exact⟨P,b,bw,bb,M,L,rfl,b7,n⟩;omega
  .obtain rfl:b=e:=by omega
   have ce:=a.g.lt;have az:=a.m.size;have cf:wr.cell? ⟨h,1,none⟩=some (.int .i64 c):=by simp[World.cell?,m]
   have cy:wr.cell? ⟨h,2,none⟩=some (.slice (some ⟨l,0,none⟩) y y):=by simp[World.cell?,m]
   have cp:wr.cell? ⟨h,3,none⟩=some (.int .i64 b):=by simp[World.cell?,m]
   have cv:wr.cell? ⟨h,4,none⟩=some (.int .i64 r):=by simp[World.cell?,m]
   have cx:wr.cell? ⟨h,5,none⟩=some (.slice (some ⟨f,0,none⟩) X X):=by simp[World.cell?,m]
   have C:wr.heap[w.heap.size+1]?=some (.cells #[.int .i64 0,.int .i64 0,.slice none 0 0,.int .i64 0,.int .i64 0,.slice none 0 0] 133 (0,0)):=(a.m.block _ (by omega)).trans al.g;have ca:wr.cell? ⟨w.heap.size+1,0,none⟩=some (.int .i64 0):=by simp[World.cell?,C]
   have bU:wr.cell? ⟨w.heap.size+1,1,none⟩=some (.int .i64 0):=by simp[World.cell?,C]
   have bW:wr.cell? ⟨w.heap.size+1,2,none⟩=some (.slice none 0 0):=by simp[World.cell?,C]
   have b4:wr.cell? ⟨w.heap.size+1,3,none⟩=some (.int .i64 0):=by simp[World.cell?,C]
   have cc:wr.cell? ⟨w.heap.size+1,4,none⟩=some (.int .i64 0):=by simp[World.cell?,C]
   have b2:wr.cell? ⟨w.heap.size+1,5,none⟩=some (.slice none 0 0):=by simp[World.cell?,C]
   have cm:∀bk,wr.frozen? ⟨w.heap.size+1,bk,none⟩=false:=λbk=>by simp[World.frozen?,C]
   have bY:f_ (Ty wr (w.heap.size+1) 133):=a_ ⟨_,_,C⟩;have cl:h≠w.heap.size+1:=by omega
   have cs:¬(b:Int)<b:=by omega
   have bM:=a_ (show Ag c r ⟨b,b,e_ c au,e_ r an⟩ (RS.run c 32000 ⟨r,0,e_ c zs,kd⟩) by
    have af:=a.E;rw[H5 (by simp)]at af;exact af)
   clear C m;go_wp2_with fail;refine ig (v:=.agg #[.int .i64 b,.int .i64 c,.slice (some ⟨l,0,none⟩) y y,.int .i64 b,.int .i64 r,.slice (some ⟨f,0,none⟩) X X]) ?_ rfl ?_
   ·(simp[results,Tryz.results80,go_sem,ca,bU,bW,b4,cc,b2];done)
   .have bE:=bY.e;have cn:=a.y;have ck:=a.A;have bS:=oA bE (by decide) (by decide) 0 (.int .i64 b) (.int .i64 c) (.slice (some ⟨l,0,none⟩) y y);have b9:=((bE.setCell ⟨w.heap.size+1,0,none⟩ (.int .i64 b)).setCell ⟨w.heap.size+1,1,none⟩ (.int .i64 c)).setCell ⟨w.heap.size+1,2,none⟩ (.slice (some ⟨l,0,none⟩) y y);have bK:=oA b9 (by decide) (by decide) 3 (.int .i64 b) (.int .i64 r) (.slice (some ⟨f,0,none⟩) X X);have aU:=bS.trans bK;have R:Below w.heap.size w wr:=al.f.trans (a.m.mono (by omega));exact⟨b,l,f,gk,au,an,by rw[<-ak.e,<-aG.e],a.f.R.sv.fr aU,a.f.T.sv.fr aU,a.j,bM.e,R.trans (aU.below (by omega) R.size)⟩
def wk(r c:Nat)(zs:List Int)(xs:List (Nat×Nat×List Int)):Prop:=∃(a e:Nat) (d b:List Int),xs=[(a,c,d),(a,r,b)]/\ll c r a a e (e_ c zs) (e_ c d) (e_ r b)/\Ag c r ⟨a,a,e_ c d,e_ r b⟩ (RS.run c 32000 ⟨r,0,e_ c zs,kd⟩)/\(d.length=a*c/\b.length=a*r)
theorem BB{r c:Nat}{zs:List Int}{a b:List (Nat×Nat×List Int)}(h:wk r c zs a)(m:wk r c zs b):a=b:=by
 obtain⟨u,z,o,w,rfl,-,i,v,q⟩:=h;obtain⟨x,y,s,n,rfl,-,j,k,t⟩:=m;obtain rfl:u=x:=i.n.trans j.n.symm;have l:o=s:=iR v k λd e f g=>(i.b d e f g).trans (j.b d e f g).symm;have p:w=n:=iR q t λd e f g=>(i.t d e f g).trans (j.t d e f g).symm;rw[l,p]
theorem uT{b:Nat}{h:Int}{ms:List Hm}{nx:Nat}{w:World}(F:jf w b ms nx)(av:nx<1000000-5):Calls Tryz.prog 46 #[.pointer (some ⟨b,0,none⟩),.int .i64 h] w λaw ai=>∃af j P am,aw=.returned (.tuple #[af,.int .i64 j])/\k7 2 wk ms h P j am/\q1 w ai b 2 nx ms P am af:=by
 have l:=a_ F;have aE:=F.1;have aI:=F.lt;clear F;go_in;go_wp2_with fail;go_fit (jS l.e);rintro j o⟨⟨c,d,R,W,ac,P,rfl,Q⟩,A⟩;have z:=hU o (.cells #[.int .i64 c,.int .i64 d,.slice R W ac] 66);have D:=d_ A z;have aK:=A.size;rcases id Q with⟨rfl,M,N,u,ah,S,ao,aj⟩|⟨rfl,V⟩
 .have e:=iu (aj.below z) D ah S ao;clear Q aj A z D ah S ao;go_wp2_with fail;go_fit (jl e.f (by omega));rintro j C⟨ay,rfl,T,i⟩;have aM:o.heap.size+1<=C.heap.size:=by have:=i.size;simpa using this
  have aA:C.cell? ⟨o.heap.size,0,none⟩=some (.int .i64 c):=g_ i (by simp);have aD:C.cell? ⟨o.heap.size,1,none⟩=some (.int .i64 d):=g_ i (by simp);have aC:C.cell? ⟨o.heap.size,2,none⟩=some (.slice R W ac):=g_ i (by simp);have f:=hO (e.f.below i) (d_ e.g i) T;clear i T
  cases ay
  .have aq:f_ (¬hW c d u):=a_ (λh=>by have:=f.l.2 h;cases this);go_wp2;go_ret2;exact⟨_,_,false,[],rfl,.inr ⟨M,N,c,d,u,e.j,e.m,e.x,.inl ⟨aq.e,rfl,rfl,rfl⟩⟩,.inl ⟨rfl,rfl,l.e.below f.g,Fr.I f.g⟩⟩
  .have m:f_ (hW c d u):=a_ (f.l.1 rfl);go_wp2_with fail;go_fit (mg (l.e.below f.g));rintro j ai⟨rfl,rfl⟩;obtain⟨K,J⟩:=hQ (ms.countP Option.isNone);have G:=a_ J;rw[<-J];clear J;by_cases aB:K<2
   .have au:((K:Int)<2):=by omega
    go_wp2;go_ret2;exact⟨_,_,false,[],rfl,.inr ⟨M,N,c,d,u,e.j,e.m,e.x,.inr (.inl ⟨m.e,by rw[<-G.e];exact aB,rfl,rfl,rfl⟩)⟩,.inl ⟨rfl,rfl,l.e.below f.g,Fr.I f.g⟩⟩
   .have au:¬((K:Int)<2):=by omega
    go_wp2_with fail;go_fit (zD (f.f.tight m.e) m.f m.g m.e.e_);rintro j k⟨a,t,r,ax,s,q,rfl,O,I,ak,X,H⟩;have ae:=d_ f.g H;have U:s.length=a*d/\q.length=a*c:=⟨O.uY,I.uY⟩;have g:=hO (oB O I) (lL ak X U) ae;have aJ:=H.size;clear H aA aD aC O I ak X U ae;go_wp2_with fail;obtain⟨B,p⟩:=hQ ((k.alloc (.cells #[.int .i64 a,.int .i64 d,.slice (some ⟨t,0,none⟩) (a*d) (a*d),.int .i64 a,.int .i64 c,.slice (some ⟨r,0,none⟩) (a*c) (a*c)] 133)).alloc (.cells #[.int .i64 a,.int .i64 d,.slice (some ⟨t,0,none⟩) (a*d) (a*d),.int .i64 a,.int .i64 c,.slice (some ⟨r,0,none⟩) (a*c) (a*c)] 66));rw[<-p];have v:Below k.heap.size k B:=by rw[p];exact(hS).alloc (by simp) _
    have aH:B.heap.size=k.heap.size+1+1:=by rw[p];simp
    have Z:B.heap[k.heap.size+1]?=some (.cells #[.int .i64 a,.int .i64 d,.slice (some ⟨t,0,none⟩) (a*d) (a*d),.int .i64 a,.int .i64 c,.slice (some ⟨r,0,none⟩) (a*c) (a*c)] 66 (0,0)):=by
     rw[p];have:=iP (k.alloc (.cells #[.int .i64 a,.int .i64 d,.slice (some ⟨t,0,none⟩) (a*d) (a*d),.int .i64 a,.int .i64 c,.slice (some ⟨r,0,none⟩) (a*c) (a*c)] 133)) (.cells #[.int .i64 a,.int .i64 d,.slice (some ⟨t,0,none⟩) (a*d) (a*d),.int .i64 a,.int .i64 c,.slice (some ⟨r,0,none⟩) (a*c) (a*c)] 66);simpa using this
    have ad:=d_ g.l v;have Y:pY B (k.heap.size+1) [(a,d,s),(a,c,q)]:=pY.two (x:=(a,d,s)) (y:=(a,c,q)) Z ((g.f.1.below v).mono (by omega)) ((g.f.2.below v).mono (by omega));have aG:=g.l.size;have E:=b_ ad Y;clear p v Z ad Y;go_fit (nz (l.e.below E.f) E.i rfl (by omega) (by omega) (by omega) (by have:=G.e;omega) av);rintro j aF⟨aL,rfl,az,ar,rfl,al,ab,ag,ap,aa,an⟩;have n:=ju al ab ag ap aa ((Fr.I E.f).trans an);clear al ab ag ap aa an;go_wp2;go_ret2;exact⟨_,_,true,[(a,d,s),(a,c,q)],rfl,.inr ⟨M,N,c,d,u,e.j,e.m,e.x,.inr (.inr ⟨m.e,by have:=G.e;omega,rfl,rfl,rfl,a,ax,s,q,rfl,g.g.1,g.g.2.1,g.g.2.2⟩)⟩,.inr ⟨rfl,az,ar,rfl,by have:=E.f.size;have:=n.f;omega,n.g,n.j,n.m,n.r,n.z⟩⟩
 .have L:=b_ V D;clear V D A z Q;go_wp2;go_ret2;exact⟨_,_,false,[],rfl,.inl ⟨L.f,rfl,rfl,rfl⟩,.inl ⟨rfl,rfl,l.e.below L.i,Fr.I L.i⟩⟩
theorem y0{B b d c:Nat}{h:Int}{ms:List Hm}{nx:Nat}{w:World}(m:nu B w b d c ms nx)(hd:pq ms)(I:nx<1000000-5):Calls Tryz.prog 180 #[.pointer (some ⟨b,0,none⟩),.int .i64 h] w λi N=>∃C t D v,i=.returned (.tuple #[C,.int .i64 t])/\k7 2 wk ms h D t v/\lS B w N b d c 2 nx ms D v C:=by
 obtain⟨o,q,j,-⟩:=m.1.cells;have a:=b_ m hd;clear m hd;go_in;go_wp2_with fail;go_fit (@uT d h ms nx _ a.f.2.1 I);rintro i n⟨L,K,ab,S,rfl,F,f⟩;have k:Fr d w n:=by rcases f with⟨-,-,-,z⟩|⟨-,_,_,_,_,_,_,_,_,z⟩<;>exact z
 have u:Tw n b d c false:=a.f.1.J (k.1.block b a.f.1.lt (by simpa using a.f.1.ne a.f.2.1.ty));have H:jf n c ms nx:=a.f.2.2.1.fr k (Ne.symm a.f.2.2.2.1);clear o q j;obtain⟨o,q,j,-⟩:=u.cells;obtain⟨Y,Q,V,rfl⟩:∃p r l,L=.slice p r l:=by rcases f with⟨-,rfl,-⟩|⟨-,_,_,rfl,-⟩<;>exact⟨_,_,_,rfl⟩
 have e:=hO H F f;clear u H F f k;go_wp2_with fail;go_fit (@uT c h ms nx _ e.f I);rintro i Z⟨O,X,T,P,rfl,s,g⟩;obtain⟨rfl,rfl,rfl⟩:=k7.uniq @BB a.i e.g s;obtain⟨aa,W,R,rfl⟩:∃p r l,O=.slice p r l:=by rcases g with⟨-,rfl,-⟩|⟨-,_,_,rfl,-⟩<;>exact⟨_,_,_,rfl⟩
 have A:=b_ g (lS.oN a.f e.l g hP).2;clear g o q j s;obtain⟨M,x,G⟩:=A.i;have y:=b_ x G;clear x G;go_wp2_with fail;go_fit (@tX b _ _ K M _ y.f y.i);rintro i U⟨rfl,E⟩;have J:=a_ E;clear E;go_wp2;go_ret2;exact⟨_,_,_,_,rfl,e.g,(lS.oN a.f e.l A.f J.e).1⟩
end
namespace R
def rA(f:Nat->Nat->Int)(c:Nat):Nat->Nat->Int:=λa b=>dot f (λa b=>f b a) a b c
structure Lf (f:Nat->Nat->Int) (r c:Nat):Prop where
 pos:∀i,i<r->0<jn (i+1) (rA f c)
 half:∀i j,i<r->j<i->2*(je (rA f c) (List.range (j+1)) (List.range j++[i])).natAbs<=(jn (j+1) (rA f c)).toNat
 ord:∀i,i+1<r->3*(jn (i+1) (rA f c)*jn (i+1) (rA f c))<=4*(jn (i+2) (rA f c)*jn i (rA f c)+je (rA f c) (List.range (i+1)) (List.range i++[i+1])*je (rA f c) (List.range (i+1)) (List.range i++[i+1]))
def NL(B:Nat)(w:World)(e:Value)(n:Nat)(zs:List Int)(L:Nat):Prop:=
 zs.length=n/\∃b,w.ownsRow B 171 2 e n b/\∀a,a<n->∃d c,b[2*a]?=some d/\b[2*a+1]?=some c/\kB w (.agg #[d,c]) (zs.getD a 0) L
theorem NL.nil(B:Nat)(w:World)(L:Nat):NL B w (.slice none 0 0) 0 [] L:=⟨rfl,[],oI _ _ _ _,λb a=>by omega⟩
theorem NL.below{B:Nat}{w W:World}{n L:Nat}{zs:List Int}(h:NL B w x n zs L)(a:Below w.heap.size w W):NL B W x n zs L:=by
 obtain⟨s,e,b,t⟩:=h;refine⟨s,e,⟨b.1,?_⟩,λo r=>?_⟩
 .rcases b.2 with i|⟨c,v,g,q,k,d,m⟩
  .exact .inl i
  .exact .inr ⟨c,v,g,q,k,by rw[a.block c (jt.1 d).1];exact d,m⟩
 .obtain⟨u,j,f,p,l⟩:=t o r;exact⟨u,j,f,p,l.below a⟩
theorem NL.lt{B:Nat}{w:World}{n L:Nat}{zs:List Int}(h:NL B w x n zs L):∀a,x.ownBlock=some a->B<=a/\Ty w a 171:=by
 intro a b;obtain⟨f,j,d,i⟩:=h;rcases d.2 with⟨rfl,_⟩|⟨k,g,m,rfl,c,e,l⟩
 .simp[Value.ownBlock]at b
 .simp[Value.ownBlock]at b;subst b;exact⟨c,_,_,e⟩
theorem BS{w:World}{ops:Array Oper}{l:List Oper}{o:Oper}{a:Act}{Q:Exit->Act->World->Prop}(t:o.guard=none)(s x:Operand)(u:o.op=.call {callee:=.builtin .append,args:=#[s,x],argTypes:=#[202,202]}){B:Nat}{v:Value}{n:Nat}{zs:List Int}{L:Nat}(F:a.eval s=v)(k:NL B w v n zs L)(h:Addr)(W:a.eval x=.slice (some h) 1 1){e d:Value}{z:Int}(Z:w.cell? (h.add 0)=some e)(S:w.cell? (h.add 1)=some d)(V:e.oneCell'=true)(ac:d.oneCell'=true)(X:kB w (.agg #[e,d]) z L)(ad:n<=10000)(aa:B<=w.heap.size)(T:∀i g,NL B g i (n+1) (zs++[z]) L->w.grownBy g v.ownBlock->wpList Tryz.prog ops Q l (a.put o.dst i) g):wpList Tryz.prog ops Q (o::l) a w:=by
 obtain⟨M,U,A,O,E⟩:=kO Tryz.yi;have G:=k.lt;obtain⟨p,f,j,I⟩:=k;refine wC w t s x 202 u B 171 M (.agg #[.bool false,.slice none 0 0]) 2 32 Tryz.underlying202 U A O E rfl (by decide) v n f F j h 1 1 [e,d] W rfl ?_ ?_ ?_ ?_ aa ?_
 .intro b H c;match b,c with
  |0,c=>simp at c;subst c;exact Z
  |1,c=>simp at c;subst c;exact S
 .intro H r;simp at r;rcases r with rfl|rfl
  .exact V
  .exact ac
 .unfold maxLen;omega
 .omega
 .intro i g C q _;have m:=KI.N q (λy R=>(G y R).2) (by decide);have ae:f.length=n*2:=j.1;refine T i g ⟨by simp[p],f++[e,d],C,λb c=>?_⟩ q;by_cases N:b<n
  .obtain⟨Y,ab,D,P,J⟩:=I b N;refine⟨Y,ab,by rw[lQ (by omega)];exact D,by rw[lQ (by omega)];exact P,?_⟩;rw[show(zs++[z]).getD b 0=zs.getD b 0 from by simp[List.getD,lQ (show b<zs.length from by omega)]];exact J.hV m
  .have K:b=n:=by omega
   subst K;refine⟨e,d,?_,?_,?_⟩
   .rw[uP (by omega),show 2*b-f.length=0 from by omega];rfl
   .rw[uP (by omega),show 2*b+1-f.length=1 from by omega];rfl
   .rw[show(zs++[z]).getD b 0=z from by simp[List.getD,<-p]];exact X.hV m
end R
end Go.Proofs.YtfjbijpagaipnabGreatDoor
