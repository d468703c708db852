import Derived.Test.YtfjbijpagaipnabGreatDoorA08
set_option maxRecDepth 100000
set_option maxHeartbeats 8000000
namespace Go.Proofs.YtfjbijpagaipnabGreatDoor
open Go.RowKit
variable{i j k l m n p q r s:Nat}{w v W:World}{A B F G:Nat->Nat->Int}{a b c d:Int}{e f g:List Int}{X Y:List Nat}{P Q:Nat->Int}{o h:Nat->Nat}
def rem(x y:Int):Int:=x-y*x.fdiv y
theorem u4(x:Int){y:Int}(h:0<y):0<=rem x y/\rem x y<y:=by
 have a:=yp x (show 0<=y by omega);have d:=Int.emod_add_mul_ediv x y;have e:=Int.emod_nonneg x (show y≠0 by omega);have c:=Int.emod_lt_of_pos x h;unfold rem;rw[a];generalize y*(x/y)=b at*;omega
theorem Hq(x y:Int):rem x y=-rem (-x) (-y):=by
 unfold rem;rw[Int.neg_fdiv_neg,Int.neg_mul];omega
theorem Dq(x:Int){y:Int}(h:y<0):y<rem x y/\rem x y<=0:=by
 have:=u4 (-x) (show 0< -y by omega);rw[Hq];omega
theorem Bi(x:Int){y:Int}(h:y≠0):(rem x y).natAbs<y.natAbs:=by
 rcases Int.lt_or_gt_of_ne h with h|h
 .have:=Dq x h;omega
 .have:=u4 x h;omega
theorem CJ{x y:Int}(d:y≠0)(h:y∣x):rem x y=0:=by
 obtain⟨a,rfl⟩:=h;have:=Bi (y*a) d;unfold rem at*;rw[show y*a-y*(y*a).fdiv y=y*(a-(y*a).fdiv y)from by grind]at this|-;rw[np]at this;generalize a-(y*a).fdiv y=b at*;rcases kl b.natAbs with c|c
 .have:b=0:=by omega
  rw[this];simp
 .have:=jJ y.natAbs c;omega
theorem E_{x y:Int}(b:a=1\/a=-1)(m:0<=a*x)(q:0<=a*y)(p:y≠0):0<=a*rem x y/\(x.fdiv y).natAbs=x.natAbs/y.natAbs/\(rem x y).natAbs=x.natAbs%y.natAbs:=by
 have n:(x<0/\y<0)\/(¬x<0/\¬y<0)\/x=0:=by rcases b with rfl|rfl<;>omega
 by_cases j:x=0
 .subst j;unfold rem;simp
 .have i:(x<0/\y<0)\/(¬x<0/\¬y<0):=by omega
  have d:=tU i;have f:(x.fdiv y).natAbs=x.natAbs/y.natAbs:=by rw[d,nc]
  have e:=kY x.natAbs y.natAbs;have o:a*rem x y=((x.natAbs%y.natAbs:Nat):Int):=by
   unfold rem;rw[d];generalize x.natAbs/y.natAbs=g at*;generalize x.natAbs%y.natAbs=k at*;have c:(x.natAbs:Int)=(y.natAbs:Int)*(g:Int)+(k:Int):=by exact_mod_cast e.symm
   have h:(x.natAbs:Int)=a*x:=by rcases b with rfl|rfl<;>omega
   have l:(y.natAbs:Int)=a*y:=by rcases b with rfl|rfl<;>omega
   rw[h,l]at c;rw[Int.mul_sub,c];grind
  refine⟨by omega,f,?_⟩;rcases b with rfl|rfl<;>omega
structure lj (H0 U0:Nat->Nat->Int) (r c t lY:Nat) (H U W:Nat->Nat->Int) (KH KU KW:Nat) (z:Int):Prop where
 ne:H t lY≠0
 sg:∃σ:Int,(σ=1\/σ=-1)/\∀i,t<=i->i<r->0<=σ*H i lY
 lt:∀i,t<i->i<r->(H i lY).natAbs<(H t lY).natAbs
 least:iQ (λi=>H i lY) (t+1) r z
 bd:(∃i0:Nat,z=(i0:Int)/\Bd H U W r c t (((H t lY).natAbs*(H i0 lY).natAbs)^4) KH KU KW)\/(z<0/\Bd H U W r c t 1 KH KU KW)
 CZ:∀i j,i<t->j<c->H i j=H0 i j
 De:∀i j,i<t->j<r->U i j=U0 i j
 zero:∀j,j<c->(∀i,t<=i->i<r->H0 i j=0)->∀i,t<=i->i<r->H i j=0
 hV:H0 t lY≠0->(∀i,t<i->i<r->H0 t lY∣H0 i lY)->(∀j,j<c->H t j=H0 t j)/\∀i,t<i->i<r->H i lY=0
theorem Bd.one{U W:Nat->Nat->Int}{r c t D:Nat}(h:Bd A U W r c t D i j k)(n:0<D):Bd A U W r c t 1 i j k:=by
 have g:∀f l:Nat,f*D<=l->f*1<=l:=λf l h=>by
  have:=jJ f n;omega
 exact⟨λe b d a m=>g _ _ (h.h e b d a m),λe b d a m=>g _ _ (h.u e b d a m),λe b d a=>g _ _ (h.w e b d a)⟩
theorem lj.Lh{r c t:Nat}{U W:Nat->Nat->Int}{z:Int}(h:lj A B r c t i F U W j k l z):Bd F U W r c t 1 j k l:=by
 rcases h.bd with⟨f,n,a⟩|⟨-,a⟩
 .refine a.one (kx (tB (by have:=h.ne;omega) ?_));rcases h.least with⟨b,e,m,o,d,-⟩|⟨e,-⟩
  .have:b=f:=by omega
   subst this;have g:F b i≠0:=d;omega
  .omega
 .exact a
theorem ly(b c:Nat->Nat->Int)(r t a d j:Nat):rz b c r t a d t j=b a j:=by
 unfold rz nP;rw[if_neg (by omega)];show b (ky t a t) j=_;rw[C8]
theorem vg(a d:Nat->Nat->Int){r t i:Nat}(j:Nat)(b:t<=k)(c:i<t):rz a d r t k l i j=a i j:=by
 unfold rz nP;rw[if_neg (by omega)];show a (ky t k i) j=_;rw[HM b c]
theorem xZ(a b:Nat->Nat->Int){r t i:Nat}(j:Nat)(c:t<i)(d:i<r):rz a b r t k l i j=a (ky t k i) j-a k j*rq b t k l i:=by
 unfold rz nP;rw[if_pos (by omega)];show a (ky t k i) j-a (ky t k t) j*_=_;rw[C8]
theorem pz(a:Nat->Nat->Int){r t i:Nat}(b:t<i)(c:i<r):rz a a r t j k i k=rem (a (ky t j i) k) (a j k):=by
 rw[xZ a a k b c];unfold rem rq;rw[C8]
theorem Dh{r t j:Nat}(b:t<=k)(a:k<r)(c:∀i,t<=i->i<r->B i j=0)(i:Nat)(g:t<=i)(d:i<r):rz B A r t k l i j=0:=by
 obtain⟨e,h⟩:=ti b a g d;by_cases f:i=t
 .subst f;rw[ly];exact c k b a
 .rw[xZ B A j (by omega) d,c _ e h,c _ b a];simp
theorem lj.first{U W:Nat->Nat->Int}{r c t X:Nat}{z':Int}(B:r<=8)(aq:iQ (λb=>A b i) t r j)(K:∀b,t<=b->b<r->(A b i).natAbs<=X)(v:Bd A U W r c t 1 k l m)(aa:k<=n)(ap:l<=p)(ak:m<=q)(ar:t+1<r->k*((1+7*X)*X^8)<=n/\l*((1+7*X)*X^8)<=p/\m*((1+7*X)*X^8)<=q)(E:iQ (λb=>rz A A r t j i b i) (t+1) r z'):lj A U r c t i (rz A A r t j i) (rz U A r t j i) (I4 W A r t j i) n p q z':=by
 obtain⟨b,h,o,av,y,aw,al⟩:∃b,t<=b/\b<r/\(j:Int)=(b:Int)/\A b i≠0/\(∀a,t<=a->a<r->A a i≠0->(A b i).natAbs<=(A a i).natAbs)/\∀a,t<=a->a<b->A a i≠0->(A b i).natAbs<(A a i).natAbs:=by
  rcases aq with u|⟨u,-⟩
  .exact u
  .omega
 obtain rfl:b=j:=by omega
 have ax:1<=X:=by have:=K b h o;omega
 have V:∀a,t<a->a<r->(rz A A r t b i a i).natAbs<(A b i).natAbs:=λa d e=>by rw[pz A d e];exact Bi _ y
 have S:∀a,t<a->a<r->(rq A t b i a).natAbs<=X:=λa d e=>by
  obtain⟨ad,ah⟩:=ti h o (nf d) e;exact iy (u9 _ _) (K _ ad ah)
 refine⟨by rw[ly];exact y,?_,λa d e=>by rw[ly];exact V a d e,E,?_,λa w d _=>vg _ _ w h d,λa w d _=>vg _ _ w h d,λw _ an=>Dh h o an,λac Y=>?_⟩
 .rcases Int.lt_or_gt_of_ne y with D|D
  .refine⟨-1,.inr rfl,λa d e=>?_⟩;by_cases L:a=t
   .subst L;rw[ly];omega
   .rw[pz A (by omega) e];have:=Dq (A (ky t b a) i) D;omega
  .refine⟨1,.inl rfl,λa d e=>?_⟩;by_cases L:a=t
   .subst L;rw[ly];omega
   .rw[pz A (by omega) e];have:=u4 (A (ky t b a) i) D;omega
 .by_cases ao:t+1<r
  .obtain⟨R,I,F⟩:=ar ao;have H:∀N G J:Nat,N*1<=G->G*((1+7*X)*X^8)<=J->N*((1+7*X)*X^8)<=J:=λN G J d e=>iy (jo _ (by omega)) e;have z:Bd A U W r c t ((1+7*X)*X^8) n p q:=⟨λd e f g s=>H _ _ _ (v.h d e f g s) R,λd e f g s=>H _ _ _ (v.u d e f g s) I,λd e f g=>H _ _ _ (v.w d e f g) F⟩;have Z:0<X^8:=kx (by omega);have T:0<(1+7*X)*X^8:=tB (by omega) Z;rcases E with⟨x,C,P,ai,az,-⟩|⟨C,-⟩
   .refine .inl ⟨x,ai,z.round B h o T S ?_⟩;rw[ly];have ag:=K b h o;have au:=V x (by omega) P;refine jJ _ ?_;have ae:(A b i).natAbs*(rz A A r t b i x i).natAbs<=X*X:=jR ag (by omega);have ab:=yj ae;rw[show X^8=(X*X)^4 from by rw[o3,<-kg]];exact ab
   .exact .inr ⟨by omega,z.round B h o T S (jJ _ Z)⟩
  .have z:Bd A U W r c t 1 n p q:=⟨λd e f g s=>iy (v.h d e f g s) aa,λd e f g s=>iy (v.u d e f g s) ap,λd e f g=>iy (v.w d e f g) ak⟩;refine .inr ⟨?_,z.round (Q:=0) B h o (by omega) (λa d e=>by omega) (by omega)⟩;rcases E with⟨x,C,P,-⟩|⟨C,-⟩<;>omega
 .have af:b=t:=by
   rcases iX t b with u|u
   .have R:=al t c_ u ac;obtain⟨O,aj⟩:=Y b u o;have I:(A b i).natAbs=(A t i).natAbs*O.natAbs:=by rw[aj,np]
    have F:1<=O.natAbs:=by
     rcases kl O.natAbs with M|M
     .rw[M,l6]at I;omega
     .exact M
    have ay:=jJ (A t i).natAbs F;omega
   .omega
  subst af;refine⟨λw _=>by rw[ly],λa d e=>?_⟩;rw[pz A d e];have am:ky b b a=a:=by unfold ky;split<;>(try split)<;>omega
  rw[am];exact CJ y (Y a d e)
theorem lj.next{U W:Nat->Nat->Int}{r c t:Nat}{z':Int}(h:lj A B r c t i F U W k l m j)(C:r<=8)(M:iQ (λa=>rz F F r t j i a i) (t+1) r z'):lj A B r c t i (rz F F r t j i) (rz U F r t j i) (I4 W F r t j i) k l m z':=by
 obtain⟨a,am,g,aj,s⟩:∃a,t+1<=a/\a<r/\(j:Int)=(a:Int)/\F a i≠0:=by
  rcases h.least with⟨a,e,f,X,u,-⟩|⟨e,-⟩
  .exact⟨a,e,f,X,u⟩
  .omega
 obtain rfl:a=j:=by omega
 obtain⟨H,P,v⟩:=h.sg;have n:t<=a:=by omega
 have K:∀b,t<b->b<r->(rz F F r t a i b i).natAbs<(F a i).natAbs:=λb e f=>by rw[pz F e f];exact Bi _ s
 have ae:∀b,t<b->b<r->(F (ky t a b) i).natAbs<=(F t i).natAbs:=λb e f=>by
  by_cases y:ky t a b=t
  .rw[y];exact c_
  .obtain⟨L,x⟩:=ti n g (nf e) f;exact nf (h.lt _ (by omega) x)
 have z:∀b,t<b->b<r->0<=H*rem (F (ky t a b) i) (F a i)/\(rq F t a i b).natAbs=(F (ky t a b) i).natAbs/(F a i).natAbs/\(rem (F (ky t a b) i) (F a i)).natAbs=(F (ky t a b) i).natAbs%(F a i).natAbs:=λb e f=>by
  obtain⟨L,x⟩:=ti n g (nf e) f;have:=E_ P (v _ L x) (v a n g) s;unfold rq;rw[C8];exact this
 have E:∀b,t<b->b<r->(rq F t a i b).natAbs<=(F t i).natAbs/(F a i).natAbs:=λb e f=>by
  rw[(z b e f).2.1];exact Nat.div_le_div_right (ae b e f)
 have aa:=h.lt a (by omega) g;have w:0<(F a i).natAbs:=by omega
 refine⟨by rw[ly];exact s,⟨H,P,λb e f=>?_⟩,λb e f=>by rw[ly];exact K b e f,M,?_,λb o e f=>by rw[vg _ _ o n e];exact h.CZ b o e f,λb o e f=>by rw[vg _ _ o n e];exact h.De b o e f,λo ad af=>Dh n g (h.zero o ad af),λah ag=>?_⟩
 .by_cases y:b=t
  .subst y;rw[ly];exact v a n g
  .rw[pz F (by omega) f];exact(z b (by omega) f).1
 .obtain⟨q,ai,R⟩:∃q:Nat,(a:Int)=(q:Int)/\Bd F U W r c t (((F t i).natAbs*(F q i).natAbs)^4) k l m:=by
   rcases h.bd with G|⟨G,-⟩
   .exact G
   .omega
  obtain rfl:a=q:=by omega
  have I:0<((F t i).natAbs*(F a i).natAbs)^4:=kx (tB (by omega) w);rcases M with⟨p,Z,T,ab,al,ac,-⟩|⟨Z,-⟩
  .refine .inl ⟨p,ab,R.round C n g I E ?_⟩;rw[ly];have V:=K p (by omega) T;have u:=H8 (d:=(rz F F r t a i p i).natAbs) aa w V (λan=>by
    have Q:=z a (by omega) g;have J:ky t a a=t:=by unfold ky;rw[if_neg (by omega),if_pos rfl]
    rw[J]at Q;have D:rz F F r t a i a i=rem (F t i) (F a i):=by rw[pz F (by omega) g,J]
    have Y:=ac a (by omega) g (by show rz F F r t a i a i≠0;rw[D];omega);have S:(rz F F r t a i p i).natAbs<=(rz F F r t a i a i).natAbs:=Y;rw[D,Q.2.2]at S;exact S)
   rw[o3,o3];have O:=jo ((F a i).natAbs^4) u;have N:(1+7*((F t i).natAbs/(F a i).natAbs))*((F a i).natAbs^4*(rz F F r t a i p i).natAbs^4)=(1+7*((F t i).natAbs/(F a i).natAbs))*(rz F F r t a i p i).natAbs^4*(F a i).natAbs^4:=by
    rw[jG,ij ((F a i).natAbs^4)]
   rw[N];exact O
  .refine .inr ⟨by omega,R.round C n g I E ?_⟩;have ak:(F t i).natAbs/(F a i).natAbs<=(F t i).natAbs:=Nat.div_le_self _ _;have O:=Gc (show 2<=(F t i).natAbs by omega);have N:(F t i).natAbs^4*1<=(F t i).natAbs^4*(F a i).natAbs^4:=jJ _ (kx w);rw[o3];omega
 .exact absurd ((h.hV ah ag).2 a (by omega) g) s
theorem iQ.congr{f g:Nat->Int}{a n:Nat}{z:Int}(h:iQ f a n z)(e:∀b,a<=b->b<n->g b=f b):iQ g a n z:=by
 rcases h with⟨k,i,j,p,m,l,o⟩|⟨i,j⟩
 .refine .inl ⟨k,i,j,p,by rw[e k i j];exact m,λb c d z=>?_,λb c d z=>?_⟩
  .rw[e k i j,e b c d];exact l b c d (by rw[<-e b c d];exact z)
  .rw[e k i j,e b c (by omega)];exact o b c d (by rw[<-e b c (by omega)];exact z)
 .exact .inr ⟨i,λb c d=>by rw[e b c d];exact j b c d⟩
theorem Bd.congr{U W:Nat->Nat->Int}{r c t D:Nat}(h:Bd A U W r c t D i j k)(m:∀b a,b<r->a<c->B b a=A b a)(g:∀b a,b<r->a<r->F b a=U b a)(l:∀b a,b<r->a<r->G b a=W b a):Bd B F G r c t D i j k:=
 ⟨λb a e d f=>by rw[m b a d f];exact h.h b a e d f,λb a e d f=>by rw[g b a d f];exact h.u b a e d f,λb a e d=>by rw[l b a e d];exact h.w b a e d⟩
theorem lj.congr{r c t:Nat}{U W v x:Nat->Nat->Int}{z:Int}(h:lj A B r c t i F U W j k l z)(w:t<r)(n:i<c)(f:∀a b,a<r->b<c->G a b=F a b)(q:∀a b,a<r->b<r->v a b=U a b)(u:∀a b,a<r->b<r->x a b=W a b):lj A B r c t i G v x j k l z:=by
 have s:=f t i w n;refine⟨by rw[s];exact h.ne,?_,λa e d=>by rw[f a i d n,s];exact h.lt a e d,h.least.congr (λy _ d=>f y i d n),?_,λa b e d=>by rw[f a b (by omega) d];exact h.CZ a b e d,λa b e d=>by rw[q a b (by omega) d];exact h.De a b e d,λb o D a e d=>by rw[f a b d o];exact h.zero b o D a e d,λI H=>?_⟩
 .obtain⟨C,g,m⟩:=h.sg;exact⟨C,g,λa e d=>by rw[f a i d n];exact m a e d⟩
 .rcases h.bd with⟨p,g,m⟩|⟨g,m⟩
  .refine .inl ⟨p,g,?_⟩;have E:p<r:=by rcases h.least with⟨a,e,d,J,_⟩|⟨e,_⟩<;>omega
   rw[s,f p i E n];exact m.congr f q u
  .exact .inr ⟨g,m.congr f q u⟩
 .obtain⟨g,m⟩:=h.hV I H;exact⟨λb o=>by rw[f t b w o];exact g b o,λa e d=>by rw[f a i d n];exact m a e d⟩
theorem jw.Cu{A U W:Nat->Nat->Int}{r c:Nat}(h:jw A B U W r c)(q:Nat->Int){first p:Nat}(m:p<r):∀a,first<=a->a<=r->¬(first<=p/\p<a)->jw A (nP B q first a p) (nP U q first a p) (u3 W q first a p) r c:=by
 intro a;induction a with
 |zero=>
  intro n _ _;refine h.congr (λd b _ _=>rfl) (λd b _ _=>?_) (λd b _ _=>?_) (λd b _ _=>?_)
  .unfold nP;rw[if_neg (by omega)]
  .unfold nP;rw[if_neg (by omega)]
  .unfold u3;split
   .rename_i i;rw[i,qj];omega
   .rfl
 |succ a o=>
  intro n t j;by_cases e:first<=a
  .have l:=(o e (by omega) (by omega)).take (q a) (show a<r by omega) m (show a≠p by omega);refine l.congr (λd b _ _=>rfl) (λd b _ _=>?_) (λd b _ _=>?_) (λd b _ _=>?_)
   .rw[<-sK e j d b];rfl
   .rw[<-sK e j d b];rfl
   .rw[<-A4 e (by omega) d b];rfl
  .have s:∀g:Nat->Int,qj first q g (a+1)=0:=λg=>by
    have:=sz (first:=first) (q:=q) (f:=g) (Q:=0) (X:=0) (a+1) (λk _ _=>by omega) (λk _ _=>by omega);omega
   refine h.congr (λd b _ _=>rfl) (λd b _ _=>?_) (λd b _ _=>?_) (λd b _ _=>?_)
   .unfold nP;rw[if_neg (by omega)]
   .unfold nP;rw[if_neg (by omega)]
   .unfold u3;split
    .rename_i i;rw[i,s];omega
    .rfl
structure CF (H0 U0:Nat->Nat->Int) (r c t lY:Nat) (H U W:Nat->Nat->Int) (KH KU KW:Nat):Prop where
 pos:0<H t lY
 below:∀i,t<i->i<r->H i lY=0
 qp:∀i,i<t->0<=H i lY/\H i lY<H t lY
 Kn:∀i j,i<t->j<c->H i j=H0 i j-H t j*(H0 i lY).fdiv (H t lY)
 K2:∀i j,i<t->j<r->U i j=U0 i j-U t j*(H0 i lY).fdiv (H t lY)
 zero:∀j,j<c->(∀i,t<=i->i<r->H0 i j=0)->∀i,t<=i->i<r->H i j=0
 hV:H0 t lY≠0->(∀i,t<i->i<r->H0 t lY∣H0 i lY)->∃σ:Int,(σ=1\/σ=-1)/\∀j,j<c->H t j=σ*H0 t j
 Lc:∀i j,t<=i->i<r->j<c->(H i j).natAbs<=KH
 Li:∀i j,t<=i->i<r->j<r->(U i j).natAbs<=KU
 Lq:∀Y,(∀i,i<t->(H0 i lY).natAbs<=Y)->∀i j,i<r->j<r->(W i j).natAbs<=KW+8*(Y*KW)
theorem lj.ends{r c t:Nat}{U W Z v K H Y:Nat->Nat->Int}{z:Int}(h:lj A B r c t i F U W j k l z)(aq:z<0)(ak:r<=8)(u:t<r)(p:i<c)(n:Int)(V:n=1\/n=-1)(ab:0<n*F t i)(E:∀a b,a<r->b<c->G a b=if a=t then n*F a b else F a b)(D:∀a b,a<r->b<r->Z a b=if a=t then n*U a b else U a b)(ae:∀a b,a<r->b<r->v a b=if b=t then n*W a b else W a b)(q:Nat->Int)(ac:∀a,a<r->q a=(G a i).fdiv (G t i))(I:∀a b,a<r->b<c->K a b=nP G q 0 t t a b)(L:∀a b,a<r->b<r->H a b=nP Z q 0 t t a b)(ad:∀a b,a<r->b<r->Y a b=u3 v q 0 t t a b):CF A B r c t i K H Y j k l:=by
 have C:=h.Lh;have s:∀b,b<c->K t b=n*F t b:=λb m=>by
  rw[I t b u m];unfold nP;rw[if_neg (by omega),E t b u m,if_pos rfl]
 have aa:∀b,b<r->H t b=n*U t b:=λb m=>by
  rw[L t b u m];unfold nP;rw[if_neg (by omega),D t b u m,if_pos rfl]
 have R:∀a b,t<a->a<r->b<c->K a b=F a b:=λa b e d g=>by
  rw[I a b d g];unfold nP;rw[if_neg (by omega),E a b d g,if_neg (by omega)]
 have ag:∀a b,t<a->a<r->b<r->H a b=U a b:=λa b e d g=>by
  rw[L a b d g];unfold nP;rw[if_neg (by omega),D a b d g,if_neg (by omega)]
 have P:∀a b,a<t->b<c->G a b=A a b:=λa b e g=>by
  rw[E a b (by omega) g,if_neg (by omega)];exact h.CZ a b e g
 have M:∀b,b<c->G t b=n*F t b:=λb m=>by rw[E t b u m,if_pos rfl]
 have J:∀a,a<t->q a=(A a i).fdiv (n*F t i):=λa e=>by rw[ac a (by omega),P a i e p,M i p]
 have af:∀a,t<a->a<r->F a i=0:=λa e d=>by
  rcases h.least with⟨o,ao,ar,au,_⟩|⟨_,x⟩
  .omega
  .exact x a (by omega) d
 have N:∀x:Int,(n*x).natAbs=x.natAbs:=λx=>by rcases V with rfl|rfl<;>omega
 refine⟨by rw[s i p];exact ab,λa e d=>by rw[R a i e d p];exact af a e d,λa e=>?_,λa b e d=>?_,λa b e d=>?_,λb m T a e d=>?_,λaj ai=>?_,λa b e d g=>?_,λa b e d g=>?_,λS ah a b e d=>?_⟩
 .rw[I a i (by omega) p,s i p];unfold nP;rw[if_pos (by omega),P a i e p,M i p,J a e];exact u4 (A a i) ab
 .rw[I a b (by omega) d,s b d,s i p];unfold nP;rw[if_pos (by omega),P a b e d,M b d,J a e]
 .rw[L a b (by omega) d,aa b d,s i p];unfold nP;rw[if_pos (by omega),J a e,D a b (by omega) d,if_neg (by omega),h.De a b e d,D t b u d,if_pos rfl]
 .by_cases y:a=t
  .subst y;rw[s b m,h.zero b m T a e d];simp
  .rw[R a b (by omega) d m];exact h.zero b m T a e d
 .exact⟨n,V,λb m=>by rw[s b m,(h.hV aj ai).1 b m]⟩
 .by_cases y:a=t
  .subst y;rw[s b g,N];have:=C.h a b e d g;omega
  .rw[R a b (by omega) d g];have:=C.h a b e d g;omega
 .by_cases y:a=t
  .subst y;rw[aa b g,N];have:=C.u a b e d g;omega
  .rw[ag a b (by omega) d g];have:=C.u a b e d g;omega
 .have O:∀o,o<r->(v a o).natAbs<=l:=λo w=>by
   rw[ae a o e w];have:=C.w a o e w;split
   .rw[N];omega
   .omega
  rw[ad a b e d];unfold u3;split
  .have al:=sz (first:=0) (q:=q) (f:=v a) (Q:=S) (X:=l) t (λo _ w=>by rw[J o w];exact iy (u9 _ _) (ah o w)) (λo _ w=>O o (by omega));have ap:(t-0)*(S*l)<=8*(S*l):=jo _ (by omega);have am:=wV (v a t) (qj 0 q (v a) t);have an:=O t u;omega
  .have:=O b d;omega
theorem wq{first:Nat}{q q' f:Nat->Int}(n:Nat)(b:∀a,a<n->q a=q' a)(c:∀a,a<n->f a=P a):qj first q f n=qj first q' P n:=by
 induction n with
 |zero=>rfl
 |succ n e=>rw[qj,qj,e (λa d=>b a (by omega)) (λa d=>c a (by omega)),b n (by omega),c n (by omega)]
theorem FU{q:Nat->Int}{r n t:Nat}(c:t<r)(x:∀i j,i<r->j<n->B i j=A (ky t k i) j)(y:∀i j,i<r->j<n->F i j=nP B q (t+1) r t i j)(d:∀i,i<r->q i=rq G t k l i)(i j:Nat)(a:i<r)(b:j<n):F i j=rz A G r t k l i j:=by
 rw[y i j a b];unfold rz nP;rw[x i j a b,x t j c b,d i a]
theorem IZ{q:Nat->Int}{r t:Nat}(c:t<r)(x:∀i j,i<r->j<r->B i j=A i (ky t k j))(y:∀i j,i<r->j<r->F i j=u3 B q (t+1) r t i j)(f:∀i,i<r->q i=rq G t k l i)(i j:Nat)(a:i<r)(b:j<r):F i j=I4 A G r t k l i j:=by
 rw[y i j a b];unfold I4 u3;rw[x i j a b,x i t a c,wq r f (λd e=>x i d a e)]
theorem jw.round{A U W d e g f:Nat->Nat->Int}{q:Nat->Int}{r c t:Nat}(h:jw A B U W r c)(j:t<r)(p:i<r)(l:∀a b,a<r->b<c->F a b=B (ky t i a) b)(n:∀a b,a<r->b<r->G a b=U (ky t i a) b)(o:∀a b,a<r->b<r->d a b=W a (ky t i b))(s:∀a b,a<r->b<c->e a b=nP F q (t+1) r t a b)(k:∀a b,a<r->b<r->g a b=nP G q (t+1) r t a b)(u:∀a b,a<r->b<r->f a b=u3 d q (t+1) r t a b):jw A e g f r c:=by
 have m:jw A F G d r c:=(h.swap j p).congr (λ_ _ _ _=>rfl) l n o;exact(m.Cu q j r (by omega) c_ (by omega)).congr (λ_ _ _ _=>rfl) s k u
structure F3 where
 H:Nat->Nat->Int
 U:Nat->Nat->Int
 W:Nat->Nat->Int
def F3.Eq(r c:Nat)(s t:F3):Prop:=(∀a b,a<r->b<c->s.H a b=t.H a b)/\(∀a b,a<r->b<r->s.U a b=t.U a b)/\(∀a b,a<r->b<r->s.W a b=t.W a b)
theorem F3.Eq.symm{r c:Nat}{s t:F3}(h:F3.Eq r c s t):F3.Eq r c t s:=⟨λb e d a=>(h.1 b e d a).symm,λb e d a=>(h.2.1 b e d a).symm,λb e d a=>(h.2.2 b e d a).symm⟩
theorem F3.Eq.trans{r c:Nat}{s t u:F3}(h:F3.Eq r c s t)(k:F3.Eq r c t u):F3.Eq r c s u:=⟨λb e d a=>(h.1 b e d a).trans (k.1 b e d a),λb e d a=>(h.2.1 b e d a).trans (k.2.1 b e d a),λb e d a=>(h.2.2 b e d a).trans (k.2.2 b e d a)⟩
theorem F3.Eq.refl(r c:Nat)(s:F3):F3.Eq r c s s:=⟨λ_ _ _ _=>rfl,λ_ _ _ _=>rfl,λ_ _ _ _=>rfl⟩
theorem iQ.uniq{f:Nat->Int}{a n:Nat}{z z':Int}(h:iQ f a n z)(p:iQ f a n z'):z=z':=by
 rcases h with⟨e,k,l,rfl,g,r,q⟩|⟨rfl,j⟩
 .rcases p with⟨b,c,i,rfl,d,m,o⟩|⟨rfl,j⟩
  .rcases mY e b with h|h|h
   .have:=o e k h g;have:=r b c i d;omega
   .rw[h]
   .have:=q b c h d;have:=m e k l g;omega
  .exact absurd (j e k l) g
 .rcases p with⟨b,c,i,rfl,d,m,o⟩|⟨rfl,-⟩
  .exact absurd (j b c i) d
  .rfl
def J9(r t a b:Nat)(s:F3):F3:=⟨rz s.H s.H r t a b,rz s.U s.H r t a b,I4 s.W s.H r t a b⟩
theorem nM{f g:Nat->Nat->Int}{q q':Nat->Int}{first e p i j:Nat}(d:f p j=g p j)(b:f i j=g i j)(c:first<=i->i<e->q i=q' i):nP f q first e p i j=nP g q' first e p i j:=by
 unfold nP;split
 .rename_i a;rw[d,b,c a.1 a.2]
 .exact b
theorem uh{f g:Nat->Nat->Int}{q q':Nat->Int}{first e p i j:Nat}(b:∀a,a<e->f i a=g i a)(c:f i p=g i p)(h:f i j=g i j)(d:∀a,a<e->q a=q' a):u3 f q first e p i j=u3 g q' first e p i j:=by
 unfold u3;split
 .rw[c,wq e d b]
 .exact h
theorem DP{r c t:Nat}{s l:F3}(h:F3.Eq r c s l)(d:t<r)(k:i<r)(u:j<c):F3.Eq r c (J9 r t i j s) (J9 r t i j l):=by
 have o:∀a,a<r->rq s.H t i j a=rq l.H t i j a:=λa e=>by
  unfold rq;rw[h.1 _ _ (j2 d k e) u,h.1 _ _ (j2 d k d) u]
 refine⟨λa b e m=>?_,λa b e m=>?_,λa b e m=>?_⟩
 .exact nM (f:=λa b=>s.H (ky t i a) b) (g:=λa b=>l.H (ky t i a) b) (q:=rq s.H t i j) (q':=rq l.H t i j) (h.1 _ _ (j2 d k d) m) (h.1 _ _ (j2 d k e) m) (λ_ _=>o a e)
 .exact nM (f:=λa b=>s.U (ky t i a) b) (g:=λa b=>l.U (ky t i a) b) (q:=rq s.H t i j) (q':=rq l.H t i j) (h.2.1 _ _ (j2 d k d) m) (h.2.1 _ _ (j2 d k e) m) (λ_ _=>o a e)
 .exact uh (f:=λa b=>s.W a (ky t i b)) (g:=λa b=>l.W a (ky t i b)) (q:=rq s.H t i j) (q':=rq l.H t i j) (λp n=>h.2.2 _ _ e (j2 d k n)) (h.2.2 _ _ e (j2 d k d)) (h.2.2 _ _ e (j2 d k m)) (λp n=>o p n)
def nR(r c t b:Nat)(d:F3):Nat->F3->Prop
 |0,a=>F3.Eq r c d a
 |f+1,h=>∃(e:Nat) (a:F3),nR r c t b d f a/\iQ (λg=>a.H g b) (if f=0 then t else t+1) r e/\F3.Eq r c (J9 r t e b a) h
theorem nR.start{r c t:Nat}{a:F3}(s:F3)(h:F3.Eq r c a s):nR r c t i a 0 s:=h
theorem nR.step{r c t:Nat}{d:F3}(n a:Nat)(s b:F3)(g:nR r c t i d n s)(h:iQ (λf=>s.H f i) (if n=0 then t else t+1) r a)(e:F3.Eq r c (J9 r t a i s) b):nR r c t i d (n+1) b:=⟨a,s,g,h,e⟩
theorem Ad{r c a:Nat}{s d:F3}(h:F3.Eq r c s d)(j:i<c){z:Int}(f:iQ (λb=>s.H b i) a r z):iQ (λb=>d.H b i) a r z:=f.congr (λe _ g=>(h.1 e i g j).symm)
theorem nR.Bh{r c t:Nat}{j o:F3}(z:F3.Eq r c j o)(v:t<r)(l:i<c):∀b a d,nR r c t i j b a->nR r c t i o b d->F3.Eq r c a d:=by
 intro b;induction b with
 |zero=>
  intro a d e h;have g:F3.Eq r c j a:=e;exact g.symm.trans (z.trans h)
 |succ b A=>
  intro a d e h;obtain⟨f,B,C,m,g⟩:=e;obtain⟨k,w,y,u,s⟩:=h;have n:=A B w C y;have F:(f:Int)=k:=(Ad n l m).uniq u;have q:f=k:=by omega
  subst q;have x:f<r:=by rcases m with⟨E,_,D,p,_⟩|⟨p,_⟩<;>omega
  exact g.symm.trans ((DP n v x l).trans s)
theorem nR.J4{r c t:Nat}{e:F3}{m:Nat}{d:F3}(h:nR r c t i e m d):∀a,a<m->∃g b,nR r c t i e a g/\iQ (λp=>g.H p i) (if a=0 then t else t+1) r (b:Nat):=by
 induction m generalizing d with
 |zero=>intro a o;omega
 |succ j l=>
  obtain⟨b,n,f,q,-⟩:=h;intro a o;by_cases k:a=j
  .subst k;exact⟨n,b,f,q⟩
  .exact l f a (by omega)
def oi(t a:Nat)(s:F3):Int:=if s.H t a<0 then-1 else 1
def oy(t c:Nat)(s:F3):F3:=⟨λa b=>if a=t then oi t c s*s.H a b else s.H a b,λa b=>if a=t then oi t c s*s.U a b else s.U a b,λa b=>if b=t then oi t c s*s.W a b else s.W a b⟩
def Le(t a:Nat)(s:F3):F3:=⟨nP (oy t a s).H (λb=>((oy t a s).H b a).fdiv ((oy t a s).H t a)) 0 t t,nP (oy t a s).U (λb=>((oy t a s).H b a).fdiv ((oy t a s).H t a)) 0 t t,u3 (oy t a s).W (λb=>((oy t a s).H b a).fdiv ((oy t a s).H t a)) 0 t t⟩
theorem Eu{r c t:Nat}{s e:F3}(h:F3.Eq r c s e)(j:t<r)(l:i<c):F3.Eq r c (Le t i s) (Le t i e):=by
 have k:oi t i s=oi t i e:=by unfold oi;rw[h.1 t i j l]
 have g:F3.Eq r c (oy t i s) (oy t i e):=by
  refine⟨λa f b d=>?_,λa f b d=>?_,λa f b d=>?_⟩
  .show(if a=t then _ else _)=(if a=t then _ else _);rw[k,h.1 a f b d]
  .show(if a=t then _ else _)=(if a=t then _ else _);rw[k,h.2.1 a f b d]
  .show(if f=t then _ else _)=(if f=t then _ else _);rw[k,h.2.2 a f b d]
 have m:∀a,a<r->((oy t i s).H a i).fdiv ((oy t i s).H t i)=((oy t i e).H a i).fdiv ((oy t i e).H t i):=λa b=>by rw[g.1 a i b l,g.1 t i j l]
 refine⟨λa f b d=>?_,λa f b d=>?_,λa f b d=>?_⟩
 .exact nM (q:=λa=>((oy t i s).H a i).fdiv ((oy t i s).H t i)) (q':=λa=>((oy t i e).H a i).fdiv ((oy t i e).H t i)) (g.1 _ _ j d) (g.1 _ _ b d) (λ_ _=>m a b)
 .exact nM (q:=λa=>((oy t i s).H a i).fdiv ((oy t i s).H t i)) (q':=λa=>((oy t i e).H a i).fdiv ((oy t i e).H t i)) (g.2.1 _ _ j d) (g.2.1 _ _ b d) (λ_ _=>m a b)
 .exact uh (q:=λa=>((oy t i s).H a i).fdiv ((oy t i s).H t i)) (q':=λa=>((oy t i e).H a i).fdiv ((oy t i e).H t i)) (λn o=>g.2.2 _ _ b (by omega)) (g.2.2 _ _ b j) (g.2.2 _ _ b d) (λn o=>m n (by omega))
def sj(r c t b:Nat)(d:F3)(f:Nat)(g:F3):Prop:=((∀a,t<=a->a<r->d.H a b=0)/\f=t/\F3.Eq r c d g)\/
 (t<r/\f=t+1/\∃h e,nR r c t b d (h+1) e/\iQ (λa=>e.H a b) (t+1) r (-1)/\F3.Eq r c (Le t b e) g)
theorem nR.ne{r c t n:Nat}{b j:F3}(h:nR r c t i b (n+1) j)(m:i<c):¬∀a,t<=a->a<r->b.H a i=0:=by
 intro l;obtain⟨f,q,p,g⟩:=h.J4 0 (by omega);have o:F3.Eq r c b f:=p;rw[if_pos rfl]at g;rcases g with⟨a,e,d,-,k,-⟩|⟨e,-⟩
 .exact k (by show f.H a i=0;rw[<-o.1 a i d m];exact l a e d)
 .omega
theorem sj.Bh{r c t:Nat}{y E z B:F3}(e:F3.Eq r c y E)(a:i<c)(h:sj r c t i y j z)(x:sj r c t i E k B):j=k/\F3.Eq r c z B:=by
 rcases h with⟨R,rfl,p⟩|⟨s,rfl,d,U,o,N,p⟩
 .rcases x with⟨G,rfl,f⟩|⟨M,rfl,H,P,l,F,f⟩
  .exact⟨rfl,p.symm.trans (e.trans f)⟩
  .exact absurd (λb q m=>by rw[<-e.1 b i m a];exact R b q m) (l.ne a)
 .rcases x with⟨G,rfl,f⟩|⟨M,rfl,H,P,l,F,f⟩
  .exact absurd (λb q m=>by rw[e.1 b i m a];exact G b q m) (o.ne a)
  .refine⟨rfl,?_⟩;have C:∀{d w:Nat} {v u n D:F3},F3.Eq r c v u->nR r c t i v (d+1) n->nR r c t i u (w+1) D->iQ (λb=>n.H b i) (t+1) r (-1)->d<w->False:=by
    intro d w v u n D Q O J I T;obtain⟨L,S,K,A⟩:=J.J4 (d+1) (by omega);rw[if_neg (by omega)]at A;have:=Ad (nR.Bh Q s a (d+1) n L O K) a I;have:=this.uniq A;omega
   rcases mY d H with g|g|g
   .exact(C e o l N g).elim
   .subst g;exact p.symm.trans ((Eu (nR.Bh e s a _ _ _ o l) s a).trans f)
   .exact(C e.symm l o F g).elim
def pR(r c:Nat)(A:Nat->Nat->Int):Nat->Nat->F3->Prop
 |0,a,b=>a=0/\F3.Eq r c ⟨A,kd,kd⟩ b
 |d+1,e,f=>∃(a:Nat) (b:F3),pR r c A d a b/\sj r c a d b e f
theorem pR.start{r c:Nat}{A:Nat->Nat->Int}(s:F3)(h:F3.Eq r c ⟨A,kd,kd⟩ s):pR r c A 0 0 s:=⟨rfl,h⟩
theorem pR.step{r c:Nat}{A:Nat->Nat->Int}(n t a:Nat)(s b:F3)(g:pR r c A n t s)(d:sj r c t n s a b):pR r c A (n+1) a b:=⟨t,s,g,d⟩
theorem pR.Bh{r c:Nat}{A:Nat->Nat->Int}:∀a,a<=c->∀b f d e,pR r c A a b d->pR r c A a f e->b=f/\F3.Eq r c d e:=by
 intro a;induction a with
 |zero=>
  intro _ b f d e g i;obtain⟨rfl,h⟩:=g;obtain⟨rfl,m⟩:=i;exact⟨rfl,h.symm.trans m⟩
 |succ a p=>
  intro u b f d e g i;obtain⟨q,k,s,j⟩:=g;obtain⟨n,l,o,t⟩:=i;obtain⟨rfl,h⟩:=p (by omega) q n k l s o;exact j.Bh h (by omega) t
structure KD (H U W:Nat->Nat->Int) (r c t lY L X MH MU MW KH KU KW:Nat):Prop where
 hX:∀i,t<=i->i<r->(H i lY).natAbs<=X
 hM:Bd H U W r c t 1 MH MU MW
 k1:MH<=KH
 k2:MU<=KU
 k3:MW<=KW
 k4:t+1<r->MH*((1+7*X)*X^8)<=KH/\MU*((1+7*X)*X^8)<=KU/\MW*((1+7*X)*X^8)<=KW
 l1:KH<4294967296^L
 l2:KU<4294967296^L
 l3:KW<4294967296^L
def e3(r c:Nat)(b d a:List Int):F3:=⟨e_ c b,e_ r d,e_ r a⟩
def JY(w f:World)(B l m k n r c t i:Nat)(a g j:List Int)(A:Nat->Nat->Int)(L o p q:Nat):Prop:=
 Below B w f/\(((∀h,t<=h->h<r->e_ c a h i=0)/\jr f B l m k n r c t a g j L)\/(t<r/\∃b d e,jr f B l m k n r c (t+1) b d e (2*L+1)/\jw A (e_ c b) (e_ r d) (e_ r e) r c/\CF (e_ c a) (e_ r g) r c t i (e_ c b) (e_ r d) (e_ r e) o p q/\sj r c t i (e3 r c a g j) (t+1) (e3 r c b d e)))
theorem Da{r c t:Nat}{d k h x u C:List Int}{z:Int}(o:t<r)(w:∃D,nR r c t i (e3 r c e f g) (D+1) (e3 r c d k h))(H:iQ (λa=>e_ c d a i) (t+1) r z)(P:z<0)(p:Int)(n:oi t i (e3 r c d k h)=p)(s:∀a b,a<r->b<c->A a b=if a=t then p*e_ c d a b else e_ c d a b)(G:∀a b,a<r->b<r->B a b=if a=t then p*e_ r k a b else e_ r k a b)(y:∀a b,a<r->b<r->F a b=if b=t then p*e_ r h a b else e_ r h a b)(q:Nat->Int)(K:∀a,a<r->q a=(A a i).fdiv (A t i))(E:i<c)(N:∀a b,a<r->b<c->e_ c x a b=nP A q 0 t t a b)(I:∀a b,a<r->b<r->e_ r u a b=nP B q 0 t t a b)(O:∀a b,a<r->b<r->e_ r C a b=u3 F q 0 t t a b):sj r c t i (e3 r c e f g) (t+1) (e3 r c x u C):=by
 obtain⟨D,w⟩:=w;have L:z=-1:=by rcases H with⟨a,_,_,J,_⟩|⟨J,_⟩<;>omega
 subst L;have v:∀a,a<r->((oy t i (e3 r c d k h)).H a i).fdiv ((oy t i (e3 r c d k h)).H t i)=q a:=λa j=>by
  rw[K a j,s a i j E,s t i o E];unfold oy;rw[n];rfl
 refine .inr ⟨o,rfl,D,_,w,H,λa b j l=>?_,λa b j l=>?_,λa b j l=>?_⟩
 .show nP (oy t i (e3 r c d k h)).H (λm=>((oy t i (e3 r c d k h)).H m i).fdiv ((oy t i (e3 r c d k h)).H t i)) 0 t t a b=e_ c x a b;rw[N a b j l];refine nM ?_ ?_ (λ_ _=>v a j)
  .rw[s t b o l];unfold oy;rw[n];rfl
  .rw[s a b j l];unfold oy;rw[n];rfl
 .show nP (oy t i (e3 r c d k h)).U (λm=>((oy t i (e3 r c d k h)).H m i).fdiv ((oy t i (e3 r c d k h)).H t i)) 0 t t a b=e_ r u a b;rw[I a b j l];refine nM ?_ ?_ (λ_ _=>v a j)
  .rw[G t b o l];unfold oy;rw[n];rfl
  .rw[G a b j l];unfold oy;rw[n];rfl
 .show u3 (oy t i (e3 r c d k h)).W (λm=>((oy t i (e3 r c d k h)).H m i).fdiv ((oy t i (e3 r c d k h)).H t i)) 0 t t a b=e_ r C a b;rw[O a b j l];refine uh (λm M=>?_) ?_ ?_ (λm M=>v m (by omega))
  .rw[y a m j (by omega)];unfold oy;rw[n];rfl
  .rw[y a t j o];unfold oy;rw[n];rfl
  .rw[y a b j l];unfold oy;rw[n];rfl
theorem B5{B r c t:Nat}{A:Nat->Nat->Int}{L X ao ap:Nat}{w:World}(h:jr w B i j k l r c t e f g L)(aD:r<=8)(bz:t<=r)(H:m<c)(aF:L<=60000000)(bg:KD (e_ c e) (e_ r f) (e_ r g) r c t m L X n p q s ao ap)(a7:jw A (e_ c e) (e_ r f) (e_ r g) r c):Calls Tryz.prog 61 #[.pointer (some ⟨i,0,none⟩),.int .i64 m] w λbc bx=>bc=.returned (.tuple #[])/\JY w bx B i j k l r c t m e f g A L s ao ap:=by
 have F:=hO h bg a7;obtain⟨W,V,aa⟩:=h.H.lX;have aR:=h.rk;have bO:=h.H.vf;clear h bg a7;go_in;go_wp2_with fail;go_fit (@uy _ r c m t e L _ F.f.H.sv H bz);rintro bc bN⟨M,rfl,ag,az⟩;have bU:=az.size;have ab:=hO ag az (F.f.later az);clear ag az W V aa aR;by_cases bj:M<0
 .go_wp2_with fail;refine ig (v:=.tuple #[]) (results_none rfl _ _ _) rfl ?_;refine⟨rfl,ab.g.mono F.f.ble,.inl ⟨?_,ab.l⟩⟩;rcases ab.f with⟨a,b,d,bE,_⟩|⟨_,S⟩
  .omega
  .exact S
 .obtain⟨ad,rfl⟩:=nV (show 0<=M by omega);have bA:t<=ad/\ad<r:=by
   rcases ab.f with⟨a,b,d,bE,_⟩|⟨S,_⟩<;>omega
  obtain⟨bP,bd⟩:=bA;have C:t<r:=by omega
  clear bj;go_wp2_with fail;obtain⟨a2,a9⟩:=hQ ((e_ c e ad m).natAbs+1);have bD:=a_ a9;clear a9;go_loopg [5] a2 (λx bI wr=>∃(M:Int) (o J K:List Int),bI=.int .i64 M/\f_ (jr wr B i j k l r c t o J K L/\jv w wr j k l/\jw A (e_ c o) (e_ r J) (e_ r K) r c/\((M=(ad:Int)/\o=e/\J=f/\K=g/\x=a2)\/((∃Y,nR r c t m (e3 r c e f g) (Y+1) (e3 r c o J K))/\lj (e_ c e) (e_ r f) r c t m (e_ c o) (e_ r J) (e_ r K) s ao ap M/\((M<0/\x=0)\/∃a:Nat,M=(a:Int)/\x=(e_ c o a m).natAbs)))))
  case atStart=>exact⟨ad,e,f,g,rfl,a_ ⟨ab.l,jv.I _ _ _ ab.g,F.l,.inl ⟨rfl,rfl,rfl,rfl,rfl⟩⟩⟩
  case round=>
   obtain⟨M,o,J,K,rfl,G⟩:=hrel;obtain⟨W,V,aa⟩:=G.f.H.lX;have bM:=G.f.H.vf;by_cases ag:M<0
   .have I:f_ (lj (e_ c e) (e_ r f) r c t m (e_ c o) (e_ r J) (e_ r K) s ao ap M):=a_ (by
     rcases G.o with⟨b,_⟩|⟨_,b,_⟩
     .omega
     .exact b)
    have a8:f_ (∃Y,nR r c t m (e3 r c e f g) (Y+1) (e3 r c o J K)):=a_ (by
     rcases G.o with⟨b,_⟩|⟨b,_⟩
     .omega
     .exact b)
    go_wp2_with fail;go_fit (@jy _ r c t m o L _ G.f.H.sv C H);rintro aj bm⟨U,rfl,aO,aN⟩;obtain⟨bQ,bS,bR,bT,rfl⟩:=aO.shape;have bB:=aN.size;have ah:=b_ aO aN;clear aO aN;go_wp2_with fail;go_fit (@uj _ (o.getD (t*c+m) 0) L _ ah.f);rintro aj bH⟨rfl,a1⟩;have aS:=ah.i.trans (a1.mono bB);have Z:=b_ aS (G.f.later aS);clear a1 aS W V aa;obtain⟨bn,aT⟩:=hQ (decide (o.getD (t*c+m) 0<0));rw[<-aT];have ay:=a_ aT;clear aT
    cases hDD:bn
    case true=>
     have av:=a_ (yO (ay.e.symm.trans hDD));clear hDD ay;go_wp2_with fail;go_fit (@D1 B i j k l r c t t o J K L _ Z.i C);rintro aj bl⟨rfl,aV,bo,bF,aJ,bh,R,U,ac⟩;obtain⟨D,T⟩:∃D:Nat->Int,D=λa=>(e_ c aV a m).fdiv (e_ c aV t m):=⟨_,rfl⟩;have bt:=aJ.H.vf;have E:=ju aJ bh R U ac T;clear aJ bh R U ac T;go_wp2_with fail;go_fit (@rW B i j k l r c t 0 t t m aV bo bF L _ E.f aF hR (by omega) C (by omega) H D E.z);rintro aj aL⟨rfl,aH,aI,aM,N,aw,P,O,Q⟩;have aR:=N.rk;have bG:=N.fr;have bv:=N.H.vf;have y:=iu N aw P O Q;clear N aw P O Q;go_wp2;go_end0;obtain⟨aE,aG⟩:=y.f.H7 (t+1) (z:=(t:Int)+1) (by omega);have aX:Below B w aL:=F.f.below (((G.g.trans (jv.I _ _ _ Z.f)).trans E.g).trans y.g);refine⟨rfl,aX.trans aG,.inr ⟨C,aH,aI,aM,aE,?_,?_,Da C a8.e I.e.least ag (-1) (by unfold oi;rw[if_pos (show(e3 r c o J K).H t m<0 from av.e)]) (λa u b d=>by rw[E.j a u b d];split<;>omega) (λa u b d=>by rw[E.m a u b d];split<;>omega) (λa u b d=>by rw[E.r a u b d];split<;>omega) D (λa _=>by rw[E.z]) H y.j y.m y.x⟩⟩
     .refine jw.congr (jw.Cu (jw.congr (G.j.turn t) (λ_ _ _ _=>rfl) E.j E.m E.r) D C t hR (by omega) (by omega)) (λ_ _ _ _=>rfl) y.j y.m y.x
     .exact I.e.ends ag aD C H (-1) (.inr rfl) (by have:=av.e;show 0< -1*e_ c o t m;unfold e_;omega) (λa u b d=>by rw[E.j a u b d];split<;>omega) (λa u b d=>by rw[E.m a u b d];split<;>omega) (λa u b d=>by rw[E.r a u b d];split<;>omega) D (λa _=>by rw[E.z]) y.j y.m y.x
    case false=>
     have av:=a_ (t_ (ay.e.symm.trans hDD));clear hDD ay;go_wp2_with fail;obtain⟨D,T⟩:∃D:Nat->Int,D=λa=>(e_ c o a m).fdiv (e_ c o t m):=⟨_,rfl⟩;have aP:=a_ T;clear T;go_fit (@rW B i j k l r c t 0 t t m o J K L _ Z.i aF hR (by omega) C (by omega) H D aP.e);rintro aj aL⟨rfl,aH,aI,aM,N,aw,P,O,Q⟩;have aR:=N.rk;have bG:=N.fr;have bv:=N.H.vf;have y:=iu N aw P O Q;clear N aw P O Q;go_wp2;go_end0;obtain⟨aE,aG⟩:=y.f.H7 (t+1) (z:=(t:Int)+1) (by omega);have aX:Below B w aL:=F.f.below ((G.g.trans (jv.I _ _ _ Z.f)).trans y.g);refine⟨rfl,aX.trans aG,.inr ⟨C,aH,aI,aM,aE,?_,?_,Da C a8.e I.e.least ag 1 (by unfold oi;rw[if_neg (show¬(e3 r c o J K).H t m<0 from Int.not_lt.2 av.e)]) (λa u b d=>by split<;>omega) (λa u b d=>by split<;>omega) (λa u b d=>by split<;>omega) D (λa _=>by rw[aP.e]) H y.j y.m y.x⟩⟩
     .refine jw.congr (jw.Cu G.j D C t hR (by omega) (by omega)) (λ_ _ _ _=>rfl) y.j y.m y.x
     .exact I.e.ends ag aD C H 1 (.inl rfl) (by have:=av.e;have aZ:=I.e.ne;show 0<1*e_ c o t m;unfold e_ at*;omega) (λa u b d=>by split<;>omega) (λa u b d=>by split<;>omega) (λa u b d=>by split<;>omega) D (λa _=>by rw[aP.e]) y.j y.m y.x
   .obtain⟨a,rfl⟩:=nV (show 0<=M by omega);have bw:t<=a/\a<r:=by
     rcases G.o with⟨b,_⟩|⟨_,b,_⟩
     .omega
     .rcases b.least with⟨a0,S,an,bL,_⟩|⟨S,_⟩<;>omega
    obtain⟨bJ,ba⟩:=bw;clear ag;go_wp2_with fail;go_fit (@DO B i j k l r c t t a o J K L _ G.f C ba);rintro aj bm⟨rfl,ax,bC,bu,aC,a3,R,U,ac⟩;obtain⟨D,T⟩:∃D:Nat->Int,D=λa=>(e_ c ax a m).fdiv (e_ c ax t m):=⟨_,rfl⟩;clear W V aa;obtain⟨W,V,aa⟩:=aC.H.lX;have bK:=aC.H.vf;have ah:=ju aC a3 R U ac T;clear aC a3 R U ac T;go_wp2_with fail;go_fit (@rW B i j k l r c t (t+1) r t m ax bC bu L _ ah.f aF (by omega) c_ C (by omega) H D ah.z);rintro aj bH⟨rfl,af,au,aq,aA,a5,P,O,Q⟩;clear W V aa;obtain⟨W,V,aa⟩:=aA.H.lX;have bt:=aA.H.vf;have Z:=iu aA a5 P O Q;clear aA a5 P O Q;go_wp2_with fail;go_fit (@uy _ r c m (t+1) af (2*L+1) _ Z.f.H.sv H (by omega));rintro aj bl⟨al,rfl,am,bb⟩;have E:=b_ am bb;clear am bb W V aa;have I:f_ (lj (e_ c e) (e_ r f) r c t m (e_ c af) (e_ r au) (e_ r aq) s ao ap al/\e_ c af t m=e_ c o a m/\jw A (e_ c af) (e_ r au) (e_ r aq) r c/\∃Y,nR r c t m (e3 r c e f g) (Y+1) (e3 r c af au aq)):=a_ (by
     obtain⟨-,-,R,U,ac,T⟩:=ah.e;obtain⟨-,-,P,O,Q⟩:=Z.e;have aY:∀x,x<r->D x=rq (e_ c o) t a m x:=λx ak=>by
      rw[T];unfold rq;show(e_ c ax x m).fdiv (e_ c ax t m)=_;rw[R x m ak H,R t m C H]
     have ar:=FU C R P aY;have aQ:=FU C U O aY;have aU:=IZ C ac Q aY;have bi:iQ (λx=>rz (e_ c o) (e_ c o) r t a m x m) (t+1) r al:=E.f.congr (λx _ ak=>(ar x m ak H).symm);have bf:F3.Eq r c (J9 r t a m (e3 r c o J K)) (e3 r c af au aq):=⟨λb d S an=>(ar b d S an).symm,λb d S an=>(aQ b d S an).symm,λb d S an=>(aU b d S an).symm⟩;refine⟨?_,by rw[ar t m C H,ly],G.j.round C ba R U ac P O Q,?_⟩
     case' refine_2=>
      rcases G.o with⟨ae,rfl,rfl,rfl,-⟩|⟨⟨Y,bq⟩,ae,-⟩
      .have ai:a=ad:=by omega
       subst ai;exact⟨0,.step 0 a _ _ (.start _ (F3.Eq.refl _ _ _)) ab.f bf⟩
      .exact⟨Y+1,.step (Y+1) a _ _ bq ae.least bf⟩
     rcases G.o with⟨ae,rfl,rfl,rfl,-⟩|⟨-,ae,-⟩
     .have ai:a=ad:=by omega
      subst ai;exact(lj.first aD ab.f F.g.hX F.g.hM F.g.k1 F.g.k2 F.g.k3 F.g.k4 bi).congr C H ar aQ aU
     .exact(ae.next aD bi).congr C H ar aQ aU)
    go_wp2;go_roundg (if al<0 then 0 else(e_ c af al.toNat m).natAbs)
    case measure=>
     have br:0<gk/\(e_ c o a m).natAbs<=gk:=by
      rcases G.o with⟨ae,rfl,-,-,rfl⟩|⟨-,ae,⟨bp,-⟩|⟨a0,bp,rfl⟩⟩
      .have:=bD.e;have ai:a=ad:=by omega
       subst ai;omega
      .omega
      .have ai:a=a0:=by omega
       subst ai;rcases ae.least with⟨aB,aW,a4,a6,bs,-⟩|⟨aW,-⟩
       .have bd:aB=a:=by omega
        subst bd;have bV:e_ c o aB m≠0:=bs;omega
       .omega
     split
     .exact br.1
     .rcases I.f.least with⟨aB,aW,a4,a6,-⟩|⟨aW,-⟩
      .have:=I.f.lt aB (by omega) a4;rw[I.g]at this;rw[a6,D7];omega
      .omega
    case rel=>
     obtain⟨F3,bk,-⟩:=Z.e;have aK:=I.f.Lh;refine⟨al,af,au,aq,rfl,a_ ⟨(F3.fit (λx u b d=>?_) (λx u b d=>?_) (λx u b d=>?_)).later E.i,((G.g.trans ah.g).trans bk).trans (jv.I _ _ _ E.i),I.j,.inr ⟨I.o,I.f,?_⟩⟩⟩
     .by_cases ak:x<t
      .rw[I.f.CZ x u ak d];exact(F.f.H.has b d).lt
      .have be:=aK.h x u (by omega) b d;have aZ:=F.g.l1;omega
     .by_cases ak:x<t
      .rw[I.f.De x u ak d];exact(F.f.U.has b d).lt
      .have be:=aK.u x u (by omega) b d;have aZ:=F.g.l2;omega
     .have be:=aK.w x u b d;have aZ:=F.g.l3;omega
     .by_cases am:al<0
      .exact .inl ⟨am,if_pos am⟩
      .refine .inr ⟨al.toNat,by omega,if_neg am⟩
def yr(w:World)(b:Nat):Prop:=b<w.heap.size/\∀a,w.frozen? ⟨b,a,none⟩=false
theorem yr.new(w:World)(c:Array Value)(t:TypeId):yr (w.alloc (.cells c t)) w.heap.size:=⟨by simp,λ_=>yF _ _ _ _⟩
theorem yr.below{w:World}{b:Nat}(h:yr w b)(a:Below w.heap.size w v):yr v b:=⟨l_ h.1 a.size,λc=>by rw[a.frozen (p:=⟨b,c,none⟩) h.1];exact h.2 c⟩
theorem yr.grown{w:World}{b g:Nat}(h:yr w b)(a:w.grownBy v (some g))(c:b≠g):yr v b:=⟨l_ h.1 a.size,λd=>by rw[zx (a.block b h.1 (by simpa using c))];exact h.2 d⟩
theorem D8(r c i j:Nat):e_ c (List.replicate (r*c) 0) i j=0:=by
 unfold e_;simp only[List.getD,wi];split<;>rfl
theorem nX{r:Nat}{w:World}(z:r<=99):Calls Tryz.prog 60 #[.int .i64 r] w λa W=>∃c ab,a=.returned (.agg #[.int .i64 r,.int .i64 r,.slice (some ⟨c,0,none⟩) (r*r) (r*r)])/\w.heap.size<=c/\iA W (.slice (some ⟨c,0,none⟩) (r*r) (r*r)) (r*r) ab 1/\(∀b e,b<r->e<r->e_ r ab b e=kd b e)/\Below w.heap.size w W:=by
 go_in;go_wp2_with fail;have Q:=hU w (.cells #[.int .i64 0,.int .i64 0,.slice none 0 0] 66);have R:x4 (w.alloc (.cells #[.int .i64 0,.int .i64 0,.slice none 0 0] 66)) w.heap.size 0 (.int .i64 0) (.int .i64 0) (.slice none 0 0):=⟨fa _ _ _ _ _ rfl rfl,fa _ _ _ _ _ rfl rfl,fa _ _ _ _ _ rfl rfl⟩;have O:=oB (Ty.new w #[.int .i64 0,.int .i64 0,.slice none 0 0] 66) (yr.new w #[.int .i64 0,.int .i64 0,.slice none 0 0] 66);go_fit (kh z z);rintro a f⟨c,rfl,S,P,j⟩;have au:w.heap.size+1<=c:=by simpa using S
 have aq:c<f.heap.size:=P.ty.lt;have U:Below w.heap.size w f:=d_ Q j;have aE:w.heap.size+1<=f.heap.size:=by have:=j.size;simpa using this
 have Z:=R.later j;have L:=oB (O.1.below j (by simp)) (O.2.below j);have h:=hU f (.cells #[.int .i64 r,.int .i64 r,.slice (some ⟨c,0,none⟩) (r*r) (r*r)] 66);have F:x4 (f.alloc (.cells #[.int .i64 r,.int .i64 r,.slice (some ⟨c,0,none⟩) (r*r) (r*r)] 66)) f.heap.size 0 (.int .i64 r) (.int .i64 r) (.slice (some ⟨c,0,none⟩) (r*r) (r*r)):=⟨fa _ _ _ _ _ rfl rfl,fa _ _ _ _ _ rfl rfl,fa _ _ _ _ _ rfl rfl⟩;obtain⟨E,s⟩:=hQ (f.alloc (.cells #[.int .i64 r,.int .i64 r,.slice (some ⟨c,0,none⟩) (r*r) (r*r)] 66));have ar:E.heap.size=f.heap.size+1:=by rw[s];simp
 rw[<-s]at h F;have X:iT E f.heap.size 0 c r r (List.replicate (r*r) 0) 1:=⟨z,z,F,(P.mono (by omega)).below h⟩;have i:=iu X (U.trans (h.mono (by omega))) (Z.later h) (oB (L.1.below h (by omega)) (L.2.below h)) s;clear Q R O S P j U Z L h F X s;go_wp2_with fail;rw[<-i.x];go_fit (mU);rintro a k⟨aF,rfl,n,J⟩;obtain⟨t,y,u,C,rfl⟩:=n.shape;replace n:=n.fit (K:=1) (by decide);have al:E.heap.size<=k.heap.size:=J.size;have D:=hU k (.cells #[.bool t,.slice y u C] 79);have N:=iw.new k (.bool t) (.slice y u C) rfl;obtain⟨I,x⟩:=hQ (k.alloc (.cells #[.bool t,.slice y u C] 79));have aG:I.heap.size=k.heap.size+1:=by rw[x];simp
 rw[<-x]at D N;have l:=J.trans (D.mono al);have g:=kM (i.f.later l) (i.g.trans (l.mono (by omega))) (i.j.later l) (oB (i.m.1.below l (by omega)) (i.m.2.below l)) (n.below D) N x;clear n J D N x l;go_wp2_with fail;rw[<-g.C];have aj:f.heap.size≠c:=by omega
 go_loopw [5] (λb wr=>∃(a:Nat) (m:List Int),a<=r/\b=.int .i64 a/\f_ (iT wr f.heap.size 0 c r r m 1/\I.grownBy wr (some c)/\KU I wr/\∀b e,b<r->e<r->e_ r m b e=if b<a then kd b e else 0)) (λb _=>r-(intOf b).toNat)
 case atStart=>exact⟨0,_,hR,rfl,a_ ⟨g.f,jM _ _,KU.refl _,λb e _ _=>by rw[D8,if_neg (by omega)]⟩⟩
 case round=>
  obtain⟨a,m,az,rfl,d⟩:=hrel;obtain⟨av,an,ax⟩:=d.f.lX;have ap:=d.g.size;have V:iw wr k.heap.size (.bool t) (.slice y u C):=(d.g.block _ (by omega) (λa=>by injection a with a;omega)).trans g.y;obtain⟨ay,ao,-,-⟩:=V.cells;clear V;by_cases A:a<r
  .have ag:(a:Int)<(r:Int):=by omega
   go_wp2_with fail;go_fit (oQ d.f aj (g.r.hV d.j) A A);rintro aA aD⟨rfl,aa,T,Y⟩;have G:=hO aa (hZ d.g T) (d.j.trans Y);clear aa T Y;go_wp2;go_roundw
   .refine⟨a+1,_,by omega,by go_num,a_ ⟨G.f,G.g,G.l,λb e M B=>?_⟩⟩;rw[kN m r r d.f.len a a b e _ A A B,d.o b e M B];unfold kd;grind
   simp[intOf];omega
  .have ag:¬(a:Int)<(r:Int):=by omega
   have ac:a=r:=by omega
   have ad:=a_ ac;clear ac;have am:=g.j.grown d.g (by omega);have H:=g.m.1.grown d.g (by omega);have aw:=(g.m.2.grown d.g (by omega)).2;obtain⟨ah,ai,ae⟩:=am;go_wp2_with fail;refine ig (v:=.agg #[.int .i64 r,.int .i64 r,.slice (some ⟨c,0,none⟩) (r*r) (r*r)]) ?_ rfl ?_
   ·(simp[results,Tryz.results60,go_sem,ah,ai,ae];done)
   .have ak:∀(p q o:Value),KU wr (((wr.setCell ⟨w.heap.size,0,none⟩ p).setCell ⟨w.heap.size,1,none⟩ q).setCell ⟨w.heap.size,2,none⟩ o):=λp q o=>KU.setCell (KU.setCell (KU.setCell (KU.refl _) H (by decide) _) (H.setCell _ _) (by decide) _) ((H.setCell _ _).setCell _ _) (by decide) _;have af:∀(p q o:Value),wr.grownBy (((wr.setCell ⟨w.heap.size,0,none⟩ p).setCell ⟨w.heap.size,1,none⟩ q).setCell ⟨w.heap.size,2,none⟩ o) (some w.heap.size):=λp q o=>hZ (hZ (iE _ _ _ _) (iE _ _ _ _)) (iE _ _ _ _);refine⟨c,rfl,by omega,m,d.f.kA.grown (af _ _ _) (λaC aH aB a=>by
     simp only[iC,iH]at a;obtain⟨rfl,-,-⟩:=a;show c≠w.heap.size;omega) (ak _ _ _),λb e M B=>?_,?_⟩
    .rw[d.o b e M B,if_pos (by have:=ad.e;omega)]
    .refine uu (uu (uu ?_ (by simp) _) (by simp) _) (by simp) _;exact g.g.trans (iG d.g (by omega) (by omega))
structure iJ (r e t:Nat) (pc:Nat->Nat) (H:Nat->Nat->Int):Prop where
 le:t<=r
 te:t<=e
 lY:∀b,b<t->pc b<e
 up:∀a b,a<b->b<t->pc a<pc b
 zr:∀b,b<t->0<H b (pc b)
 left:∀b,b<t->∀j,j<pc b->H b j=0
 below:∀b,b<t->∀i,b<i->i<r->H i (pc b)=0
 qp:∀b,b<t->∀i,i<b->0<=H i (pc b)/\H i (pc b)<H b (pc b)
 rest:∀i,t<=i->i<r->∀j,j<e->H i j=0
theorem iJ.start(r:Nat)(pc:Nat->Nat)(c:Nat->Nat->Int):iJ r 0 0 pc c:=
 ⟨hR,hR,λb a=>by omega,λe b _ a=>by omega,λb a=>by omega,λb a=>by omega,λb a=>by omega,λb a=>by omega,λf _ _ d a=>by omega⟩
theorem iJ.skip{r e t:Nat}{pc:Nat->Nat}(h:iJ r e t pc A)(g:∀a,t<=a->a<r->A a e=0):iJ r (e+1) t pc A:=
 ⟨h.le,by have:=h.te;omega,λb i=>by have:=h.lY b i;omega,h.up,h.zr,h.left,h.below,h.qp,λa d b c j=>by
  by_cases f:c=e
  .rw[f];exact g a d b
  .exact h.rest a d b c (by omega)⟩
theorem iJ.Kt{r c e t:Nat}{pc:Nat->Nat}{U:Nat->Nat->Int}(h:iJ r e t pc A)(v:t<r)(z:e<c)(g:CF A U r c t e B F G i j k):iJ r (e+1) (t+1) (λa=>if a=t then e else pc a) B:=by
 have s:∀d,d<e->∀b,t<=b->b<r->B b d=0:=λd q=>g.zero d (by omega) (λb l a=>h.rest b l a d q);have n:∀b d,b<t->d<e->B b d=A b d:=λb d l a=>by
  rw[g.Kn b d l (by omega),s d a t c_ v];simp
 refine⟨by omega,by have:=h.te;omega,λa m=>?_,λl a w m=>?_,λa m=>?_,λa m d q=>?_,λa m b p u=>?_,λa m b p=>?_,λb l a d q=>?_⟩
 .show(if a=t then e else pc a)<e+1;split
  .omega
  .have:=h.lY a (by omega);omega
 .show(if l=t then e else pc l)<(if a=t then e else pc a);rw[if_neg (by omega)];split
  .exact h.lY l (by omega)
  .exact h.up l a w (by omega)
 .show 0<B a (if a=t then e else pc a);split
  .rename_i f;rw[f];exact g.pos
  .have:=h.lY a (by omega);rw[n a (pc a) (by omega) this];exact h.zr a (by omega)
 .have o:d<(if a=t then e else pc a):=q;by_cases f:a=t
  .rw[if_pos f]at o;rw[f];exact s d o t c_ v
  .rw[if_neg f]at o;have:=h.lY a (by omega);rw[n a d (by omega) (by omega)];exact h.left a (by omega) d o
 .show B b (if a=t then e else pc a)=0;by_cases f:a=t
  .rw[if_pos f];exact g.below b (by omega) u
  .rw[if_neg f];have:=h.lY a (by omega);by_cases x:b<t
   .rw[n b _ x this];exact h.below a (by omega) b p u
   .exact s _ this b (by omega) u
 .show 0<=B b (if a=t then e else pc a)/\B b (if a=t then e else pc a)<B a (if a=t then e else pc a);by_cases f:a=t
  .subst f;rw[if_pos rfl];exact g.qp b p
  .rw[if_neg f];have:=h.lY a (by omega);rw[n b _ (by omega) this,n a _ (by omega) this];exact h.qp a (by omega) b p
 .by_cases y:d=e
  .rw[y];exact g.below b (by omega) a
  .exact s d (by omega) b (by omega) a
def bB(r a:Nat):Nat->Nat
 |0=>a
 |b+1=>if b+1<r then 10*bB r a b+3 else bB r a b
def hB(r a:Nat):Nat->Nat
 |0=>a
 |b+1=>hB r a b+bB r a (b+1)+1
def uA(r a u t:Nat):Nat:=if t+1<r then u+9*bB r a t+3 else u
def uB(r a:Nat):Nat->Nat
 |0=>1
 |b+1=>uA r a (uB r a b) b+hB r a b+4
theorem Iu(r a t:Nat):bB r a t<=hB r a t:=by
 cases t with
 |zero=>exact c_
 |succ t=>rw[hB];omega
theorem sE(r a:Nat){s t:Nat}(h:s<=t):hB r a s<=hB r a t:=by
 induction t with
 |zero=>rw[show s=0 from by omega];exact c_
 |succ t c=>
  by_cases b:s=t+1
  .rw[b];exact c_
  .have:=c (by omega);rw[hB];omega
theorem F6(r a u t:Nat):u<=uA r a u t:=by unfold uA;split<;>omega
theorem oK(r a:Nat){s t:Nat}(h:s<=t):uB r a s<=uB r a t:=by
 induction t with
 |zero=>rw[show s=0 from by omega];exact c_
 |succ t c=>
  by_cases b:s=t+1
  .rw[b];exact c_
  .have:=c (by omega);have:=F6 r a (uB r a t) t;rw[uB];omega
structure EB (H U W:Nat->Nat->Int) (r c t β:Nat):Prop where
 a:∀i j,t<=i->i<r->j<c->(H i j).natAbs<2^bB r β t
 h:∀i j,i<r->j<c->(H i j).natAbs<2^hB r β t
 u:∀i j,i<r->j<r->(U i j).natAbs<2^uB r β t
 w:∀i j,i<r->j<r->(W i j).natAbs<2^uB r β t
theorem CO(u b:Nat):(2^u-1)*((1+7*(2^b-1))*(2^b-1)^8)<=2^(u+9*b+3)-1:=by
 have c:(2^b-1)^8<=(2^b)^8:=vH (Nat.sub_le _ _) 8;have g:0<2^b:=kx (by decide);have d:(1+7*(2^b-1))*(2^b-1)^8<=(8*2^b)*(2^b)^8:=jR (by omega) c;have e:(8*2^b)*(2^b)^8=2^(9*b+3):=by
  rw[<-qb,show(8:Nat)=2^3 from rfl,<-kg,<-kg];congr 1;omega
 have a:=jJ (2^u-1) d;rw[e]at a;have f:(2^u-1)*2^(9*b+3)=2^(u+9*b+3)-2^(9*b+3):=by
  rw[Nat.sub_mul,j7,<-kg];congr 2
 have h:0<2^(9*b+3):=kx (by decide);omega
theorem B0{x n:Nat}(h:x<2^n):x*1<=2^n-1:=by omega
theorem EB.KP{U W:Nat->Nat->Int}{r c t:Nat}(h:EB A U W r c t i)(k:j<c):(∀a,t<=a->a<r->(A a j).natAbs<=2^bB r i t-1)/\Bd A U W r c t 1 (2^bB r i t-1) (2^uB r i t-1) (2^uB r i t-1)/\2^bB r i t-1<=2^bB r i (t+1)-1/\2^uB r i t-1<=2^uA r i (uB r i t) t-1/\(t+1<r->(2^bB r i t-1)*((1+7*(2^bB r i t-1))*(2^bB r i t-1)^8)<=2^bB r i (t+1)-1/\(2^uB r i t-1)*((1+7*(2^bB r i t-1))*(2^bB r i t-1)^8)<=2^uA r i (uB r i t) t-1):=by
 refine⟨λa f b=>by have:=h.a a j f b k;omega,⟨λa d f b e=>B0 (h.a a d f b e),λa d _ b e=>B0 (h.u a d b e),λa d b e=>B0 (h.w a d b e)⟩,?_,?_,λg=>⟨?_,?_⟩⟩
 .have:2^bB r i t<=2^bB r i (t+1):=jb (by decide) (by rw[bB];split<;>omega);omega
 .have:2^uB r i t<=2^uA r i (uB r i t) t:=jb (by decide) (F6 _ _ _ _);omega
 .have:=CO (bB r i t) (bB r i t);rw[bB,if_pos g];rw[show bB r i t+9*bB r i t+3=10*bB r i t+3 from by omega]at this;exact this
 .have:=CO (uB r i t) (bB r i t);unfold uA;rw[if_pos g];exact this
theorem Ji{x y q a b h:Nat}(f:x<2^h)(d:y<=2^b-1)(k:q<2^h)(g:a<=x+y*q):a<2^(b+h):=by
 have c:0<2^b:=kx (by decide);have i:y*q<=(2^b-1)*(2^h-1):=jR d (by omega);have j:(2^b-1)*(2^h-1)+(2^h-1)=2^b*(2^h-1):=by
  rw[Nat.sub_mul,j7];have:1*(2^h-1)<=2^b*(2^h-1):=jo _ c;omega
 have e:2^b*(2^h-1)<2^b*2^h:=Nat.mul_lt_mul_of_pos_left (by omega) c;rw[<-kg]at e;omega
theorem EB.next{U W:Nat->Nat->Int}{r c t e:Nat}(h:EB A U W r c t i)(q:t<r)(p:e<c)(g:CF A U r c t e B F G (2^bB r i (t+1)-1) (2^uA r i (uB r i t) t-1) (2^uA r i (uB r i t) t-1)):EB B F G r c (t+1) i:=by
 have D:0<2^bB r i (t+1):=kx (by decide);have y:0<2^uA r i (uB r i t) t:=kx (by decide);have n:∀a,a<t->((A a e).fdiv (B t e)).natAbs<2^hB r i t:=λa k=>Dk (u9 _ _) (h.h a e (by omega) p);refine⟨λa b f d u=>?_,λa b f d=>?_,λa b f d=>?_,λa b f d=>?_⟩
 .have:=g.Lc a b (by omega) d u;omega
 .by_cases k:a<t
  .rw[g.Kn a b k d];have j:=wZ (A a b) (B t b*(A a e).fdiv (B t e));rw[np]at j;have x:=Ji (h.h a b f d) (g.Lc t b c_ q d) (n a k) j;have l:2^(bB r i (t+1)+hB r i t)<=2^hB r i (t+1):=jb (by decide) (by rw[hB];omega);omega
  .have j:=g.Lc a b (by omega) f d;have l:2^bB r i (t+1)<=2^hB r i (t+1):=jb (by decide) (Iu _ _ _);omega
 .by_cases k:a<t
  .rw[g.K2 a b k d];have j:=wZ (U a b) (F t b*(A a e).fdiv (B t e));rw[np]at j;have z:=h.u a b f d;have w:2^uB r i t<=2^uA r i (uB r i t) t:=jb (by decide) (F6 _ _ _ _);have o:=g.Li t b c_ q d;have v:=n a k;have C:(F t b).natAbs*((A a e).fdiv (B t e)).natAbs<=(2^uA r i (uB r i t) t-1)*(2^hB r i t-1):=jR o (by omega);have E:(2^uA r i (uB r i t) t-1)*(2^hB r i t-1)+(2^uA r i (uB r i t) t-1)=(2^uA r i (uB r i t) t-1)*2^hB r i t:=by
    rw[Nat.mul_sub,qd];have:(2^uA r i (uB r i t) t-1)*1<=(2^uA r i (uB r i t) t-1)*2^hB r i t:=jJ _ (kx (by decide));omega
   have s:(2^uA r i (uB r i t) t-1)*2^hB r i t<2^uA r i (uB r i t) t*2^hB r i t:=Nat.mul_lt_mul_of_pos_right (by omega) (kx (by decide));rw[<-kg]at s;have l:2^(uA r i (uB r i t) t+hB r i t)<=2^uB r i (t+1):=jb (by decide) (by rw[uB];omega);omega
  .have j:=g.Li a b (by omega) f d;have l:2^uA r i (uB r i t) t<=2^uB r i (t+1):=jb (by decide) (by rw[uB];omega);omega
 .have j:=g.Lq (2^hB r i t-1) (λa k=>by have:=h.h a e (by omega) p;omega) a b f d;have x:(2^hB r i t-1)*(2^uA r i (uB r i t) t-1)<=2^hB r i t*(2^uA r i (uB r i t) t-1):=jo _ (Nat.sub_le _ _);have m:0<2^hB r i t:=kx (by decide);have w:1*(2^uA r i (uB r i t) t-1)<=2^hB r i t*(2^uA r i (uB r i t) t-1):=jo _ m;have o:2^hB r i t*(2^uA r i (uB r i t) t-1)<2^hB r i t*2^uA r i (uB r i t) t:=Nat.mul_lt_mul_of_pos_left (by omega) m;have v:16*(2^hB r i t*2^uA r i (uB r i t) t)=2^uB r i (t+1):=by
   rw[uB,show(16:Nat)=2^4 from rfl,<-kg,<-kg];congr 1;omega
  omega
theorem J0{w:World}{b:Nat}{t:TypeId}(u:Ty w b t)(a:t≠144)(f h i e k g d j c l:Value):KU w ((((((((((w.setCell ⟨b,0,none⟩ f).setCell ⟨b,1,none⟩ h).setCell ⟨b,2,none⟩ i).setCell ⟨b,3,none⟩ e).setCell ⟨b,4,none⟩ k).setCell ⟨b,5,none⟩ g).setCell ⟨b,6,none⟩ d).setCell ⟨b,7,none⟩ j).setCell ⟨b,8,none⟩ c).setCell ⟨b,9,none⟩ l)/\w.grownBy ((((((((((w.setCell ⟨b,0,none⟩ f).setCell ⟨b,1,none⟩ h).setCell ⟨b,2,none⟩ i).setCell ⟨b,3,none⟩ e).setCell ⟨b,4,none⟩ k).setCell ⟨b,5,none⟩ g).setCell ⟨b,6,none⟩ d).setCell ⟨b,7,none⟩ j).setCell ⟨b,8,none⟩ c).setCell ⟨b,9,none⟩ l) (some b):=by
 have K:=KU.setCell (o:=0) (KU.refl w) u a f;have s:=u.setCell ⟨b,0,none⟩ f;have H:=hZ (jM w (some b)) (iE _ b 0 f);have A:=KU.setCell (o:=1) K s a h;have m:=s.setCell ⟨b,1,none⟩ h;have y:=hZ H (iE _ b 1 h);have M:=KU.setCell (o:=2) A m a i;have x:=m.setCell ⟨b,2,none⟩ i;have C:=hZ y (iE _ b 2 i);have I:=KU.setCell (o:=3) M x a e;have n:=x.setCell ⟨b,3,none⟩ e;have z:=hZ C (iE _ b 3 e);have N:=KU.setCell (o:=4) I n a k;have p:=n.setCell ⟨b,4,none⟩ k;have F:=hZ z (iE _ b 4 k);have L:=KU.setCell (o:=5) N p a g;have r:=p.setCell ⟨b,5,none⟩ g;have R:=hZ F (iE _ b 5 g);have D:=KU.setCell (o:=6) L r a d;have v:=r.setCell ⟨b,6,none⟩ d;have E:=hZ R (iE _ b 6 d);have P:=KU.setCell (o:=7) D v a j;have q:=v.setCell ⟨b,7,none⟩ j;have S:=hZ E (iE _ b 7 j);have Q:=KU.setCell (o:=8) P q a c;have J:=q.setCell ⟨b,8,none⟩ c;have G:=hZ S (iE _ b 8 c);have O:=KU.setCell (o:=9) Q J a l;have B:=hZ G (iE _ b 9 l);exact⟨O,B⟩
def Gs(w:World)(v:Value)(r c k:Nat)(g f e:List Int)(L:Nat):Prop:=∃b a d:Value,v=.agg #[.int .i64 r,.int .i64 c,b,.int .i64 r,.int .i64 r,a,.int .i64 r,.int .i64 r,d,.int .i64 k]/\i_ w (.agg #[.int .i64 r,.int .i64 c,b]) r c g L/\i_ w (.agg #[.int .i64 r,.int .i64 r,a]) r r f L/\i_ w (.agg #[.int .i64 r,.int .i64 r,d]) r r e L
def B2(w g:World)(e:Ending)(r c:Nat)(zs:List Int)(i L:Nat):Prop:=∃(h:Value) (f:Nat) (j:Nat->Nat) (a d b:List Int),e=.returned h/\Gs g h r c f a d b L/\iJ r c f j (e_ c a)/\jw (e_ c zs) (e_ c a) (e_ r d) (e_ r b) r c/\EB (e_ c a) (e_ r d) (e_ r b) r c f i/\Below w.heap.size w g/\pR r c (e_ c zs) c f (e3 r c a d b)
theorem sN{v:Value}{r c:Nat}{zs:List Int}{L:Nat}{w:World}(aR:i_ w v r c zs L)(bG:r<=8)(b8:c<=8)(aY:∀b d,b<r->d<c->(e_ c zs b d).natAbs<2^i)(bl:L<=60000000)(a1:hB r i c<=32*L)(bc:uB r i c<=32*L):Calls Tryz.prog 37 #[v] w λe m=>B2 w m e r c zs i L:=by
 have bn:=a_ aR;obtain⟨l,ax,b4,rfl,Z⟩:=aR;obtain⟨N,Q,rfl,-⟩:=Z.shape;obtain⟨g,G⟩:=hQ (r*c);rw[<-G]at Z;rw[<-G]at bn|-;have ab:=b_ Z G;clear Z G;go_in;go_wp2_with fail;obtain⟨k,H⟩:=hQ ((w.alloc (.cells #[.int .i64 r,.int .i64 c,.slice N g Q] 66)).alloc (.cells #[.int .i64 0,.int .i64 0,.slice none 0 0,.int .i64 0,.int .i64 0,.slice none 0 0,.int .i64 0,.int .i64 0,.slice none 0 0,.int .i64 0] 74));have bV:k.heap.size=w.heap.size+2:=by rw[H];simp
 have aD:Below w.heap.size w k:=by rw[H];repeat(first|exact hP|refine ia ?_ (by simp<;>omega) _)
 have bm:=hU w (.cells #[.int .i64 r,.int .i64 c,.slice N g Q] 66);have a4:jk k w.heap.size (.int .i64 r) (.int .i64 c) (.slice N g Q):=by
  rw[H];exact jk.later (w:=w.alloc (.cells #[.int .i64 r,.int .i64 c,.slice N g Q] 66)) ⟨fa _ _ _ _ _ rfl rfl,fa _ _ _ _ _ rfl rfl,fa _ _ _ _ _ rfl rfl⟩ hS
 have a5:k.heap[w.heap.size+1]?=some (.cells #[.int .i64 0,.int .i64 0,.slice none 0 0,.int .i64 0,.int .i64 0,.slice none 0 0,.int .i64 0,.int .i64 0,.slice none 0 0,.int .i64 0] 74 (0,0)):=by
  rw[H];have:=iP (w.alloc (.cells #[.int .i64 r,.int .i64 c,.slice N g Q] 66)) (.cells #[.int .i64 0,.int .i64 0,.slice none 0 0,.int .i64 0,.int .i64 0,.slice none 0 0,.int .i64 0,.int .i64 0,.slice none 0 0,.int .i64 0] 74);simpa using this
 have F:=hY aD a4 a5 H;rw[<-H];clear aD a4 a5 H bm;go_fit (mF l ax (by rw[<-ab.i];exact ab.f.below F.f));rintro e o⟨q,rfl,bZ,aj,X⟩;rw[<-ab.i]at aj|-;have bQ:k.heap.size<=o.heap.size:=X.size;have bY:=aj.ty.lt;obtain⟨al,S,ao⟩:=F.g.later X;have aI:=b_ aj X;clear aj X;go_wp2_with fail;obtain⟨j,O⟩:=hQ (o.alloc (.cells #[.int .i64 r,.int .i64 c,.slice (some ⟨q,0,none⟩) g g] 66));have u:j.heap.size=o.heap.size+1:=by rw[O];simp
 have az:Below o.heap.size o j:=by rw[O];exact hS
 have R:jk j o.heap.size (.int .i64 r) (.int .i64 c) (.slice (some ⟨q,0,none⟩) g g):=by rw[O];exact⟨fa _ _ _ _ _ rfl rfl,fa _ _ _ _ _ rfl rfl,fa _ _ _ _ _ rfl rfl⟩
 rw[<-O];have T:=aI.i.trans (az.mono bQ);have aB:=F.g.later T;have aG:j.heap[w.heap.size+1]?=some (.cells #[.int .i64 0,.int .i64 0,.slice none 0 0,.int .i64 0,.int .i64 0,.slice none 0 0,.int .i64 0,.int .i64 0,.slice none 0 0,.int .i64 0] 74 (0,0)):=(T.block _ (by omega)).trans F.j;have aP:=iu (aI.f.below az) T aB aG R;have bJ:=a_ (show∀m,Below j.heap.size j m->m.cell? ⟨w.heap.size,0,none⟩=some (.int .i64 r)/\m.cell? ⟨o.heap.size,0,none⟩=some (.int .i64 r)/\m.cell? ⟨o.heap.size,1,none⟩=some (.int .i64 c)/\m.cell? ⟨o.heap.size,2,none⟩=some (.slice (some ⟨q,0,none⟩) g g)from λm K=>⟨(aB.later K).1,(R.later K).1,(R.later K).2.1,(R.later K).2.2⟩);clear O az R T aB aG al S ao;go_region_held3 (λm=>m.cell? ⟨w.heap.size,0,none⟩=some (.int .i64 r)/\m.cell? ⟨o.heap.size,0,none⟩=some (.int .i64 r)/\m.cell? ⟨o.heap.size,1,none⟩=some (.int .i64 c)/\m.cell? ⟨o.heap.size,2,none⟩=some (.slice (some ⟨q,0,none⟩) g g)) (exact bJ.e _ (by first|exact hbU2|exact hbU2.alloc hbU2.size _|exact hbU1|exact hP.drew)) (first
   |(go_at_call 60;(have aV:=hbU1);refine(nX l).mono ?_;rintro a0 x⟨C,aT,rfl,cf,ay,ba,ak⟩;have hbU2:Below j.heap.size j x:=d_ aV ak;have aQ:=hGU.below ak;have b6:=hGU.ty.lt;clear ak aV hGU)
   |(go_at_call 60;refine(nX l).mono ?_;rintro a0 aK⟨y,aE,rfl,bj,hGU,aJ,aW⟩;have hbU1:Below j.heap.size j aK:=(hP.drew).trans aW;clear aW))
 obtain⟨M,B⟩:=hQ (x.alloc (.cells #[.int .i64 r,.int .i64 c,.slice (some ⟨q,0,none⟩) g g,.int .i64 r,.int .i64 r,.slice (some ⟨y,0,none⟩) (r*r) (r*r),.int .i64 r,.int .i64 r,.slice (some ⟨C,0,none⟩) (r*r) (r*r),.int .i64 0] 74));have ch:M.heap.size=x.heap.size+1:=by rw[B];simp
 have aa:Below x.heap.size x M:=by rw[B];exact hS
 have s:∀b v,(#[Value.int .i64 r,.int .i64 c,.slice (some ⟨q,0,none⟩) g g,.int .i64 r,.int .i64 r,.slice (some ⟨y,0,none⟩) (r*r) (r*r),.int .i64 r,.int .i64 r,.slice (some ⟨C,0,none⟩) (r*r) (r*r),.int .i64 0])[b]?=some v->M.cell? ⟨x.heap.size,b,none⟩=some v:=λb v A=>by rw[B];exact fa _ _ _ _ _ rfl A
 have bN:j.heap.size<=x.heap.size:=hbU2.size;have ce:j.heap.size<=y:=bj;have b5:=ay.ty.lt;have b2:aK.heap.size<=x.heap.size:=by omega
 have au:Below j.heap.size j M:=hbU2.trans (aa.mono bN);have a2:1<=L:=by have:=oK r i (AW c);rw[uB]at this;omega
 have a8:jr M k.heap.size x.heap.size q y C r c 0 zs aE aT L:=by
  have G:=ab.i;have bH:=aP.f.below au;refine⟨⟨l,ax,⟨s 0 _ rfl,s 1 _ rfl,?_⟩,by rw[<-G];exact bH⟩,⟨l,l,⟨s 3 _ rfl,s 4 _ rfl,s 5 _ rfl⟩,(aQ.below aa).mono a2⟩,⟨l,l,⟨s 6 _ rfl,s 7 _ rfl,s 8 _ rfl⟩,(ay.below aa).mono a2⟩,s 9 _ rfl,by rw[B];exact yF _ _ _ _,by rw[B];exact Ty.new _ _ _,by omega,by omega,by omega,by omega,by omega,by omega,by omega,by omega,by omega,by omega⟩;rw[<-G];exact s 2 _ rfl
 have a7:Below k.heap.size k M:=aP.g.trans (au.mono (by omega));have bq:=iu a8 a7 B aJ ba;rw[<-B];clear a8 a7 B s aa au aJ ba ay aQ hbU2 hbU1;go_wp2_with fail;have I:=hO a1 bc aY;clear a1 bc aY;go_loopw [5] (λb wr=>∃(e a:Nat) (af:Nat->Nat) (u z D:List Int),e<=c/\b=.int .i64 e/\f_ (jr wr k.heap.size x.heap.size q y C r c a u z D L/\Below k.heap.size k wr/\iJ r e a af (e_ c u)/\jw (e_ c zs) (e_ c u) (e_ r z) (e_ r D) r c/\EB (e_ c u) (e_ r z) (e_ r D) r c a i/\pR r c (e_ c zs) e a (e3 r c u z D))) (λb _=>c-(intOf b).toNat)
 case atStart=>
  obtain⟨aZ,aM,bk,V,ah⟩:=bq.e;refine⟨0,0,id,zs,aE,aT,hR,rfl,a_ ⟨aZ,aM,iJ.start _ _ _,(jw.start (e_ c zs) r c).congr (λ_ _ _ _=>rfl) (λ_ _ _ _=>rfl) V ah,⟨λb d _ h bM=>I.l b d h bM,I.l,λb d f h=>?_,λb d f h=>?_⟩,.start _ ⟨λ_ _ _ _=>rfl,λb d f h=>(V b d f h).symm,λb d f h=>(ah b d f h).symm⟩⟩⟩
  .rw[V b d f h,uB];unfold kd;split<;>decide
  .rw[ah b d f h,uB];unfold kd;split<;>decide
 case round=>
  obtain⟨e,a,af,u,z,D,ca,rfl,n⟩:=hrel;obtain⟨al,S,ao⟩:=F.g;have bb:=n.g;have cc:=(show wr.cell? ⟨w.heap.size,1,none⟩=some (.int .i64 c)from by rw[bb.cell (p:=⟨w.heap.size,1,none⟩) (by show w.heap.size<k.heap.size;omega)];exact S);clear al S ao bb;by_cases ag:e<c
  .have bt:(e:Int)<(c:Int):=by omega
   have bC:f_ (KD (e_ c u) (e_ r z) (e_ r D) r c a e L (2^bB r i a-1) (2^bB r i a-1) (2^uB r i a-1) (2^uB r i a-1) (2^bB r i (a+1)-1) (2^uA r i (uB r i a) a-1) (2^uA r i (uB r i a) a-1)):=a_ (by
    obtain⟨bo,bg,bz,aH,an⟩:=n.r.KP ag;have bE:=n.j.te;have bA:=sE r i (show a+1<=c by omega);have bF:=oK r i (show a+1<=c by omega);have e3:=Iu r i (a+1);have cg:uA r i (uB r i a) a<=uB r i (a+1):=by rw[uB];omega
    have bi:=I.f;have bI:=I.g;have aF:2^bB r i (a+1)<=4294967296^L:=by rw[uQ];exact jb (by decide) (by omega)
    have aq:2^uA r i (uB r i a) a<=4294967296^L:=by rw[uQ];exact jb (by decide) (by omega)
    have cb:0<2^bB r i (a+1):=kx (by decide);have b9:0<2^uA r i (uB r i a) a:=kx (by decide);exact⟨bo,bg,bz,aH,aH,λA=>⟨(an A).1,(an A).2,(an A).2⟩,by omega,by omega,by omega⟩)
   go_wp2_with fail;go_fit (B5 n.f bG n.j.le ag bl bC.e n.m);rintro a0 bX⟨rfl,aX,aN⟩;have aw:=b_ aX aN;clear aX aN;go_wp2;go_roundw
   .obtain⟨E,P,J,ap,ad,ai⟩:=n.e;rcases aw.i with⟨aC,aA⟩|⟨a9,bT,bK,bu,aA,br,a6,bS⟩
    .exact⟨e+1,a,af,u,z,D,by omega,by go_num,a_ ⟨aA,P.trans aw.f,J.skip aC,ap,ad,.step _ _ _ _ _ ai (.inl ⟨aC,rfl,F3.Eq.refl _ _ _⟩)⟩⟩
    .have ac:=ad.next a9 ag a6;have bE:=J.te;have bA:=sE r i (show a+1<=c by omega);have bF:=oK r i (show a+1<=c by omega);have bi:=I.f;have bI:=I.g;have aF:2^hB r i (a+1)<=4294967296^L:=by rw[uQ];exact jb (by decide) (by omega)
     have aq:2^uB r i (a+1)<=4294967296^L:=by rw[uQ];exact jb (by decide) (by omega)
     exact⟨e+1,a+1,_,bT,bK,bu,by omega,by go_num,a_ ⟨aA.fit (λb d f h=>l_ (ac.h b d f h) aF) (λb d f h=>l_ (ac.u b d f h) aq) (λb d f h=>l_ (ac.w b d f h) aq),P.trans aw.f,J.Kt a9 ag a6,br,ac,.step _ _ _ _ _ ai bS⟩⟩
   simp[intOf];omega
  .have bt:¬(e:Int)<(c:Int):=by omega
   have be:e=c:=by omega
   have am:=a_ be;clear be;obtain⟨b1,aZ,aM⟩:=n.f.H.lX;obtain⟨bk,V,ah⟩:=n.f.U.lX;obtain⟨b0,b7,bW⟩:=n.f.W.lX;have cd:=n.f.rk;have W:wr.heap[w.heap.size+1]?=some (.cells #[.int .i64 0,.int .i64 0,.slice none 0 0,.int .i64 0,.int .i64 0,.slice none 0 0,.int .i64 0,.int .i64 0,.slice none 0 0,.int .i64 0] 74 (0,0)):=(n.g.block _ (by omega)).trans F.j;have bD:=a_ W;have t:∀b v,(#[Value.int .i64 0,.int .i64 0,.slice none 0 0,.int .i64 0,.int .i64 0,.slice none 0 0,.int .i64 0,.int .i64 0,.slice none 0 0,.int .i64 0])[b]?=some v->wr.cell? ⟨w.heap.size+1,b,none⟩=some v:=λb v A=>by simpa[World.cell?,W]using A
   have b3:∀aS,wr.frozen? ⟨w.heap.size+1,aS,none⟩=false:=λaS=>by simp[World.frozen?,W]
   clear W;have bw:=t 0 _ rfl;have bx:=t 1 _ rfl;have bp:=t 2 _ rfl;have bU:=t 3 _ rfl;have bf:=t 4 _ rfl;have bv:=t 5 _ rfl;have bL:=t 6 _ rfl;have bO:=t 7 _ rfl;have bP:=t 8 _ rfl;have bR:=t 9 _ rfl;clear t;go_wp2_with fail;refine ig (v:=.agg #[.int .i64 r,.int .i64 c,.slice (some ⟨q,0,none⟩) (r*c) (r*c),.int .i64 r,.int .i64 r,.slice (some ⟨y,0,none⟩) (r*r) (r*r),.int .i64 r,.int .i64 r,.slice (some ⟨C,0,none⟩) (r*r) (r*r),.int .i64 a]) ?_ rfl ?_
   ·(simp[results,Tryz.results37,go_sem,bw,bx,bp,bU,bf,bv,bL,bO,bP,bR];done)
   .have bh:Ty wr (w.heap.size+1) 74:=⟨_,_,bD.e⟩;obtain⟨E,P,J,ap,ad,ai⟩:=n.e;have bs:∀ae,KU wr ae->wr.grownBy ae (some (w.heap.size+1))->B2 w ae (.returned (.agg #[.int .i64 r,.int .i64 c,.slice (some ⟨q,0,none⟩) (r*c) (r*c),.int .i64 r,.int .i64 r,.slice (some ⟨y,0,none⟩) (r*r) (r*r),.int .i64 r,.int .i64 r,.slice (some ⟨C,0,none⟩) (r*r) (r*r),.int .i64 a])) r c zs i L:=by
     intro ae av U;have ar:∀Y,k.heap.size<=Y->∀(aL bd:Nat) (f:Addr) (a3 aU:Nat),Value.slice (some ⟨Y,0,none⟩) aL bd=.slice (some f) a3 aU->f.block≠w.heap.size+1:=λY A aL bd f a3 aU e=>by
      simp only[iC,iH]at e;obtain⟨rfl,-,-⟩:=e;show Y≠w.heap.size+1;omega
     refine⟨_,a,af,u,z,D,rfl,⟨_,_,_,rfl,⟨l,ax,_,rfl,E.H.kA.grown U (ar q E.b1 _ _) av⟩,⟨l,l,_,rfl,E.U.kA.grown U (ar y E.b2 _ _) av⟩,⟨l,l,_,rfl,E.W.kA.grown U (ar C E.b3 _ _) av⟩⟩,?_,ap,ad,?_,by rw[<-am.e];exact am.e▸ai⟩
     .have:=am.e;rw[this]at J;exact J
     .have K:=(F.f.trans (P.mono (by omega)));exact K.trans (iG U (by omega) (by have:=P.size;omega))
    have aO:=J0 bh (by decide) (.int .i64 r) (.int .i64 c) (.slice (some ⟨q,0,none⟩) (r*c) (r*c)) (.int .i64 r) (.int .i64 r) (.slice (some ⟨y,0,none⟩) (r*r) (r*r)) (.int .i64 r) (.int .i64 r) (.slice (some ⟨C,0,none⟩) (r*r) (r*r)) (.int .i64 a);exact bs _ aO.1 aO.2
namespace R
def IR(w:World)(v:Value)(xs:List Nat):Prop:=∃d b,v=.slice d xs.length b/\xs.length<=b/\b<=9223372036854775807/\(0<b->∃a c,d=some ⟨a,c,none⟩)/\∀e,e<xs.length->∃a c,d=some ⟨a,c,none⟩/\w.cell? ⟨a,c+e,none⟩=some (.int .i64 ((xs.getD e 0:Nat):Int))
theorem IR.below{w:World}{v:Value}{xs:List Nat}(h:IR w v xs)(b:Below w.heap.size w W):IR W v xs:=by
 obtain⟨g,n,d,e,o,m,c⟩:=h;refine⟨g,n,d,e,o,m,λl k=>?_⟩;obtain⟨f,i,j,a⟩:=c l k;exact⟨f,i,j,g_ b a⟩
theorem IR.pU{w:World}{v:Value}{xs:List Nat}(h:Own w v xs):IR w v xs:=by
 rcases id h.2 with⟨rfl,e⟩|⟨b,f,k,rfl,-,l,d,g,j,i⟩
 .have:xs=[]:=lp e;subst this;exact⟨none,0,rfl,c_,by omega,by omega,λc a=>by simp at a⟩
 .refine⟨_,f,rfl,d,by simpa[maxLen]using g,λ_=>⟨b,0,rfl⟩,λc a=>⟨b,0,rfl,?_⟩⟩;rw[jF];exact Own.cell h rfl c a
theorem IR.tail{w:World}{g o m:Nat}(h:IR w (.slice (some ⟨g,o,none⟩) m i) (j::X)){A:Addr}(b:1<i->A=⟨g,o+1,none⟩):IR w (.slice (some A) (m-1) (i-1)) X:=by
 obtain⟨p,r,c,k,s,-,f⟩:=h;simp only[iC]at c;obtain⟨rfl,rfl,rfl⟩:=c;simp only[j3]at k;refine⟨some A,i-1,by simp,by omega,by omega,λh=>⟨g,o+1,by rw[b (by omega)]⟩,λa l=>?_⟩;obtain⟨n,q,d,e⟩:=f (a+1) (by simpa using l);simp only[iH,jj,jh]at d;obtain⟨rfl,rfl⟩:=d;refine⟨g,o+1,by rw[b (by omega)],?_⟩;rw[show o+1+a=o+(a+1)from by omega,e];simp
theorem w9(g o j:Nat):(⟨g,o,none⟩:Addr).add j=⟨g,o+j,none⟩:=by
 unfold Addr.add;by_cases a:j=0
 .subst a;simp
 .simp[a]
theorem o1{w:World}{ops:Array Oper}{k:List Oper}{o:Oper}{a:Act}{Q:Exit->Act->World->Prop}(l:o.guard=none)(s x:Operand)(n:o.op=.call {callee:=.builtin .append,args:=#[s,x],argTypes:=#[51,51]}){B:Nat}{v:Value}{zs:List Nat}(r:a.eval s=v)(J:lB B w v zs)(i:Addr)(m c:Nat)(E:a.eval x=.slice (some i) m c)(b:List Nat)(j:b.length=m)(u:∀d,d<m->w.cell? (i.add d)=some (.int .i64 ((b.getD d 0:Nat):Int)))(L:zs.length+m<=30000)(G:B<=w.heap.size)(C:∀f e,lB B e f (zs++b)->w.grownBy e v.ownBlock->wpList Tryz.prog ops Q k (a.put o.dst f) e):wpList Tryz.prog ops Q (o::k) a w:=by
 obtain⟨y,D,p,z,q⟩:=kO Tryz.GP;refine wC w l s x 51 n B 3 y (.int .i64 0) 1 8 Tryz.underlying51 D p z q rfl (by decide) v zs.length (il zs) r J i m c (il b) E (by simp[il,j]) ?_ ?_ ?_ ?_ G ?_
 .intro d t g;have F:d<b.length:=by
   rcases iX d b.length with h|h
   .exact h
   .rw[l4 (by simpa[il]using h)]at g;cases g
  rw[mj b d F]at g;rw[u d (by omega),g]
 .intro t I;obtain⟨K,-,rfl⟩:=kt.1 I;rfl
 .unfold maxLen;omega
 .omega
 .intro f e A H _;refine C f e ?_ H;unfold lB;rw[j6,j,show il (zs++b)=il zs++il b from by simp[il]];exact A
def je(f:Nat->Nat->Int):List Nat->List Nat->Int
 |[],_=>1
 |c::d,b=>jP b.length λa=>signed a (f c (b.getD a 0)*je f d (b.eraseIdx a))
theorem getD_erase(xs:List Nat)(k j:Nat):(xs.eraseIdx k).getD j 0=xs.getD (skip k j) 0:=by
 unfold skip;rw[List.getD,List.getElem?_eraseIdx];split<;>rfl
theorem kC{n:Nat}{g h:Nat->Int}(b:∀a,a<n->g a=h a):jP n g=jP n h:=by
 induction n with
 |zero=>rfl
 |succ n c=>rw[jP,jP,c (λa d=>b a (by omega)),b n (by omega)]
theorem Bq{n:Nat}{f g:Nat->Nat->Int}(c:∀a b,f a b=g a b):jn n f=jn n g:=by
 have:f=g:=by funext a b;exact c a b
 rw[this]
theorem tl(f:Nat->Nat->Int):∀(b a:List Nat),a.length=b.length->je f b a=jn b.length (λe d=>f (b.getD e 0) (a.getD d 0)):=by
 intro b;induction b with
 |nil=>intro a _;rfl
 |cons j k h=>
  intro a c;rw[je,j3,jn,c,j3];refine kC (λg i=>?_);rw[h (a.eraseIdx g) (by rw[uv,if_pos (by simp at c;omega)];simp at c;omega)];congr 2;exact Bq (λe d=>by rw[getD_erase];rfl)
theorem ih.CQ{w:World}{b:Nat}{x y:Value}(h:ih w b x y):ih w.drew b x y:=h
def LM(L:Nat):Nat->Nat
 |0=>3
 |a+1=>L+LM L a+(a+5)
def rj(n:Nat):Prop:=∀(f j k:Nat) (p:Nat->Nat) (g:Nat->Nat->Int) (q b:Nat) (h i:Value) (d c:List Nat) (a:World),jO q a f j k p g b->IR a h d->IR a i c->d.length=n->c.length=n->(∀e∈d,e<j)->(∀e∈c,e<k)->b<=1000000000->LM b n<=10000000000->n<=100->
 Calls Tryz.prog 205 #[.pointer (some ⟨f,0,none⟩),h,i] a λo m=>∃l,o=.returned l/\xe a m l (je g d c) (LM b n)
theorem Ca:rj 0:=by
 intro y E J t B w K C H n D b _ l p f r _ _ _ _ _;have s:n=[]:=lp f;subst s;obtain⟨u,L,rfl,-⟩:=l;clear p r f;go_in;go_wp2_with fail;go_fit (@pX 1 _ (by omega));rintro x q⟨I,rfl,d,e⟩;obtain⟨j,i,g,k,rfl,-⟩:=d.parts;have c:=(ih.new b (.bool false) (.slice none 0 0) rfl).below e (by simp);obtain⟨z,A,F,G⟩:=c.cells;have h:Below b.heap.size b q:=(hS).trans (e.mono (by simp));have a:=hO c d h;clear d e c h;go_wp2_with fail;obtain⟨m,o,-,-⟩:=(a.f.put (.bool j) (.slice i k.length g)).cells;refine ig (v:=.agg #[.bool j,.slice i k.length g]) ?_ rfl ?_
 ·(simp[results,Tryz.results205,go_sem,m,o];done)
 .exact⟨_,rfl,a.g.box a.f.ty (by decide) _ _,(a.l.setCell c_ _).setCell c_ _⟩
theorem Cf{n:Nat}(cx:rj n):rj (n+1):=by
 intro bd X B P f cY c dy dD cp d p aR bs bz a0 V aX b3 cN bT cX;obtain⟨b,h,rfl⟩:∃b h,cp=b::h:=by
  match cp,a0 with
  |b::h,_=>exact⟨b,h,rfl⟩
 have aB:h.length=n:=by simpa using a0
 have ct:b<X:=aX b (by simp);have cW:=a_ cx;have r:=ju aB V aX b3 bT aR;obtain⟨d2,aD,rfl,bJ,dH,dg,cq⟩:=id bs;obtain⟨dQ,L,rfl,ds,dU,cR,br⟩:=id bz;obtain⟨Q,Y,rfl,b7⟩:=cq 0 (by simp);obtain⟨I,K,rfl,-⟩:=br 0 (by omega);have aL:=b_ bs bz;rw[show(b::h).length=n+1 from by simp[aB]]at aL|-;rw[V]at aL|-;have c6:n+1<=aD:=by simpa[aB]using bJ
 have dl:n+1<=L:=by omega
 have cj:p.cell? ⟨Q,Y,none⟩=some (.int .i64 (b:Int)):=by simpa using b7
 have a3:=b_ cj br;clear cx aB a0 V aX b3 bT aR bs bz cq br b7 cj bJ ds dg cR;obtain⟨k,aJ⟩:=hQ (n+1);have U:=a_ aJ;rw[<-aJ]at c6 dl cX|-;rw[<-aJ]at aL;have dV:((k:Int)==0)=false:=iK.2 (by omega);have dt:1<=k:=by omega
 have dE:(0:Int)<(k:Int):=by omega
 have d8:0<k:=by omega
 clear aJ;go_in;go_wp2_with fail;go_fit (@pX 0 _ (by omega));rintro W F⟨d3,rfl,aQ,a5⟩;obtain⟨m,q,l,dq,rfl,-⟩:=aQ.parts;obtain⟨o,bR⟩:=hQ dq.length;rw[<-bR]at aQ|-;clear bR;have a1:=(ih.new p (.bool false) (.slice none 0 0) rfl).below a5 (by simp);have bN:Below p.heap.size p F:=(hS).trans (a5.mono (by simp));have cs:p.heap.size<F.heap.size:=a1.lt;have aW:=hU F (.cells #[.bool m,.slice q o l] 171);have S:=hY (a1.below aW cs) (aQ.below aW) (d_ bN aW) (ih.new F (.bool m) (.slice q o l) rfl);clear aQ a5 a1 bN aW;go_wp2_with fail;obtain⟨ax,a2⟩:=hQ (F.alloc (.cells #[.bool m,.slice q o l] 171));rw[<-a2]at S|-;have c4:ax.heap.size=F.heap.size+1:=by rw[a2];simp
 obtain⟨Z,bL⟩:=hQ F.heap.size;rw[<-bL]at S|-;have dR:p.heap.size+1<=Z:=by omega
 have d5:ax.heap.size=Z+1:=by omega
 clear a2 bL c4 cs;go_loopw [8] (λO wr=>∃(a:Nat) (m:Bool) (q:Option Addr) (o l:Nat),a<=k/\O=.int .i64 a/\ih wr Z (.bool m) (.slice q o l)/\kB wr (.agg #[.bool m,.slice q o l]) (jP a λO=>signed O (f b (d.getD O 0)*je f h (d.eraseIdx O))) (c+LM c n+3+a)/\ax.grownBy wr (some Z)/\Below p.heap.size p wr) (λO _=>k-(intOf O).toNat)
 case atStart=>exact⟨0,m,q,o,l,hR,rfl,S.o,S.g.mono (by omega),jM _ _,S.j⟩
 case round=>
  obtain⟨a,m,q,o,l,dS,rfl,b0,bS,b5,bp⟩:=hrel;have az:=bp.size;have e:=hY b0 bS b5 bp;clear b0 bS b5 bp;by_cases dL:a<k
  .have du:(a:Int)<(k:Int):=by omega
   have aR:=r.z.hV (KR.I e.o);obtain⟨g,aw⟩:=hQ (d.getD a 0);have V:=r.g;have cm:=U.e;have dh:g<B:=by
    rw[aw];refine r.m _ ?_;rw[List.getD,iI (show a<d.length by omega)];exact lf _
   obtain⟨dr,cP,am,ar⟩:=a3.i a (by omega);simp only[iH,jj,jh]at am;obtain⟨rfl,rfl⟩:=am;rw[<-aw]at ar;obtain⟨-,dv,ca,c5,cH,cw,c2,dn,cy,b6⟩:=aR.open_;obtain⟨aP,rfl,bP⟩:=cy b ct;obtain⟨bc,bq,bi,bC,bF,bm,-,-,cl⟩:=b6 b g ct dh;rw[ij 2]at bF bm;have b9:=g_ e.o a3.f;have bZ:=g_ e.o ar;have aI:=b_ aw cl;clear aw cl cy b6 ar c5 cH c2 dn V cm;have cS:=a_ (show∀j,Below wr.heap.size wr j->j.cell? ⟨bd,2,none⟩=some (.slice (some ⟨aP,0,none⟩) X ca)/\j.cell? ⟨Q,Y,none⟩=some (.int .i64 (b:Int))/\j.cell? ⟨aP,b,none⟩=some (.slice (some ⟨P b,0,none⟩) B B)/\j.cell? ⟨I,K+a,none⟩=some (.int .i64 (g:Int))/\j.cell? ⟨P b,g*2,none⟩=some (.bool bc)/\j.cell? ⟨P b,g*2+1,none⟩=some (.slice bq bi bC)from λj aa=>⟨g_ aa cw,g_ aa b9,g_ aa bP,g_ aa bZ,g_ aa bF,g_ aa bm⟩);have dz:(b:Int)<(X:Int):=by omega
   have dK:(g:Int)<(B:Int):=by omega
   go_upto_region 7 with fail
   go_cut [9]from 25 to 40 (λc0 bK=>c0=.pointer (some ⟨wr.heap.size,0,none⟩)/\ih bK wr.heap.size (.bool bc) (.slice bq bi bC)/\Below wr.heap.size wr bK)
   case first=>
    go_region_held3 (λj=>j.cell? ⟨bd,2,none⟩=some (.slice (some ⟨aP,0,none⟩) X ca)/\j.cell? ⟨Q,Y,none⟩=some (.int .i64 (b:Int))/\j.cell? ⟨aP,b,none⟩=some (.slice (some ⟨P b,0,none⟩) B B)/\j.cell? ⟨I,K+a,none⟩=some (.int .i64 (g:Int))/\j.cell? ⟨P b,g*2,none⟩=some (.bool bc)/\j.cell? ⟨P b,g*2+1,none⟩=some (.slice bq bi bC)) (exact cS.e _ (by first|exact hP.drew|exact(hS).drew)) (fail);all_goals
     go_wp2_with fail;go_meet
     case rel=>exact⟨rfl,(ih.new wr _ _ rfl).CQ,(hS).drew⟩
   case rest=>
    obtain⟨rfl,aU,aA⟩:=hcut;obtain⟨s,u,C,E⟩:=aU.cells;have aG:=hO aU aA (aI.i.below aA);have dd:=aA.size;have cQ:=aU.lt;clear aU aA cw b9 bP bZ bF bm;go_wp2_with fail;go_fit (@kp _ (f b g) c _ aG.l);rintro W A⟨rfl,aN⟩;obtain⟨cn,aY⟩:=hQ (oi (f b g));rw[<-aY];have a8:Below wr.heap.size wr A:=aG.g.trans (aN.mono dd);have bu:=aG.f.below aN cQ;have cD:=a_ aY;have x:=hO bu a8 (aG.l.below aN);have di:=a8.size;clear aN aY a8 s u C E;by_cases bM:cn=0
    .subst bM;have cv:f b g=0:=by
      have:=cD.e;unfold oi at this;split at this
      .omega
      .split at this<;>omega
     have cE:=a_ cv;clear cv bu;go_wp2;go_roundw
     .refine⟨a+1,m,q,o,l,by omega,by go_num,e.f.below x.g e.f.lt,?_,ib e.j x.g,e.o.trans (x.g.mono az)⟩;have y:=(e.g.below x.g).mono (M:=c+LM c n+3+(a+1)) (by omega);rw[jP];rw[<-aI.f,cE.e];simpa[signed]using y
     simp[intOf];omega
    .have dC:(cn==0)=false:=iK.2 bM;have ce:∀i,i<k->A.cell? ⟨I,K+i,none⟩=some (.int .i64 ((d.getD i 0:Nat):Int)):=λi N=>by
      have V:=r.g;have cm:=U.e;obtain⟨dr,cP,am,ar⟩:=a3.i i (by omega);simp only[iH,jj,jh]at am;obtain⟨rfl,rfl⟩:=am;exact g_ x.g (g_ e.o ar)
     have bI:d.length=k:=by rw[U.e];exact r.g
     have ap:=b_ ce bI;have d1:(a:Int)<=(L:Int):=by omega
     clear ce bI bu;go_wp2_with (at_builtin;refine @o1 _ _ _ _ _ _ rfl _ _ rfl A.heap.size _ [] rfl (oI _ _ _ _) ⟨I,K,none⟩ a L rfl (d.take a) ?_ ?_ ?_ c_ ?_)
     .rw[kv,ap.i];omega
     .intro i N;rw[show(d.take a).getD i 0=d.getD i 0 from by simp[List.getD,y3 N]];rw[w9];exact ap.f i (by omega)
     .simp;omega
     intro d6 cI bx b8;have bt:Below A.heap.size A cI:=hP.grown b8 c_ (λi N=>by simp[Value.ownBlock]at N);obtain⟨dF,dN,cz,-⟩:=bx.own.open_;obtain⟨d7,bA⟩:=hQ ((d.take a).length);rw[<-bA]at cz;have cc:=a_ bA;subst cz;have cg:=bt.size;have aS:=b_ bx bt;clear bx b8 bt bA;have cT:∃aC:Addr,(if L=a+1 then some (⟨I,K,none⟩:Addr)else some ⟨I,K+(a+1),none⟩)=some aC/\(a+1<L->aC=⟨I,K+(a+1),none⟩):=by
      by_cases af:L=a+1
      .exact⟨_,by rw[if_pos af],by omega⟩
      .exact⟨_,by rw[if_neg af],λ_=>rfl⟩
     obtain⟨aC,bv,ac⟩:=cT;have cC:IntKind.i64.wrap ((a:Int)+1)=(a:Int)+1:=oV _ (by omega);have cL:(0:Int)<=(a:Int)+1:=by omega
     have de:(a:Int)+1<=(k:Int):=by omega
     have c7:((a:Int)+1).toNat=a+1:=by omega
     go_wp2_with (at_builtin;refine @o1 _ _ _ _ _ _ rfl _ _ rfl A.heap.size _ (d.take a) rfl aS.f aC (k-(a+1)) (L-(a+1)) rfl (d.drop (a+1)) ?_ ?_ ?_ cg ?_)
     .rw[pJ,ap.i]
     .intro i N;rw[ac (by omega),w9,show(d.drop (a+1)).getD i 0=d.getD (a+1+i) 0 from by simp[List.getD,List.getElem?_drop],zz];exact g_ aS.i (ap.f (a+1+i) (by omega))
     .rw[<-cc.e];have:=cc.e;rw[kv,ap.i]at this;omega
     intro dJ bn aF cb;rw[<-List.eraseIdx_eq_take_drop_succ]at aF;have aM:Below A.heap.size A bn:=aS.i.grown cb cg (λi N=>(kF aS.f i N).1);obtain⟨dG,dw,ck,-⟩:=aF.own.open_;obtain⟨dZ,bw⟩:=hQ ((d.eraseIdx a).length);rw[<-bw]at ck;subst ck;have be:Below wr.heap.size wr bn:=x.g.trans (aM.mono di);have cO:=be.size;have d0:=a_ bw;have bW:=x.f.below aM x.f.lt;have aq:=hY aF.own be bW (x.l.below aM);clear aF cb aM bW bw bv ac cC cL de c7 be;have db:∃a9:Addr,(if aD=1 then some (⟨Q,Y,none⟩:Addr)else some ⟨Q,Y+1,none⟩)=some a9/\(1<aD->a9=⟨Q,Y+1,none⟩):=by
      by_cases af:aD=1
      .exact⟨_,by rw[if_pos af],by omega⟩
      .exact⟨_,by rw[if_neg af],λ_=>rfl⟩
     obtain⟨a9,bv,ac⟩:=db;have c1:=a_ ac;clear ac;have dB:(1:Int)<=(k:Int):=by omega
     have bY:(∀J∈h,J<X)/\(∀J∈d.eraseIdx a,J<B)/\(d.eraseIdx a).length=n:=by
      refine⟨λJ bG=>r.j J (lg _ bG),λJ bG=>r.m J (xS bG),?_⟩;have y:=r.g;have bH:=U.e;rw[uv,if_pos (by omega)];omega
     have a4:LM c n<=10000000000:=by have:=r.r;rw[LM]at this;omega
     have T:=b_ bY a4;have cA:Below p.heap.size p bn:=e.o.trans (aq.g.mono az);have cB:=a_ cA;clear bY a4 cA;go_wp2_with fail;go_fit (cW.e bd X B P f cY c _ _ h (d.eraseIdx a) _ (r.z.hV (KR.I cB.e)) ((aL.f.tail c1.e).below cB.e) ?_ r.f T.f.2.2 T.f.1 T.f.2.1 cN T.i (by have:=U.e;omega))
     .have:=IR.pU aq.f;exact this
     rintro W bB⟨dI,rfl,aE,ag⟩;obtain⟨dj,cJ,dp,dk,rfl,-⟩:=aE.parts;obtain⟨cF,bX⟩:=hQ dk.length;rw[<-bX]at aE|-;clear bX bv;have bh:Below wr.heap.size wr bB:=aq.g.trans (ag.mono cO);have da:=bh.size;have au:=hU bB (.cells #[.bool dj,.slice cJ cF dp] 171);have cr:=bh.trans (au.mono da);have aK:=aq.j;have b2:=(aK.below ag aK.lt).below au (by have:=aK.lt;have:=ag.size;omega);obtain⟨s,u,-,-⟩:=b2.cells;have aO:=hY cr ((aq.o.below ag).below au) (aE.below au) T.i;clear aE ag au bh cr aK b2;go_wp2_with fail;go_fit (@j4 _ _ (f b g) (je f h (d.eraseIdx a)) c (LM c n) _ aO.g aO.j (by omega) (by have:=aO.o;omega));rintro W w⟨dW,rfl,aT,bb⟩;obtain⟨bO,ci,cu,dm,rfl,-⟩:=aT.parts;obtain⟨co,bV⟩:=hQ dm.length;rw[<-bV]at aT|-;clear bV s u;have dO:bB.heap.size+1<=w.heap.size:=by have:=bb.size;simpa using this
     have bk:Below wr.heap.size wr w:=aO.f.trans (bb.mono (by simp;omega));have bj:=bk.size;have a6:=hU w (.cells #[.bool bO,.slice ci co cu] 171);have ay:=bk.trans (a6.mono bj);have bE:=e.f.below ay e.f.lt;obtain⟨s,u,C,E⟩:=bE.cells;have dx:Z<w.heap.size:=by have:=e.f.lt;omega
     have D:=iu ay bE (e.g.below ay) (aT.below a6) (ih.new w (.bool bO) (.slice ci co cu) rfl);clear aT bb a6 bk ay bE;have a4:=T.i;by_cases aH:a%2=1
     .have c9:((a:Int)%2==1)=true:=jY.2 (by omega);have bf:=a_ aH;clear aH;go_wp2_with fail;go_fit (@xu _ (f b g*je f h (d.eraseIdx a)) (c+LM c n+1) _ D.m);rintro W bg⟨dM,rfl,aV,R⟩;obtain⟨an,ae,ad,df,rfl,-⟩:=aV.parts;obtain⟨ab,bU⟩:=hQ df.length;rw[<-bU]at aV|-;clear bU s u C E;have dT:w.heap.size+1<=bg.heap.size:=by have:=R.size;simpa using this
      have ao:=D.x.below R (by simp);have bQ:=D.g.below R (by simp;omega);obtain⟨cU,c8,cV,cM⟩:=ao.cells;have b1:=ao.put (.bool an) (.slice ae ab ad);have bD:ih ((bg.setCell ⟨w.heap.size,0,none⟩ (.bool an)).setCell ⟨w.heap.size,1,none⟩ (.slice ae ab ad)) Z (.bool m) (.slice q o l):=by
       unfold ih;rw[js _ _ _ _ (by simp;omega),js _ _ _ _ (by simp;omega)];exact bQ
      obtain⟨s,u,C,E⟩:=bD.cells;obtain⟨dc,a7,-,-⟩:=b1.cells;have cd:Below wr.heap.size wr ((bg.setCell ⟨w.heap.size,0,none⟩ (.bool an)).setCell ⟨w.heap.size,1,none⟩ (.slice ae ab ad)):=((d_ D.f R).setCell bj _).setCell bj _;have ba:=hY cd (aV.box ao.ty (by decide) (.bool an) (.slice ae ab ad)) ((D.j.below R).box ao.ty (by decide) (.bool an) (.slice ae ab ad)) bD;clear aV R ao bQ b1 bD cd;go_wp2_with fail;go_fit (@pg _ _ _ (-(f b g*je f h (d.eraseIdx a))) (c+LM c n+3+a) (c+LM c n+1) _ ba.j ba.g (by omega) (by omega));rintro W bo⟨cZ,rfl,z,ak⟩;obtain⟨av,ai,ah,aZ,rfl,-⟩:=z.parts;obtain⟨al,aj⟩:=hQ aZ.length;rw[<-aj]at z|-;clear aj s u C E dc a7 cU c8 cV cM;have H:Below wr.heap.size wr bo:=d_ ba.f ak;have G:=e.f.below H e.f.lt;obtain⟨s,u,C,E⟩:=G.cells;have t:=hO H G z;clear z ak H G;go_wp2;go_roundw
      .refine⟨a+1,av,ai,al,ah,by omega,by go_num,t.g.put _ _,?_,lD (ib e.j t.f),((e.o.trans (t.f.mono az)).setCell (by simp;omega) _).setCell (by simp;omega) _⟩;have y:=(t.l.box t.g.ty (by decide) (.bool av) (.slice ai al ah)).mono (M:=c+LM c n+3+(a+1)) (by omega);rw[jP,<-aI.f];rw[show signed a (f b g*je f h (d.eraseIdx a))=-(f b g*je f h (d.eraseIdx a))from by unfold signed;rw[if_pos bf.e]];exact y
      simp[intOf];omega
     .have c9:((a:Int)%2==1)=false:=iK.2 (by omega);have bf:=a_ aH;clear aH;go_wp2_with fail;go_fit (@pg _ _ _ (f b g*je f h (d.eraseIdx a)) (c+LM c n+3+a) (c+LM c n+1) _ D.j D.m (by omega) (by omega));rintro W bo⟨cZ,rfl,z,ak⟩;obtain⟨av,ai,ah,aZ,rfl,-⟩:=z.parts;obtain⟨al,aj⟩:=hQ aZ.length;rw[<-aj]at z|-;clear aj s u C E;have H:Below wr.heap.size wr bo:=d_ D.f ak;have G:=e.f.below H e.f.lt;obtain⟨s,u,C,E⟩:=G.cells;have t:=hO H G z;clear z ak H G;go_wp2;go_roundw
      .refine⟨a+1,av,ai,al,ah,by omega,by go_num,t.g.put _ _,?_,lD (ib e.j t.f),((e.o.trans (t.f.mono az)).setCell (by simp;omega) _).setCell (by simp;omega) _⟩;have y:=(t.l.box t.g.ty (by decide) (.bool av) (.slice ai al ah)).mono (M:=c+LM c n+3+(a+1)) (by omega);rw[jP,<-aI.f];rw[show signed a (f b g*je f h (d.eraseIdx a))=f b g*je f h (d.eraseIdx a)from by unfold signed;rw[if_neg bf.e]];exact y
      simp[intOf];omega
  .have ch:a=k:=by omega
   have c3:=a_ ch;obtain⟨s,u,-,-⟩:=e.f.cells;have b4:wr.heap[p.heap.size]?=ax.heap[p.heap.size]?:=e.j.block _ (by omega) (by simp;omega);have bl:ih wr p.heap.size (.bool false) (.slice none 0 0):=by unfold ih;rw[b4];exact S.f
   obtain⟨dX,dY,dP,dA⟩:=bl.cells;have cf:=a_ bl;clear b4 bl ch;go_wp2_with fail;obtain⟨a7,cK,-,-⟩:=(cf.e.put (.bool m) (.slice q o l)).cells;refine ig (v:=.agg #[.bool m,.slice q o l]) ?_ rfl ?_
   ·(simp[results,Tryz.results205,go_sem,a7,cK];done)
   .refine⟨_,rfl,?_,(e.o.setCell c_ _).setCell c_ _⟩;have y:=e.g.box cf.e.ty (by decide) (.bool m) (.slice q o l);have bH:=U.e;have cG:=r.g;rw[c3.e,bH,<-cG]at y;rw[je];refine y.mono ?_;have d4:LM c k=c+LM c n+(n+5):=by rw[bH,LM]
    omega
theorem me(n:Nat):rj n:=by
 induction n with
 |zero=>exact Ca
 |succ n a=>exact Cf a
theorem r3{n:Nat}{w:World}(y:n<=1000):Calls Tryz.prog 204 #[.int .i64 n] w λq d=>∃l,q=.returned l/\Own d l (List.range n)/\Below w.heap.size w d:=by
 go_in;go_wp2_with fail;go_loopw [3,4] (λs f wr=>∃a:Nat,a<=n/\f=.int .i64 a/\lB w.heap.size wr s (List.range a)/\Below w.heap.size w wr) (λ_ f _=>n-(intOf f).toNat)
 case atStart=>exact⟨0,hR,rfl,oI _ _ _ _,hP⟩
 case round=>
  obtain⟨a,D,rfl,g,e⟩:=hrel;obtain⟨z,H,m,-⟩:=g.own.open_;rw[j1]at m;subst m;have r:=e.size;have b:=b_ g e;clear g e;by_cases E:a<n
  .have x:(a:Int)<(n:Int):=by omega
   go_wp2_with (at_builtin;refine iZ rfl _ _ rfl (B:=w.heap.size) (zs:=List.range a) rfl ?_ ⟨_,0,none⟩ rfl a ?_ ?_ ?_ ?_)
   .exact kK b.f _
   .simp[Addr.add]
   .rw[j1];omega
   .simp;omega
   intro C d c h;have p:Below w.heap.size w d:=(b.i.alloc r _).grown h (by simp;omega) (λt v=>(kF b.f t v).1);rw[<-lW]at c;obtain⟨G,A,k,-⟩:=c.own.open_;obtain⟨F,j⟩:=hQ ((List.range (a+1)).length);rw[<-j]at k;subst k;have i:=b_ c p;clear c h p j;go_wp2;go_roundw;exact⟨a+1,by omega,by go_num,i.f,i.i⟩;simp[intOf];omega
  .have o:a=n:=by omega
   have u:=a_ o;clear o;go_wp2;go_ret;refine⟨_,rfl,?_,b.i⟩;have:=b.f.own;rw[u.e]at this|-;exact this
theorem r1(n i:Nat)(h:i<n):(List.range n).getD i 0=i:=by simp[List.getD,h]
theorem E4:∀(c:Nat) (d e:Nat->Nat->Int),(∀b a,b<c->a<c->d b a=e b a)->jn c d=jn c e:=by
 intro c;induction c with
 |zero=>intro d e _;rfl
 |succ c i=>
  intro d e g;rw[jn,jn];refine kC (λf h=>?_);rw[g 0 f (by omega) h,i (λb a=>d (b+1) (skip f a)) (λb a=>e (b+1) (skip f a)) (λb a j k=>g _ _ (by omega) (by unfold skip;split<;>omega))]
theorem qS(f:Nat->Nat->Int)(n:Nat):je f (List.range n) (List.range n)=jn n f:=by
 rw[tl f _ _ rfl,j1];exact E4 n _ _ (λb c a d=>by rw[r1 n b a,r1 n c d])
theorem ER{b n:Nat}{f:Nat->Nat->Int}{B L:Nat}{w:World}(h:jO B w b n n o f L)(E:n<=100)(I:L<=1000000000)(u:LM L n<=10000000000):Calls Tryz.prog 157 #[.pointer (some ⟨b,0,none⟩)] w λg J=>∃t,g=.returned t/\xe w J t (jn n f) (LM L n):=by
 have A:=b_ h u;obtain⟨O,N,Y,x,-⟩:=h.open_;clear h u;go_in;have G:=tg x;go_wp2_with fail;have y:Below w.heap.size w (w.alloc (.cells #[.bool false,.slice none 0 0] 171)):=hS;go_fit (r3 (by omega));rintro g H⟨P,rfl,i,k⟩;obtain⟨V,S,z,-⟩:=i.open_;rw[j1]at z;subst z;have p:Below w.heap.size w H:=d_ y k;have a:=(ih.new w (.bool false) (.slice none 0 0) rfl).below k (by simp);have c:=hO i p a;clear i k p a y x G;go_wp2_with fail;go_fit (me n b n n o f B L _ _ (List.range n) (List.range n) _ (A.f.hV (KR.I c.g)) ?_ ?_ j1 j1 (λM j=>jB.1 j) (λM j=>jB.1 j) I A.i E)
 .have:=IR.pU c.f;exact this
 .have:=IR.pU c.f;exact this
 rintro g W⟨X,rfl,d,l⟩;rw[qS]at d;obtain⟨r,q,m,K,rfl,-⟩:=d.parts;obtain⟨C,s⟩:=hQ K.length;rw[<-s]at d|-;clear s;have a:=c.l.below l c.l.lt;obtain⟨Q,R,T,U⟩:=a.cells;have e:=hO d a (d_ c.g l);clear d l a;go_wp2_with fail;obtain⟨D,F,-,-⟩:=(e.g.put (.bool r) (.slice q C m)).cells;refine ig (v:=.agg #[.bool r,.slice q C m]) ?_ rfl ?_
 ·(simp[results,Tryz.results157,go_sem,D,F];done)
 .exact⟨_,rfl,e.f.box e.g.ty (by decide) _ _,(e.l.setCell c_ _).setCell c_ _⟩
end R
end Go.Proofs.YtfjbijpagaipnabGreatDoor
