import Derived.Test.YtfjbijpagaipnabGreatDoorA11
set_option maxRecDepth 100000
set_option maxHeartbeats 8000000
namespace Go.Proofs.YtfjbijpagaipnabGreatDoor
open Go.RowKit
variable{i j k l m n p q r s:Nat}{w v W:World}{x y z:Value}{A B F G:Nat->Nat->Int}{e f g:List Int}{o h:Nat->Nat}{O:Option Addr}
def wB(b:Nat->Nat->Int)(pc:Nat->Nat)(v:Nat->Int):Nat->Nat->Int
 |0=>v
 |a+1=>λc=>wB b pc v a c-b a c*(wB b pc v a (pc a)).fdiv (b a (pc a))
def GR(a:Nat->Nat->Int)(pc:Nat->Nat)(v:Nat->Int)(t:Nat):Int:=(wB a pc v t (pc t)).fdiv (a t (pc t))
theorem Ht(b:Nat->Nat->Int)(pc:Nat->Nat)(v:Nat->Int)(j:Nat):∀a,v j=wB b pc v a j+sm (λc=>GR b pc v c*b c j) a:=by
 intro a;induction a with
 |zero=>simp[wB,sm]
 |succ a d=>
  rw[wB,sm,d];unfold GR;grind
theorem CR{pc:Nat->Nat}{v:Nat->Int}{k c:Nat}(h:∀j,j<c->wB A pc v k j=0)(j:Nat)(b:j<c):v j=sm (λa=>GR A pc v a*A a j) k:=by
 have:=Ht A pc v j k;rw[h j b]at this;omega
theorem DD(x y:Int)(a:y≠0):(x*y).fdiv y=x:=by
 have d:=CJ (x:=x*y) a (AV _ _);unfold rem at d;have c:y*(x-(x*y).fdiv y)=0:=by grind
 rcases Int.mul_eq_zero.1 c with b|b
 .exact absurd b a
 .omega
theorem iJ.Ih{r c k:Nat}{pc:Nat->Nat}(h:iJ r c k pc A){v:Nat->Int}(s:Sp A k c v)(j:Nat)(e:j<c):wB A pc v k j=0:=by
 obtain⟨d,t⟩:=s;have u:=h.le;have p:∀a,a<=k->∀j,j<c->wB A pc v a j=sm (λb=>(if b<a then 0 else d b)*A b j) k:=by
  intro a;induction a with
  |zero=>intro _ j e;rw[wB,t j e];exact iq k (λb _=>by rw[if_neg (by omega)])
  |succ a l=>
   intro w j e;have o:=h.lY a (by omega);have x:=h.zr a (by omega);have n:wB A pc v a (pc a)=d a*A a (pc a):=by
    rw[l (by omega) _ o];rw[ml k a (by omega) (λb g m=>?_)]
    .rw[if_neg (qy a)]
    .show(if b<a then 0 else d b)*A b (pc a)=0;by_cases f:b<a
     .rw[if_pos f];simp
     .rw[h.below a (by omega) b (by omega) (by omega)];simp
   show wB A pc v a j-A a j*(wB A pc v a (pc a)).fdiv (A a (pc a))=_;rw[n,DD _ _ (by omega),l (by omega) j e];have q:A a j*d a=sm (λb=>(if b=a then d a else 0)*A b j) k:=by
    rw[ml k a (by omega) (λb g m=>by show(if b=a then d a else 0)*A b j=0;rw[if_neg m];simp)];rw[if_pos rfl];grind
   rw[q,yH];refine iq k (λb g=>?_);by_cases f:b<a
   .rw[if_pos f,if_neg (by omega),if_pos (by omega)];simp
   .by_cases i:b=a
    .subst i;rw[if_neg (qy b),if_pos rfl,if_pos (by omega)];omega
    .rw[if_neg f,if_neg i,if_neg (by omega)];simp
 rw[p k c_ j e];exact nH k (λb g=>by rw[if_pos g];simp)
theorem nJ{r c k:Nat}{pc:Nat->Nat}{A U W:Nat->Nat->Int}(h:iJ r c k pc B)(n:jw A B U W r c):(∀a,a<r->Sp B k c (A a))/\(∀a,a<r->Sp A r c (B a)):=by
 have p:∀(g:Nat->Int) b d,d<=b->(∀e,d<=e->e<b->g e=0)->sm g b=sm g d:=by
  intro g b;induction b with
  |zero=>intro d t _;rw[show d=0 from by omega]
  |succ b q=>
   intro d t o;by_cases s:d=b+1
   .rw[s]
   .rw[sm,o b (by omega) (by omega),q d (by omega) (λe j m=>o e j (by omega))];omega
 refine⟨λa l=>⟨W a,λi f=>?_⟩,λa l=>⟨U a,λi f=>?_⟩⟩
 .rw[<-n.wh a i l f,iD];exact p _ r k h.le (λe j m=>by rw[h.rest e j m i f];simp)
 .rw[<-n.ua a i l f,iD]
theorem Sp.trans{A:Nat->Nat->Int}{k r c:Nat}{v:Nat->Int}(o:Sp B k c v)(q:∀j,j<k->Sp A r c (B j)):Sp A r c v:=by
 obtain⟨f,l⟩:=o;have m:∀d,d<=k->Sp A r c (λb=>sm (λa=>f a*B a b) d):=by
  intro d;induction d with
  |zero=>intro _;exact⟨λ_=>0,λb _=>(nH r (λa _=>by simp)).symm⟩
  |succ d n=>
   intro t;obtain⟨e,i⟩:=n (by omega);obtain⟨h,p⟩:=q d (by omega);refine⟨λa=>e a+f d*h a,λb g=>?_⟩;have s:sm (λa=>f a*B a b) d=sm (λa=>e a*A a b) r:=i b g;show sm (λa=>f a*B a b) (d+1)=_;rw[sm,s,p b g];have:=rP 1 (f d) (λa=>e a*A a b) (λa=>h a*A a b) r;rw[show sm (λa=>e a*A a b) r+f d*sm (λa=>h a*A a b) r=1*sm (λa=>e a*A a b) r+f d*sm (λa=>h a*A a b) r from by omega,<-this];exact iq r (λa _=>by grind)
 obtain⟨e,i⟩:=m k c_;exact⟨e,λb g=>by rw[l b g];exact i b g⟩
def na(A:Nat->Nat->Int)(r c:Nat):Prop:=∃b e a f d,iJ r c b e a/\jw A a f d r c
namespace R
theorem Ia(e n:Int):∃j:Nat,∀b:Int,e∣n*b↔(j:Int)∣b:=by
 rcases kl (Nat.gcd e.natAbs n.natAbs)with a|a
 .have m:e.natAbs=0:=Nat.eq_zero_of_gcd_eq_zero_left a;have o:n.natAbs=0:=Nat.eq_zero_of_gcd_eq_zero_right a;have k:e=0:=by omega
  have g:n=0:=by omega
  subst k;subst g;exact⟨1,λb=>by simp⟩
 .refine⟨e.natAbs/Nat.gcd e.natAbs n.natAbs,λb=>?_⟩;have d:=Nat.coprime_div_gcd_div_gcd a;have i:e.natAbs=Nat.gcd e.natAbs n.natAbs*(e.natAbs/Nat.gcd e.natAbs n.natAbs):=(Nat.mul_div_cancel' (Nat.gcd_dvd_left _ _)).symm;have f:n.natAbs=Nat.gcd e.natAbs n.natAbs*(n.natAbs/Nat.gcd e.natAbs n.natAbs):=(Nat.mul_div_cancel' (Nat.gcd_dvd_right _ _)).symm;rw[<-Dj,np,Df];generalize e.natAbs/Nat.gcd e.natAbs n.natAbs=p at*;generalize n.natAbs/Nat.gcd e.natAbs n.natAbs=l at*;generalize Nat.gcd e.natAbs n.natAbs=h at*;rw[i,f,jG];constructor
  .intro c;have:=Nat.dvd_of_mul_dvd_mul_left a c;rw[ij]at this;exact d.dvd_of_dvd_mul_right this
  .intro c;exact Nat.mul_dvd_mul_left h (vX c (Nat.dvd_mul_left _ _))
theorem elim{r c k:Nat}{pc:Nat->Nat}(h:iJ r c k pc A)(v:Nat->Int):∀a,a<=k->∃(i:Int) (g e:Nat->Int),i≠0/\(∀d,i*v d=e d+sm (λb=>g b*A b d) a)/\∀f,f<a->e (pc f)=0:=by
 intro a;induction a with
 |zero=>intro _;exact⟨1,λ_=>0,v,by decide,λd=>by simp[sm],λf m=>by omega⟩
 |succ a p=>
  intro s;obtain⟨i,g,e,o,q,n⟩:=p (by omega);have u:=h.zr a (by omega);have t:=h.le;refine⟨A a (pc a)*i,λb=>if b=a then e (pc a)else A a (pc a)*g b,λd=>A a (pc a)*e d-e (pc a)*A a d,Int.mul_ne_zero (by omega) o,λd=>?_,λf m=>?_⟩
  .have l:sm (λb=>(if b=a then e (pc a)else A a (pc a)*g b)*A b d) a=sm (λb=>A a (pc a)*(g b*A b d)+0*(g b*A b d)) a:=iq a (λb w=>by
    rw[if_neg (by omega)];grind)
   rw[sm,l,rP];show _=A a (pc a)*e d-e (pc a)*A a d+(_+(if a=a then e (pc a)else A a (pc a)*g a)*A a d);rw[if_pos rfl];have:=q d;grind
  .by_cases j:f=a
   .subst j;grind
   .show A a (pc a)*e (pc f)-e (pc a)*A a (pc f)=0;rw[n f (by omega),h.below f (by omega) a (by omega) (by omega)];simp
theorem place{pc:Nat->Nat}{k j:Nat}(i:∀d a,d<a->a<k->pc d<pc a)(h:∀a,a<k->pc a≠j):∃b,b<=k/\(∀a,a<b->pc a<j)/\∀a,b<=a->a<k->j<pc a:=by
 induction k with
 |zero=>exact⟨0,c_,λa c=>by omega,λa _ c=>by omega⟩
 |succ k l=>
  obtain⟨b,q,m,p⟩:=l (λd a o c=>i d a o (by omega)) (λa c=>h a (by omega));rcases iX (pc k) j with f|f
  .refine⟨k+1,c_,λa c=>?_,λa g n=>by omega⟩;by_cases e:a=k
   .rw[e];exact f
   .have:=i a k (by omega) (by omega);omega
  .refine⟨b,by omega,m,λa g n=>?_⟩;by_cases e:a=k
   .have:=h k (by omega);rw[e];omega
   .exact p a g (by omega)
theorem B6{r c k j:Nat}{pc:Nat->Nat}(h:iJ r c k pc A){v:Nat->Int}(p:∀a,a<k->v (pc a)=0)(z:j<c)(q:v j≠0):∃n u,JT n (k+1) c (k+1) u/\∀d,d<k+1->n d=v\/∃a,a<k/\n d=A a:=by
 obtain⟨b,y,s,o⟩:=place (j:=j) h.up (λa m t=>q (by rw[<-t];exact p a m));have C:=h.le;refine⟨λd=>if d<b then A d else if d=b then v else A (d-1),λd=>if d<b then pc d else if d=b then j else pc (d-1),⟨c_,λa m=>?_,λe a w m=>?_,λa m=>?_,λe a m x B=>?_,λe y s=>by omega⟩,λd D=>?_⟩
 .show(if a<b then pc a else if a=b then j else pc (a-1))<c;split
  .exact h.lY a (by omega)
  .split
   .exact z
   .exact h.lY (a-1) (by omega)
 .show(if e<b then pc e else if e=b then j else pc (e-1))<(if a<b then pc a else if a=b then j else pc (a-1));by_cases i:e<b
  .rw[if_pos i];by_cases g:a<b
   .rw[if_pos g];exact h.up e a w (by omega)
   .rw[if_neg g];by_cases f:a=b
    .rw[if_pos f];exact s e i
    .rw[if_neg f];exact h.up e (a-1) (by omega) (by omega)
  .rw[if_neg i,if_neg (show¬a<b by omega),if_neg (show¬a=b by omega)];by_cases l:e=b
   .rw[if_pos l];exact o (a-1) (by omega) (by omega)
   .rw[if_neg l];exact h.up (e-1) (a-1) (by omega) (by omega)
 .show(if a<b then A a else if a=b then v else A (a-1)) (if a<b then pc a else if a=b then j else pc (a-1))≠0;by_cases g:a<b
  .rw[if_pos g,if_pos g];have:=h.zr a (by omega);omega
  .rw[if_neg g,if_neg g];by_cases f:a=b
   .rw[if_pos f,if_pos f];exact q
   .rw[if_neg f,if_neg f];have:=h.zr (a-1) (by omega);omega
 .show(if e<b then A e else if e=b then v else A (e-1)) (if a<b then pc a else if a=b then j else pc (a-1))=0;by_cases g:a<b
  .rw[if_pos g];by_cases i:e<b
   .rw[if_pos i];exact h.below a (by omega) e x (by omega)
   .rw[if_neg i];by_cases l:e=b
    .rw[if_pos l];exact p a (by omega)
    .rw[if_neg l];exact h.below a (by omega) (e-1) (by omega) (by omega)
  .rw[if_neg g,if_neg (show¬e<b by omega),if_neg (show¬e=b by omega)];by_cases f:a=b
   .rw[if_pos f];exact h.left (e-1) (by omega) j (o (e-1) (by omega) (by omega))
   .rw[if_neg f];exact h.below (a-1) (by omega) (e-1) (by omega) (by omega)
 .show(if d<b then A d else if d=b then v else A (d-1))=v\/∃a,a<k/\(if d<b then A d else if d=b then v else A (d-1))=A a;by_cases i:d<b
  .rw[if_pos i];exact .inr ⟨d,by omega,rfl⟩
  .rw[if_neg i];by_cases l:d=b
   .rw[if_pos l];exact .inl rfl
   .rw[if_neg l];exact .inr ⟨d-1,by omega,rfl⟩
theorem Sp.comb{c:Nat}{C:List Nat}{v:Nat->Int}(h:Sp A i c v)(e:∀a∈C,a<c):yl A i C v:=by
 obtain⟨a,d⟩:=h;exact⟨a,λb f=>d b (e b f)⟩
theorem Sp.scale{c:Nat}{v:Nat->Int}(t:Int)(h:Sp A i c v):Sp A i c (λb=>t*v b):=by
 obtain⟨d,e⟩:=h;refine⟨λa=>t*d a,λb f=>?_⟩;have:=rP t 0 (λa=>d a*A a b) (λa=>d a*A a b) i;show t*v b=sm (λa=>t*d a*A a b) i;rw[e b f,show sm (λa=>t*d a*A a b) i=sm (λa=>t*(d a*A a b)+0*(d a*A a b)) i from iq i (λa _=>by grind),this];grind
theorem Sp.sum{c:Nat}(n:Nat->Int):∀a,(∀e,e<a->Sp A i c (B e))->Sp A i c (λd=>sm (λb=>n b*B b d) a)
 |a,f=>by
  have g:Sp B a c (λd=>sm (λb=>n b*B b d) a):=⟨n,λd _=>rfl⟩;exact g.trans f
theorem nv(k:Nat):ik k k=[List.range k]:=by
 induction k with
 |zero=>rfl
 |succ k a=>
  rw[ik,lW,Bo (by simp),lA (by simp)];simp[a]
theorem G8{n v:Nat->Int}{t:Int}{c k i:Nat}{C:List Nat}(E:C.length=k)(q:∀g∈C,g<c)(B:k<=4)(w:i<k)(r:∀b,b<c->t*v b=sm (λa=>n a*A a b) k):t*mv ((List.range i).map A++v::(List.range' (i+1) (k-i-1)).map A) C=n i*mv ((List.range k).map A) C:=by
 have z:(List.range k).map A=(List.range i).map A++A i::(List.range' (i+1) (k-i-1)).map A:=by
  rw[<-nr,<-kT,<-zC,rO,rO];have:=List.range'_append_1 (s:=0) (m:=i) (n:=k-i-1+1);rw[jF]at this;rw[this,show i+(k-i-1+1)=k from by omega]
 have j:=yG t 0 v v ((List.range' (i+1) (k-i-1)).map A) ((List.range i).map A) C;have p:mv ((List.range i).map A++(λb=>t*v b+0*v b)::(List.range' (i+1) (k-i-1)).map A) C=mv ((List.range i).map A++(λb=>sm (λa=>n a*A a b) k)::(List.range' (i+1) (k-i-1)).map A) C:=Dm _ _ C (λg y=>by rw[<-r g (q g y)];grind);have l:=Gn n A ((List.range i).map A) ((List.range' (i+1) (k-i-1)).map A) C k;have o:sm (λa=>n a*mv ((List.range i).map A++A a::(List.range' (i+1) (k-i-1)).map A) C) k=n i*mv ((List.range i).map A++A i::(List.range' (i+1) (k-i-1)).map A) C:=ml k i w (λa D F=>by
  have x:mv ((List.range i).map A++A a::(List.range' (i+1) (k-i-1)).map A) C=0:=by
   rcases iX a i with h|h
   .obtain⟨f,e,d⟩:=wU (show a∈List.range i from jB.2 h);have u:f.length+e.length+1=i:=by have:=kX List.length d;simp at this;omega
    rw[d,kT,nr];have:=@vl (A a) (f.map A) (e.map A) ((List.range' (i+1) (k-i-1)).map A) C (by simp;omega) (by omega);simpa using this
   .obtain⟨f,e,d⟩:=wU (show a∈List.range' (i+1) (k-i-1)from x6.2 (by omega));have u:f.length+e.length+1=k-i-1:=by have:=kX List.length d;simp at this;omega
    rw[d,kT,nr];have:=@vl (A a) ((List.range i).map A) (f.map A) (e.map A) C (by simp;omega) (by omega);simpa using this
  rw[x,uH])
 rw[z,<-o,<-l,<-p,j];grind
theorem Bc{A:Nat->Nat->Int}{r c k:Nat}{pc:Nat->Nat}{v:Nat->Int}(h:iJ r c k pc F)(ah:∀b,b<r->Sp F k c (A b))(w:∀b,b<k->Sp B i c (F b))(N:Sp B i c v)(ao:c<=4)(U:k=c\/yu B i c (k+1))(hd:iU A r c k∣iU B i c k)(al:iU A r c k≠0):Sp F k c v:=by
 obtain⟨e,l,D,ab,M,ad⟩:=elim h v k c_;have Z:Sp B i c D:=by
  have:=(Sp.scale e N).sub (Sp.sum l k w);obtain⟨y,t⟩:=this;exact⟨y,λa o=>by rw[<-t a o];have:=M a;grind⟩
 have E:∀a,a<c->D a=0:=by
  rcases zA D c with E|⟨a,o,ag,-⟩
  .exact E
  .exfalso;obtain⟨ae,ak,x,Y⟩:=B6 h ad o ag;have u:=Al x;rcases U with L|L
   .omega
   .have p:=wE x.up (k+1) c c_ (λn m=>x.lY n m);have W:=k_ ((po B i c (k+1)).1 L _ p) (g:=ae) (r':=k+1) (λb s=>by
     rcases Y b s with z|⟨n,m,z⟩
     .rw[z];exact Sp.comb Z (jI p).2
     .rw[z];exact Sp.comb (w n m) (jI p).2)
    have X:=W (List.range (k+1)) (by simp) (λy t=>jB.1 t);have O:=lX x (k+1) 0 (by omega);rw[<-rO]at O;exact O (uK.1 X)
 have H:∀a,a<c->e*v a=sm (λd=>l d*F d a) k:=λa o=>by rw[M a,E a o];simp
 have u:k<=4:=by have:=h.te;omega
 have S:∀b,b<k->e∣l b:=λb s=>by
  obtain⟨C,G⟩:=Ia (e*(iU A r c k:Nat)) (l b);have aa:C∣iU A r c k:=by
   rw[la C A r c k u];intro P p;obtain⟨I,q⟩:=jI p;refine k_ (f:=F) (r:=k) ?_ (λb s=>Sp.comb (ah b s) q);intro T aj Q;have:=@n1 C F P (by omega) k k [] (by simp[I]) (λan J=>by
    rw[nv,rM]at J;subst J;rw[rV,<-G,<-G8 I q u s H];refine Int.mul_dvd_mul (Int.dvd_refl e) ?_;have af:=(la _ B i c k u).1 hd P p;have ai:=Am af ((List.range b).map F++v::(List.range' (b+1) (k-b-1)).map F) (λam j=>by
     rcases ji.1 j with j|j
     .obtain⟨n,m,rfl⟩:=kt.1 j;exact Sp.comb (w n (by have:=jB.1 m;omega)) q
     .rcases jU.1 j with j|j
      .rw[j];exact Sp.comb N q
      .obtain⟨n,m,rfl⟩:=kt.1 j;exact Sp.comb (w n (by have:=x6.1 m;omega)) q) [] (by simp;omega) (λy t=>by simp at t)
    simpa using ai) T (by omega) Q
   simpa using this
  have R:=(G (iU A r c k:Nat)).2 (Int.ofNat_dvd.2 aa);exact Int.dvd_of_mul_dvd_mul_right (by omega) R
 refine⟨λd=>l d/e,λa o=>?_⟩;have V:sm (λd=>l d*F d a) k=sm (λd=>e*(l d/e*F d a)+0*0) k:=iq k (λd ac=>by
  have:=Int.mul_ediv_cancel' (S d ac);grind)
 have K:=H a o;rw[V,rP e 0 (λd=>l d/e*F d a) (λ_=>0)]at K;exact Int.eq_of_mul_eq_mul_left ab (by rw[K];simp)
theorem oa{A:Nat->Nat->Int}{r c m:Nat}(g:∀a,a<r->Sp B i c (A a))(h:∀a,a<i->Sp A r c (B a))(d:m<=4):iU A r c m=iU B i c m:=by
 refine Nat.dvd_antisymm ?_ ?_
 .rw[la _ B i c m d];exact λe b=>k_ ((la _ A r c m d).1 (uk _) e b) (λa f=>Sp.comb (h a f) (jI b).2)
 .rw[la _ A r c m d];exact λe b=>k_ ((la _ B i c m d).1 (uk _) e b) (λa f=>Sp.comb (g a f) (jI b).2)
theorem sP{k n:Nat}(h:n<k):ik k n=[]:=by
 cases hc:ik k n with
 |nil=>rfl
 |cons a b=>have:=vJ (show a∈ik k n by rw[hc];simp);omega
theorem zb(f:Nat->Nat->Int){r c k:Nat}(h:r<k):iU f r c k=0:=by
 unfold iU;rw[sP h];rfl
theorem div_zero(f:Nat->Nat->Int)(r c:Nat):iU f r c 0=1:=by
 simp[iU,ik,gA,gR,je]
theorem iF.next{f:Nat->Nat->Int}{r c k:Nat}(h:iF f r c k):k=c\/iU f r c (k+1)=0:=by
 rcases h.2.2.2 with a|a|a
 .exact .inr (zb f (by omega))
 .exact .inl a
 .exact .inr a
theorem iF.pos{f:Nat->Nat->Int}{r c k:Nat}(h:iF f r c k):iU f r c k≠0:=by
 cases k with
 |zero=>rw[div_zero];decide
 |succ k=>exact h.2.2.1 k (by omega)
theorem q_{A:Nat->Nat->Int}{r c k:Nat}(d:∀a,a<r->Sp B i c (A a))(e:∀a,a<i->Sp A r c (B a))(l:c<=4)(h:iF A r c k):iF B i c k:=by
 have g:=h.2.1;refine⟨?_,g,λa j=>by rw[<-oa d e (by omega)];exact h.2.2.1 a j,?_⟩
 .rcases iX i k with b|b
  .have:=h.pos;rw[oa d e (by omega),zb B b]at this;omega
  .exact b
 .rcases h.next with b|b
  .exact .inr (.inl b)
  .by_cases f:k=c
   .exact .inr (.inl f)
   .exact .inr (.inr (by rw[<-oa d e (by omega)];exact b))
def ov(r:Nat)(A N:Nat->Nat->Int):Nat->Nat->Int:=λa=>if a<r then A a else N (a-r)
theorem Sp.Fo{A N:Nat->Nat->Int}{r n c:Nat}{v:Nat->Int}(h:Sp A r c v):Sp (ov r A N) (r+n) c v:=by
 refine h.trans (λa b=>?_);have:=Sp.row (ov r A N) c (show a<r+n by omega);rw[show ov r A N a=A a from if_pos b]at this;exact this
theorem Sp.JP{A N:Nat->Nat->Int}{r n c i:Nat}(a:i<n):Sp (ov r A N) (r+n) c (N i):=by
 have:=Sp.row (ov r A N) c (show r+i<r+n by omega);rw[show ov r A N (r+i)=N i from by unfold ov;rw[if_neg (by omega)];congr 1;omega]at this;exact this
theorem xY{A U W N:Nat->Nat->Int}{r n c k:Nat}{pc:Nat->Nat}(h:iJ r c k pc B)(s:jw A B U W r c)(l:c<=4)(g:iF A r c k):(∀a,a<n->Sp A r c (N a))↔(iF (ov r A N) (r+n) c k/\iU (ov r A N) (r+n) c k=iU A r c k):=by
 have x:=g.2.1;obtain⟨p,m⟩:=nJ h s;constructor
 .intro v;have i:∀a,a<r->Sp (ov r A N) (r+n) c (A a):=λa b=>Sp.Fo (Sp.row A c b);have j:∀a,a<r+n->Sp A r c (ov r A N a):=λa b=>by
   unfold ov;split
   .rename_i f;exact Sp.row A c f
   .exact v _ (by omega)
  exact⟨q_ i j l g,(oa i j (by omega)).symm⟩
 .rintro⟨f,u⟩ a b;have w:=h.le;have q:k=c\/yu (ov r A N) (r+n) c (k+1):=by
   rcases f.next with d|d
   .exact .inl d
   .by_cases t:k=c
    .exact .inl t
    .exact .inr ((oF _ _ _ _ (by omega)).1 d)
  exact(Bc h p (λe o=>Sp.Fo (m e (by omega))) (Sp.JP b) l q (by rw[u];exact uk _) g.pos).trans (λe o=>m e (by omega))
theorem uq{B p:Nat}{w:World}(h:w.grownBy v (some p))(c:B<=p)(e:B<=w.heap.size):Below B w v:=⟨h.os,h.tape,h.output,h.size,λb d=>h.block b (by omega) (by intro a;injection a with a;omega)⟩
theorem An{b b' r q c:Nat}{aC aw:Nat->Nat}{f u:Nat->Nat->Int}{B ar L:Nat}{w:World}(h:jO B w b r c aC f L)(O:jO ar w b' q c aw u L)(ax:r+q<=99)(aE:c<=99):Calls Tryz.prog 179 #[.pointer (some ⟨b,0,none⟩),.pointer (some ⟨b',0,none⟩)] w λk ag=>k=.returned (.pointer (some ⟨w.heap.size,0,none⟩))/\(∃y,jO 0 ag w.heap.size (r+q) c y (ov r f u) L)/\Below w.heap.size w ag:=by
 have v:=b_ h O;obtain⟨aJ,R,ab,H,E,z,-⟩:=h.open_;obtain⟨aL,W,ah,F,J,G,-⟩:=O.open_;clear h O;obtain⟨p,K⟩:=hQ (r+q);have aK:(r:Int)+(q:Int)=(p:Int):=by omega
 have P:=a_ K;rw[<-K]at ax|-;clear K;go_in;go_upto_region 1 with fail
 go_still_tail 13,(by kernel_rfl);go_wp2_with fail;go_fit (mw (by omega) aE);rintro k ap⟨rfl,⟨y,i⟩,Z⟩;have ae:Below w.heap.size w ap:=(kQ w.heap.size w).drew.trans Z;have V:=i.tH;have X:=a_ V;have af:=b_ ((i.xl hR).mono (AW L)) ae;clear i Z ae V H E z F J G;go_wp2_with fail;go_loopw [6] (λa wr=>∃(e:Nat) (s:Nat->Nat->Int),e<=r/\a=.int .i64 e/\jO 0 wr w.heap.size p c y s L/\Below w.heap.size w wr/\f_ (∀a d,a<e->s a d=f a d)) (λa _=>r-(intOf a).toNat)
 case atStart=>exact⟨0,_,hR,rfl,af.f,af.i,a_ (λa d h=>by omega)⟩
 case round=>
  rename World=>ao;obtain⟨e,s,aH,rfl,i,j,ai⟩:=hrel;obtain⟨-,R,ab,H,E,z,ak,aj,M,-⟩:=(v.f.hV (KR.I j)).open_;obtain⟨-,W,ah,F,J,G,T,ac,m,-⟩:=i.open_;have n:=b_ i j;have aA:=j.size;clear i j;by_cases Y:e<r
  .have aO:(e:Int)<(r:Int):=by omega
   have A:e<p:=by have:=P.e;omega
   obtain⟨az,rfl,av⟩:=m e A;obtain⟨al,rfl,an⟩:=M e Y;have x:=b_ (n.f.row A) ((v.f.hV (KR.I n.i)).row Y);clear M m;go_wp2_with fail;go_region_law (refine um rfl (.tmp 36) (.tmp 43) rfl rfl rfl x.f x.i ?_;intro aD N t);all_goals
    go_wp2;go_roundw
    .have Q:=(X.e e A).1;exact⟨e+1,_,by omega,by go_num,jO.Ik (w:=ao.drew) n.f A N t,n.i.drew.trans (uq t Q aA),a_ (λa d ad=>by
      show(if a=e then f e d else s a d)=f a d;by_cases k:a=e
      .rw[if_pos k,k]
      .rw[if_neg k];exact ai.e a d (by omega))⟩
    simp[intOf];omega
  .have am:e=r:=by omega
   subst am;clear ak aj M T ac m F J G;go_wp2_with fail;clear H E z;go_loopw [7] (λa wr=>∃(g:Nat) (I:Nat->Nat->Int),g<=q/\a=.int .i64 g/\jO 0 wr w.heap.size p c y I L/\Below w.heap.size w wr/\f_ (∀a d,a<e+g->I a d=ov e f u a d)) (λa _=>q-(intOf a).toNat)
   case atStart=>exact⟨0,s,hR,rfl,n.f,n.i,a_ (λa d h=>by unfold ov;rw[if_pos (by omega)];exact ai.e a d (by omega))⟩
   case round=>
    rename World=>aq;obtain⟨g,I,aS,rfl,i,j,U⟩:=hrel;obtain⟨-,R,ab,H,E,z,-⟩:=(v.f.hV (KR.I j)).open_;obtain⟨-,W,ah,F,J,G,T,ac,m,-⟩:=i.open_;obtain⟨-,aF,aM,aU,aP,aR,aQ,aT,S,-⟩:=(v.i.hV (KR.I j)).open_;have o:=b_ i j;have ay:=j.size;clear i j;by_cases aa:g<q
    .have aG:(g:Int)<(q:Int):=by omega
     obtain⟨l,C⟩:=hQ (e+g);have D:l<p:=by have:=P.e;omega
     obtain⟨az,rfl,av⟩:=m l D;obtain⟨al,rfl,an⟩:=S g aa;have aV:(e:Int)+(g:Int)=(l:Int):=by omega
     have aI:IntKind.i64.wrap (l:Int)=(l:Int):=oV _ (by omega);have aN:(l:Int)<(p:Int):=by omega
     have x:=b_ (o.f.row D) ((v.i.hV (KR.I o.i)).row aa);have au:=a_ C;clear m S C;go_wp2_with fail;go_region_law (refine um rfl (.tmp 64) (.tmp 71) rfl rfl rfl x.f x.i ?_;intro aD N t);all_goals
      go_wp2;go_roundw
      .have Q:=(X.e l D).1;have C:=au.e;exact⟨g+1,_,by omega,by go_num,jO.Ik (w:=aq.drew) o.f D N t,o.i.drew.trans (uq t Q ay),a_ (λa d ad=>by
        show(if a=l then u g d else I a d)=ov e f u a d;by_cases k:a=l
        .rw[if_pos k,k,C];unfold ov;rw[if_neg (by omega),w4]
        .rw[if_neg k];exact U.e a d (by omega))⟩
      simp[intOf];omega
    .go_wp2;go_ret;refine⟨rfl,⟨y,?_⟩,o.i⟩;have aB:g=q:=by omega
     subst aB;refine o.f.congr λa d ad _=>?_;exact U.e a d (by have:=P.e;omega)
theorem uN{L k:Nat}(d:L<=1000000000)(b:k<=8):LM L k<=10000000000:=by
 have c:∀a,LM L a<=3+a*(L+a+5):=by
  intro a;induction a with
  |zero=>simp[LM]
  |succ a e=>
   rw[LM,rG];have:a*(L+a+5)<=a*(L+(a+1)+5):=jJ _ (by omega);omega
 have f:=c k;have g:k*(L+k+5)<=8*(1000000000+8+5):=jR b (by omega);omega
theorem o9{b b' r q c:Nat}{Y am:Nat->Nat}{f u:Nat->Nat->Int}{B af L:Nat}{w:World}(h:jO B w b r c Y f L)(S:jO af w b' q c am u L)(an:r+q<=12)(ap:c<=4)(d:L<=1000000000):Calls Tryz.prog 173 #[.pointer (some ⟨b,0,none⟩),.pointer (some ⟨b',0,none⟩)] w λe ah=>∃W:Bool,e=.returned (.bool W)/\(W=true↔∃a,iF f r c a/\iF (ov r f u) (r+q) c a/\iU (ov r f u) (r+q) c a=iU f r c a)/\Below w.heap.size w ah:=by
 have v:=b_ h S;clear h S;go_in;go_wp2_with fail;go_fit (mW v.f (by omega) (by omega) d);rintro e ar⟨a,rfl,G,V⟩;have k:=b_ G V;have ax:a<=4:=by have:=G.2.1;omega
 clear G V;go_wp2_with fail;go_fit (An (v.f.hV (KR.I k.i)) (v.i.hV (KR.I k.i)) (by omega) (by omega));rintro e ay⟨rfl,⟨aw,P⟩,X⟩;have A:=b_ P (d_ k.i X);clear P X;go_wp2_with fail;go_fit (mW A.f (by omega) (by omega) d);rintro e T⟨p,rfl,R,F⟩;have g:=hO R (A.f.hV (KR.I F)) (d_ A.i F);clear R F;by_cases j:(a:Int)=(p:Int)
 .have z:=a_ j;have ab:((a:Int)!=(p:Int))=false:=by simp[j]
  clear j;go_wp2_with fail;go_fit (mX (v.f.hV (KR.I g.l)) (by omega) (by omega) (by omega) d (uN d (by omega)));rintro e i⟨az,rfl,E,Q⟩;obtain⟨m,o,t,n,rfl,-⟩:=id E.parts;have C:=hU i (.cells #[.bool m,.slice o n.length t] 171);have K:(i.alloc (.cells #[.bool m,.slice o n.length t] 171)).cell? ⟨i.heap.size,0,none⟩=some (.bool m):=fa _ _ _ _ _ rfl rfl;have M:(i.alloc (.cells #[.bool m,.slice o n.length t] 171)).cell? ⟨i.heap.size,1,none⟩=some (.slice o n.length t):=fa _ _ _ _ _ rfl rfl;have x:Below T.heap.size T (i.alloc (.cells #[.bool m,.slice o n.length t] 171)):=d_ Q C;have l:=iu (E.below C) (g.g.hV (KR.I x)) (d_ g.l x) K M;clear E Q C x K M;go_wp2_with fail;go_fit (mX l.g (by omega) (by omega) (by omega) d (uN d (by omega)));rintro e aj⟨aq,rfl,O,J⟩;obtain⟨ac,ag,al,Z,rfl,-⟩:=id O.parts;have N:=hU aj (.cells #[.bool ac,.slice ag Z.length al] 171);have s:=d_ J N;have K:=g_ s l.m;have M:=g_ s l.x;have au:=J.size;have D:=hO (l.f.below s) (O.below N) (d_ l.j s);clear O J N s;go_wp2_with fail;go_fit (mc _ _ _ _ (LM L a) (LM L a) _ D.f D.g (by have:=uN d (show a<=8 by omega);omega) (by have:=uN d (show a<=8 by omega);omega));rintro e ao⟨rfl,U⟩;have ad:=a_ (d_ D.l U);clear U;go_wp2;go_ret;refine⟨_,rfl,?_,ad.e⟩;have ai:a=p:=by have:=z.e;omega
  have y:=g.f;rw[<-ai]at y;constructor
  .intro h;have I:oi (((iU f r c a:Nat):Int)-((iU (ov r f u) (r+q) c a:Nat):Int))=0:=by simpa using h
   refine⟨a,k.f,y,?_⟩;unfold oi at I;split at I
   .omega
   .split at I
    .omega
    .omega
  .rintro⟨ae,H,-,aa⟩;obtain rfl:=kf k.f H;rw[aa];simp[oi]
 .have z:=a_ j;have ab:((a:Int)!=(p:Int))=true:=by simp[j]
  clear j;go_wp2;go_ret;refine⟨false,rfl,⟨(λh=>by cases h),?_⟩,g.l⟩;rintro⟨ae,H,ak,-⟩;have y:=kf k.f H;have av:=kf g.f ak;exact absurd (show(a:Int)=(p:Int) by omega) z.e
end R
abbrev u1(c:World)(A B:Nat)(e a b f d g:Value):World:=(((((c.setCell ⟨A,0,none⟩ e).setCell ⟨A,1,none⟩ a).setCell ⟨A,2,none⟩ b).setCell ⟨B,0,none⟩ f).setCell ⟨B,1,none⟩ d).setCell ⟨B,2,none⟩ g
theorem ry{A:Nat}(h:jk W A x y z)(g d e:Value):jk (((W.setCell ⟨A,0,none⟩ g).setCell ⟨A,1,none⟩ d).setCell ⟨A,2,none⟩ e) A g d e:=by
 obtain⟨j,k,l⟩:=h;have c:=λ(i f:Nat) (h:i≠f) (n:World) (o:Value)=>jZ (w:=n) (v:=o) (a:=⟨A,i,none⟩) (b:=⟨A,f,none⟩) (λm=>h (kX Addr.off m));refine⟨?_,?_,?_⟩
 .exact(c 2 0 (by decide) _ _).trans ((c 1 0 (by decide) _ _).trans (sH _ _ _ j))
 .exact(c 2 1 (by decide) _ _).trans (sH _ _ _ ((c 0 1 (by decide) _ _).trans k))
 .exact sH _ _ _ ((c 1 2 (by decide) _ _).trans ((c 0 2 (by decide) _ _).trans l))
theorem zy{A B:Nat}(h:jk W A x y z)(n:B≠A)(j d e:Value):jk (((W.setCell ⟨B,0,none⟩ j).setCell ⟨B,1,none⟩ d).setCell ⟨B,2,none⟩ e) A x y z:=by
 obtain⟨f,i,l⟩:=h;have c:=λ(o g:Nat) (m:World) (p:Value)=>jZ (w:=m) (v:=p) (a:=⟨B,o,none⟩) (b:=⟨A,g,none⟩) (λk=>n (kX Addr.block k));exact⟨(c 2 0 _ _).trans ((c 1 0 _ _).trans ((c 0 0 _ _).trans f)),(c 2 1 _ _).trans ((c 1 1 _ _).trans ((c 0 1 _ _).trans i)),(c 2 2 _ _).trans ((c 1 2 _ _).trans ((c 0 2 _ _).trans l))⟩
theorem lI{A B:Nat}{j k h:Value}(l:jk w A x y z)(i:jk w B j k h)(g:A≠B)(d a b e c f:Value):jk (u1 w A B d a b e c f) A d a b/\jk (u1 w A B d a b e c f) B e c f:=
 ⟨zy (ry l d a b) g.symm e c f,ry (zy i g d a b) e c f⟩
theorem kV{W:World}{n A B:Nat}(h:Below n W w)(b:n<=A)(a:n<=B)(g c e i f d:Value):Below n W (u1 w A B g c e i f d):=
 (((((h.setCell b g).setCell b c).setCell b e).setCell a i).setCell a f).setCell a d
theorem C2{A B:Nat}{s t:TypeId}(l:Ty w A s)(p:Ty w B t)(d:s≠144)(g:s≠79)(h:t≠144)(i:t≠79)(b a c f e j:Value):KT w (u1 w A B b a c f e j):=by
 have m:=l.setCell ⟨A,0,none⟩ b;have o:=m.setCell ⟨A,1,none⟩ a;have k:=((p.setCell ⟨A,0,none⟩ b).setCell ⟨A,1,none⟩ a).setCell ⟨A,2,none⟩ c;have n:=k.setCell ⟨B,0,none⟩ f;have q:=n.setCell ⟨B,1,none⟩ e;exact(((((((KT.refl w).setCell l d g b).setCell m d g a).setCell o d g c).setCell k h i f).setCell n h i e).setCell q h i j)
theorem HR{w:World}{b:Nat}{t:TypeId}(f:Ty w b t)(d:t≠144)(c a e:Value):KU w (((w.setCell ⟨b,0,none⟩ c).setCell ⟨b,1,none⟩ a).setCell ⟨b,2,none⟩ e)/\w.grownBy (((w.setCell ⟨b,0,none⟩ c).setCell ⟨b,1,none⟩ a).setCell ⟨b,2,none⟩ e) (some b):=by
 have h:=KU.setCell (o:=0) (KU.refl w) f d c;have g:=f.setCell ⟨b,0,none⟩ c;have j:=KU.setCell (o:=1) h g d a;have k:=g.setCell ⟨b,1,none⟩ a;have i:=KU.setCell (o:=2) j k d e;exact⟨i,hZ (hZ (iE _ _ _ _) (iE _ _ _ _)) (iE _ _ _ _)⟩
theorem iA.s4{w W:World}{b g n L:Nat}{zs:List Int}(h:iA w (.slice (some ⟨g,0,none⟩) n n) n zs L)(c:w.grownBy W (some b))(d:KU w W)(e:g≠b):iA W (.slice (some ⟨g,0,none⟩) n n) n zs L:=
 h.grown c (λf i j a=>by
  simp only[iC,iH]at a;obtain⟨rfl,-,-⟩:=a;exact e) d
theorem vW{v:Value}{r c:Nat}{zs:List Int}{L:Nat}{w:World}(U:i_ w v r c zs L):Calls Tryz.prog 105 #[v] w λe ab=>∃d j,e=.returned (.agg #[.int .i64 c,.int .i64 r,.slice (some ⟨d,0,none⟩) (c*r) (c*r)])/\w.heap.size<=d/\iA ab (.slice (some ⟨d,0,none⟩) (c*r) (c*r)) (c*r) j L/\(∀a b,a<c->b<r->e_ r j a b=e_ c zs b a)/\Below w.heap.size w ab:=by
 have R:=a_ U;obtain⟨Z,af,aN,rfl,Q⟩:=U;obtain⟨x,A,rfl,-⟩:=Q.shape;clear Q;obtain⟨z,aj⟩:=hQ (r*c);rw[<-aj]at R|-;clear aj;go_in;go_wp2_with fail;obtain⟨q,o⟩:=hQ ((w.alloc (.cells #[.int .i64 r,.int .i64 c,.slice x z A] 66)).alloc (.cells #[.int .i64 0,.int .i64 0,.slice none 0 0] 66));have aH:q.heap.size=w.heap.size+2:=by rw[o];simp
 have P:Below w.heap.size w q:=by rw[o];repeat(first|exact hP|refine ia ?_ (by simp<;>omega) _)
 have ad:jk q w.heap.size (.int .i64 r) (.int .i64 c) (.slice x z A):=by
  rw[o];exact jk.later (w:=w.alloc (.cells #[.int .i64 r,.int .i64 c,.slice x z A] 66)) ⟨fa _ _ _ _ _ rfl rfl,fa _ _ _ _ _ rfl rfl,fa _ _ _ _ _ rfl rfl⟩ hS
 have ae:q.heap[w.heap.size+1]?=some (.cells #[.int .i64 0,.int .i64 0,.slice none 0 0] 66 (0,0)):=by
  rw[o];have:=iP (w.alloc (.cells #[.int .i64 r,.int .i64 c,.slice x z A] 66)) (.cells #[.int .i64 0,.int .i64 0,.slice none 0 0] 66);simpa using this
 have p:=hO P ad ae;rw[<-o];clear P ad ae o;go_fit (kh af Z);rintro e g⟨d,rfl,aL,M,F⟩;have aF:q.heap.size<=g.heap.size:=F.size;have aJ:=M.ty.lt;have B:=hU g (.cells #[.int .i64 c,.int .i64 r,.slice (some ⟨d,0,none⟩) (c*r) (c*r)] 66);have E:x4 (g.alloc (.cells #[.int .i64 c,.int .i64 r,.slice (some ⟨d,0,none⟩) (c*r) (c*r)] 66)) g.heap.size 0 (.int .i64 c) (.int .i64 r) (.slice (some ⟨d,0,none⟩) (c*r) (c*r)):=⟨fa _ _ _ _ _ rfl rfl,fa _ _ _ _ _ rfl rfl,fa _ _ _ _ _ rfl rfl⟩;obtain⟨u,y⟩:=hQ (g.alloc (.cells #[.int .i64 c,.int .i64 r,.slice (some ⟨d,0,none⟩) (c*r) (c*r)] 66));have aK:u.heap.size=g.heap.size+1:=by rw[y];simp
 rw[<-y]at B E;have ac:=F.trans (B.mono aF);have k:=hO (show iT u g.heap.size 0 d c r (List.replicate (c*r) 0) L from⟨af,Z,E,(M.mono hR).below B⟩) ac y;clear M F B E y ac;go_wp2_with fail;rw[<-k.l];have aA:g.heap.size≠d:=by omega
 go_loopw [4] (λa wr=>∃(f:Nat) (j:List Int),f<=r/\a=.int .i64 f/\f_ (iT wr g.heap.size 0 d c r j L/\u.grownBy wr (some d)/\∀a b,a<c->b<r->b<f->e_ r j a b=e_ c zs b a)) (λa _=>r-(intOf a).toNat)
 case atStart=>exact⟨0,_,hR,rfl,a_ ⟨k.f,jM _ _,λa b _ _ am=>by omega⟩⟩
 case round=>
  rename World=>l;obtain⟨f,j,aI,rfl,i⟩:=hrel;have aD:=(p.g.later k.g).grown i.g (by omega);obtain⟨G,C,H⟩:=aD;by_cases J:f<r
  .have az:(f:Int)<(r:Int):=by omega
   go_wp2_with fail;clear G C H;go_loopw [5] (λa wr=>∃(e:Nat) (s:List Int),e<=c/\a=.int .i64 e/\f_ (iT wr g.heap.size 0 d c r s L/\u.grownBy wr (some d)/\∀a b,a<c->b<r->(b<f\/(b=f/\a<e))->e_ r s a b=e_ c zs b a)) (λa _=>c-(intOf a).toNat)
   case atStart=>exact⟨0,j,hR,rfl,a_ ⟨i.f,i.g,λa b X aw am=>i.l a b X aw (by omega)⟩⟩
   case round=>
    rename World=>ak;obtain⟨e,s,aO,rfl,h⟩:=hrel;have aC:=(p.g.later k.g).grown h.g (by omega);obtain⟨G,C,H⟩:=aC;have ag:Below w.heap.size w ak:=(p.f.trans (k.g.mono (by omega))).trans (iG h.g (by omega) (by omega));have aQ:=h.g.size;have av:=a_ ag;clear ag;by_cases K:e<c
    .have ar:(e:Int)<(c:Int):=by omega
     go_wp2_with fail;go_fit (jy (R.e.below av.e) J K);rintro aB al⟨X,rfl,N,Y⟩;obtain⟨ao,ay,ap,aE,rfl⟩:=N.shape;have O:=hU al (.cells #[.bool ao,.slice ay ap aE] 79);have ai:=d_ Y O;have I:=b_ ai (N.below O);clear N Y O ai G C H;go_wp2_with fail;go_fit (oQ (h.f.later I.f) aA I.i K J);rintro aB aS⟨rfl,ah,T,-⟩;have S:=b_ ah (hZ (ib h.g I.f) T);clear ah T;go_wp2;go_roundw
     .refine⟨e+1,_,by omega,by go_num,a_ ⟨S.f,S.i,λa b t n aq=>?_⟩⟩;rw[kN s c r h.f.len e f a b _ K J n];by_cases V:a=e/\b=f
      .obtain⟨rfl,rfl⟩:=V;rw[if_pos ⟨rfl,rfl⟩];rfl
      .rw[if_neg V];exact h.l a b t n (by omega)
     simp[intOf];omega
    .have ar:¬(e:Int)<(c:Int):=by omega
     go_wp2;go_roundw;exact⟨f+1,s,by omega,by go_num,a_ ⟨h.f,h.g,λa b t n aq=>h.l a b t n (by omega)⟩⟩;simp[intOf];omega
  .have az:¬(f:Int)<(r:Int):=by omega
   have m:l.heap[w.heap.size+1]?=some (.cells #[.int .i64 0,.int .i64 0,.slice none 0 0] 66 (0,0)):=((i.g.block _ (by omega) (λe=>by injection e with e;omega)).trans (k.g.block _ (by omega))).trans p.l;have aG:l.cell? ⟨w.heap.size+1,0,none⟩=some (.int .i64 0):=by simp[World.cell?,m]
   have an:l.cell? ⟨w.heap.size+1,1,none⟩=some (.int .i64 0):=by simp[World.cell?,m]
   have au:l.cell? ⟨w.heap.size+1,2,none⟩=some (.slice none 0 0):=by simp[World.cell?,m]
   have aM:∀W,l.frozen? ⟨w.heap.size+1,W,none⟩=false:=λW=>by simp[World.frozen?,m]
   have ax:f_ (Ty l (w.heap.size+1) 66):=a_ ⟨_,_,m⟩;obtain⟨aR,aT,aP⟩:=i.f.lX;clear m;go_wp2_with fail;refine ig (v:=.agg #[.int .i64 c,.int .i64 r,.slice (some ⟨d,0,none⟩) (c*r) (c*r)]) ?_ rfl ?_
   ·(simp[results,Tryz.results105,go_sem,aG,an,au];done)
   .have D:=HR ax.e (by decide) (.int .i64 c) (.int .i64 r) (.slice (some ⟨d,0,none⟩) (c*r) (c*r));have aa:Below w.heap.size w l:=(p.f.trans (k.g.mono (by omega))).trans (iG i.g (by omega) (by omega));exact⟨d,rfl,by omega,j,i.f.kA.s4 D.2 D.1 (by omega),λa b t n=>i.l a b t n (by omega),aa.trans (iG D.2 (by omega) aa.size)⟩
theorem ob{v:Value}{r c:Nat}{zs:List Int}{L:Nat}{w:World}(f:i_ w v r c zs L):Calls Tryz.prog 105 #[v] w λg b=>∃h a,g=.returned h/\i_ b h c r a L/\(∀d e,d<c->e<r->e_ r a d e=e_ c zs e d)/\Below w.heap.size w b:=by
 go_fit (vW f);rintro g b⟨l,a,rfl,-,j,i,k⟩;exact⟨_,a,rfl,⟨f.2.1,f.1,_,rfl,j⟩,i,k⟩
theorem xh(w:World)(i:TypeId)(g n m h:Nat)(c:Addr)(d:Array Value)(a:List Value)(k:w.heap[g]?=some (.cells d 79 (0,0)))(v:d.size=n*2)(j:a.length=n*2)(r:n<=m)(l:∀f b,a[f]?=some b->w.cell? (c.add f)=some b)(p:∀b∈a,b.oneCell'=true):(Builtin.copy_ #[64,64] i #[.slice (some ⟨g,0,none⟩) n n,.slice (some c) m h]).run Tryz.prog w=.ok (goInt n) (w.setRow g a.toArray):=by
 obtain⟨x,q,t,o,u⟩:=kO Tryz.w3;have s:=run_firstCells_some (P:=Tryz.prog) w 2 n c m h a j l;have e:=run_storeCells_at Tryz.prog g 0 79 a 0 d w k (by omega) p;simp only[nt,jF,List.take_zero,om]at e;rw[lA (by rw[Array.length_toList];omega),rV]at e;simp[Builtin.copy_,run_underlying Tryz.underlying64,Builtin.lenOf,sizeOf,typeInfo,q,o,show m.min n=n from Nat.min_eq_right r,s,e]
theorem DN{w:World}{ops:Array Oper}{C:List Oper}{o:Oper}{a:Act}{Q:Exit->Act->World->Prop}(R:o.guard=none)(d s:Operand)(y:o.op=.call {callee:=.builtin .copy,args:=#[d,s],argTypes:=#[64,64]}){g n m:Nat}{E:Value}{ys zs:List Int}{M L:Nat}(ag:n<=m)(hd:a.eval d=.slice (some ⟨g,0,none⟩) n n)(B:a.eval s=E)(D:iA w (.slice (some ⟨g,0,none⟩) n n) n ys M)(ae:iA w E m zs L)(G:∀x,iA x (.slice (some ⟨g,0,none⟩) n n) n (zs.take n) L->w.grownBy x (some g)->wpList Tryz.prog ops Q C (a.put o.dst (goInt n)) x):wpList Tryz.prog ops Q (o::C) a w:=by
 refine wpList_plain R λaq A=>?_;have ac:=D.ty;obtain⟨aC,aa,H,aE⟩:=D;rcases H.2 with⟨X,_⟩|⟨aB,am,W,k,ao,P,al,af,Z,au⟩
 .simp at X
 simp only[iC,iH,jj,jh,nh]at k;obtain⟨rfl,rfl⟩:=k;obtain⟨ax,b,l,K⟩:=ae;rcases l.2 with⟨rfl,T⟩|⟨V,ai,aF,rfl,ar,ay,aj,ak,az,an⟩
 .subst T;obtain rfl:n=0:=by omega
  have u:=rL w o.type g;unfold Oper.wp;simp[execOp,y,resolve,invoke,builtin,hd,B,u,Result.andThen];exact A _ _ (G w ⟨by simp,aa,H,λi I=>by omega⟩ (jM _ _))
 .have aD:b.length=m*2:=l.1;have ah:∀h∈b.take (n*2),h.oneCell'=true:=by
   intro h k;obtain⟨e,f,S⟩:=List.getElem_of_mem (tD k);obtain⟨O,J,p,v,q⟩:=K (e/2) (by omega);obtain⟨ap,aw,av,aA,r⟩:=q.shape;simp only[j9,j_,kb,jh]at r;have c:b[e]?=some h:=by rw[iI f,S]
   rcases(show e=2*(e/2)\/e=2*(e/2)+1 from by omega)with t|t
   .rw[t,p]at c;injection c with c;rw[<-c,r.1];rfl
   .rw[t,v]at c;injection c with c;rw[<-c,r.2];rfl
  have j:(b.take (n*2)).length=n*2:=by rw[kv];omega
  have u:=xh w o.type g n m ai ⟨V,0,none⟩ W (b.take (n*2)) P Z j ag (λe h f=>World.ownsRow.cells l rfl e h (by
   rw[sJ]at f;split at f
   .exact f
   .simp at f)) ah
  unfold Oper.wp;simp[execOp,y,resolve,invoke,builtin,hd,B,u,Result.andThen];have N:w.grownBy (w.setRow g (b.take (n*2)).toArray) (some g):=⟨rfl,rfl,rfl,by simp[World.setRow],λz _ Y=>setRow_other w g z _ (λU=>Y (by simp[U]))⟩;have ab:KU w (w.setRow g (b.take (n*2)).toArray):=KU.grown N (λz F=>by simp at F;subst F;exact ac);have ad:iA (w.setRow g (b.take (n*2)).toArray) (.slice (some ⟨g,0,none⟩) n n) n (zs.take n) L:=by
   refine⟨by rw[kv];omega,b.take (n*2),⟨j,.inr ⟨g,n,(b.take (n*2)).toArray,rfl,hR,setRow_heap w g _ _ _ _ P,c_,af,by simpa using j,?_⟩⟩,λi I=>?_⟩
   .rw[ka (by simp[j])]
   .obtain⟨O,J,p,v,q⟩:=K i (by omega);refine⟨O,J,by rw[sJ,if_pos (by omega)];exact p,by rw[sJ,if_pos (by omega)];exact v,?_⟩;rw[show(zs.take n).getD i 0=zs.getD i 0 from by simp[List.getD,I]];exact q.hV ab
  exact A _ _ (G _ ad N)
theorem lV{r c m:Nat}{zs:List Int}{L:Nat}{w:World}(G:r<=99)(I:c<=99)(D:r*c<=m)(k:iA w x m zs L):Calls Tryz.prog 58 #[.int .i64 r,.int .i64 c,x] w λp E=>∃a,p=.returned (.agg #[.int .i64 r,.int .i64 c,.slice (some ⟨a,0,none⟩) (r*c) (r*c)])/\w.heap.size<=a/\iA E (.slice (some ⟨a,0,none⟩) (r*c) (r*c)) (r*c) (zs.take (r*c)) L/\Below w.heap.size w E:=by
 obtain⟨R,ac,rfl,-⟩:=k.shape;have y:=a_ k;have B:=a_ D;clear k D;go_in;go_wp2_with fail;go_fit (@kh r c _ G I);rintro p d⟨a,rfl,C,l,j⟩;obtain⟨Q,K⟩:=oG j;have U:w.heap.size<d.heap.size:=by have:=j.size;simp at this;omega
 have W:a<d.heap.size:=l.ty.lt;have X:w.heap.size+1<=a:=by simpa using C
 have t:Below w.heap.size w d:=by
  refine Below.trans ?_ (j.mono (by simp<;>omega));repeat(first|exact hP|refine ia ?_ (by simp<;>omega) _)
 have F:d.heap[w.heap.size]?=some (.cells #[.int .i64 0,.int .i64 0,.slice none 0 0] 66 (0,0)):=by
  rw[j.block _ (by simp)];exact iP w _
 have i:=hO l t F;clear C l j t F Q K;go_wp2_with (refine @DN _ _ _ _ _ _ rfl (.tmp 12) (.tmp 13) rfl a (r*c) m _ (List.replicate (r*c) 0) zs 0 L B.e rfl rfl ?_ ?_ ?_)
 .exact i.f.below hS
 .exact(y.e.below i.g).below hS
 intro b u g;obtain⟨h,f⟩:=hQ (d.alloc (.cells #[.int .i64 r,.int .i64 c,.slice (some ⟨a,0,none⟩) (r*c) (r*c)] 66));rw[<-f]at g;have q:h.cell? ⟨d.heap.size,0,none⟩=some (.int .i64 r):=by rw[f];simp
 have z:h.cell? ⟨d.heap.size,1,none⟩=some (.int .i64 c):=by rw[f];simp
 have s:h.cell? ⟨d.heap.size,2,none⟩=some (.slice (some ⟨a,0,none⟩) (r*c) (r*c)):=by rw[f];simp
 have aa:=g.cell q (by simp;omega);have S:=g.cell z (by simp;omega);have T:=g.cell s (by simp;omega);have M:h.heap.size=d.heap.size+1:=by rw[f];simp
 have e:b.heap[w.heap.size]?=some (.cells #[.int .i64 0,.int .i64 0,.slice none 0 0] 66 (0,0)):=by
  rw[g.block _ (by omega) (by simp;omega),f,qL _ _ _ (by omega)];exact i.l
 have A:Below w.heap.size w b:=by
  have N:Below w.heap.size w h:=by rw[f];exact i.g.alloc (by omega) _
  exact N.grown g (by omega) (λY P=>by simp at P;omega)
 have J:b.cell? ⟨w.heap.size,0,none⟩=some (.int .i64 0):=by simp[World.cell?,e]
 have H:b.cell? ⟨w.heap.size,1,none⟩=some (.int .i64 0):=by simp[World.cell?,e]
 have O:b.cell? ⟨w.heap.size,2,none⟩=some (.slice none 0 0):=by simp[World.cell?,e]
 have ab:b.frozen? ⟨w.heap.size,0,none⟩=false:=by simp[World.frozen?,e]
 have V:b.frozen? ⟨w.heap.size,1,none⟩=false:=by simp[World.frozen?,e]
 have Z:b.frozen? ⟨w.heap.size,2,none⟩=false:=by simp[World.frozen?,e]
 have n:f_ (Ty b w.heap.size 66):=a_ ⟨_,_,e⟩;have o:=b_ u A;clear u A g e q z s f M i y B;go_wp2_with fail;refine ig (v:=.agg #[.int .i64 r,.int .i64 c,.slice (some ⟨a,0,none⟩) (r*c) (r*c)]) ?_ rfl ?_
 ·(simp[results,Tryz.results58,go_sem,J,H,O];done)
 .refine⟨a,rfl,by omega,o.f.hV (KT.setCell (KT.setCell (KT.setCell (KT.refl _) n.e (by decide) (by decide) _) (n.e.setCell _ _) (by decide) (by decide) _) ((n.e.setCell _ _).setCell _ _) (by decide) (by decide) _),?_⟩;exact((o.i.setCell c_ _).setCell c_ _).setCell c_ _
theorem F0(zs:List Int){k c i j:Nat}(a:i<k)(b:j<c):e_ c (zs.take (k*c)) i j=e_ c zs i j:=by
 unfold e_;have:=jq a b;simp[List.getD,this]
theorem ud{v:Value}{r c k:Nat}{L:Nat}{w:World}(ab:Gs w v r c k e f g L)(X:k<=r):Calls Tryz.prog 82 #[v] w λh M=>∃S P,h=.returned S/\i_ M S k c P L/\(∀l n,l<k->n<c->e_ c P l n=e_ c e l n)/\Below w.heap.size w M:=by
 obtain⟨af,aj,al,rfl,i,K,R⟩:=ab;obtain⟨s,q,rfl⟩:=i.slice;obtain⟨J,H,rfl⟩:=K.slice;obtain⟨F,N,rfl⟩:=R.slice;have ad:=i.1;have D:=i.2.1;have A:=a_ i;have I:=a_ (jo c X);clear i K R;obtain⟨o,y⟩:=hQ (r*c);obtain⟨m,z⟩:=hQ (r*r);rw[<-y]at A I|-;rw[<-z];have T:=a_ y;clear y z;go_in;go_wp2_with fail;obtain⟨d,j⟩:=hQ ((w.alloc (.cells #[.int .i64 r,.int .i64 c,.slice s o q,.int .i64 r,.int .i64 r,.slice J m H,.int .i64 r,.int .i64 r,.slice F m N,.int .i64 k] 74)).alloc (.cells #[.int .i64 0,.int .i64 0,.slice none 0 0] 66));have ag:d.heap.size=w.heap.size+2:=by rw[j];simp
 have C:Below w.heap.size w d:=by rw[j];repeat(first|exact hP|refine ia ?_ (by simp<;>omega) _)
 have B:d.heap[w.heap.size+1]?=some (.cells #[.int .i64 0,.int .i64 0,.slice none 0 0] 66 (0,0)):=by
  rw[j];have:=iP (w.alloc (.cells #[.int .i64 r,.int .i64 c,.slice s o q,.int .i64 r,.int .i64 r,.slice J m H,.int .i64 r,.int .i64 r,.slice F m N,.int .i64 k] 74)) (.cells #[.int .i64 0,.int .i64 0,.slice none 0 0] 66);simpa using this
 have x:=b_ C B;rw[<-j];clear C B j;have E:iA d (.slice s o q) o e L:=by
  obtain⟨_,_,ai,h,V⟩:=A.e;simp only[j9,j_,kb,jh,nh]at h;rw[h,T.e];exact V.below x.f
 go_fit (lV (by omega) D I.e E);rintro h a⟨Q,rfl,ak,G,p⟩;have ah:d.heap.size<=a.heap.size:=p.size;have b:a.heap[w.heap.size+1]?=some (.cells #[.int .i64 0,.int .i64 0,.slice none 0 0] 66 (0,0)):=(p.block _ (by omega)).trans x.i;have W:a.cell? ⟨w.heap.size+1,0,none⟩=some (.int .i64 0):=by simp[World.cell?,b]
 have U:a.cell? ⟨w.heap.size+1,1,none⟩=some (.int .i64 0):=by simp[World.cell?,b]
 have Y:a.cell? ⟨w.heap.size+1,2,none⟩=some (.slice none 0 0):=by simp[World.cell?,b]
 have ae:∀O,a.frozen? ⟨w.heap.size+1,O,none⟩=false:=λO=>by simp[World.frozen?,b]
 have ac:f_ (Ty a (w.heap.size+1) 66):=a_ ⟨_,_,b⟩;have u:=b_ G (x.f.trans (p.mono (by omega)));clear b G p E;go_wp2_with fail;refine ig (v:=.agg #[.int .i64 k,.int .i64 c,.slice (some ⟨Q,0,none⟩) (k*c) (k*c)]) ?_ rfl ?_
 ·(simp[results,Tryz.results82,go_sem,W,U,Y];done)
 .have t:=HR ac.e (by decide) (.int .i64 k) (.int .i64 c) (.slice (some ⟨Q,0,none⟩) (k*c) (k*c));exact⟨_,_,rfl,⟨by omega,D,_,rfl,u.f.s4 t.2 t.1 (by omega)⟩,λl n Z aa=>F0 e Z aa,u.i.trans (iG t.2 (by omega) u.i.size)⟩
theorem iA.KL{w:World}{n L:Nat}{zs:List Int}(h:iA w (.slice O n i) n zs L)(k:Nat)(g:k<n):∃a d c e b,O=some ⟨a,0,none⟩/\w.cell? ⟨a,k*2,none⟩=some (.bool d)/\w.cell? ⟨a,k*2+1,none⟩=some (.slice c e b)/\jE w (.agg #[.bool d,.slice c e b]) (zs.getD k 0) L:=by
 obtain⟨q,r,j,-,-,p⟩:=h.shape;obtain⟨a,m⟩:=p k g;simp only[iC]at j;obtain⟨rfl,-,rfl⟩:=j;subst m;obtain⟨d,c,e,b,f,l,o⟩:=h.cell k g;rw[ij 2]at f l;exact⟨a,d,c,e,b,rfl,f,l,o⟩
theorem DJ{v u:Value}{r c q d:Nat}{zs ys:List Int}{L:Nat}{w:World}(an:i_ w v r c zs L)(ai:i_ w u q d ys L):Calls Tryz.prog 83 #[v,u] w λh i=>h=.returned (.bool (decide (r=q/\c=d/\zs=ys)))/\Below w.heap.size w i:=by
 obtain⟨aG,aN,aE,rfl,A⟩:=an;obtain⟨aL,aF,aP,rfl,z⟩:=ai;obtain⟨x,s,rfl,aw,aK,-⟩:=A.shape;obtain⟨U,F,rfl,av,aM,-⟩:=z.shape;obtain⟨p,I⟩:=hQ (decide (r=q/\c=d/\zs=ys));rw[<-I];have o:=a_ I;have t:=b_ A z;clear I A z;obtain⟨ag,K⟩:=hQ (r*c);obtain⟨b,H⟩:=hQ (q*d);rw[<-K]at t aw|-;rw[<-H]at t av|-;have W:=b_ K H;clear K H;by_cases E:r=q
 .by_cases V:c=d
  .subst E;subst V;have ar:b=ag:=by rw[W.f,W.i]
   subst ar;go_in;go_wp2_with fail;obtain⟨k,l⟩:=hQ ((w.alloc (.cells #[.int .i64 r,.int .i64 c,.slice x b s] 66)).alloc (.cells #[.int .i64 r,.int .i64 c,.slice U b F] 66));have aA:k.heap.size=w.heap.size+2:=by rw[l];simp
   have n:Below w.heap.size w k:=by rw[l];repeat(first|exact hP|refine ia ?_ (by simp<;>omega) _)
   have Y:jk k w.heap.size (.int .i64 r) (.int .i64 c) (.slice x b s):=by
    rw[l];exact jk.later (w:=w.alloc (.cells #[.int .i64 r,.int .i64 c,.slice x b s] 66)) ⟨fa _ _ _ _ _ rfl rfl,fa _ _ _ _ _ rfl rfl,fa _ _ _ _ _ rfl rfl⟩ hS
   have T:jk k (w.heap.size+1) (.int .i64 r) (.int .i64 c) (.slice U b F):=by
    rw[l];exact⟨fa _ _ _ _ _ (by simp) rfl,fa _ _ _ _ _ (by simp) rfl,fa _ _ _ _ _ (by simp) rfl⟩
   have g:=iu n Y T (t.f.below n) (t.i.below n);rw[<-l];clear n Y T l;go_loopw [5] (λD wr=>∃a:Nat,a<=b/\D=.int .i64 a/\f_ (Below k.heap.size k wr/\∀f,f<a->zs.getD f 0=ys.getD f 0)) (λD _=>b-(intOf D).toNat)
   case atStart=>exact⟨0,hR,rfl,a_ ⟨hP,λf aD=>by omega⟩⟩
   case round=>
    obtain⟨a,aI,rfl,e⟩:=hrel;obtain⟨-,-,aj⟩:=g.g.later e.f;obtain⟨-,-,ak⟩:=g.j.later e.f;have aB:=e.f.size;by_cases N:a<b
    .have ac:(a:Int)<(b:Int):=by omega
     obtain⟨B,ae,af,aq,ay,rfl,R,M,aa⟩:=(g.m.below e.f).KL a N;obtain⟨y,al,ap,am,ax,rfl,ab,X,Z⟩:=(g.x.below e.f).KL a N;have j:=ju aj ak R M ab X;have Q:=b_ aa Z;obtain⟨ad,P⟩:=hQ (decide (zs.getD a 0=ys.getD a 0));have m:=a_ P;clear aa Z R M ab X P;go_wp2_with fail;go_region_held3 (λi=>i.cell? ⟨w.heap.size,2,none⟩=some (.slice (some ⟨B,0,none⟩) b s)/\i.cell? ⟨w.heap.size+1,2,none⟩=some (.slice (some ⟨y,0,none⟩) b F)/\i.cell? ⟨B,a*2,none⟩=some (.bool ae)/\i.cell? ⟨B,a*2+1,none⟩=some (.slice af aq ay)/\i.cell? ⟨y,a*2,none⟩=some (.bool al)/\i.cell? ⟨y,a*2+1,none⟩=some (.slice ap am ax)) (first|exact j.e|exact⟨g_ hbW j.f,g_ hbW j.g,g_ hbW j.j,g_ hbW j.m,g_ hbW j.r,g_ hbW j.z⟩) (first|(go_at_call 128;refine(wF (Q.f.below (hP.drew)) (Q.i.below (hP.drew))).mono ?_;rintro aH ah⟨rfl,S⟩;rw[<-m.e];have hbW:Below wr.heap.size wr ah:=(hP.drew).trans S;clear S));have O:=a_ (e.f.trans (hbW.mono (by omega)));clear hbW
     cases hEE:ad
     case true=>
      have G:=a_ (yO (m.e.symm.trans hEE));clear hEE m;go_wp2;go_roundw
      .refine⟨a+1,by omega,by go_num,a_ ⟨O.e,λf aJ=>?_⟩⟩;by_cases h:f=a
       .rw[h];exact G.e
       .exact e.i f (by omega)
      simp[intOf];omega
     case false=>
      have G:=a_ (t_ (m.e.symm.trans hEE));clear hEE m;go_wp2;go_ret;refine⟨?_,g.f.trans (O.e.mono (by omega))⟩;have:p=false:=by
       rw[o.e];exact ic λh=>G.e (by rw[h.2.2])
      rw[this];rfl
    .have ac:¬(a:Int)<(b:Int):=by omega
     go_wp2_with fail;first|go_quiet (fail)|skip
     all_goals
      go_wp2;go_ret;refine⟨?_,?_⟩
      .have:p=true:=by
        rw[o.e];refine jm ?_;have C:zs=ys:=?_
        .first|exact⟨rfl,rfl,C⟩|exact⟨trivial,trivial,C⟩|exact C
        have aC:=g.m.1;have aO:=g.r;refine sq (by omega) (λf au az=>?_);have:=e.i f (by omega);simpa[List.getD,au,az]using this
       rw[this];rfl
      .first
        |exact g.f.trans (e.f.mono (by omega))
        |exact im (g.f.trans (e.f.mono (by omega))) _
  .have J:p=false:=by rw[o.e];exact ic λh=>V h.2.1
   subst E;rw[J];have ao:((c:Int)!=(d:Int))=true:=by simp;omega
   go_in;go_wp2;go_ret;refine⟨rfl,?_⟩;repeat(first|exact hP|refine iV ?_|refine ia ?_ (by simp<;>omega) _)
 .have J:p=false:=by rw[o.e];exact ic λh=>E h.1
  rw[J];have ao:((r:Int)!=(q:Int))=true:=by simp;omega
  go_in;go_wp2;go_ret;refine⟨rfl,?_⟩;repeat(first|exact hP|refine iV ?_|refine ia ?_ (by simp<;>omega) _)
theorem lr.JS{B:Nat}{w:World}(L:Nat)(a:B<=w.heap.size):lr B (w.alloc (.cells #[] 79)) (.slice (some ⟨w.heap.size,0,none⟩) 0 0) 0 [] L:=by
 have:=uS (base:=B) (e:=79) (size:=2) w #[] 0 a (by simp[maxLen]) rfl;exact⟨rfl,_,by simpa using this,λc b=>by omega⟩
theorem AR{v u:Value}{r q c:Nat}{zs ys:List Int}{L:Nat}{w:World}(aX:i_ w v r c zs L)(aU:i_ w u q c ys L)(aC:r+q<=99):Calls Tryz.prog 232 #[v,u] w λi y=>∃V,i=.returned (.agg #[.int .i64 ((r+q:Nat):Int),.int .i64 c,.slice (some ⟨V,0,none⟩) ((r+q)*c) ((r+q)*c)])/\w.heap.size<=V/\iA y (.slice (some ⟨V,0,none⟩) ((r+q)*c) ((r+q)*c)) ((r+q)*c) (zs++ys) L/\Below w.heap.size w y:=by
 obtain⟨a3,N,bm,rfl,X⟩:=aX;obtain⟨bb,-,bz,rfl,W⟩:=aU;obtain⟨P,ad,rfl,a9,bv,-⟩:=X.shape;obtain⟨ai,ae,rfl,a8,bw,-⟩:=W.shape;have M:=b_ X W;clear X W;obtain⟨d,J⟩:=hQ (r*c);obtain⟨f,H⟩:=hQ (q*c);have bu:d<=9801:=by rw[J];exact jR a3 N
 have bn:f<=9801:=by rw[H];exact jR bb N
 have br:d+f<=9801:=by rw[J,H,<-jV];exact jR aC N
 rw[<-J]at M a9|-;rw[<-H]at M a8|-;have aG:=b_ J H;clear J H;go_in;go_wp2_with fail;obtain⟨b,o⟩:=hQ (((w.alloc (.cells #[.int .i64 r,.int .i64 c,.slice P d ad] 66)).alloc (.cells #[.int .i64 q,.int .i64 c,.slice ai f ae] 66)).alloc (.cells #[.int .i64 0,.int .i64 0,.slice none 0 0] 66));have aQ:b.heap.size=w.heap.size+3:=by rw[o];simp
 have K:Below w.heap.size w b:=by rw[o];repeat(first|exact hP|refine ia ?_ (by simp<;>omega) _)
 have aH:jk b w.heap.size (.int .i64 r) (.int .i64 c) (.slice P d ad):=by
  rw[o];exact⟨iL (iL (fa _ _ _ _ _ (by simp) rfl) _) _,iL (iL (fa _ _ _ _ _ (by simp) rfl) _) _,iL (iL (fa _ _ _ _ _ (by simp) rfl) _) _⟩
 have aD:jk b (w.heap.size+1) (.int .i64 q) (.int .i64 c) (.slice ai f ae):=by
  rw[o];exact⟨iL (fa _ _ _ _ _ (by simp) rfl) _,iL (fa _ _ _ _ _ (by simp) rfl) _,iL (fa _ _ _ _ _ (by simp) rfl) _⟩
 have aI:b.heap[w.heap.size+2]?=some (.cells #[.int .i64 0,.int .i64 0,.slice none 0 0] 66 (0,0)):=by
  rw[o];have:=iP ((w.alloc (.cells #[.int .i64 r,.int .i64 c,.slice P d ad] 66)).alloc (.cells #[.int .i64 q,.int .i64 c,.slice ai f ae] 66)) (.cells #[.int .i64 0,.int .i64 0,.slice none 0 0] 66);simpa using this
 have am:=@lr.JS b.heap.size b L c_;have au:=hU b (.cells #[] 79);have e:=vD K aH aD aI (M.f.below K) (M.i.below K) am au;rw[<-o];have ay:w.heap.size+1+1+1=b.heap.size:=by omega
 rw[ay];have bi:w.heap.size+3<=b.heap.size:=by omega
 have bB:b.heap.size<=w.heap.size+3:=by omega
 clear K aH aD aI o am au ay aQ;go_loopw [5,6] (λU m wr=>∃a:Nat,a<=d/\m=.int .i64 a/\f_ (∃l j,U=.slice l a j/\lr b.heap.size wr (.slice l a j) a (zs.take a) L/\Below b.heap.size b wr)) (λ_ m _=>d-(intOf m).toNat)
 case atStart=>exact⟨0,hR,rfl,a_ ⟨_,_,rfl,by simpa using e.A,e.E⟩⟩
 case round=>
  obtain⟨a,bt,rfl,an⟩:=hrel;obtain⟨l,j,rfl,D,z⟩:=an.e;have s:=b_ D z;clear D z an;obtain⟨-,-,av⟩:=e.g.later s.i;have aR:=s.i.size;by_cases a1:a<d
  .have aO:(a:Int)<(d:Int):=by omega
   obtain⟨bj,ao,aq,aE,aM,rfl,a0,aP,aJ⟩:=(e.r.below s.i).KL a a1;have R:zs.length=d:=e.r.1;have n:=hU wr (.cells #[.bool ao,.slice aq aE aM] 79);have G:=hO (aJ.below n) n R;clear aJ n R;go_wp2_with (at_builtin;refine @mu _ _ _ _ _ _ rfl (.tmp 16) (.tmp 22) rfl b.heap.size _ a (zs.take a) L rfl ?_ ⟨_,0,none⟩ rfl (.bool ao) (.slice aq aE aM) (zs.getD a 0) ?_ ?_ rfl rfl ?_ (by omega) ?_ ?_)
   .exact s.f.hV (KT.I G.g)
   .simp[Addr.add]
   .simp[Addr.add]
   .exact G.f
   .simp;omega
   intro a6 y p F;have B:=s.f.lt;obtain⟨S,Q,Z,-⟩:=p.kA.shape;subst Z;have C:Below b.heap.size b y:=(s.i.trans (G.g.mono aR)).grown F (by simp;omega) (λT ah=>(B T ah).1);have E:=b_ p C;clear p F B C;go_wp2;go_roundw
   .refine⟨a+1,by omega,by go_num,a_ ⟨S,Q,rfl,?_,E.i⟩⟩;have i:zs.take (a+1)=zs.take a++[zs.getD a 0]:=by
     rw[oW (by have:=G.l;omega)];simp[List.getD,show a<zs.length from by have:=G.l;omega]
    rw[i];exact E.f
   simp[intOf];omega
  .have aO:¬(a:Int)<(d:Int):=by omega
   have ap:a=d:=by omega
   have aW:=a_ ap;clear ap;go_wp2_with fail;have aj:f_ (lr b.heap.size wr (.slice l d j) d zs L/\Below b.heap.size b wr/\a=d):=a_ (by
    have x:=s.e;have i:=aW.e;have R:zs.length=d:=e.r.1;rw[i,ka (by omega)]at x;exact⟨x.1,x.2,i⟩)
   rw[aj.l];clear av;rename World=>bh;go_loopw [5,7] (λU m wr=>∃a:Nat,a<=f/\m=.int .i64 a/\f_ (∃l j,U=.slice l (d+a) j/\lr b.heap.size wr (.slice l (d+a) j) (d+a) (zs++ys.take a) L/\Below b.heap.size b wr)) (λ_ m _=>f-(intOf m).toNat)
   case atStart=>exact⟨0,hR,rfl,a_ ⟨l,j,rfl,by simpa using aj.f,aj.g⟩⟩
   case round=>
    rename World=>wr;obtain⟨g,bA,rfl,ar⟩:=hrel;obtain⟨aZ,be,rfl,D,z⟩:=ar.e;have h:=b_ D z;clear D z ar;obtain⟨-,-,av⟩:=e.j.later h.i;have aT:=h.i.size;by_cases bc:g<f
    .have aS:(g:Int)<(f:Int):=by omega
     obtain⟨bf,aw,aB,az,aL,rfl,a0,aP,aK⟩:=(e.y.below h.i).KL g bc;have al:ys.length=f:=e.y.1;have n:=hU wr (.cells #[.bool aw,.slice aB az aL] 79);have A:=hO (aK.below n) n al;clear aK n al;go_wp2_with (at_builtin;refine @mu _ _ _ _ _ _ rfl (.tmp 31) (.tmp 37) rfl b.heap.size _ (d+g) (zs++ys.take g) L rfl ?_ ⟨_,0,none⟩ rfl (.bool aw) (.slice aB az aL) (ys.getD g 0) ?_ ?_ rfl rfl ?_ (by omega) ?_ ?_)
     .exact h.f.hV (KT.I A.g)
     .simp[Addr.add]
     .simp[Addr.add]
     .exact A.f
     .simp;omega
     intro a6 y p F;have B:=h.f.lt;obtain⟨S,Q,Z,-⟩:=p.kA.shape;subst Z;have C:Below b.heap.size b y:=(h.i.trans (A.g.mono aT)).grown F (by simp;omega) (λT ah=>(B T ah).1);have E:=b_ p C;clear p F B C;go_wp2;go_roundw
     .refine⟨g+1,by omega,by go_num,a_ ⟨S,Q,rfl,?_,E.i⟩⟩;have i:zs++ys.take (g+1)=zs++(ys.take g++[ys[g]?.getD 0]):=by
       rw[oW (by have:=A.l;omega)];simp[show g<ys.length from by have:=A.l;omega]
      rw[i,<-zz];exact E.f
     simp[intOf];omega
    .have aS:¬(g:Int)<(f:Int):=by omega
     have a5:f_ (g=f):=a_ (by omega);obtain⟨bq,bg,-⟩:=e.g.later h.i;obtain⟨bp,bo,-⟩:=e.j.later h.i;go_wp2_with fail;have ak:iA wr (.slice aZ (d+g) be) ((r+q)*c) (zs++ys) L/\((r:Int)+(q:Int))=((r+q:Nat):Int):=by
      have x:=h.f.kA;have i:=a5.e;have al:ys.length=f:=e.y.1;rw[i,ka (by omega)]at x;rw[i,show(r+q)*c=d+f from by rw[aG.f,aG.i,jV]];exact⟨x,by omega⟩
     rw[ak.2];go_fit (@mF (r+q) c _ (zs++ys) L _ aC N ak.1);rintro bs k⟨Y,rfl,bx,aF,aa⟩;have t:k.heap[w.heap.size+2]?=some (.cells #[.int .i64 0,.int .i64 0,.slice none 0 0] 66 (0,0)):=((aa.block _ (by omega)).trans (h.i.block _ (by omega))).trans e.m;have bd:k.cell? ⟨w.heap.size+1+1,0,none⟩=some (.int .i64 0):=by simp[World.cell?,t]
     have aV:k.cell? ⟨w.heap.size+1+1,1,none⟩=some (.int .i64 0):=by simp[World.cell?,t]
     have aY:k.cell? ⟨w.heap.size+1+1,2,none⟩=some (.slice none 0 0):=by simp[World.cell?,t]
     have bk:∀aA,k.frozen? ⟨w.heap.size+1+1,aA,none⟩=false:=λaA=>by simp[World.frozen?,t]
     have ab:f_ (Ty k (w.heap.size+1+1) 66):=a_ ⟨_,_,t⟩;have ax:=(e.f.trans (h.i.mono (by omega))).trans (aa.mono (by omega));have bl:w.heap.size+1+1<Y:=by omega
     have af:=b_ aF ax;clear aF t ax aa ak;obtain⟨aN,ag⟩:=hQ ((r+q)*c);rw[<-ag]at af|-;have a4:=a_ ag;clear ag;go_wp2_with fail;refine ig (v:=.agg #[.int .i64 ((r:Int)+(q:Int)),.int .i64 c,.slice (some ⟨Y,0,none⟩) aN aN]) ?_ rfl ?_
     ·(simp[results,Tryz.results232,go_sem,bd,aV,aY];done)
     .have a7:∀I O ac:Value,KT k (((k.setCell ⟨w.heap.size+1+1,0,none⟩ I).setCell ⟨w.heap.size+1+1,1,none⟩ O).setCell ⟨w.heap.size+1+1,2,none⟩ ac):=λI O ac=>KT.setCell (KT.setCell (KT.setCell (KT.refl _) ab.e (by decide) (by decide) I) (ab.e.setCell ⟨w.heap.size+1+1,0,none⟩ I) (by decide) (by decide) O) ((ab.e.setCell ⟨w.heap.size+1+1,0,none⟩ I).setCell ⟨w.heap.size+1+1,1,none⟩ O) (by decide) (by decide) ac;have ba:((r:Int)+(q:Int))=((r+q:Nat):Int):=by omega
      rw[ba];have a2:=a4.e;subst a2;refine⟨Y,rfl,by omega,af.f.hV (a7 _ _ _),((af.i.setCell (by simp;omega) _).setCell (by simp;omega) _).setCell (by simp;omega) _⟩
theorem C0.uniq{f:Nat->Int}{n:Nat}{z z':Int}(h:C0 f n z)(j:C0 f n z'):z=z':=by
 rcases h with⟨d,l,rfl,g,k⟩|⟨rfl,c⟩
 .rcases j with⟨a,e,rfl,b,i⟩|⟨rfl,c⟩
  .rcases mY d a with h|h|h
   .exact absurd (i d h) g
   .rw[h]
   .exact absurd (k a h) b
  .exact absurd (c d l) g
 .rcases j with⟨a,e,rfl,b,i⟩|⟨rfl,-⟩
  .exact absurd (c a e) b
  .rfl
def Aj(b:Nat->Nat->Int)(pc:Nat->Nat)(v:Nat->Int)(r k:Nat):List Int:=(List.range r).map λa=>if a<k then GR b pc v a else 0
def lx(L:Nat):Nat->Nat
 |0=>L
 |a+1=>2*lx L a+2
theorem yM(L:Nat){s t:Nat}(h:s<=t):lx L s<=lx L t:=by
 induction t with
 |zero=>rw[show s=0 from by omega];exact c_
 |succ t b=>
  by_cases a:s=t+1
  .rw[a];exact c_
  .have:=b (by omega);rw[lx];omega
theorem oM{v u:Value}{r c k:Nat}{pc:Nat->Nat}{vs:List Int}{L:Nat}{w:World}(dc:Gs w v r c k e f g L)(bE:i_ w u 1 c vs L)(cj:iJ r c k pc (e_ c e))(dz:r<=8)(dm:L<=200000):Calls Tryz.prog 231 #[v,u] w λO b=>∃(cf bV:Int) (bU:Option Addr) (bW cw:Nat) (bz:Bool),O=.returned (.tuple #[.agg #[.int .i64 cf,.int .i64 bV,.slice bU bW cw],.bool bz])/\(bz=true->i_ b (.agg #[.int .i64 cf,.int .i64 bV,.slice bU bW cw]) 1 r (kL 1 r r (Aj (e_ c e) pc (e_ c vs 0) r k) f) (2*lx L k+20))/\(bz=true↔∀d,d<c->wB (e_ c e) pc (e_ c vs 0) k d=0)/\Below w.heap.size w b:=by
 obtain⟨dg,dH,dw,rfl,aY,bs,cp⟩:=dc;obtain⟨V,T,rfl⟩:=aY.slice;obtain⟨Q,M,rfl⟩:=bs.slice;obtain⟨aa,ai,rfl⟩:=cp.slice;obtain⟨-,cJ,dF,rfl,ch⟩:=id bE;obtain⟨aM,aS,rfl,-⟩:=ch.shape;have cz:=aY.1;have A:=hY aY bs bE cj;clear aY bs cp bE ch cj;have df:f_ (i_ w (.agg #[.int .i64 1,.int .i64 c,.slice aM c aS]) 1 c vs L):=a_ (by have:=A.j;rw[j7]at this;exact this);go_in;go_wp2_with fail;obtain⟨t,av⟩:=hQ (((w.alloc (.cells #[.int .i64 r,.int .i64 c,.slice V (r*c) T,.int .i64 r,.int .i64 r,.slice Q (r*r) M,.int .i64 r,.int .i64 r,.slice aa (r*r) ai,.int .i64 k] 74)).alloc (.cells #[.int .i64 1,.int .i64 c,.slice aM c aS] 66)).alloc (.cells #[.int .i64 0,.int .i64 0,.slice none 0 0] 66));have di:t.heap.size=w.heap.size+1+1+1:=by rw[av];simp
 have bN:Below w.heap.size w t:=by rw[av];repeat(first|exact hP|refine ia ?_ (by simp<;>omega) _)
 have cx:t.heap[w.heap.size]?=some (.cells #[.int .i64 r,.int .i64 c,.slice V (r*c) T,.int .i64 r,.int .i64 r,.slice Q (r*r) M,.int .i64 r,.int .i64 r,.slice aa (r*r) ai,.int .i64 k] 74 (0,0)):=by
  rw[av];have n:=iP w (.cells #[.int .i64 r,.int .i64 c,.slice V (r*c) T,.int .i64 r,.int .i64 r,.slice Q (r*r) M,.int .i64 r,.int .i64 r,.slice aa (r*r) ai,.int .i64 k] 74);have Y:=((kQ (w.alloc (.cells #[.int .i64 r,.int .i64 c,.slice V (r*c) T,.int .i64 r,.int .i64 r,.slice Q (r*r) M,.int .i64 r,.int .i64 r,.slice aa (r*r) ai,.int .i64 k] 74)).heap.size _).alloc c_ (.cells #[.int .i64 1,.int .i64 c,.slice aM c aS] 66)).alloc (by simp) (.cells #[.int .i64 0,.int .i64 0,.slice none 0 0] 66);rw[Y.block w.heap.size (by simp)];exact n
 have ac:=hO bN cx av;rw[<-av];clear bN cx av;go_fit (@AR _ _ r 1 c e vs L _ (A.f.below ac.f) (df.e.below ac.f) (by omega));rintro O j⟨x,rfl,cN,a5,aR⟩;have da:=aR.size;have dl:=a5.ty.lt;obtain⟨F,aw⟩:=hQ ((r+1)*c);rw[<-aw]at a5|-;have be:j.heap[w.heap.size]?=some (.cells #[.int .i64 r,.int .i64 c,.slice V (r*c) T,.int .i64 r,.int .i64 r,.slice Q (r*r) M,.int .i64 r,.int .i64 r,.slice aa (r*r) ai,.int .i64 k] 74 (0,0)):=(aR.block _ (by omega)).trans ac.g;have ay:=hY a5 aR be aw;have bT:∀m bv,(#[Value.int .i64 r,.int .i64 c,.slice V (r*c) T,.int .i64 r,.int .i64 r,.slice Q (r*r) M,.int .i64 r,.int .i64 r,.slice aa (r*r) ai,.int .i64 k])[m]?=some bv->j.cell? ⟨w.heap.size,m,none⟩=some bv:=λm bv J=>by simpa[World.cell?,be]using J
 have af:=iL (bT 0 _ rfl);clear a5 aR be aw bT;go_wp2_with fail;have bf:=hU j (.cells #[.int .i64 ((r:Int)+1),.int .i64 c,.slice (some ⟨x,0,none⟩) F F] 66);obtain⟨bM,aQ⟩:=hQ (j.alloc (.cells #[.int .i64 ((r:Int)+1),.int .i64 c,.slice (some ⟨x,0,none⟩) F F] 66));rw[<-aQ]at bf|-;have dn:bM.heap.size=j.heap.size+1:=by rw[aQ];simp
 have b5:bM.heap[j.heap.size]?=some (.cells #[.int .i64 ((r:Int)+1),.int .i64 c,.slice (some ⟨x,0,none⟩) F F] 66 (0,0)):=by rw[aQ];exact iP j _
 have b2:=b_ bf b5;clear bf b5 aQ af;go_fit (@kh 1 r _ (by omega) cz);rintro O I⟨an,rfl,dq,a6,bu⟩;rw[j7]at a6|-;have dB:=bu.size;have dk:=a6.ty.lt;have bk:=b_ a6 bu;clear a6 bu;go_wp2_with fail;have cK:∃G,G=I.alloc (.cells #[.int .i64 1,.int .i64 r,.slice (some ⟨an,0,none⟩) r r] 66):=⟨_,rfl⟩;obtain⟨G,ar⟩:=cK;have a7:Below I.heap.size I G:=by rw[ar];exact hS
 have dI:G.heap.size=I.heap.size+1:=by rw[ar];simp
 have aO:G.heap[I.heap.size]?=some (.cells #[.int .i64 1,.int .i64 r,.slice (some ⟨an,0,none⟩) r r] 66 (0,0)):=by rw[ar];exact iP I _
 have aT:Below j.heap.size j G:=(b2.f.trans (bk.i.mono (by omega))).trans (a7.mono (by omega));have cs:Below t.heap.size t G:=ay.g.trans (aT.mono da);have aE:iT G j.heap.size 0 x (r+1) c (e++vs) L:=by
  have bj:G.heap[j.heap.size]?=some (.cells #[.int .i64 ((r:Int)+1),.int .i64 c,.slice (some ⟨x,0,none⟩) F F] 66 (0,0)):=((a7.block _ (by omega)).trans (bk.i.block _ (by omega))).trans b2.i;have aw:=ay.o;have aW:((r+1:Nat):Int)=(r:Int)+1:=by omega
  refine⟨by omega,cJ,⟨?_,?_,?_⟩,?_⟩
  .rw[aW];simp[World.cell?,bj]
  .simp[World.cell?,bj]
  .rw[<-aw];simp[World.cell?,bj]
  .rw[<-aw];exact ay.f.below aT
 have aF:iT G I.heap.size 0 an 1 r (List.replicate r 0) (lx L k+1):=by
  refine⟨by omega,cz,⟨?_,?_,?_⟩,?_⟩
  .simp[World.cell?,aO]
  .simp[World.cell?,aO]
  .rw[j7];simp[World.cell?,aO]
  .rw[j7];exact(bk.f.below a7).mono hR
 have c5:=iu aE aF cs aT ar;rw[<-ar];clear a7 aO aT cs aE aF ar;obtain⟨ap,b9⟩:=hQ (e_ c e);obtain⟨aA,ci⟩:=hQ (e_ c vs 0);have R:=b_ b9 ci;clear b9 ci;have dp:k<=r:=A.o.le;have bP:f_ (lx L k<=100000000):=a_ (by
  have n:=yM L (show k<=8 by omega);have Y:lx L 8=256*(L+2)-2:=by simp only[lx];omega
  omega)
 have bn:f_ (∀b,Below t.heap.size t b->b.cell? ⟨w.heap.size,0,none⟩=some (.int .i64 r)/\b.cell? ⟨w.heap.size,1,none⟩=some (.int .i64 c)/\b.cell? ⟨w.heap.size,2,none⟩=some (.slice V (r*c) T)/\b.cell? ⟨w.heap.size,3,none⟩=some (.int .i64 r)/\b.cell? ⟨w.heap.size,4,none⟩=some (.int .i64 r)/\b.cell? ⟨w.heap.size,5,none⟩=some (.slice Q (r*r) M)/\b.cell? ⟨w.heap.size,9,none⟩=some (.int .i64 k)):=a_ (λb ak=>by
  have cI:=(ak.block w.heap.size (by omega)).trans ac.g;refine⟨?_,?_,?_,?_,?_,?_,?_⟩<;>simp[World.cell?,cI])
 go_loopw [9] (λm wr=>∃(a:Nat) (o H:List Int),a<=k/\m=.int .i64 a/\f_ (iT wr j.heap.size 0 x (r+1) c o (lx L a)/\iT wr I.heap.size 0 an 1 r H (lx L k+1)/\Below t.heap.size t wr/\(∀m d,m<r->d<c->e_ c o m d=ap m d)/\(∀d,d<c->e_ c o r d=wB ap pc aA a d)/\∀s,s<r->e_ r H 0 s=if s<a then GR ap pc aA s else 0)) (λm _=>k-(intOf m).toNat)
 case atStart=>
  obtain⟨c4,cT,bB,-⟩:=c5.e;have bi:e.length=r*c:=by obtain⟨_,_,_,_,cF⟩:=A.f;exact cF.1
  refine⟨0,e++vs,List.replicate r 0,hR,rfl,a_ ⟨c4,cT,bB,λm d bC q=>?_,λd q=>?_,λs al=>?_⟩⟩
  .rw[R.f];unfold e_;have:m*c+d<e.length:=by rw[bi];exact jq bC q
   simp[List.getD,lQ this]
  .rw[R.i,wB];unfold e_;rw[List.getD,uP (by rw[bi];omega),bi];simp[List.getD]
  .unfold e_;simp[List.getD,al]
 case round=>
  obtain⟨a,o,H,dA,rfl,l⟩:=hrel;obtain⟨af,ag,ad,am,Z,ae,aJ⟩:=bn.e wr l.j;have bd:=l.j.size;have ds:=l.f.vf;have dE:=l.g.vf;by_cases aV:a<k
  .have cB:(a:Int)<(k:Int):=by omega
   go_wp2_with fail;have bl:Below w.heap.size w wr:=ac.f.trans (l.j.mono (by omega));go_fit (@qq _ r c a e L _ (A.f.below bl) (by omega));rintro O D⟨bp,rfl,aD,E⟩;have dd:bp=(pc a:Nat):=aD.uniq (.inl ⟨pc a,A.o.lY a aV,rfl,by have:=A.o.zr a aV;show e_ c e a (pc a)≠0;omega,λd q=>A.o.left a aV d q⟩);subst dd;have aP:pc a<c:=A.o.lY a aV;have ah:=l.j.trans (E.mono bd);have y:=hO E ah bl;have cr:=E.size;clear aD E ah bl af ag ad am Z ae aJ;obtain⟨af,ag,ad,am,Z,ae,aJ⟩:=bn.e D y.g;go_wp2_with fail;go_fit (@jy _ r c a (pc a) e L _ ((A.f.below y.l).below y.f) (by omega) aP);rintro O i⟨bI,rfl,bq,U⟩;obtain⟨aU,a0,aZ,a4,rfl⟩:=bq.shape;have c0:=U.size;have ba:=y.f.trans (U.mono cr);have aE:=l.f.later ba;obtain⟨S,b0⟩:=hQ ((r+1)*c);have z:=hY bq ba aE b0;clear bq U ba aE b0;obtain⟨h,aG⟩:=hQ (i.alloc (.cells #[.bool aU,.slice a0 aZ a4] 79));have aC:Below i.heap.size i h:=by rw[aG];exact hS
   have bQ:h.heap.size=i.heap.size+1:=by rw[aG];simp
   have X:iw h i.heap.size (.bool aU) (.slice a0 aZ a4):=by rw[aG];exact iw.new _ _ _ rfl
   have ct:i_ h (.agg #[.int .i64 ((r:Int)+1),.int .i64 c,.slice (some ⟨x,0,none⟩) S S]) (r+1) c o (lx L a):=by
    have:=(z.j.later aC).sv;rw[<-z.o]at this;exact this
   have aK:h.cell? ⟨j.heap.size,0,none⟩=some (.int .i64 ((r:Int)+1))/\h.cell? ⟨j.heap.size,1,none⟩=some (.int .i64 c)/\h.cell? ⟨j.heap.size,2,none⟩=some (.slice (some ⟨x,0,none⟩) S S):=by
    obtain⟨aX,bJ,aH⟩:=(z.j.later aC).lX;rw[<-z.o]at aH;exact⟨aX,bJ,aH⟩
   have cq:=z.f.below aC;have aj:=ju ct aK cq X aC aG;have cZ:=a_ (show∀b,Below h.heap.size h b->b.cell? ⟨j.heap.size,0,none⟩=some (.int .i64 ((r:Int)+1))/\b.cell? ⟨j.heap.size,1,none⟩=some (.int .i64 c)/\b.cell? ⟨j.heap.size,2,none⟩=some (.slice (some ⟨x,0,none⟩) S S)/\b.cell? ⟨i.heap.size,0,none⟩=some (.bool aU)/\b.cell? ⟨i.heap.size,1,none⟩=some (.slice a0 aZ a4)from λb ak=>⟨g_ ak aK.1,g_ ak aK.2.1,g_ ak aK.2.2,g_ ak X.cells.1,g_ ak X.cells.2.1⟩);obtain⟨cM,cD,cQ⟩:=aK;obtain⟨c3,c7,-,-⟩:=X.cells;have dG:lx L a<=lx L k:=yM L (by omega);have cO:lx L k<=100000000:=bP.e;have c9:=a_ bQ;have dj:i.heap.size<h.heap.size:=by omega
   clear ct cq X aC af ag ad am Z ae aJ bQ;go_wp2_with fail;rw[<-aj.z];clear aG;go_cut [12]from 39 to 45 (λcS cE=>px h ((o.getD (r*c+pc a) 0).fdiv (e.getD (a*c+pc a) 0)) (lx L a+1) cS cE)
   case first=>
    go_region_held3 (λb=>b.cell? ⟨j.heap.size,0,none⟩=some (.int .i64 ((r:Int)+1))/\b.cell? ⟨j.heap.size,1,none⟩=some (.int .i64 c)/\b.cell? ⟨j.heap.size,2,none⟩=some (.slice (some ⟨x,0,none⟩) S S)/\b.cell? ⟨i.heap.size,0,none⟩=some (.bool aU)/\b.cell? ⟨i.heap.size,1,none⟩=some (.slice a0 aZ a4)) (exact cZ.e _ (by first|exact hbW6|exact hbW6.alloc hbW6.size _|exact(hbW6.setCell c_ _).setCell c_ _|exact(hbW6.setCell hw5s _).setCell hw5s _|exact hbW5|exact hbW5.alloc hbW5.size _|exact hP.drew|exact(hS).drew)) (first
      |(go_at_call 64;refine(@jy _ (r+1) c r (pc a) o (lx L a) _ (aj.f.below (hP.drew)) (by omega) aP).mono ?_;rintro a1 N⟨bF,rfl,ao,aq⟩;obtain⟨cX,cW,db,c1,rfl⟩:=ao.shape;have hbW5:Below h.heap.size h N:=(hP.drew).trans aq;clear aq)
      |(go_at_call 64;refine(@jy _ (r+1) c r (pc a) o (lx L a) _ (aj.f.below ((hS).drew)) (by omega) aP).mono ?_;rintro a1 N⟨bF,rfl,ao,aq⟩;obtain⟨cX,cW,db,c1,rfl⟩:=ao.shape;have hbW5:Below h.heap.size h N:=((hS).drew).trans (aq.mono (by simp));have X:iw N h.heap.size (.bool false) (.slice none 0 0):=iw.below (iw.drew (iw.jg h)) aq (by simp);clear aq)
      |(go_at_call 135;refine(@nQ _ _ (o.getD (r*c+pc a) 0) (e.getD (a*c+pc a) 0) (lx L a) L _ ao (aj.j.below hbW5) (by omega) (by omega)).mono ?_;rintro a1 C⟨ck,rfl,W,p⟩;obtain⟨a3,aN,a2,a8,rfl⟩:=W.shape;have hbW6:Below h.heap.size h C:=d_ hbW5 p;have B:iw C h.heap.size (.bool false) (.slice none 0 0):=X.below p (jt.1 X).1;have cG:=B.cells;clear p)
      |(go_at_call 135;refine(@nQ _ _ (o.getD (r*c+pc a) 0) (e.getD (a*c+pc a) 0) (lx L a) L _ ao (aj.j.below hbW5) (by omega) (by omega)).mono ?_;rintro a1 C⟨ck,rfl,W,p⟩;obtain⟨a3,aN,a2,a8,rfl⟩:=W.shape;have hbW6:Below h.heap.size h C:=d_ hbW5 p;clear p)
      |(go_at_call 135;refine(@nQ _ _ (o.getD (r*c+pc a) 0) (e.getD (a*c+pc a) 0) (lx L a) L _ (ao.below (hU N _)) ((aj.j.below hbW5).below (hU N _)) (by omega) (by omega)).mono ?_;rintro a1 C⟨ck,rfl,W,p⟩;obtain⟨a3,aN,a2,a8,rfl⟩:=W.shape;have hbW6:Below h.heap.size h C:=hbW5.trans (((hU N _).trans (p.mono (by simp))).mono hbW5.size);have hw5s:=hbW5.size;have B:iw C N.heap.size (.bool false) (.slice none 0 0):=iw.below (iw.jg N) p (by simp);have cG:=B.cells;clear p))
    all_goals
     go_wp2_with fail;go_meet
     case rel=>
      first
       |exact⟨_,_,_,_,_,rfl,hbW6.size,iw.new _ _ _ rfl,W.below hS,hbW6.alloc hbW6.size _⟩
       |exact⟨_,_,_,_,_,rfl,c_,B.put _ _,W.s_ B _ _,(hbW6.setCell c_ _).setCell c_ _⟩
       |exact⟨_,_,_,_,_,rfl,hw5s,B.put _ _,W.s_ B _ _,(hbW6.setCell hw5s _).setCell hw5s _⟩
   case rest=>
    rename World=>C;obtain⟨cg,a3,aN,a2,a8,rfl,dC,B,b8,p⟩:=hcut;have cn:Below i.heap.size i C:=aj.r.trans (p.mono (by have:=c9.e;omega));have b3:Below wr.heap.size wr C:=z.g.trans (cn.mono (by omega));obtain⟨cc,bO,-,-⟩:=B.cells;have dy:=p.size;have P:=hO b8 b3 B;clear b8 p cn b3 B cM cD cQ c3 c7;go_wp2_with fail;go_fit (@lK j.heap.size 0 x (r+1) c r a o (lx L a) (lx L a+1) _ _ _ (l.f.later P.g) P.f (by omega) (by omega) (by omega) (by omega) (by omega) (by omega));rintro O bG⟨rfl,⟨c6,cu,cb⟩,au⟩;have dt:=au.size;have bt:KU C bG:=KU.N au (l.f.later P.g).kA.ty (by decide);have b4:=(l.g.later P.g).other au bt (by omega) (by omega);have bZ:iw bG cg (.bool a3) (.slice aN a2 a8):=by
     unfold iw;rw[au.block cg (jt.1 P.l).1 (by simp;omega)];exact P.l
    have cm:=(P.f.hV bt).mono (show lx L a+1<=lx L k+1 by omega);have b1:Below t.heap.size t bG:=(l.j.trans (P.g.mono bd)).trans (iG au cN (by have:=P.g.size;omega));obtain⟨cc,bO,-,-⟩:=bZ.cells;have az:=iu cu cb b4 cm b1;clear cu cb au bt b4 bZ cm b1;go_wp2_with fail;go_fit (@oQ I.heap.size 0 an 1 r 0 a H (lx L k+1) _ _ _ az.j (by omega) az.m (by omega) (by omega));rintro O cY⟨rfl,ax,bx,bR⟩;have b6:=az.f.other bx bR (by omega) (by omega);have cy:Below t.heap.size t cY:=az.x.trans (iG bx (by omega) (by omega));have bD:=hO ax b6 cy;clear ax bx bR b6 cy cc bO;go_wp2;go_roundw
    .obtain⟨ab,bg,dv,bY,cd,c8⟩:=l.e;have bX:(o.getD (r*c+pc a) 0).fdiv (e.getD (a*c+pc a) 0)=GR ap pc aA a:=by
      have n:=cd (pc a) aP;unfold e_ at n;rw[n,R.f];rfl
     have bh:=az.g;rw[bX]at bh;have ax:=bD.f;rw[bX]at ax;refine⟨a+1,c6,_,by omega,by go_num,a_ ⟨bD.g.mono (by rw[lx];omega),ax,bD.l,λm d bC q=>?_,λd q=>?_,λs al=>?_⟩⟩
     .rw[bh m d (by omega) q,if_neg (by omega)];exact bY m d bC q
     .rw[bh r d (by omega) q,if_pos rfl,cd d q,bY a d (by omega) q,wB];rfl
     .rw[kN H 1 r bg.len 0 a 0 s _ (by omega) (by omega) al];by_cases bc:s=a
      .rw[if_pos ⟨rfl,bc⟩,if_pos (by omega),bc]
      .rw[if_neg (λJ=>bc J.2),c8 s al];by_cases Y:s<a
       .rw[if_pos Y,if_pos (by omega)]
       .rw[if_neg Y,if_neg (by omega)]
    simp[intOf];omega
  .have cB:¬(a:Int)<(k:Int):=by omega
   have cC:a=k:=by omega
   subst cC;have cv:i_ wr (.agg #[.int .i64 ((r:Int)+1),.int .i64 c,.slice (some ⟨x,0,none⟩) F F]) (r+1) c o (lx L a):=by
    have:=l.f.sv;rw[<-ay.o]at this;exact this
   obtain⟨aX,bJ,aH⟩:=l.f.lX;have aW:((r+1:Nat):Int)=(r:Int)+1:=by omega
   rw[aW]at aX;rw[<-ay.o]at aH;have cR:=a_ cv;clear cv aW;go_wp2_with fail;go_fit (@qq _ (r+1) c r o (lx L a) _ cR.e (by omega));rintro O D⟨bp,rfl,aD,E⟩;have cr:=E.size;have ah:=l.j.trans (E.mono bd);have cl:Below w.heap.size w D:=ac.f.trans (ah.mono (by omega));have y:=hY aD E ah cl;have K:D.heap[w.heap.size+1+1]?=some (.cells #[.int .i64 0,.int .i64 0,.slice none 0 0] 66 (0,0)):=by
    rw[ah.block _ (by omega),ac.l];have:=iP ((w.alloc (.cells #[.int .i64 r,.int .i64 c,.slice V (r*c) T,.int .i64 r,.int .i64 r,.slice Q (r*r) M,.int .i64 r,.int .i64 r,.slice aa (r*r) ai,.int .i64 a] 74)).alloc (.cells #[.int .i64 1,.int .i64 c,.slice aM c aS] 66)) (.cells #[.int .i64 0,.int .i64 0,.slice none 0 0] 66);simpa using this
   have aL:=a_ K;obtain⟨du,dr,c2⟩:=(l.g.later E).lX;rw[j7]at c2;clear aD E ah cl af ag ad am Z ae aJ aX bJ aH K;obtain⟨af,ag,ad,am,Z,ae,aJ⟩:=bn.e D y.j;by_cases dh:0<=bp
   .have bH:D.cell? ⟨w.heap.size+1+1,0,none⟩=some (.int .i64 0):=by simp[World.cell?,aL.e]
    have bm:D.cell? ⟨w.heap.size+1+1,1,none⟩=some (.int .i64 0):=by simp[World.cell?,aL.e]
    have br:D.cell? ⟨w.heap.size+1+1,2,none⟩=some (.slice none 0 0):=by simp[World.cell?,aL.e]
    have cP:∀aB,D.frozen? ⟨w.heap.size+1+1,aB,none⟩=false:=λaB=>by simp[World.frozen?,aL.e]
    go_wp2_with fail;refine ig (v:=.tuple #[.agg #[.int .i64 0,.int .i64 0,.slice none 0 0],.bool false]) ?_ rfl ?_
    ·(simp[results,Tryz.results231,go_sem,bH,bm,br];done)
    .refine⟨_,_,_,_,_,false,rfl,(λJ=>by cases J),⟨(λJ=>by cases J),λJ=>?_⟩,((y.o.setCell (by simp;omega) _).setCell (by simp;omega) _).setCell (by simp;omega) _⟩;exfalso;rcases y.f with⟨m,ab,-,bg,-⟩|⟨ab,-⟩
     .have n:=l.r m ab;rw[R.f,R.i,J m ab]at n;exact bg n
     .omega
   .have aF:i_ D (.agg #[.int .i64 1,.int .i64 r,.slice (some ⟨an,0,none⟩) r r]) 1 r H (lx L a+1):=by
     have:=(l.g.later y.g).sv;rw[j7]at this;exact this
    have bS:i_ D (.agg #[.int .i64 r,.int .i64 r,.slice Q (r*r) M]) r r f (lx L a+1):=(A.g.below y.o).mono (by have:=yM L (AW a);rw[lx]at this;omega);have ce:=b_ aF bS;clear aF bS;have cO:lx L a<=100000000:=bP.e;go_wp2_with fail;go_fit (@mn _ _ 1 r r H f (lx L a+1) _ ce.f ce.i (by omega));rintro O i⟨bI,rfl,⟨cL,bb,b7⟩,U⟩;obtain⟨_,_,dD,rfl,bK⟩:=id bb;obtain⟨ca,bL,rfl,-⟩:=bK.shape;have c0:=U.size;have co:cL=kL 1 r r (Aj ap pc aA r a) f:=by
     have cU:H=Aj ap pc aA r a:=by
      have al:=l.g.len;rw[j7]at al;apply sq (by rw[al];simp[Aj]);intro s n Y;have:=l.z s (by omega);unfold e_ at this;rw[pS,jF]at this;rw[show H[s]=H.getD s 0 from by simp[List.getD,n],this];simp[Aj]
     rw[<-cU];exact zU (by simpa using bK.1) b7
    have K:i.heap[w.heap.size+1+1]?=some (.cells #[.int .i64 0,.int .i64 0,.slice none 0 0] 66 (0,0)):=(U.block _ (by omega)).trans aL.e;have z:=hY bb co (y.o.trans (U.mono (by omega))) K;have bH:i.cell? ⟨w.heap.size+1+1,0,none⟩=some (.int .i64 0):=by simp[World.cell?,K]
    have bm:i.cell? ⟨w.heap.size+1+1,1,none⟩=some (.int .i64 0):=by simp[World.cell?,K]
    have br:i.cell? ⟨w.heap.size+1+1,2,none⟩=some (.slice none 0 0):=by simp[World.cell?,K]
    have cP:∀aB,i.frozen? ⟨w.heap.size+1+1,aB,none⟩=false:=λaB=>by simp[World.frozen?,K]
    clear bb b7 bK co K U;obtain⟨cA,bA⟩:=hQ (1*r);rw[<-bA]at z|-;have dx:=a_ bA;clear bA;go_wp2_with fail;refine ig (v:=.tuple #[.agg #[.int .i64 1,.int .i64 r,.slice ca cA bL],.bool true]) ?_ rfl ?_
    ·(simp[results,Tryz.results231,go_sem,bH,bm,br];done)
    .have bo:Ty i (w.heap.size+1+1) 66:=⟨_,_,z.o⟩;have bB:∀aI a9 bw:Value,KT i (((i.setCell ⟨w.heap.size+1+1,0,none⟩ aI).setCell ⟨w.heap.size+1+1,1,none⟩ a9).setCell ⟨w.heap.size+1+1,2,none⟩ bw):=λaI a9 bw=>KT.setCell (KT.setCell (KT.setCell (KT.refl _) bo (by decide) (by decide) aI) (bo.setCell ⟨w.heap.size+1+1,0,none⟩ aI) (by decide) (by decide) a9) ((bo.setCell ⟨w.heap.size+1+1,0,none⟩ aI).setCell ⟨w.heap.size+1+1,1,none⟩ a9) (by decide) (by decide) bw;refine⟨_,_,_,_,_,true,rfl,λ_=>?_,⟨λ_ d q=>?_,λ_=>rfl⟩,((z.j.setCell (by simp;omega) _).setCell (by simp;omega) _).setCell (by simp;omega) _⟩
     .have n:=z.f;rw[z.g,R.f,R.i]at n;obtain⟨cH,de,cV,bI,bF⟩:=n;have Y:i_ i (.agg #[.int .i64 1,.int .i64 r,.slice ca cA bL]) 1 r (kL 1 r r (Aj (e_ c e) pc (e_ c vs 0) r a) f) (2*lx L a+20):=⟨cH,de,cV,bI,bF.mono (by omega)⟩;obtain⟨ag,ad,am,Z,ae⟩:=Y;exact⟨ag,ad,am,Z,ae.hV (bB _ _ _)⟩
     .rcases y.f with⟨m,-,ab,-⟩|⟨-,ab⟩
      .omega
      .have n:=l.r d q;rw[R.f,R.i]at n;rw[<-n];exact ab d q
theorem Fp{pc:Nat->Nat}(v:Nat->Int){k:Nat}(c:∀b,b<k->pc b=o b):∀a,a<=k->wB A pc v a=wB A o v a:=by
 intro a;induction a with
 |zero=>intro _;rfl
 |succ a d=>
  intro e;funext j;rw[wB,wB,d (by omega),c a (by omega)]
theorem xJ{pc:Nat->Nat}(v:Nat->Int)(r:Nat){k:Nat}(d:∀b,b<k->pc b=o b):Aj A pc v r k=Aj A o v r k:=by
 unfold Aj;refine pN λc _=>?_;by_cases a:c<k
 .rw[if_pos a,if_pos a,GR,GR,Fp v d c (by omega),d c a]
 .rw[if_neg a,if_neg a]
theorem mem_iff{A U W:Nat->Nat->Int}{r c k:Nat}{pc:Nat->Nat}{v:Nat->Int}(h:iJ r c k pc B)(e:jw A B U W r c):(∀a,a<c->wB B pc v k a=0)↔Sp A r c v:=by
 obtain⟨f,l⟩:=nJ h e;have m:=h.le;constructor
 .intro g;have i:Sp B k c v:=⟨_,λa b=>CR g a b⟩;exact i.trans (λd n=>l d (by omega))
 .intro j a b;exact h.Ih (j.trans f) a b
def uF(r c:Nat)(zs vs xs:List Int):Prop:=∃d e b a f,rH r c zs d e b a f/\xs=kL 1 r r (Aj (e_ c b) e (e_ c vs 0) r d) a
theorem uF.uniq{r c:Nat}{zs vs xs ys:List Int}(a:uF r c zs vs xs)(b:uF r c zs vs ys):xs=ys:=by
 obtain⟨l,s,k,m,j,a,rfl⟩:=a;obtain⟨p,t,o,q,u,b,rfl⟩:=b;obtain⟨rfl,h,f,n⟩:=pR.Bh c c_ _ _ _ _ a.run b.run;obtain rfl:=iR a.lh b.lh h;obtain rfl:=iR a.lu b.lu f;rw[xJ (e_ c vs 0) r λg e=>((a.st.D2 b.st (λi d=>Sp.row _ c d) (λi d=>Sp.row _ c d)) g e).2.symm]
end Go.Proofs.YtfjbijpagaipnabGreatDoor
