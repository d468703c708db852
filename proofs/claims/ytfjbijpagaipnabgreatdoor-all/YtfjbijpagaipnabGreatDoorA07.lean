import Derived.Test.YtfjbijpagaipnabGreatDoorA06
import Derived.Deep.CutBlock
set_option maxRecDepth 100000
set_option maxHeartbeats 8000000
namespace Go.Proofs.YtfjbijpagaipnabGreatDoor
open Go.RowKit
variable{i j k l m n p q r s:Nat}{w v W:World}{x y z:Value}{A B F G:Nat->Nat->Int}{a b c d:Int}{e f g:List Int}{X Y:List Nat}{o h:Nat->Nat}
theorem jE.tight{w:World}{v:Value}{z:Int}{L:Nat}(h:jE w v z L)(l:z.natAbs<281474976710656):jE w v z 2:=by
 obtain⟨g,b,e,c,i,j,d⟩:=h;refine⟨g,b,e,c,i,?_,d⟩;rcases iX 2 b.length with a|a
 .exfalso;have k:=oY c (by intro f;rw[f]at a;simp at a);have m:4294967296^2<=4294967296^(b.length-1):=jb (by decide) (by omega);omega
 .exact a
theorem i_.tight{w:World}{v:Value}{r c L:Nat}{zs:List Int}(h:i_ w v r c zs L)(f:hW r c zs):i_ w v r c zs 2:=by
 obtain⟨k,l,q,s,i,m,e,p⟩:=h;refine⟨k,l,q,s,i,m,e,λb a=>?_⟩;obtain⟨n,d,o,g,j⟩:=p b a;exact⟨n,d,o,g,j.tight (f.2.2 b a)⟩
def kL(r q c:Nat)(zs ys:List Int):List Int:=(List.range (r*c)).map λd=>dot (λa b=>zs.getD (a*q+b) 0) (λa b=>ys.getD (a*c+b) 0) (d/c) (d%c) q
theorem x5(r q c:Nat)(zs ys:List Int):(kL r q c zs ys).length=r*c:=by simp[kL]
theorem s6{r q c:Nat}{zs ys:List Int}{i j:Nat}(e:i<r)(a:j<c):(kL r q c zs ys).getD (i*c+j) 0=dot (λi j=>zs.getD (i*q+j) 0) (λi j=>ys.getD (i*c+j) 0) i j q:=by
 have b:(i*c+j)/c=i:=by rw[ij,si (by omega),uO a];omega
 have d:(i*c+j)%c=j:=by rw[ij,ue];exact oO a
 have f:i*c+j<r*c:=jq e a;unfold kL;rw[List.getD,wg,vG f];simp only[Option.map_some,wy,b,d]
theorem zU{r q c:Nat}{zs ys ms:List Int}(e:ms.length=r*c)(h:nZ r q c zs ys ms):ms=kL r q c zs ys:=by
 apply sq (by rw[e,x5]);intro a l m;have f:0<c:=by
  rcases kl c with b|b
  .subst b;rw[l6]at e;omega
  .exact b
 have k:a<r*c:=by omega
 have i:a/c<r:=by rw[ss f];exact k
 have d:=mQ a f;have j:a/c*c+a%c=a:=by rw[ij];exact kY a c
 have g:=h (a/c) (a%c) i d;rw[<-s6 i d,j]at g;simpa[List.getD,iI l,iI m]using g
def ou(ms:List Hm)(nx:Nat)(g h k e:Int)(m:List Hm)(l:Nat):Prop:=
 (((∀a,a<24->∀n,ms.getD a none=some n->(n.1:Int)≠g)\/(∀a,a<24->∀n,ms.getD a none=some n->(n.1:Int)≠h))/\k=-1/\e=2/\m=ms/\l=nx)\/∃a o d b i q p c f j,a<24/\ms.getD a none=some (o,d,b,i)/\((o:Nat):Int)=g/\q<24/\ms.getD q none=some (p,c,f,j)/\((p:Nat):Int)=h/\((b≠c/\k=-1/\e=3/\m=ms/\l=nx)\/(b=c/\¬(hW d b i/\hW c f j)/\k=-1/\e=4/\m=ms/\l=nx)\/(b=c/\(hW d b i/\hW c f j)/\(∀a,a<24->ms.getD a none≠none)/\k=-1/\e=5/\m=ms/\l=nx)\/(b=c/\(hW d b i/\hW c f j)/\k=(nx:Int)/\e=0/\∃r,ke ms r/\m=ms.set r (some (nx,d,f,kL d b f i j))/\l=nx+1))
theorem xv{b:Nat}{g h:Int}{ms:List Hm}{nx:Nat}{w:World}(an:jf w b ms nx)(bc:nx<1000000):Calls Tryz.prog 48 #[.pointer (some ⟨b,0,none⟩),.int .i64 g,.int .i64 h] w λY d=>∃a0 l aR a7,Y=.returned (.tuple #[.int .i64 a0,.int .i64 l])/\ou ms nx g h a0 l aR a7/\jf d b aR a7/\Fr b w d:=by
 have aq:=an.1;have o:=a_ an;clear an;go_in;go_wp2_with fail;go_fit (jS o.e);rintro l n⟨⟨e,i,x,A,B,bw,rfl,a8⟩,ag⟩;have aA:=b_ a8 ag;have bj:=ag.size;clear a8 ag;go_wp2_with fail;have s:Below w.heap.size w (n.alloc (.cells #[.int .i64 e,.int .i64 i,.slice x A B] 66)):=aA.i.alloc bj _;go_fit (jS (o.e.below s));rintro l k⟨⟨f,c,t,u,v,bz,rfl,aS⟩,S⟩;have a2:jk (n.alloc (.cells #[.int .i64 e,.int .i64 i,.slice x A B] 66)) n.heap.size (.int .i64 e) (.int .i64 i) (.slice x A B):=⟨fa _ _ _ _ _ rfl rfl,fa _ _ _ _ _ rfl rfl,fa _ _ _ _ _ rfl rfl⟩;have ad:=hU k (.cells #[.int .i64 f,.int .i64 c,.slice t u v] 66);have aW:=(a2.later S).later ad;have aV:jk (k.alloc (.cells #[.int .i64 f,.int .i64 c,.slice t u v] 66)) k.heap.size (.int .i64 f) (.int .i64 c) (.slice t u v):=⟨fa _ _ _ _ _ rfl rfl,fa _ _ _ _ _ rfl rfl,fa _ _ _ _ _ rfl rfl⟩;have ap:Below w.heap.size w k:=d_ s S;have aC:=((aA.f.below (hP.alloc c_ (.cells #[.int .i64 e,.int .i64 i,.slice x A B] 66))).below S).below ad;have aP:=aS.below ad;have aJ:Below w.heap.size w (k.alloc (.cells #[.int .i64 f,.int .i64 c,.slice t u v] 66)):=ap.alloc ap.size _;have bm:n.heap.size<k.heap.size:=by have:=S.size;simp at this;omega
 have j:=iu aC aP aJ aW aV;clear aS S a2 ad aW aV ap aC aP aJ s;obtain⟨p,af⟩:=hQ (k.alloc (.cells #[.int .i64 f,.int .i64 c,.slice t u v] 66));have Z:=a_ af;rw[<-af]at j;clear af;have bn:p.heap.size=k.heap.size+1:=by rw[Z.e];simp
 rcases id j.f with⟨rfl,P,Q,r,aT,aw,a5,aZ⟩|⟨rfl,M⟩
 .rcases id j.g with⟨rfl,E,G,q,aF,a1,a4,aB⟩|⟨rfl,M⟩
  .have a:=iu (vO aT aw a5 aZ) aF a1 a4 aB;have ab:=a_ (show∀d,Below p.heap.size p d->d.cell? ⟨n.heap.size,0,none⟩=some (.int .i64 e)/\d.cell? ⟨n.heap.size,1,none⟩=some (.int .i64 i)/\d.cell? ⟨n.heap.size,2,none⟩=some (.slice x A B)/\d.cell? ⟨k.heap.size,0,none⟩=some (.int .i64 f)/\d.cell? ⟨k.heap.size,1,none⟩=some (.int .i64 c)/\d.cell? ⟨k.heap.size,2,none⟩=some (.slice t u v)from λd D=>⟨(j.m.later D).1,(j.m.later D).2.1,(j.m.later D).2.2,(j.x.later D).1,(j.x.later D).2.1,(j.x.later D).2.2⟩);clear aT aw a5 aZ aF a1 a4 aB;obtain⟨aO,az⟩:=hQ (((i:Int)==(f:Int)));have ao:=a_ az;go_upto_region 5 with fail
   rw[<-Z.e];go_cut [35]from 31 to 35 (λY ba=>Y=.bool (!aO)/\Below p.heap.size p ba)
   case first=>
    go_region_held3 (λd=>d.cell? ⟨n.heap.size,0,none⟩=some (.int .i64 e)/\d.cell? ⟨n.heap.size,1,none⟩=some (.int .i64 i)/\d.cell? ⟨n.heap.size,2,none⟩=some (.slice x A B)/\d.cell? ⟨k.heap.size,0,none⟩=some (.int .i64 f)/\d.cell? ⟨k.heap.size,1,none⟩=some (.int .i64 c)/\d.cell? ⟨k.heap.size,2,none⟩=some (.slice t u v)) (exact ab.e _ (by first|exact hP.drew|exact(hS).drew|exact((hS).alloc (by simp) _).drew)) (first
      |(go_at_call 84;refine(oq).mono ?_;rintro l d⟨rfl,rfl⟩)
      |(go_at_call 85;refine(oo).mono ?_;rintro l d⟨rfl,rfl⟩))
    all_goals
     go_wp2_with fail;go_meet
     case rel=>
      exact⟨by rw[ao.e];rfl,((hS).alloc (by simp) _).drew⟩
   case rest=>
    obtain⟨rfl,K⟩:=hcut;have aG:Below w.heap.size w wc:=d_ j.j K;obtain⟨N,T,O,J,I,V⟩:=ab.e wc K;have W:=b_ K aG;have bg:=K.size;clear K aG az
    cases aO
    .have be:f_ (i≠f):=a_ (λl=>by have:=ao.e;rw[l]at this;simp at this);go_wp2;go_ret2;exact⟨_,_,ms,nx,rfl,.inr ⟨P,Q,e,i,r,E,G,f,c,q,a.f.1,a.f.2.1,a.f.2.2.1,a.g,a.j,a.m,.inl ⟨be.e,rfl,rfl,rfl,rfl⟩⟩,o.e.below W.i,Fr.I W.i⟩
    .have aI:i=f:=by have:=ao.e;have bA:=jY.1 this.symm;omega
     have y:=a_ aI;clear aI;go_wp2_with fail;go_fit (jl (a.f.2.2.2.below W.f) (by omega));rintro l a3⟨al,rfl,L,ay⟩;have H:Below p.heap.size p a3:=W.f.trans (ay.mono bg);clear N T O J I V;obtain⟨N,T,O,J,I,V⟩:=ab.e a3 H;have bh:=H.size;have C:=hO H (d_ j.j H) L;clear ay H L
     cases al
     .have z:f_ (¬hW e i r):=a_ (λh=>by have:=C.l.2 h;cases this);go_wp2;go_ret2;exact⟨_,_,ms,nx,rfl,.inr ⟨P,Q,e,i,r,E,G,f,c,q,a.f.1,a.f.2.1,a.f.2.2.1,a.g,a.j,a.m,.inr (.inl ⟨y.e,λh=>z.e h.1,rfl,rfl,rfl,rfl⟩)⟩,o.e.below C.g,Fr.I C.g⟩
     .go_wp2_with fail;go_fit (jl (a.x.below C.f) (by omega));rintro l au⟨al,rfl,L,aN⟩;have U:Below p.heap.size p au:=C.f.trans (aN.mono bh);clear N T O J I V;obtain⟨N,T,O,J,I,V⟩:=ab.e au U;have bv:=U.size;have m:=hO U (d_ j.j U) L;clear aN U L
      cases al
      .have z:f_ (¬hW f c q):=a_ (λh=>by have:=m.l.2 h;cases this);go_wp2;go_ret2;exact⟨_,_,ms,nx,rfl,.inr ⟨P,Q,e,i,r,E,G,f,c,q,a.f.1,a.f.2.1,a.f.2.2.1,a.g,a.j,a.m,.inr (.inl ⟨y.e,λh=>z.e h.2,rfl,rfl,rfl,rfl⟩)⟩,o.e.below m.g,Fr.I m.g⟩
      .have R:f_ (hW e i r/\hW f c q):=a_ ⟨C.l.1 rfl,m.l.1 rfl⟩;go_wp2_with fail;go_fit (mg (o.e.below m.g));rintro l d⟨rfl,rfl⟩;obtain⟨aE,ah⟩:=hQ (ms.countP Option.isNone);have ar:=a_ ah;rw[<-ah];clear ah;by_cases aU:aE=0
       .subst aU;go_wp2;go_ret2;exact⟨_,_,ms,nx,rfl,.inr ⟨P,Q,e,i,r,E,G,f,c,q,a.f.1,a.f.2.1,a.f.2.2.1,a.g,a.j,a.m,.inr (.inr (.inl ⟨y.e,R.e,pv aq ar.e.symm,rfl,rfl,rfl,rfl⟩))⟩,o.e.below m.g,Fr.I m.g⟩
       .obtain⟨bf,aX⟩:=pV aq (show 0<ms.countP Option.isNone from by have:=ar.e;omega);have z:=a_ aX;have bp:¬((aE:Int)<1):=by omega
        clear aX aU;have aM:=(a.f.2.2.2.below m.f).tight R.f;have ai:=(a.x.below m.f).tight R.i;rw[<-y.e]at ai;have aH:=b_ aM ai;clear aM ai;have bu:f=i:=y.e.symm;go_wp2_with fail;go_fit (mn aH.f aH.i (by omega));rintro l ak⟨Y,rfl,⟨br,F,a6⟩,aL⟩;obtain⟨bq,bt,bs,rfl,ae⟩:=id F;obtain⟨aa,ac,rfl,-⟩:=ae.shape;have aK:=zU ae.1 a6;rw[aK]at F;obtain⟨X,aD⟩:=hQ (e*c);rw[<-aD]at F|-;have bo:=R.f.2.1;have a9:Below w.heap.size w ak:=m.g.trans (aL.mono (by have:=m.g.size;omega));have am:=b_ F a9;clear ae aK a6 F aD aL a9 N T O J I V;go_wp2_with fail;have s:Below w.heap.size w (ak.alloc (.cells #[.int .i64 e,.int .i64 c,.slice aa X ac] 66)):=am.i.alloc am.i.size _;have aQ:i_ (ak.alloc (.cells #[.int .i64 e,.int .i64 c,.slice aa X ac] 66)) (.agg #[.int .i64 e,.int .i64 c,.slice aa X ac]) e c (kL e i c r q) 200000000:=by
         obtain⟨bb,bl,bd,bk,bi⟩:=am.f.below (hP.alloc c_ (.cells #[.int .i64 e,.int .i64 c,.slice aa X ac] 66));exact⟨bb,bl,bd,bk,bi.mono (by omega)⟩
        go_fit (q2 (o.e.below s) aQ z.e bc);rintro l bx⟨rfl,av,ax⟩;have aY:=b_ av ((Fr.I s).trans ax);clear av ax s aQ;go_wp2;go_ret2;exact⟨_,_,_,nx+1,rfl,.inr ⟨P,Q,e,i,r,E,G,f,c,q,a.f.1,a.f.2.1,a.f.2.2.1,a.g,a.j,a.m,.inr (.inr (.inr ⟨y.e,R.e,rfl,rfl,bf,z.e,rfl,rfl⟩))⟩,aY.f,aY.i⟩
  .have aj:=a_ M;clear M;go_wp2;go_ret2;rw[<-Z.e];exact⟨_,_,ms,nx,rfl,.inl ⟨.inr aj.e,rfl,rfl,rfl,rfl⟩,o.e.below j.j,Fr.I j.j⟩
 .have aj:=a_ M;clear M;go_wp2;go_ret2;rw[<-Z.e];exact⟨_,_,ms,nx,rfl,.inl ⟨.inl aj.e,rfl,rfl,rfl,rfl⟩,o.e.below j.j,Fr.I j.j⟩
variable{M:List Hm}
theorem ou.uniq{ms:List Hm}{nx:Nat}{g h k e:Int}{H:List Hm}(hd:pq ms)(a:ou ms nx g h k e M i)(b:ou ms nx g h c d H j):k=c/\e=d/\M=H/\i=j:=by
 rcases a with⟨p,rfl,rfl,rfl,rfl⟩|⟨s,F,P,Q,T,u,G,K,S,I,x,v,A,y,r,B,p⟩
 .rcases b with⟨m,rfl,rfl,rfl,rfl⟩|⟨s,F,P,Q,T,u,G,K,S,I,x,v,A,y,r,B,m⟩
  .exact⟨rfl,rfl,rfl,rfl⟩
  .rcases p with p|p
   .exact absurd A (p s x _ v)
   .exact absurd B (p u y _ r)
 .rcases b with⟨m,rfl,rfl,rfl,rfl⟩|⟨D,R,X,V,aa,E,L,W,Z,Y,O,w,ac,J,z,U,m⟩
  .rcases m with m|m
   .exact absurd A (m s x _ v)
   .exact absurd B (m u y _ r)
  .have N:s=D:=hd s D _ _ x O v w (by show F=R;omega);have d:u=E:=hd u E _ _ y J r z (by show G=L;omega);subst N;subst d;rw[v]at w;rw[r]at z;simp only[iH,lN]at w z;obtain⟨rfl,rfl,rfl,rfl⟩:=w;obtain⟨rfl,rfl,rfl,rfl⟩:=z;rcases p with⟨n,rfl,rfl,rfl,rfl⟩|⟨n,q,rfl,rfl,rfl,rfl⟩|⟨n,q,t,rfl,rfl,rfl,rfl⟩|⟨n,q,rfl,rfl,C,t,rfl,rfl⟩
   .rcases m with⟨f,rfl,rfl,rfl,rfl⟩|⟨f,_⟩|⟨f,_⟩|⟨f,_⟩
    .exact⟨rfl,rfl,rfl,rfl⟩
    .exact absurd f n
    .exact absurd f n
    .exact absurd f n
   .rcases m with⟨f,_⟩|⟨f,l,rfl,rfl,rfl,rfl⟩|⟨f,l,_⟩|⟨f,l,_⟩
    .exact absurd n f
    .exact⟨rfl,rfl,rfl,rfl⟩
    .exact absurd l q
    .exact absurd l q
   .rcases m with⟨f,_⟩|⟨f,l,_⟩|⟨f,l,o,rfl,rfl,rfl,rfl⟩|⟨f,l,_,_,C,o,_⟩
    .exact absurd n f
    .exact absurd q l
    .exact⟨rfl,rfl,rfl,rfl⟩
    .exact absurd o.2.1 (t C o.1)
   .rcases m with⟨f,_⟩|⟨f,l,_⟩|⟨f,l,o,_⟩|⟨f,l,rfl,rfl,ab,o,rfl,rfl⟩
    .exact absurd n f
    .exact absurd q l
    .exact absurd t.2.1 (o C t.1)
    .rw[t.uniq o];exact⟨rfl,rfl,rfl,rfl⟩
section
open R
theorem Af{B c e d:Nat}{g h:Int}{ms:List Hm}{nx:Nat}{w:World}(t:nu B w c e d ms nx)(hd:pq ms)(J:nx<1000000):Calls Tryz.prog 182 #[.pointer (some ⟨c,0,none⟩),.int .i64 g,.int .i64 h] w λq p=>∃k l i j,q=.returned (.tuple #[.int .i64 k,.int .i64 l])/\ou ms nx g h k l i j/\nu B p c e d i j/\j5 (tN e d) w p:=by
 obtain⟨u,v,s,-⟩:=t.1.cells;have b:=b_ t hd;clear t hd;go_in;go_wp2_with fail;go_fit (xv b.f.2.1 J);rintro q n⟨k,l,i,j,rfl,hrel,A,m⟩;have M:c≠e:=b.f.1.ne b.f.2.1.ty;have r:Tw n c e d false:=b.f.1.J (m.1.block c b.f.1.lt (by simpa using M));have G:jf n d ms nx:=b.f.2.2.1.fr m (Ne.symm b.f.2.2.2.1);clear u v s;obtain⟨u,v,s,-⟩:=r.cells;have a:=iu A m r G hrel;clear A m r G hrel;go_wp2_with fail;go_fit (xv a.m J);rintro q F⟨S,Q,T,R,rfl,x,D,o⟩;obtain⟨rfl,rfl,rfl,rfl⟩:=ou.uniq b.i a.x x;have K:c≠d:=a.j.ne a.m.ty;have H:Tw F c e d false:=a.j.J (o.1.block c a.j.lt (by simpa using K));have z:jf F e i j:=a.f.fr o b.f.2.2.2.1;have f:=hY D o H z;clear D o H z u v s x;go_wp2_with fail;go_fit (s7);rintro q p⟨rfl,rfl⟩;go_wp2;go_ret2;obtain⟨y,-,-,N,L,O,C,E⟩:=b.f;have I:Below B w n:=a.g.ni C (by have:=y.lt;omega);have P:Below B n p:=f.g.ni E (by have:=I.size;have:=y.lt;omega);exact⟨k,l,i,j,rfl,a.x,⟨f.j,f.o,f.f,N,(L.below I).below P,O,C,E⟩,(j5.p_ a.g (.inl rfl)).trans (j5.p_ f.g (.inr rfl))⟩
def A_(b:List o4)(h:Int)(v:Value):Prop:=(v=.pointer none/\∀a∈b,((a.1:Nat):Int)≠h)\/∃a∈b,((a.1:Nat):Int)=h/\v=.pointer (some ⟨a.2.2,0,none⟩)
variable{E:List o4}
theorem jL.il{B:Nat}{w:World}{W:Nat}{ms:List Hm}{nx:Nat}(h:jL B w W i j k ms nx E):∃f e g d m,w.cell? ⟨W,0,none⟩=some (.pointer (some ⟨i,0,none⟩))/\w.cell? ⟨W,1,none⟩=some (.slice f E.length e)/\w.cell? ⟨W,2,none⟩=some (.slice g E.length d)/\w.cell? ⟨W,3,none⟩=some m/\E.length<=e/\e<=9223372036854775807/\E.length<=d/\d<=9223372036854775807/\(∀a (c:a<E.length),(∃b,f=some ⟨b,0,none⟩/\w.cell? ⟨b,a,none⟩=some (.int .i64 ((E[a].1:Nat):Int)))/\(∃b,g=some ⟨b,0,none⟩/\w.cell? ⟨b,a,none⟩=some (.pointer (some ⟨E[a].2.2,0,none⟩)))):=by
 obtain⟨-,⟨I,D,G,m,o,y,A,H,-⟩,-⟩:=h;obtain⟨f,e,rfl,p,t,-,q⟩:=y.shape;obtain⟨g,d,rfl,s,u,-,r⟩:=A.shape;rw[mB]at p q o;rw[pD]at s r o;obtain⟨z,C,x,v,F,J,-⟩:=o.cells;refine⟨f,e,g,d,m,z,C,x,v,p,t,s,u,λa c=>⟨?_,?_⟩⟩
 .obtain⟨b,l,n⟩:=q a c;exact⟨b,l,by rw[n,Bp E a c]⟩
 .obtain⟨b,l,n⟩:=r a c;exact⟨b,l,by rw[n];simp[tE,c]⟩
theorem tq{B W:Nat}{ms:List Hm}{nx:Nat}{h:Int}{w:World}(g:jL B w W i j k ms nx E):Calls Tryz.prog 202 #[.pointer (some ⟨W,0,none⟩),.int .i64 h] w λy F=>(∃t,y=.returned t/\A_ E h t)/\Below w.heap.size w F:=by
 have U:=g.uZ;obtain⟨K,af,N,aa,T,X,G,A,M,P,H,ad,J,u⟩:=g.il;have D:=a_ u;clear g u;go_in;go_wp2_with fail;go_loopw [5] (λa wr=>∃b:Nat,b<=E.length/\a=.int .i64 b/\Below w.heap.size w wr/\f_ (∀a (f:a<E.length),a<b->((E[a].1:Nat):Int)≠h)) (λa _=>E.length-(intOf a).toNat)
 case atStart=>exact⟨0,hR,rfl,hP,a_ (λa _ f=>by omega)⟩
 case round=>
  obtain⟨b,Y,rfl,e,v⟩:=hrel;have O:=g_ e G;have V:=g_ e A;have R:=e.size;have c:=a_ e;clear e;by_cases s:b<E.length
  .obtain⟨⟨ab,rfl,p⟩,⟨Q,rfl,r⟩⟩:=D.e b s;obtain⟨q,o⟩:=hQ (E[b].1);obtain⟨ae,m⟩:=hQ (E[b].2.2);rw[<-o]at p;rw[<-m]at r;have ac:=g_ c.e p;have S:=g_ c.e r;have n:=b_ o m;have I:(b:Int)<(E.length:Int):=by omega
   clear o m p r;by_cases d:(q:Int)=h
   .have z:((q:Int)==h)=true:=jY.2 d;have l:=a_ d;clear d;go_wp2_with fail;try go_quiet (fail)
    try go_wp2
    go_ret;refine⟨⟨_,rfl,.inr ⟨E[b],lf s,?_,?_⟩⟩,?_⟩
    .rw[<-n.f];exact l.e
    .rw[<-n.i];rfl
    .first|exact c.e|exact im c.e _
   .have z:((q:Int)==h)=false:=iK.2 d;have l:=a_ d;clear d;go_wp2_with fail;try go_quiet (fail)
    try go_wp2
    go_roundw
    .refine⟨b+1,by omega,by go_num,by first|exact c.e|exact im c.e _,a_ (λa f Z=>?_)⟩;by_cases C:a=b
     .subst C;rw[<-n.f];exact l.e
     .exact v.e a f (by omega)
    simp[intOf];omega
  .go_wp2_with fail;try go_quiet (fail)
   try go_wp2
   go_ret;refine⟨⟨_,rfl,.inl ⟨rfl,λL x=>?_⟩⟩,by first|exact c.e|exact im c.e _⟩;obtain⟨a,f,rfl⟩:=lZ.1 x;exact v.e a f (by omega)
theorem yA{r c r':Nat}{zs:List Int}(h:mK r c zs)(j:mK r' i e)(l:lk r c zs=lk r' i e):r=r'/\c=i/\zs=e:=by
 obtain⟨rfl,rfl,p⟩:=Dx h j l;refine⟨rfl,rfl,sq (by rw[h.2.2.1,j.2.2.1]) (λa n o=>?_)⟩;have f:a<r*c:=by have:=h.2.2.1;omega
 have g:0<c:=by
  rcases kl c with b|b
  .subst b;rw[l6]at f;omega
  .exact b
 have q:a/c<r:=by rw[ss g];exact f
 have m:=mQ a g;have k:a/c*c+a%c=a:=by rw[ij];exact kY a c
 have d:=p (a/c) (a%c) q m;unfold fz at d;rw[k]at d;simpa[List.getD,iI n,iI o]using d
theorem tK{w:World}{b:Nat}{ms:List Hm}{nx k hd r c:Nat}{zs:List Int}(h:jf w b ms nx)(f:k<24)(d:ms.getD k none=some (hd,r,c,zs)):r<=99/\c<=99/\zs.length=r*c:=by
 obtain⟨-,-,j,-,g⟩:=h;have a:=g k f;rw[d]at a
 cases hs:j.getD k none with
 |none=>rw[hs]at a;exact a.elim
 |some m=>
  rw[hs]at a;obtain⟨-,-,-,i,l,n,-,e⟩:=a;exact⟨i,l,e.1⟩
theorem jL.entry{B:Nat}{w:World}{W:Nat}{ms:List Hm}{nx:Nat}(h:jL B w W i j l ms nx E){e:o4}(m:e∈E){k hd r c:Nat}{zs:List Int}(o:k<24)(g:ms.getD k none=some (hd,r,c,zs))(H:e.1=hd):e.2.1=lk r c zs/\mK r c zs/\∃d f,kH w d f e.2.2 r c (fz c zs):=by
 obtain⟨A,⟨M,I,J,L,-,-,-,-,-,u,-⟩,n⟩:=h;obtain⟨K,O,N,d,f,p,t,x,-⟩:=u e m;obtain⟨s,v,y,a,G,b⟩:=n.has e m;have F:s=k:=n.dst s k v _ y o a g (by rw[G,H]);subst F;rw[g]at a;injection a with a
 subst a;obtain⟨z,C,D⟩:=tK A.2.1 o g;have q:mK r c zs:=⟨z,C,D,by rw[<-b,p];exact t.2.2.2⟩;obtain⟨rfl,rfl,rfl⟩:=yA t q (by rw[<-p,b]);exact⟨b,q,d,f,x⟩
theorem jL.BZ{B:Nat}{w:World}{W:Nat}{ms:List Hm}{nx:Nat}(h:jL B w W i j k ms nx E){e:o4}(l:e∈E):∃a c d b,a<24/\ms.getD a none=some (e.1,c,d,b):=by
 obtain⟨a,n,m,g,f,-⟩:=h.2.2.has e l;obtain⟨o,c,d,b⟩:=n;simp only at f;subst f;exact⟨a,c,d,b,m,g⟩
variable{E:List o4}
theorem A_.none{B:Nat}{w:World}{W:Nat}{ms:List Hm}{nx:Nat}(h:jL B w W i j k ms nx E){g:Int}(l:∀c∈E,((c.1:Nat):Int)≠g):∀b,b<24->∀a,ms.getD b none=some a->(a.1:Int)≠g:=by
 intro b n a d e;obtain⟨c,m,f⟩:=h.2.2.all b a n d;exact l c m (by rw[f];exact e)
def rN(P:Nat->Nat->Nat->Nat->Prop)(q:List o4)(ms:List Hm)(g h:Int)(a b:Value)(l:Int):Prop:=
 (((∀c,c<24->∀j,ms.getD c none=some j->(j.1:Int)≠g)\/(∀c,c<24->∀j,ms.getD c none=some j->(j.1:Int)≠h))/\l=2)\/∃m k c f d n p e i o,m∈q/\k∈q/\c<24/\ms.getD c none=some (m.1,f,d,n)/\((m.1:Nat):Int)=g/\p<24/\ms.getD p none=some (k.1,e,i,o)/\((k.1:Nat):Int)=h/\((¬P f d e i/\l=3)\/(P f d e i/\¬(hW f d n/\hW e i o)/\l=4)\/(P f d e i/\(hW f d n/\hW e i o)/\l=0/\a=.pointer (some ⟨m.2.2,0,none⟩)/\b=.pointer (some ⟨k.2.2,0,none⟩)))
theorem rN.no{P:Nat->Nat->Nat->Nat->Prop}{ms:List Hm}{g h:Int}{a b:Value}(i:rN P E ms g h a b c)(e:(∀d,d<24->∀f,ms.getD d none=some f->(f.1:Int)≠g)\/(∀d,d<24->∀f,ms.getD d none=some f->(f.1:Int)≠h)):c=2:=by
 rcases i with⟨-,rfl⟩|⟨s,v,d,u,w,z,l,r,y,q,x,t,n,p,j,o,k,m,i⟩
 .rfl
 .rcases e with e|e
  .exact absurd j (e d n _ p)
  .exact absurd m (e l o _ k)
theorem rN.yes{P:Nat->Nat->Nat->Nat->Prop}{ms:List Hm}{g h:Int}{a b:Value}{m:Int}(hd:pq ms)(t:rN P E ms g h a b m){i d r q:Nat}{zs:List Int}{j q' c:Nat}{ys:List Int}(v:i<24)(s:ms.getD i none=some (d,r,q,zs))(B:((d:Nat):Int)=g)(w:j<24)(p:ms.getD j none=some (k,q',c,ys))(G:((k:Nat):Int)=h):∃e f,e∈E/\f∈E/\e.1=d/\f.1=k/\((¬P r q q' c/\m=3)\/(P r q q' c/\¬(hW r q zs/\hW q' c ys)/\m=4)\/(P r q q' c/\(hW r q zs/\hW q' c ys)/\m=0/\a=.pointer (some ⟨e.2.2,0,none⟩)/\b=.pointer (some ⟨f.2.2,0,none⟩))):=by
 rcases t with⟨l,-⟩|⟨e,f,x,M,I,O,u,L,J,H,D,z,A,o,N,y,n,K,t⟩
 .rcases l with l|l
  .exact absurd B (l i v _ s)
  .exact absurd G (l j w _ p)
 .have C:i=x:=hd i x _ _ v A s o (by show d=e.1;omega);have F:j=u:=hd j u _ _ w y p n (by show k=f.1;omega);subst C;subst F;rw[s]at o;rw[p]at n;simp only[iH,lN]at o n;obtain⟨rfl,rfl,rfl,rfl⟩:=o;obtain⟨rfl,rfl,rfl,rfl⟩:=n;exact⟨e,f,D,z,rfl,rfl,t⟩
def Lm(v:Value)(p:Prop):Prop:=∃a:Bool,v=.bool a/\(a=true↔p)
def J3(a:Int)(P:Nat->Nat->Nat->Nat->Prop):Prop:=(a=9/\P=λe _ c d=>d=1/\c=e)\/(a=10/\P=λ_ b c d=>c=1/\d=b)\/(a=14/\P=λ_ b c _=>b=c)\/((a≠9/\a≠10/\a≠14)/\P=λ_ b _ d=>b=d)
theorem qv{B W aW k i:Nat}{ms:List Hm}{nx:Nat}{aK:List o4}{g h C:Int}{P:Nat->Nat->Nat->Nat->Prop}{w:World}(aP:jL B w W aW k i ms nx aK)(aN:J3 C P):Calls Tryz.prog 170 #[.pointer (some ⟨W,0,none⟩),.int .i64 g,.int .i64 h,.int .i64 C] w λj a9=>(∃aO az aI,j=.returned (.tuple #[aO,az,.int .i64 aI])/\rN P aK ms g h aO az aI)/\Below w.heap.size w a9:=by
 have a6:=a_ aN;clear aN;have m:=a_ aP;clear aP;go_in;go_wp2_with fail;go_fit (tq m.e);rintro j bj⟨⟨a7,rfl,ar⟩,aa⟩;have K:=b_ ar aa;have bd:=aa.size;clear ar aa;obtain⟨aC,rfl⟩:∃aC,a7=.pointer aC:=by
  rcases K.f with⟨rfl,-⟩|⟨E,-,-,rfl⟩<;>exact⟨_,rfl⟩
 go_wp2_with fail;go_fit (tq (m.e.below K.i));rintro j f⟨⟨aX,rfl,aj⟩,aH⟩;have Z:Below w.heap.size w f:=K.i.trans (aH.mono bd);obtain⟨av,rfl⟩:∃av,aX=.pointer av:=by
  rcases aj with⟨rfl,-⟩|⟨E,-,-,rfl⟩<;>exact⟨_,rfl⟩
 have l:=b_ aj Z;have al:=Z.size;clear aj aH Z;rcases K.f with⟨y,D⟩|⟨F,O,ax,x⟩
 .injection y with y
  subst y;have ac:=a_ D;clear D;go_wp2;go_ret3;exact⟨⟨_,_,_,rfl,.inl ⟨.inl (A_.none m.e ac.e),rfl⟩⟩,l.i⟩
 .injection x with x
  subst x;rcases l.f with⟨y,D⟩|⟨H,N,au,x⟩
  .injection y with y
   subst y;have ac:=a_ D;clear D;go_wp2;go_ret3;exact⟨⟨_,_,_,rfl,.inl ⟨.inr (A_.none m.e ac.e),rfl⟩⟩,l.i⟩
  .injection x with x
   subst x;obtain⟨M,d,b,o,ah,I⟩:=m.e.BZ O;obtain⟨J,c,a,n,ai,ab⟩:=m.e.BZ N;obtain⟨-,aE,bs,bk,aU⟩:=(m.e.below l.i).entry O ah I rfl;obtain⟨-,aM,bo,br,aG⟩:=(m.e.below l.i).entry N ai ab rfl;obtain⟨bh,T⟩:=aU.qk;obtain⟨bg,S⟩:=aG.qk;obtain⟨bi,V⟩:=hQ F.2.2;obtain⟨bl,an⟩:=hQ H.2.2;rw[<-V]at T|-;rw[<-an]at S|-;have e:=vD (J5 O ax ah I aE T V) N au ai ab aM S an;obtain⟨-,bv,bu,aR,aF,-⟩:=T.open_;obtain⟨-,bf,bn,aL,aT,-⟩:=S.open_;clear O ax ah I aE T V N au ai ab aM S an aU aG;obtain⟨aS,ao⟩:=hQ (((b:Int)==(a:Int)));have ag:=a_ ao;clear ao;go_upto_region 5 with fail
   go_cut [13]from 28 to 37 (λj X=>j=.bool aS/\Below f.heap.size f X)
   case first=>
    go_quiet (fail);all_goals
     go_wp2_with fail;go_meet
     case rel=>exact⟨by rw[ag.e],im hP _⟩
   obtain⟨rfl,r⟩:=hcut;have be:=g_ r aR;have a2:=g_ r aF;have ba:=g_ r aL;have bb:=g_ r aT;have z:=a_ r;have bw:=r.size;clear r aR aF aL aT;go_upto_block 0 with fail
   go_cut [13]from 38 to 77 (λj X=>Lm j (P d b c a)/\Below f.heap.size f X)
   case first=>
    rcases a6.e with⟨rfl,rfl⟩|⟨rfl,rfl⟩|⟨rfl,rfl⟩|⟨⟨aV,ay,aJ⟩,rfl⟩
    .by_cases U:a=1
     .have ae:=a_ U;have aY:((a:Int)==1)=true:=jY.2 (by omega);clear U;go_wp2_with fail;go_quiet (fail);all_goals
       go_wp2_with fail;go_meet
       case rel=>exact⟨⟨_,rfl,by have:=ae.e;simp[this];omega⟩,im z.e _⟩
     .have ae:=a_ U;have aY:((a:Int)==1)=false:=iK.2 (by omega);clear U;go_wp2_with fail;go_quiet (fail);all_goals
       go_wp2_with fail;go_meet
       case rel=>exact⟨⟨_,rfl,by simp[ae.e]⟩,im z.e _⟩
    .have A:=ag.e
     cases aS
     .have ak:f_ (b≠a):=a_ (λE=>by rw[E]at A;simp at A);clear A;go_wp2_with fail;go_meet
      case rel=>exact⟨⟨_,rfl,by have:=ak.e;simp;omega⟩,z.e⟩
     .have ak:f_ (b=a):=a_ (by have:=jY.1 A.symm;omega);clear A;go_wp2_with fail;go_meet
      case rel=>exact⟨⟨_,rfl,by have:=ak.e;simp;omega⟩,z.e⟩
    .go_wp2_with fail;go_quiet (fail);all_goals
      go_wp2_with fail;go_meet
      case rel=>exact⟨⟨_,rfl,by simp;omega⟩,im z.e _⟩
    .have bq:(C==9)=false:=iK.2 aV;have bm:(C==10)=false:=iK.2 ay;have bp:(C==14)=false:=iK.2 aJ;clear aV ay aJ;go_wp2_with fail;go_meet
     case rel=>exact⟨⟨_,rfl,by rw[ag.e];simp;omega⟩,z.e⟩
   obtain⟨I,af⟩:=hcut;have am:=a_ af;have bt:=af.size;obtain⟨a8,rfl,L⟩:=I;clear af be a2 ba bb
   cases a8
   .have a5:f_ (¬P d b c a):=a_ (λE=>by have:=L.2 E;cases this);clear L;go_wp2;go_ret3;obtain⟨⟨v,s,q,p,-⟩,⟨k,i,u,t,-⟩⟩:=e.e;exact⟨⟨_,_,_,rfl,.inr ⟨F,H,M,d,b,o,J,c,a,n,v,k,q,p,s,u,t,i,.inl ⟨a5.e,rfl⟩⟩⟩,l.i.trans (am.e.mono al)⟩
   .have ad:f_ (P d b c a):=a_ (L.1 rfl);clear L;go_wp2_with fail;go_fit (sY (e.f.2.2.2.2.2.1.hV (KR.I am.e)) (by omega) e.f.2.2.2.2.1.1 e.f.2.2.2.2.1.2.1);rintro j a3⟨aQ,rfl,aq,aD⟩;have R:Below f.heap.size f a3:=d_ am.e aD;have Q:=hO R (show aQ=true↔¬hW d b o from by rw[<-qF];exact aq) (l.i.trans (R.mono al));have aZ:=R.size;clear aq aD R;go_wp2_with fail;go_fit (sY (e.A.hV (KR.I Q.f)) (by omega) e.y.1 e.y.2.1);rintro j bc⟨aw,rfl,ap,aA⟩;have aB:Below f.heap.size f bc:=Q.f.trans (aA.mono aZ);have G:=b_ (show aw=true↔¬hW c a n from by rw[<-qF];exact ap) (l.i.trans (aB.mono al));clear ap aA aB
    cases aQ
    .cases aw
     .have a4:f_ (hW d b o/\hW c a n):=a_ ⟨qe λh=>(by have:=Q.g.2 h;cases this),qe λh=>(by have:=G.f.2 h;cases this)⟩;go_wp2;go_ret3;obtain⟨⟨v,s,q,p,-,-,a1⟩,⟨k,i,u,t,-,-,a0⟩⟩:=e.e;exact⟨⟨_,_,_,rfl,.inr ⟨F,H,M,d,b,o,J,c,a,n,v,k,q,p,s,u,t,i,.inr (.inr ⟨ad.e,a4.e,rfl,by rw[<-a1];rfl,by rw[<-a0];rfl⟩)⟩⟩,G.i⟩
     .have Y:f_ (¬(hW d b o/\hW c a n)):=a_ (λh=>G.f.1 rfl h.2);go_wp2;go_ret3;obtain⟨⟨v,s,q,p,-⟩,⟨k,i,u,t,-⟩⟩:=e.e;exact⟨⟨_,_,_,rfl,.inr ⟨F,H,M,d,b,o,J,c,a,n,v,k,q,p,s,u,t,i,.inr (.inl ⟨ad.e,Y.e,rfl⟩)⟩⟩,G.i⟩
    .have Y:f_ (¬(hW d b o/\hW c a n)):=a_ (λh=>Q.g.1 rfl h.1);go_wp2;go_ret3;obtain⟨⟨v,s,q,p,-⟩,⟨k,i,u,t,-⟩⟩:=e.e;exact⟨⟨_,_,_,rfl,.inr ⟨F,H,M,d,b,o,J,c,a,n,v,k,q,p,s,u,t,i,.inr (.inl ⟨ad.e,Y.e,rfl⟩)⟩⟩,G.i⟩
end
namespace R
theorem oU(zs:List Nat)(k c:Nat)(a:k<zs.length):(zs.set k c).getD k 0=c:=by simp[List.getD,a]
theorem Eo{zs:List Nat}{n:Nat}(k:zs.length=n+1)(g:∀c,c<n->zs.getD c 0<10000)(m:val zs=i)(p:i<10000^n):Lo zs:=by
 have l:val zs=val (zs.take n)+10000^n*zs.getD n 0:=by
  have:=h_ zs n;rw[ka (by omega)]at this;exact this
 have f:zs.getD n 0=0:=by
  rcases kl (zs.getD n 0)with b|b
  .exact b
  .have:10000^n*1<=10000^n*zs.getD n 0:=jJ _ b;omega
 intro o d;obtain⟨a,j,rfl⟩:=lZ.1 d;have e:zs.getD a 0=zs[a]:=by simp[List.getD,iI j]
 rw[<-e];by_cases h:a<n
 .exact g a h
 .rw[show a=n by omega,f];decide
theorem DW{zs:List Nat}{i:Nat}(h:i+1<zs.length):val ((zs.set (i+1) (zs.getD (i+1) 0+zs.getD i 0/10000)).set i (zs.getD i 0%10000))=val zs:=by
 have e:=oH zs (i+1) (zs.getD (i+1) 0+zs.getD i 0/10000) h;have f:=oH (zs.set (i+1) (zs.getD (i+1) 0+zs.getD i 0/10000)) i (zs.getD i 0%10000) (by simp;omega);rw[getD_set_ne _ _ _ _ (by omega)]at f;have j:=kY (zs.getD i 0) 10000;generalize zs.getD i 0=c at*;generalize zs.getD (i+1) 0=d at*;generalize m:c/10000=b at*;generalize l:c%10000=g at*;rw[jx]at e;generalize 10000^i=a at*;have n:a*10000*(d+b)=a*10000*d+a*(10000*b):=by rw[jd,jG a 10000 b]
 have k:a*c=a*(10000*b)+a*g:=by rw[<-j,jd]
 omega
theorem DM{k j z x y:Nat}(a:k+j<X.length)(c:z=X.getD (k+j) 0)(h:val X=i+10000^k*(x*l)):val (X.set (k+j) (z+x*y))=i+10000^k*(x*(l+10000^j*y)):=by
 have b:=oH X (k+j) (z+x*y) a;rw[<-c,kg]at b;have m:10000^k*10000^j*(z+x*y)=10000^k*10000^j*z+10000^k*(x*(10000^j*y)):=by
  rw[jd,wS x,jG (10000^k) (10000^j) (x*y)]
 have d:10000^k*(x*(l+10000^j*y))=10000^k*(x*l)+10000^k*(x*(10000^j*y)):=by rw[jd,jd]
 generalize 10000^k*10000^j*z=g at*;generalize 10000^k*(x*(10000^j*y))=f at*;generalize 10000^k*(x*l)=e at*;omega
theorem Eh{xs:List Nat}{k x Q:Nat}(a:x=xs.getD k 0)(h:Q=val (xs.take k)*i+10000^k*(x*i)):Q=val (xs.take (k+1))*i:=by
 rw[h,h_,<-a,jV,jG]
theorem zN{k c b i:Nat}(e:c<=b)(h:∀i,X.getD i 0<=b):(X.set k c).getD i 0<=b:=by
 by_cases a:k=i
 .subst a;by_cases d:k<X.length
  .rw[oU _ _ _ d];exact e
  .rw[List.set_eq_of_length_le (by omega)];exact h k
 .rw[getD_set_ne _ _ _ _ a];exact h i
theorem j4{v u:Value}{x y:Int}{L M:Nat}{w:World}(ax:kB w v x L)(aQ:kB w u y M)(bn:L<=50000000000)(bu:M<=50000000000):Calls Tryz.prog 212 #[v,u] w λY be=>∃aM,Y=.returned aM/\xe w be aM (x*y) (L+M+1):=by
 obtain⟨F,S,W,k,rfl,aX,av,aW,aE,bi⟩:=ax.parts;obtain⟨G,ab,Z,i,rfl,aK,aO,aV,aJ,bg⟩:=aQ.parts;have V:=iu aX av aW aE bi;have ad:=iu aK aO aV aJ bg;clear ax aQ aX av aW aE aK aO aV aJ;have m:=hO ((((ih.new w (.bool F) (.slice S k.length W) rfl).alloc (.cells #[.bool G,.slice ab i.length Z] 171)).alloc (.cells #[.bool false,.slice none 0 0] 171))) ((ih.new (w.alloc (.cells #[.bool F,.slice S k.length W] 171)) (.bool G) (.slice ab i.length Z) (b:=w.heap.size+1) (by simp)).alloc (.cells #[.bool false,.slice none 0 0] 171)) (ih.new ((w.alloc (.cells #[.bool F,.slice S k.length W] 171)).alloc (.cells #[.bool G,.slice ab i.length Z] 171)) (.bool false) (.slice none 0 0) (b:=w.heap.size+1+1) (by simp));go_in;go_wp2_with (refine lJ rfl _ _ rfl (n:=k.length+i.length+1) rfl rfl (by omega) (by omega) (by omega) ?_);intro a2 g e;obtain⟨p,O⟩:=hQ (((w.alloc (.cells #[.bool F,.slice S k.length W] 171)).alloc (.cells #[.bool G,.slice ab i.length Z] 171)).alloc (.cells #[.bool false,.slice none 0 0] 171));have R:p.heap.size=w.heap.size+1+1+1:=by rw[O];simp
 have ay:Below w.heap.size w p:=by rw[O];repeat(first|exact hP|refine ia ?_ (by simp<;>omega) _)
 rw[<-O]at m e;have aA:Below p.heap.size p a2:=by rw[R];exact e
 clear e;have e:=aA;clear aA;obtain⟨D,au⟩:=hQ (w.heap.size+1+1+1);rw[<-au]at g R|-;obtain⟨h,ak⟩:=hQ (k.length+i.length+1);rw[<-ak]at g|-;have T:=hY g e ay O;have J:=a_ ak;have C:=b_ au R;have bm:h<=100000000001:=by omega
 clear g e ay O ak au R;go_wp2_with fail;go_loopw [6] (λc wr=>∃(d:Nat) (A:List Nat),d<=k.length/\c=.int .i64 d/\f_ (A.length=h)/\Own wr (.slice (some ⟨D,0,none⟩) h h) A/\Below p.heap.size p wr/\f_ (val A=val (k.take d)*val i/\∀a,A.getD a 0<=d*100000000)) (λc _=>k.length-(intOf c).toNat)
 case atStart=>
  refine⟨0,_,hR,rfl,a_ sQ,T.f,T.g,a_ ⟨?_,λa=>?_⟩⟩
  .rw[lG (λx P=>rQ P)];simp[val]
  .by_cases ao:a<h<;>simp[List.getD,ao]
 case round=>
  obtain⟨d,A,bt,rfl,aB,g,e,Q⟩:=hrel;obtain⟨H,ai,-,-⟩:=(m.f.below e m.f.lt).cells;have ae:=b_ g e;clear g e;by_cases ba:d<k.length
  .obtain⟨bq,rfl,af⟩:=V.f.at_ rfl d ba;have a9:=jW V.g.1 d;obtain⟨ag,P⟩:∃x,x=k.getD d 0:=⟨_,rfl⟩;rw[<-P]at a9 af;have bb:=a_ P;have a6:=a_ af;have aZ:(d:Int)<(k.length:Int):=by omega
   clear P af;go_wp2_with fail;go_loopw [7] (λc q=>∃(a:Nat) (f:List Nat),a<=i.length/\c=.int .i64 a/\f_ (f.length=h)/\Own q (.slice (some ⟨D,0,none⟩) h h) f/\Below p.heap.size p q/\f_ (val f=val (k.take d)*val i+10000^d*(ag*val (i.take a))/\(∀c,f.getD c 0<=(d+1)*100000000)/\∀c,d+a<=c->f.getD c 0<=d*100000000)) (λc _=>i.length-(intOf c).toNat)
   case atStart=>
    refine⟨0,A,hR,rfl,aB,ae.f,ae.i,a_ ⟨by have:=Q.f;simp[val,this],λc=>?_,λc _=>Q.i c⟩⟩;exact iy (Q.i c) (jo _ (nY d))
   case round=>
    rename World=>q;obtain⟨a,f,ao,rfl,j,g,e,l⟩:=hrel;have t:Below w.heap.size w q:=T.j.trans (e.mono (by have:=C.f;have:=C.i;omega));clear H ai;obtain⟨H,ai,-,-⟩:=(m.f.below e m.f.lt).cells;obtain⟨aT,bp,-,-⟩:=(m.g.below e m.g.lt).cells;have bo:=g_ t a6.e;by_cases N:a<i.length
    .obtain⟨bv,rfl,aL⟩:=ad.f.at_ rfl a N;have bh:=g_ t aL;have a7:=jW ad.g.1 a;have aH:d+a<h:=by have:=J.e;omega
     have ac:=g.cell j.e (d+a) aH;have aR:=g.frozen j.e (d+a);have aG:=l.l (d+a) c_;obtain⟨z,B⟩:∃y,y=i.getD a 0:=⟨_,rfl⟩;obtain⟨s,r⟩:∃ah,ah=f.getD (d+a) 0:=⟨_,rfl⟩;rw[<-B]at a7 bh;rw[<-r]at ac aG;have a4:ag*z<=9999*9999:=jR (by omega) (by omega);have bf:=a_ B;have E:=a_ r;have aq:(a:Int)<(i.length:Int):=by omega
     have o:=hO g e t;clear B r aL g e t;go_wp2_with fail;go_region;all_goals
      go_wp2;go_roundw
      .refine⟨a+1,f.set (d+a) (s+ag*z),by omega,by go_num,a_ (by simp[j.e]),o.f.Z j.e (d+a) _ ?_,?_,a_ ⟨?_,λc=>?_,λc aa=>?_⟩⟩
       .simp
       .exact(o.g.setCell (by have:=C.i;simp;omega) _).drew
       .rw[h_,<-bf.e];exact DM (by rw[j.e];exact aH) E.e l.f
       .refine zN ?_ l.g;have an:(d+1)*100000000=d*100000000+100000000:=rG _ _;rw[an];exact Nat.add_le_add aG (iy a4 (by decide))
       .rw[getD_set_ne _ _ _ _ (by omega)];exact l.l c (by omega)
      simp[intOf];omega
    .have aq:¬(a:Int)<(i.length:Int):=by omega
     have o:=b_ g e;clear g e t;go_wp2;go_roundw
     .refine⟨d+1,f,by omega,by go_num,j,o.f,o.i,a_ ⟨?_,l.g⟩⟩;have K:=l.f;rw[show i.take a=i from ka (by omega)]at K;exact Eh bb.e K
     simp[intOf];omega
  .have aZ:¬(d:Int)<(k.length:Int):=by omega
   go_wp2_with fail;go_loopw [8] (λc q=>∃(a:Nat) (f:List Nat),a+1<=h/\c=.int .i64 a/\f_ (f.length=h)/\Own q (.slice (some ⟨D,0,none⟩) h h) f/\Below p.heap.size p q/\f_ (val f=val k*val i/\(∀c,c<a->f.getD c 0<10000)/\f.getD a 0<=6000000000000000000/\∀c,a<c->f.getD c 0<=5000000000000000000)) (λc _=>h-(intOf c).toNat)
   case atStart=>
    have r:∀c,A.getD c 0<=5000000000000000000:=λc=>iy (Q.i c) (iy (jo _ (show d<=50000000000 by omega)) (by decide));refine⟨0,A,by have:=J.e;omega,rfl,aB,ae.f,ae.i,a_ ⟨?_,λc aa=>by omega,iy (r 0) (by decide),λc _=>r c⟩⟩;have K:=Q.f;rw[show k.take d=k from ka (by omega)]at K;exact K
   case round=>
    rename World=>q;obtain⟨a,f,ao,rfl,j,g,e,l⟩:=hrel;clear H ai;by_cases N:a+1<h
    .have ac:=g.cell j.e a (by omega);have aR:=g.frozen j.e a;have aN:=g.cell j.e (a+1) N;have a0:=g.frozen j.e (a+1);have aS:=l.j;have aF:=l.o (a+1) (by omega);obtain⟨s,r⟩:∃ah,ah=f.getD a 0:=⟨_,rfl⟩;obtain⟨z,B⟩:∃y,y=f.getD (a+1) 0:=⟨_,rfl⟩;rw[<-r]at ac aS;rw[<-B]at aN aF;have E:=b_ r B;have aq:(a:Int)+1<(h:Int):=by omega
     have o:=b_ g e;clear r B g e;go_wp2_with fail;go_region;have I:Own (q.setCell ⟨D,a+1,none⟩ (.int .i64 ((z:Int)+(s:Int)/10000))).drew (.slice (some ⟨D,0,none⟩) h h) (f.set (a+1) (z+s/10000)):=o.f.Z j.e (a+1) _ (by omega);obtain⟨a8,aj⟩:=hQ ((q.setCell ⟨D,a+1,none⟩ (.int .i64 ((z:Int)+(s:Int)/10000))).drew);have aY:Below p.heap.size p a8:=by rw[aj];exact(o.i.setCell (by have:=C.i;simp;omega) _).drew
     rw[<-aj]at I|-;have U:=a_ (show(f.set (a+1) (z+s/10000)).length=h by rw[vC];exact j.e);have bj:=I.cell U.e a (by omega);have bw:=I.frozen U.e a;rw[getD_set_ne _ _ _ _ (by omega),<-E.f]at bj;have aC:=b_ I aY;clear I aj aY ac aR aN a0;go_wp2_with fail;all_goals
      go_roundw
      .refine⟨a+1,(f.set (a+1) (z+s/10000)).set a (s%10000),by omega,by go_num,a_ (by simp[j.e]),aC.f.Z U.e a _ (by omega),aC.i.setCell (by have:=C.i;simp;omega) _,a_ ⟨?_,λc aa=>?_,?_,λc aa=>?_⟩⟩
       .rw[E.f,E.i,DW (by rw[j.e];exact N)];exact l.f
       .by_cases aI:c=a
        .subst aI;rw[oU _ _ _ (by rw[U.e];omega)];exact mQ _ (by decide)
        .rw[getD_set_ne _ _ _ _ (λY=>aI Y.symm),getD_set_ne _ _ _ _ (by omega)];exact l.g c (by omega)
       .rw[getD_set_ne _ _ _ _ (by omega),oU _ _ _ (by rw[j.e];exact N)];have:s/10000<=6000000000000000000/10000:=Nat.div_le_div_right aS;exact iy (Nat.add_le_add aF this) (by decide)
       .rw[getD_set_ne _ _ _ _ (by omega),getD_set_ne _ _ _ _ (by omega)];exact l.o c (by omega)
      simp[intOf];omega
    .have aq:¬(a:Int)+1<(h:Int):=by omega
     obtain⟨H,-,-,-⟩:=(m.f.below e m.f.lt).cells;obtain⟨aT,-,-,-⟩:=(m.g.below e m.g.lt).cells;have aD:Lo f:=Eo (n:=k.length+i.length) (by rw[j.e,J.e]) (λc aa=>l.g c (by have:=J.e;omega)) l.f (by
      rw[kg];exact Nat.mul_lt_mul'' (j8 V.g.1) (j8 ad.g.1))
     have o:=hO g e aD;clear g e aD;go_wp2_with fail;go_fit (oh (xs:=f) o.f o.l);rintro Y a3⟨br,rfl,ap,al⟩;obtain⟨am,aP,aU,aw,rfl,-⟩:=ap.parts;have X:=(m.l.below o.g m.l.lt).below al (m.l.below o.g m.l.lt).lt;obtain⟨bs,a1,bl,bk⟩:=X.cells;have a5:=X.oz (.bool am);have t:Below w.heap.size w a3:=T.j.trans ((d_ o.g al).mono (by have:=C.f;have:=C.i;omega));have ar:=hO ap t X.ty;clear ap al X H aT t;go_wp2_with fail;refine ig (v:=.agg #[.bool am,.slice aP aw.length aU]) ?_ rfl ?_
     ·(simp[results,Tryz.results212,go_sem,a1,a5];done)
     .refine⟨_,rfl,?_,(ar.g.setCell (by simp<;>omega) _).setCell (by simp<;>omega) _⟩;have az:=(ar.f.box ar.l (by decide) (.bool am) (.slice aP aw.length aU)).mono (M:=L+M+1) (by have:=j.e;have:=J.e;omega);have an:=l.f;have bd:=V.m;have bc:=ad.m;rw[an]at az;rw[bd,bc]
      cases F<;>cases G<;>simpa[Int.neg_mul,Int.mul_neg]using az
theorem pI.xl{B:Nat}{w:World}{g c:Nat}{f:Nat->Int}{L:Nat}(h:pI B w g c f L)(j:i<=B):pI i w g c f L:=by
 obtain⟨n,m,o,r⟩:=h;refine⟨n,m,o,λk d=>?_⟩;obtain⟨p,a,q,b,e,l⟩:=r k d;exact⟨p,a,q,b,e,l.mono j⟩
theorem jO.xl{B:Nat}{w:World}{b r c:Nat}{f:Nat->Nat->Int}{L:Nat}(h:jO B w b r c o f L)(q:i<=B):jO i w b r c o f L:=by
 obtain⟨y,l,m,⟨s,g⟩,a,p⟩:=h;refine⟨by omega,l,m,⟨s,?_⟩,λd e=>⟨by have:=(a d e).1;omega,(a d e).2.xl q⟩,p⟩;rcases g with k|⟨t,v,j,n,x,u,r⟩
 .exact .inl k
 .exact .inr ⟨t,v,j,n,by omega,u,r⟩
theorem tZ.zero(v:Value):tZ 0 v:=λ_ _ _ _ _ _ _=>hR
theorem jO.tH{B:Nat}{w:World}{b r c:Nat}{f:Nat->Nat->Int}{L:Nat}(h:jO B w b r c o f L):∀a,a<r->B<=o a/\o a<w.heap.size:=by
 obtain⟨i,l,j,k,e,g⟩:=h;exact λa d=>⟨(e a d).1,(e a d).2.lt⟩
theorem ih.drew'{w:World}{b:Nat}{x y:Value}(h:ih w b x y):ih w.drew b x y:=h
def zY(f h:Nat->Nat->Int)(q c a e:Nat)(g:Nat->Nat->Int):Prop:=∀b d,d<c->(b<a\/(b=a/\d<e))->g b d=dot f h b d q
theorem zY.next{f:Nat->Nat->Int}{q c a e:Nat}{g:Nat->Nat->Int}(h:zY f A q c a e g){z:Int}(j:z=dot f A a e q):zY f A q c a (e+1) (uV g a e z):=by
 intro i d k l;unfold uV;by_cases b:i=a/\d=e
 .rw[if_pos b,j,b.1,b.2]
 .rw[if_neg b];exact h i d k (by omega)
theorem zY.row{f:Nat->Nat->Int}{q c a e:Nat}{g:Nat->Nat->Int}(h:zY f A q c a e g)(k:c<=e):zY f A q c (a+1) 0 g:=λd b i j=>h d b i (by omega)
def E2(W:World)(z:Int)(N:Nat)(p:Value)(a:World):Prop:=∃(b:Nat) (c d:Value),p=.pointer (some ⟨b,0,none⟩)/\W.heap.size<=b/\ih a b c d/\kB a (.agg #[c,d]) z N/\Below W.heap.size W a
theorem kn{L M:Nat}{b r q:Nat}{y:Nat->Nat}{f:Nat->Nat->Int}{B b' c:Nat}{u:Nat->Nat}{k:Nat->Nat->Int}{bx:Nat}{w:World}(h:jO B w b r q y f L)(ay:jO bx w b' q c u k M)(b7:r<=8)(cm:q<=8)(cp:c<=8)(bQ:L+M<=40000000000):Calls Tryz.prog 167 #[.pointer (some ⟨b,0,none⟩),.pointer (some ⟨b',0,none⟩)] w λg e=>g=.returned (.pointer (some ⟨w.heap.size,0,none⟩))/\(∃z,jO 0 e w.heap.size r c z (λo n=>dot f k o n q) (L+M+12))/\Below w.heap.size w e:=by
 have Z:=b_ h ay;obtain⟨bW,aK,aa,F,J,t,-⟩:=h.open_;obtain⟨bY,aX,ah,E,A,x,-⟩:=ay.open_;clear h ay;go_in;go_upto_region 1 with fail
 go_cut [5]from 11 to 20 (λbA P=>bA=.pointer (some ⟨w.heap.size,0,none⟩)/\(∃z,jO w.heap.size P w.heap.size r c z (λ_ _=>0) 0)/\Below w.heap.size w P)
 case first=>
  go_region_held3 (λe=>e.cell? ⟨b,0,none⟩=some (.int .i64 r)/\e.cell? ⟨b',1,none⟩=some (.int .i64 c)) (first|go_keep|exact⟨g_ hb2 F,g_ hb2 A⟩) (first|(go_at_call 174;refine(@mw r c _ (by omega) (by omega)).mono ?_;rintro g G⟨rfl,bI,hb2⟩));all_goals
   go_wp2_with fail;go_meet
   case rel=>exact⟨rfl,bI,(kQ w.heap.size w).drew.trans hb2⟩
 case rest=>
  obtain⟨rfl,⟨z,m⟩,a9⟩:=hcut;have aU:=m.tH;have bB:=a_ aU;have ba:=b_ ((m.xl hR).mono (AW (L+M+12))) a9;clear m a9 aU F J t E A x;go_wp2_with fail;go_loopw [6] (λo wr=>∃(d:Nat) (l:Nat->Nat->Int),d<=r/\o=.int .i64 d/\jO 0 wr w.heap.size r c z l (L+M+12)/\Below w.heap.size w wr/\f_ (zY f k q c d 0 l)) (λo _=>r-(intOf o).toNat)
  case atStart=>exact⟨0,_,hR,rfl,ba.f,ba.i,a_ (λo n bb bZ=>by omega)⟩
  case round=>
   rename World=>bO;obtain⟨d,l,bN,rfl,m,v,bj⟩:=hrel;obtain⟨-,aK,aa,F,J,t,-⟩:=(Z.f.hV (KR.I v)).open_;have X:=b_ m v;clear m v;by_cases C:d<r
   .have b8:(d:Int)<(r:Int):=by omega
    go_wp2_with fail;go_loopw [7] (λn wr=>∃(g:Nat) (l:Nat->Nat->Int),g<=c/\n=.int .i64 g/\jO 0 wr w.heap.size r c z l (L+M+12)/\Below w.heap.size w wr/\f_ (zY f k q c d g l)) (λn _=>c-(intOf n).toNat)
    case atStart=>exact⟨0,l,hR,rfl,X.f,X.i,bj⟩
    case round=>
     rename World=>I;clear F J t;obtain⟨g,l,b5,rfl,m,v,bm⟩:=hrel;obtain⟨-,aX,ah,E,A,x,-⟩:=(Z.i.hV (KR.I v)).open_;have S:=b_ m v;clear m v;by_cases aC:g<c
     .have b0:(g:Int)<(c:Int):=by omega
      go_wp2_with fail;go_fit (@pX 0 _ (by omega));rintro bX aj⟨co,rfl,al,aR⟩;obtain⟨Y,ab,Q,ai,rfl,-⟩:=al.parts;have ag:=b_ al aR;clear al aR E A x;go_wp2_with fail;obtain⟨au,V⟩:=hQ aj.heap.size;have aw:ih (aj.alloc (.cells #[.bool Y,.slice ab ai.length Q] 171)) au (.bool Y) (.slice ab ai.length Q):=ih.new aj _ _ V;rw[<-V];obtain⟨aM,ac⟩:=hQ (aj.alloc (.cells #[.bool Y,.slice ab ai.length Q] 171));have a1:Below I.heap.size I aM:=by rw[ac];exact ag.i.alloc ag.i.size _
      have aP:kB aM (.agg #[.bool Y,.slice ab ai.length Q]) 0 (L+M+3):=by rw[ac];exact(ag.f.mono (by omega)).below hS
      have a2:I.heap.size<=au:=by rw[V];exact ag.i.size
      rw[<-ac]at aw|-;have aH:=hO aw aP a1;have a3:=a_ a2;clear aw aP a1 ac V a2;go_loopw [9] (λaG wr=>∃(a:Nat) (aZ aY:Value),a<=q/\aG=.int .i64 a/\ih wr au aZ aY/\kB wr (.agg #[aZ,aY]) (dot f k d g a) (L+M+3+a)/\Below I.heap.size I wr) (λaG _=>q-(intOf aG).toNat)
      case atStart=>exact⟨0,_,_,hR,rfl,aH.f,aH.g,aH.l⟩
      case round=>
       rename World=>j;obtain⟨a,ci,b1,cf,rfl,i,ak,aq⟩:=hrel;obtain⟨bP,bS,cu,bq,a7,-⟩:=ak.parts;simp only[j9,j_,kb,jh]at a7;obtain⟨rfl,rfl⟩:=a7;obtain⟨b9,aS⟩:=hQ bq.length;rw[<-aS]at i ak;clear aS;have W:Below w.heap.size w j:=d_ S.i aq;obtain⟨-,aK,aa,F,J,t,bp,bn,an,aA⟩:=(Z.f.hV (KR.I W)).open_;obtain⟨-,aX,ah,E,A,x,bs,bD,am,ao⟩:=(Z.i.hV (KR.I W)).open_;have p:=hY i ak aq W;clear i ak aq W;by_cases aF:a<q
       .obtain⟨ad,rfl,av⟩:=an d C;obtain⟨aT,a0,aV,bg,H,N,-,-,be⟩:=aA d a C aF;obtain⟨R,rfl,aL⟩:=am a aF;obtain⟨aQ,bf,aW,a6,aJ,ar,-,-,bi⟩:=ao a g aF aC;rw[ij 2]at H N aJ ar;have af:=b_ be bi;have bK:(a:Int)<(q:Int):=by omega
        have bH:=a_ (show∀e,Below j.heap.size j e->e.cell? ⟨b,2,none⟩=some (.slice (some ⟨ad,0,none⟩) r aa)/\e.cell? ⟨ad,d,none⟩=some (.slice (some ⟨y d,0,none⟩) q q)/\e.cell? ⟨y d,a*2,none⟩=some (.bool aT)/\e.cell? ⟨y d,a*2+1,none⟩=some (.slice a0 aV bg)/\e.cell? ⟨b',2,none⟩=some (.slice (some ⟨R,0,none⟩) q ah)/\e.cell? ⟨R,a,none⟩=some (.slice (some ⟨u a,0,none⟩) c c)/\e.cell? ⟨u a,g*2,none⟩=some (.bool aQ)/\e.cell? ⟨u a,g*2+1,none⟩=some (.slice bf aW a6)from λe s=>⟨g_ s t,g_ s av,g_ s H,g_ s N,g_ s x,g_ s aL,g_ s aJ,g_ s ar⟩);clear be bi an aA am ao;go_upto_region 12 with fail
        go_cut [10]from 45 to 66 (λbw P=>E2 j (f d a*k a g) (L+M+1) bw P)
        case first=>
         go_region_held3 (λe=>e.cell? ⟨b,2,none⟩=some (.slice (some ⟨ad,0,none⟩) r aa)/\e.cell? ⟨ad,d,none⟩=some (.slice (some ⟨y d,0,none⟩) q q)/\e.cell? ⟨y d,a*2,none⟩=some (.bool aT)/\e.cell? ⟨y d,a*2+1,none⟩=some (.slice a0 aV bg)/\e.cell? ⟨b',2,none⟩=some (.slice (some ⟨R,0,none⟩) q ah)/\e.cell? ⟨R,a,none⟩=some (.slice (some ⟨u a,0,none⟩) c c)/\e.cell? ⟨u a,g*2,none⟩=some (.bool aQ)/\e.cell? ⟨u a,g*2+1,none⟩=some (.slice bf aW a6)) (exact bH.e _ (by first|exact hb9|exact hP.drew|exact(hS).drew|exact hb9.alloc hb9.size _|exact(hb9.setCell c_ _).setCell c_ _)) (first
           |(go_at_call 212;refine(@j4 _ _ (f d a) (k a g) L M _ (af.f.below (hP.drew)) (af.i.below (hP.drew)) (by omega) (by omega)).mono ?_;rintro g G⟨bF,rfl,O,D⟩;obtain⟨bE,bu,bt,bJ,rfl,-⟩:=O.parts;have hb9:Below j.heap.size j G:=hP.drew.trans D;clear D)
           |(go_at_call 212;refine(@j4 _ _ (f d a) (k a g) L M _ (af.f.below ((hS).drew)) (af.i.below ((hS).drew)) (by omega) (by omega)).mono ?_;rintro g G⟨bF,rfl,O,D⟩;obtain⟨bE,bu,bt,bJ,rfl,-⟩:=O.parts;have hb9:Below j.heap.size j G:=(hS).drew.trans (D.mono (by simp));have aI:ih G j.heap.size (.bool false) (.slice none 0 0):=(ih.new j (.bool false) (.slice none 0 0) rfl).drew'.below D (by simp);have cj:=aI.cells;clear D))
         all_goals
          go_wp2_with fail;go_meet
          case rel=>
           first
            |exact⟨_,_,_,rfl,hb9.size,ih.new _ _ _ rfl,O.below hS,hb9.alloc hb9.size _⟩
            |exact⟨_,_,_,rfl,c_,aI.put _ _,O.box aI.ty (by decide) _ _,(hb9.setCell c_ _).setCell c_ _⟩
        case rest=>
         obtain⟨bR,cl,b6,rfl,bG,aD,U,T⟩:=hcut;obtain⟨b4,b3,cc,bC,bd,-⟩:=U.parts;simp only[j9,j_,kb,jh]at bd;obtain⟨rfl,rfl⟩:=bd;obtain⟨cq,a8⟩:=hQ bC.length;rw[<-a8]at aD U;clear a8;have i:=p.f.below T p.f.lt;obtain⟨az,aB,a4,bh⟩:=i.cells;obtain⟨br,bv,-,-⟩:=aD.cells;have K:=hY i U (p.g.below T) (d_ p.j T);clear bG aD U T i F J t E A x av H N aL aJ ar;go_wp2_with fail;go_fit (@pg _ _ (dot f k d g a) (f d a*k a g) (L+M+3+a) (L+M+1) _ K.j K.g (by omega) (by omega));rintro cb cn⟨bT,rfl,aE,ap⟩;obtain⟨ck,bL,cw,cr,rfl,-⟩:=aE.parts;clear az aB a4 bh br bv;have i:=K.f.below ap K.f.lt;obtain⟨az,aB,a4,bh⟩:=i.cells;have ae:=hO i aE (d_ K.o ap);clear i aE ap;go_wp2;go_roundw
         .refine⟨a+1,_,_,by omega,by go_num,ae.f.put _ _,?_,(ae.l.setCell a3.e _).setCell a3.e _⟩;exact(ae.g.box ae.f.ty (by decide) _ _).mono (by omega)
         simp[intOf];omega
       .have a5:a=q:=by omega
        have ax:=S.f.hV (KR.I p.j);obtain⟨-,cd,cv,bV,cs,cg,ct,b2,bl,aO⟩:=ax.open_;obtain⟨ch,rfl,av⟩:=bl d C;obtain⟨bM,ca,bU,cx,H,N,bo,bz,-⟩:=aO d g C aC;obtain⟨az,aB,-,-⟩:=p.f.cells;rw[ij 2]at H N bo bz;have bk:=b_ ax a5;clear t bp bn an aA E A x bs bD am ao bl aO ax a5;go_wp2_with fail;go_region;all_goals
         go_wp2;go_roundw
         .have aN:=bk.f.set C aC (p.g.mono (M:=L+M+12) (by omega)) (tZ.zero _);rw[ij 2]at aN;have bc:=(bB.e d C).1;exact⟨g+1,_,by omega,by go_num,aN,((p.o.setCell bc _).setCell bc _).drew,a_ (bm.e.next (by rw[bk.i]))⟩
         simp[intOf];omega
     .go_wp2;go_roundw;exact⟨d+1,l,by omega,by go_num,S.f,S.i,a_ (bm.e.row (by omega))⟩;simp[intOf];omega
   .go_wp2;go_ret;exact⟨rfl,⟨z,X.f.congr (λo n ce bb=>bj.e o n bb (.inl (by omega)))⟩,X.i⟩
end R
section
open R
theorem R.kB.tight{w:World}{v:Value}{z:Int}{L:Nat}(h:kB w v z L)(n:z.natAbs<281474976710656):kB w v z 4:=by
 obtain⟨neg,j,b,f,g,d,e,c,m⟩:=h;refine⟨neg,j,b,f,g,d,e,c,?_⟩;rcases iX 4 b.length with a|a
 .exfalso;have o:=R.oY d (by intro i;rw[i]at a;simp at a);have l:10000^4<=10000^(b.length-1):=jb (by decide) (by omega);have k:z.natAbs=R.val b:=by
   cases neg
   .rw[c];simp
   .rw[c];simp
  omega
 .exact a
theorem R.jO.tight{B:Nat}{w:World}{b r c:Nat}{f:Nat->Nat->Int}{L:Nat}(h:jO B w b r c o f L)(u:∀a d,a<r->d<c->(f a d).natAbs<281474976710656):jO B w b r c o f 4:=by
 obtain⟨x,q,t,y,g,v⟩:=h;refine⟨x,q,t,y,λa e=>⟨(g a e).1,?_⟩,v⟩;obtain⟨j,k,m,A⟩:=(g a e).2;refine⟨j,k,m,λd i=>?_⟩;obtain⟨z,b,l,s,n,p⟩:=A d i;exact⟨z,b,l,s,n.tight (u a d e i),p⟩
theorem jT{r c:Nat}{zs:List Int}(h:hW r c zs):∀a b,a<r->b<c->(fz c zs a b).natAbs<281474976710656:=λ_ _ d e=>h.2.2 _ (jq d e)
theorem Hz(k u:Nat)(h:u<10^(k+1)):Lib.nDigits u<=k+1:=by
 induction k generalizing u with
 |zero=>rw[Lib.nDigits_small (by simpa using h)];exact c_
 |succ k b=>
  by_cases a:u<10
  .rw[Lib.nDigits_small a];omega
  .rw[Lib.nDigits_big a];have:=b (u/10) (by rw[jx]at h;omega);omega
theorem Es(k:Nat)(z:Int)(h:z.natAbs<10^(k+1)):(Lib.itoa z).length<=k+2:=by
 have b:=Hz k z.natAbs h;unfold Lib.itoa;by_cases a:z<0
 .rw[if_pos a,j3,Lib.decDigits_length];omega
 .rw[if_neg a,Lib.decDigits_length];rw[show z.toNat=z.natAbs from by omega];omega
theorem wW{r c k:Nat}{zs:List Int}(j:r<=4)(n:c<=4)(h:zs.length=r*c)(q:∀a,a<r*c->(zs.getD a 0).natAbs<10^(k+1))(x:k<=2000000000):mK r c zs:=by
 refine⟨by omega,by omega,h,?_⟩;have o:r*c<=16:=jR j n;have m:∀(b:List (List UInt8)) (a:Nat),(∀e∈b,e.length<=k+2)->(iM c a b).length<=b.length*(k+4):=by
  intro b;induction b with
  |nil=>intro a _;simp[iM]
  |cons t w s=>
   intro a d;have g:=d t (by simp);have u:=s (a+1) (λe l=>d e (lg _ l));rw[iM];simp only[j6,j3,rG];split<;>simp<;>omega
 have g:=m (zs.map Lib.itoa) 0 (λe d=>by
  obtain⟨y,i,rfl⟩:=kt.1 d;obtain⟨f,p,rfl⟩:=lZ.1 i;have:=q f (by omega);rw[show zs.getD f 0=zs[f]from by simp[List.getD,iI p]]at this;exact Es k _ this)
 rw[rJ,h]at g;have u:=pE r (by omega);have v:=pE c (by omega);unfold lk;simp only[j6,j3];have:r*c*(k+4)<=16*(k+4):=jo _ o;omega
theorem BF{r q c:Nat}{zs ys:List Int}(p:hW r q zs)(h:hW q c ys):mK r c (kL r q c zs ys):=by
 refine wW (k:=39) p.1 h.2.1 (x5 _ _ _ _ _) (λa m=>?_) (by omega);have o:0<c:=by
  rcases kl c with e|e
  .subst e;rw[l6]at m;omega
  .exact e
 have t:a/c<r:=by rw[ss o];exact m
 have n:=mQ a o;have u:a/c*c+a%c=a:=by rw[ij];exact kY a c
 have s:=s6 (q:=q) (zs:=zs) (ys:=ys) t n;rw[u]at s;rw[s];have x:=Ja (f:=λl d=>zs.getD (l*q+d) 0) (g:=λl d=>ys.getD (l*c+d) 0) (i:=a/c) (j:=a%c) (A:=281474976710656) q (λw b=>nf (p.2.2 _ (jq t b))) (λw b=>nf (h.2.2 _ (jq b n)));have v:q*(281474976710656*281474976710656)<=4*(281474976710656*281474976710656):=jo _ h.1;exact Dk (iy x v) (by decide)
variable{E:List o4}
theorem Cb{ms:List Hm}{nx:Nat}{g h k e:Int}{a b:Value}(hd:pq ms)(u:rN (λ_ d z _=>d=z) E ms g h a b c)(t:ou ms nx g h k e M i):((c=2\/c=3\/c=4)/\e=c/\k=-1/\M=ms/\i=nx)\/(c=0/\e=5/\k=-1/\M=ms/\i=nx/\∀j,j<24->ms.getD j none≠none)\/(c=0/\e=0/\k=(nx:Int)/\∃o r j l d s v m n w,o∈E/\r∈E/\j<24/\ms.getD j none=some (o.1,l,d,s)/\v<24/\ms.getD v none=some (r.1,d,m,n)/\hW l d s/\hW d m n/\a=.pointer (some ⟨o.2.2,0,none⟩)/\b=.pointer (some ⟨r.2.2,0,none⟩)/\ke ms w/\M=ms.set w (some (nx,l,m,kL l d m s n))/\i=nx+1):=by
 rcases t with⟨A,rfl,rfl,rfl,rfl⟩|⟨j,K,l,d,s,v,L,z,m,n,C,F,G,D,B,J,t⟩
 .exact .inl ⟨.inl (u.no A),(u.no A).symm,rfl,rfl,rfl⟩
 .obtain⟨o,r,I,H,rfl,rfl,u⟩:=u.yes hd C F G D B J;rcases u with⟨q,rfl⟩|⟨q,p,rfl⟩|⟨q,p,rfl,rfl,rfl⟩
  .rcases t with⟨-,rfl,rfl,rfl,rfl⟩|⟨f,-⟩|⟨f,-⟩|⟨f,-⟩
   .exact .inl ⟨.inr (.inl rfl),rfl,rfl,rfl,rfl⟩
   all_goals exact absurd f q
  .rcases t with⟨f,-⟩|⟨-,-,rfl,rfl,rfl,rfl⟩|⟨-,x,-⟩|⟨-,x,-⟩
   .exact absurd q f
   .exact .inl ⟨.inr (.inr rfl),rfl,rfl,rfl,rfl⟩
   all_goals exact absurd x p
  .rcases t with⟨f,-⟩|⟨-,x,-⟩|⟨-,-,y,rfl,rfl,rfl,rfl⟩|⟨rfl,-,rfl,rfl,w,y,rfl,rfl⟩
   .exact absurd q f
   .exact absurd p x
   .exact .inr (.inl ⟨rfl,rfl,rfl,rfl,rfl,y⟩)
   .exact .inr (.inr ⟨rfl,rfl,rfl,o,r,j,l,d,s,v,m,n,w,I,H,C,F,D,B,p.1,p.2,rfl,rfl,y,rfl,rfl⟩)
theorem Ev{B W:Nat}{ms:List Hm}{nx:Nat}{g h:Int}{w:World}(S:jL B w W i j k ms nx E)(bk:nx<1000000):Calls Tryz.prog 121 #[.pointer (some ⟨W,0,none⟩),.int .i64 g,.int .i64 h] w λl f=>l=.returned (.bool true)/\ie B w f W i j k nx:=by
 have bt:=S.size;have aD:=S.uZ;have c:=a_ S;clear S;go_in;go_wp2_with fail;refine(@qv B W i j k ms nx E g h 14 _ _ c.e (.inr (.inr (.inl ⟨rfl,rfl⟩)))).mono ?_;rintro l bE⟨⟨bU,bI,bM,rfl,aK⟩,M⟩;have z:=c.e.below M;obtain⟨bN,bQ,bO,b3,bD,bw,-⟩:=z.il;have L:=hO aK M z;have b1:=M.size;clear aK M z;go_wp2_with fail;refine(@Af B i j k g h ms nx _ L.j c.l.dst bk).mono ?_;rintro l bi⟨x,R,aZ,U,rfl,hrel,a7,av⟩;have aT:=Cb c.l.dst L.f hrel;have aw:Below B w bi:=(L.g.mono bt).trans (av.below (tN.le c.f.2.2.2.2.2.2.1 c.f.2.2.2.2.2.2.2) (by omega));have af:=L.l.pK av;obtain⟨bR,aH,ax,a6,a1,z,aY,aA,aC,a4,b0,aP,ba⟩:=id af;have aM:=b_ aP ba;clear aP ba;have bW:=aw.size;have e:=tk a7 af aw aT a1 z aY aA aC a4;clear hrel a7 av aT aw af a1 z aY aA aC a4 bw;go_wp2_with fail;refine(@lq W i nx 1 _ _ _ _ E _ (by omega) e.r e.y aD).mono ?_;rintro l f⟨rfl,rfl⟩;have aQ:=c.l.num;have aN:=sF c.l.len;have T:=b_ aQ aN;clear aQ aN;rcases e.m with⟨bx,rfl,rfl,rfl,rfl⟩|⟨rfl,rfl,rfl,rfl,rfl,aB⟩|⟨rfl,rfl,rfl,bq,bs,aR,b,n,r,aF,a,p,s,I,H,t,K,u,C,q,v,rfl,rfl,d,G,A⟩
 .have y:f_ (ie B w f W i j k U):=a_ ⟨⟨aZ,U,E,⟨e.f,e.g,c.l⟩,by omega⟩,e.j⟩;rcases bx with rfl|rfl|rfl
  .go_wp2_with fail;go_ret;exact⟨rfl,y.e⟩
  .go_wp2_with fail;go_ret;exact⟨rfl,y.e⟩
  .go_wp2_with fail;go_ret;exact⟨rfl,y.e⟩
 .have y:f_ (ie B w f W i j k U):=a_ ⟨⟨aZ,U,E,⟨e.f,e.g,c.l⟩,by omega⟩,e.j⟩;have F:decide (24<E.length+1)=true:=decide_eq_true (by have bS:=T.f;have b5:=T.i.2 aB;omega);rw[F];clear aB F;go_wp2_with fail;go_ret;exact⟨rfl,y.e⟩
 .have bC:E.length≠24:=λh=>absurd d.2.1 ((T.i.1 (by rw[<-T.f];exact h)) s d.1);have F:decide (24<E.length+1)=false:=decide_eq_false (by omega);rw[F];have bf:=IU I H t K u C q v d G A;obtain⟨bh,X⟩:=hQ bq.2.2;obtain⟨bl,au⟩:=hQ bs.2.2;have aL:=b_ X au;rw[<-X,<-au];clear I H t K u C q v d G A F X au;go_wp2_with fail;obtain⟨V,J⟩:=hQ (f.alloc (.cells #[.int .i64 (nx:Nat)] 3));have m:Below f.heap.size f V:=by rw[J];exact hS
  have aE:V.heap.size=f.heap.size+1:=by rw[J];simp
  have a2:V.heap[f.heap.size]?=some (.cells #[.int .i64 (nx:Nat)] 3 (0,0)):=by rw[J];exact heap_alloc_new f _
  rw[<-J];clear J;have bz:=bf.e;obtain⟨I,H,t,K,u,C,q,v,d,G,A⟩:=bz;have ar:nu B V i j k (ms.set s (some (nx,b,a,kL b n a r p))) (nx+1):=by
   have:=e.f.below m;rw[G,A]at this;exact this
  have Z:=BF q v;have aI:(ms.set s (some (nx,b,a,kL b n a r p))).getD s none=some (nx,b,a,kL b n a r p):=by rw[lU (by rw[c.l.len];exact d.1),if_pos rfl]
  have aX:=c.l.push d b a (kL b n a r p);obtain⟨-,-,-,-,O,ak,aj,an,ab,a0⟩:=e.e;have az:∀x,S4 W aH ax a6 x->x<f.heap.size:=λx o=>by
   rcases o with o|o|o|o
   .rw[o];exact O.lt
   .exact(ak.own x o).1
   .exact(aj.own x o).1
   .exact(an.own x o).1
  have ag:=O.J (m.block W O.lt);have ai:=ak.below m;have ae:=aj.below m;have Y:=an.below m;refine(@vI B W i j k f.heap.size s b a nx (nx+1) _ aH ax a6 (ms.set s (some (nx,b,a,kL b n a r p))) E (kL b n a r p) _ ar ag ai ae Y ab (by omega) d.1 aI (aX 0).dst Z aD a2 (λR=>by have:=az _ R;omega)).mono ?_;rintro l P⟨bB,rfl,bp,bX,bT,bV,bj,bm,rfl,bJ,bK,aG,a8,a3,aV,aJ,a5,ad,aU⟩;obtain⟨bu,b2,-,ay,-⟩:=id ad;obtain⟨bn,bd⟩:=ay.qk;obtain⟨Q,bb⟩:=we ar ag ai ae Y ab (a0.below m) (aM.f.below m) aM.i c.l d Z (by rw[aE];omega) a8 a3 aV aJ a5 ad aU;have aq:Below B w P:=e.j.trans ((m.mono (by omega)).trans bb);have am:∀aa l,ms.getD aa none=some l->(ms.set s (some (nx,b,a,kL b n a r p))).getD aa none=some l:=λaa l ap=>by
   rw[lU (by rw[c.l.len];exact d.1),if_neg (λR=>by rw[R,d.2.1]at ap;cases ap)];exact ap
  obtain⟨-,-,br,bG,bc⟩:=Q.entry (List.mem_append.2 (.inl I)) t (am aR _ K) rfl;obtain⟨-,-,bo,bP,aW⟩:=Q.entry (List.mem_append.2 (.inl H)) u (am aF _ C) rfl;obtain⟨bg,ac⟩:=bc.qk;obtain⟨be,ah⟩:=aW.qk;rw[<-aL.f]at ac;rw[<-aL.i]at ah;have D:=iu bd (ac.tight (jT q)) (ah.tight (jT v)) Q aq;have bA:=q.1;have bH:=q.2.1;have b4:=v.2.1;have bF:=aq.size;clear a8 a3 aV aJ a5 bd aU Q aq bb ad ay aI m ar aX aE ag ai ae Y O ak aj an ab a0 az Z am bc aW ac ah I H t K u C q v d G A a2;have bL:=oP ⟨bj,0,none⟩ 1 bm;go_wp2_with fail;refine(@kn 4 4 bh b n bg (fz n r) br bl a be (fz a p) bo _ D.g D.j (by omega) (by omega) (by omega) (by omega)).mono ?_;rintro l bZ⟨rfl,⟨bv,aS⟩,N⟩;have bY:=cell_later N aG;have ao:=hO (aS.mono (show 20<=40000000001 by omega)) (D.f.hV (KR.I N)) N;clear aS N aG;go_wp2_with fail;try go_quiet (fail)
  try go_wp2_with fail
  refine(@lM P.heap.size b a bv _ 0 bp bn _ bu 40000000001 _ ao.f ao.g (λaR aF t u=>(s6 t u).symm) (by omega) (by omega) (by omega)).mono ?_;rintro l a9⟨rfl,aO⟩;have al:Below P.heap.size P a9:=d_ ao.l aO;have y:f_ (ie B w a9 W i j k nx):=a_ ⟨⟨_,_,_,D.m.below al,by omega⟩,D.x.trans (al.mono (by omega))⟩;clear aO al;go_wp2_with fail;go_ret;exact⟨rfl,y.e⟩
end
def x4(w:World)(b o:Nat)(x y z:Value):Prop:=w.cell? ⟨b,o,none⟩=some x/\w.cell? ⟨b,o+1,none⟩=some y/\w.cell? ⟨b,o+2,none⟩=some z
theorem x4.later{w:World}{b o:Nat}{x y z:Value}(h:x4 w b o x y z)(a:Below w.heap.size w v):x4 v b o x y z:=⟨g_ a h.1,g_ a h.2.1,g_ a h.2.2⟩
theorem x4.grown{w:World}{b o s:Nat}{x y z:Value}(h:x4 w b o x y z)(c:w.grownBy v (some s))(a:b≠s):x4 v b o x y z:=⟨c.cell h.1 (by simpa using a),c.cell h.2.1 (by simpa using a),c.cell h.2.2 (by simpa using a)⟩
theorem Kw{p o g r c row:Nat}{zs:List Int}{L:Nat}{x:Value}{z:Int}{w:World}(ac:x4 w p o (.int .i64 r) (.int .i64 c) (.slice (some ⟨g,0,none⟩) (r*c) k))(d:iA w (.slice (some ⟨g,0,none⟩) (r*c) k) (r*c) zs L)(C:jE w x z L)(O:r<=99)(W:c<=99)(A:row<r)(M:l<c):Calls Tryz.prog 92 #[.pointer (some ⟨p,o,none⟩),.int .i64 row,.int .i64 l,x] w λF m=>F=.returned (.tuple #[])/\iA m (.slice (some ⟨g,0,none⟩) (r*c) k) (r*c) (zs.set (row*c+l) z) L/\w.grownBy m (some g)/\KU w m:=by
 obtain⟨s,v,t⟩:=ac;have h:=jq A M;obtain⟨ao,ad,Y,Z,n,f,-⟩:=d.cell _ h;have y:=d.frozen (2*(row*c+l));have q:=d.frozen (2*(row*c+l)+1);have u:g<w.heap.size:=sD w _ n;have af:=ze A M;obtain⟨an,ag⟩:=BW O W A;obtain⟨ap,T,rfl,S,ae,U,H⟩:=id C;obtain⟨Q,P,rfl,-⟩:=H.open_;rw[ij 2]at n f y q;have aw:=qh n;have aj:=qh f;have ar:=ra y u;have ai:=ra q u;have aq:∀e,∀B D,(((w.setCell ⟨g,(row*c+l)*2,none⟩ e).alloc B).alloc D).cell? ⟨g,(row*c+l)*2+1,none⟩=some (.slice ad Y Z):=λe=>qh (by rw[jZ _ _ _ _ (by simp)];exact f);have al:∀e,∀B D,(((w.setCell ⟨g,(row*c+l)*2,none⟩ e).alloc B).alloc D).frozen? ⟨g,(row*c+l)*2+1,none⟩=false:=λe=>ra (by rw[World.frozen?_setCell];exact q) (by simp[World.setCell];exact u);have au:=qh s;have ak:=qh v;have X:=qh t;have ah:=iL s;have av:=iL v;have aa:=iL t;have E:=a_ C;have I:=a_ d;have V:=a_ h;clear C d S ae U H s v t n f y q;obtain⟨R,J⟩:=hQ (decide (z<0));rw[<-J]at E|-;clear J;obtain⟨ab,N⟩:=hQ (r*c);rw[<-N]at h X aa I|-;have am:(row:Int)*(c:Int)+(l:Int)<(ab:Int):=by rw[<-m_];omega
 clear N V;go_in;go_wp2_with (go_at_call 99;refine(yS).mono ?_;rintro F m⟨rfl,rfl⟩;rw[af]);go_region;all_goals
  go_end0;obtain⟨K,G⟩:=I.e.stored _ h E.e;rw[ij 2]at K G;refine⟨rfl,?_,?_,?_⟩
  .refine K.below ?_;repeat(first|exact hP|refine iV ?_|refine ia ?_ (by simp<;>omega) _)
  .refine wm (i:=(row*c+l)*2) (j:=(row*c+l)*2+1) (a:=.bool R) (b:=.slice Q T.length P) ?_;repeat(first|exact hP|refine iV ?_|refine ia ?_ (by simp<;>omega) _)
  .refine G.trans (KU.I ?_);repeat(first|exact hP|refine iV ?_|refine ia ?_ (by simp<;>omega) _)
structure iT (w:World) (p o g r c:Nat) (zs:List Int) (L:Nat):Prop where
 hr:r<=99
 hc:c<=99
 lX:x4 w p o (.int .i64 r) (.int .i64 c) (.slice (some ⟨g,0,none⟩) (r*c) (r*c))
 kA:iA w (.slice (some ⟨g,0,none⟩) (r*c) (r*c)) (r*c) zs L
theorem iT.sv{w:World}{p o g r c L:Nat}{zs:List Int}(h:iT w p o g r c zs L):i_ w (.agg #[.int .i64 r,.int .i64 c,.slice (some ⟨g,0,none⟩) (r*c) (r*c)]) r c zs L:=⟨h.hr,h.hc,_,rfl,h.kA⟩
theorem iT.later{w:World}{p o g r c L:Nat}{zs:List Int}(h:iT w p o g r c zs L)(a:Below w.heap.size w v):iT v p o g r c zs L:=⟨h.hr,h.hc,h.lX.later a,h.kA.below a⟩
theorem iT.mono{w:World}{p o g r c L M:Nat}{zs:List Int}(h:iT w p o g r c zs L)(d:L<=M):iT w p o g r c zs M:=by
 refine⟨h.hr,h.hc,h.lX,?_⟩;obtain⟨f,k,i,j⟩:=h.kA;refine⟨f,k,i,λq n=>?_⟩;obtain⟨l,a,m,b,e⟩:=j q n;exact⟨l,a,m,b,e.mono d⟩
theorem iT.len{w:World}{p o g r c L:Nat}{zs:List Int}(h:iT w p o g r c zs L):zs.length=r*c:=h.kA.1
theorem iT.Be{w:World}{p o g r c L:Nat}{zs:List Int}(h:iT w p o g r c zs L):g<w.heap.size:=h.kA.ty.lt
theorem iT.vf{w:World}{p o g r c L:Nat}{zs:List Int}(h:iT w p o g r c zs L):p<w.heap.size:=sD w _ h.lX.1
theorem oQ{p o g r c row d:Nat}{zs:List Int}{L:Nat}{x:Value}{z:Int}{w:World}(a:iT w p o g r c zs L)(m:p≠g)(h:jE w x z L)(j:row<r)(k:d<c):Calls Tryz.prog 92 #[.pointer (some ⟨p,o,none⟩),.int .i64 row,.int .i64 d,x] w λf b=>f=.returned (.tuple #[])/\iT b p o g r c (zs.set (row*c+d) z) L/\w.grownBy b (some g)/\KU w b:=by
 go_fit (Kw a.lX a.kA h a.hr a.hc j k);rintro f b⟨rfl,l,e,i⟩;exact⟨rfl,⟨a.hr,a.hc,a.lX.grown e m,l⟩,e,i⟩
def e_(c:Nat)(zs:List Int)(i j:Nat):Int:=zs.getD (i*c+j) 0
theorem kN(ms:List Int)(r c:Nat)(f:ms.length=r*c)(a e i j:Nat)(z:Int)(g:a<r)(d:e<c)(n:j<c):e_ c (ms.set (a*c+e) z) i j=if i=a/\j=e then z else e_ c ms i j:=by
 unfold e_;by_cases b:i=a/\j=e
 .obtain⟨rfl,rfl⟩:=b;have:i*c+j<ms.length:=by rw[f];exact jq g d
  rw[if_pos ⟨rfl,rfl⟩];simp[List.getD,this]
 .rw[if_neg b];have l:a*c+e≠i*c+j:=λm=>by
   obtain⟨h,k⟩:=zi d n m;exact b ⟨h.symm,k.symm⟩
  simp[List.getD,mb l]
theorem KU.N{w:World}{g:Nat}{t:TypeId}(h:w.grownBy v (some g))(e:Ty w g t)(f:t≠144):KU w v:=by
 intro d j b;rw[h.block d (jt.1 b).1 ?_]
 .exact b
 .intro c;simp only[iH]at c;subst c;obtain⟨k,i,a⟩:=e;rw[b]at a;simp only[iH,ur]at a;exact f a.2.1.symm
theorem iA.grown{w:World}{g:Nat}{n L:Nat}{zs:List Int}(h:iA w x n zs L)(o:w.grownBy v (some g))(f:∀a C y,x=.slice (some a) C y->a.block≠g)(t:KU w v):iA v x n zs L:=by
 obtain⟨A,i,b,B⟩:=h;refine⟨A,i,⟨b.1,?_⟩,λr u=>?_⟩
 .rcases b.2 with l|⟨d,D,k,c,z,e,q⟩
  .exact .inl l
  .exact .inr ⟨d,D,k,c,z,by rw[o.block d (jt.1 e).1 (by simpa using f _ _ _ c)];exact e,q⟩
 .obtain⟨a,m,j,s,p⟩:=B r u;exact⟨a,m,j,s,p.hV t⟩
theorem iT.other{w:World}{p o g r c L:Nat}{zs:List Int}(h:iT w p o g r c zs L)(a:w.grownBy v (some i))(e:KU w v)(d:p≠i)(f:g≠i):iT v p o g r c zs L:=
 ⟨h.hr,h.hc,h.lX.grown a d,h.kA.grown a (λj k c b=>by
  simp only[iC,iH]at b;obtain⟨rfl,-,-⟩:=b;exact f) e⟩
def sw(a b i:Nat):Nat:=if i=a then b else if i=b then a else i
def Ho(r c a b e:Nat)(zs ms:List Int):Prop:=∀d f,d<r->f<c->e_ c ms d f=e_ c zs (if f<e then sw a b d else d) f
theorem Ho.step{r c a b e:Nat}{zs ms:List Int}(h:Ho r c a b e zs ms)(p:ms.length=r*c)(s:a<r)(v:b<r)(j:e<c){u:Int}(y:u=e_ c ms a e)(x:d=e_ c ms b e):Ho r c a b (e+1) zs ((ms.set (a*c+e) d).set (b*c+e) u):=by
 intro g f t k;rw[kN _ r c (by simpa using p) b e g f u v j k,kN ms r c p a e g f d s j k];have w:=h a e s j;have q:=h b e v j;rw[if_neg (qy e)]at w q;by_cases m:f=e
 .subst m;rw[if_pos (nb f)];by_cases i:g=b
  .rw[if_pos ⟨i,rfl⟩,y,w,i];unfold sw;by_cases n:b=a
   .rw[if_pos n,n]
   .rw[if_neg n,if_pos rfl]
  .rw[if_neg (λh=>i h.1)];by_cases l:g=a
   .rw[if_pos ⟨l,rfl⟩,x,q,l];unfold sw;rw[if_pos rfl]
   .rw[if_neg (λh=>l h.1),h g f t k,if_neg (qy f)];unfold sw;rw[if_neg l,if_neg i]
 .rw[if_neg (λh=>m h.2),if_neg (λh=>m h.2),h g f t k];by_cases o:f<e
  .rw[if_pos o,if_pos (by omega)]
  .rw[if_neg o,if_neg (by omega)]
def xD(w d:World)(p o g r c:Nat)(f:Nat->Nat->Int)(L:Nat):Prop:=(∃e,iT d p o g r c e L/\∀a b,a<r->b<c->e_ c e a b=f a b)/\w.grownBy d (some g)
theorem nI{p o g r c a b:Nat}{zs:List Int}{L:Nat}{w:World}(q:iT w p o g r c zs L)(M:p≠g)(z:a<r)(x:b<r):Calls Tryz.prog 133 #[.pointer (some ⟨p,o,none⟩),.int .i64 a,.int .i64 b] w λe ah=>e=.returned (.tuple #[])/\xD w ah p o g r c (λf n=>e_ c zs (sw a b f) n) L:=by
 have af:=a_ q;have ao:=q.hr;have aq:=q.hc;clear q;go_in;go_wp2_with fail;go_loopw [6] (λf wr=>∃(e:Nat) (t:List Int),e<=c/\f=.int .i64 e/\f_ (iT wr p o g r c t L/\w.grownBy wr (some g)/\Ho r c a b e zs t)) (λf _=>c-(intOf f).toNat)
 case atStart=>exact⟨0,zs,hR,rfl,a_ ⟨af.e,jM _ _,λf n _ _=>by simp⟩⟩
 case round=>
  obtain⟨e,t,an,rfl,d⟩:=hrel;obtain⟨al,W,X⟩:=d.f.lX;have au:=d.f.Be;have av:=d.f.vf;by_cases j:e<c
  .have ad:(e:Int)<(c:Int):=by omega
   go_wp2_with fail;go_fit (jy d.f.sv z j);rintro B m⟨V,rfl,h,F⟩;obtain⟨A,E,u,D,rfl⟩:=h.shape;have G:=hU m (.cells #[.bool A,.slice E u D] 79);have C:=d_ F G;have ar:=F.size;obtain⟨ab,ak,U⟩:=d.f.lX.later C;have s:=hO C (h.below G) (iw.new m (.bool A) (.slice E u D) rfl);clear h F G C al W X;go_wp2_with fail;go_fit (jy (d.f.sv.below s.f) x j);rintro B P⟨V,rfl,h,l⟩;obtain⟨Y,T,ac,aa,rfl⟩:=h.shape;have aw:m.heap.size+1<=P.heap.size:=by have:=l.size;simpa using this
   have k:=hU P (.cells #[.bool Y,.slice T ac aa] 79);have O:=s.f.trans ((d_ l k).mono (by simp;omega));have H:=(s.l.below l (by simp)).below k (by omega);have i:=hY O (h.below k) ((s.g.below l).below k) H;clear h l k O H ab ak U;go_wp2_with fail;go_fit (oQ (d.f.later i.f) M i.g z j);rintro B Z⟨rfl,N,y,R⟩;have K:iw Z m.heap.size (.bool A) (.slice E u D):=by
    unfold iw;rw[y.block _ (by simp;omega) (by simp;omega)];exact i.o
   obtain⟨ai,aj,-,-⟩:=K.cells;have v:=hO N y (i.j.hV R);clear N y R K;go_wp2_with fail;go_fit (oQ v.f M v.l x j);rintro B ap⟨rfl,I,Q,-⟩;have J:=b_ I (hZ (hZ (ib d.g i.f) v.g) Q);clear I Q ai aj;go_wp2;go_roundw;exact⟨e+1,_,by omega,by go_num,a_ ⟨J.f,J.i,d.l.step d.f.len z x j rfl rfl⟩⟩;simp[intOf];omega
  .have ad:¬(e:Int)<(c:Int):=by omega
   have S:e=c:=by omega
   have am:=a_ S;clear S;go_wp2;go_end0;refine⟨rfl,⟨t,d.f,λf n ae ag=>?_⟩,d.g⟩;rw[d.l f n ae ag,if_pos (by have:=am.e;omega)]
def Dp(r c a b e:Nat)(zs ms:List Int):Prop:=∀d f,d<r->f<c->e_ c ms d f=e_ c zs d (if d<e then sw a b f else f)
theorem Dp.step{r c a b e:Nat}{zs ms:List Int}(h:Dp r c a b e zs ms)(p:ms.length=r*c)(s:a<c)(v:b<c)(i:e<r){u:Int}(y:u=e_ c ms e a)(x:d=e_ c ms e b):Dp r c a b (e+1) zs ((ms.set (e*c+a) d).set (e*c+b) u):=by
 intro f g t j;rw[kN _ r c (by simpa using p) e b f g u i v j,kN ms r c p e a f g d i s j];have w:=h e a i s;have q:=h e b i v;rw[if_neg (qy e)]at w q;by_cases m:f=e
 .subst m;rw[if_pos (nb f)];by_cases l:g=b
  .rw[if_pos ⟨rfl,l⟩,y,w,l];unfold sw;by_cases n:b=a
   .rw[if_pos n,n]
   .rw[if_neg n,if_pos rfl]
  .rw[if_neg (λh=>l h.2)];by_cases k:g=a
   .rw[if_pos ⟨rfl,k⟩,x,q,k];unfold sw;rw[if_pos rfl]
   .rw[if_neg (λh=>k h.2),h f g t j,if_neg (qy f)];unfold sw;rw[if_neg k,if_neg l]
 .rw[if_neg (λh=>m h.1),if_neg (λh=>m h.1),h f g t j];by_cases o:f<e
  .rw[if_pos o,if_pos (by omega)]
  .rw[if_neg o,if_neg (by omega)]
theorem yJ{p o g r c a b:Nat}{zs:List Int}{L:Nat}{w:World}(q:iT w p o g r c zs L)(M:p≠g)(z:a<c)(x:b<c):Calls Tryz.prog 134 #[.pointer (some ⟨p,o,none⟩),.int .i64 a,.int .i64 b] w λe ah=>e=.returned (.tuple #[])/\xD w ah p o g r c (λf n=>e_ c zs f (sw a b n)) L:=by
 have af:=a_ q;have ao:=q.hr;have aq:=q.hc;clear q;go_in;go_wp2_with fail;go_loopw [6] (λf wr=>∃(e:Nat) (t:List Int),e<=r/\f=.int .i64 e/\f_ (iT wr p o g r c t L/\w.grownBy wr (some g)/\Dp r c a b e zs t)) (λf _=>r-(intOf f).toNat)
 case atStart=>exact⟨0,zs,hR,rfl,a_ ⟨af.e,jM _ _,λf n _ _=>by simp⟩⟩
 case round=>
  obtain⟨e,t,an,rfl,d⟩:=hrel;obtain⟨al,W,X⟩:=d.f.lX;have au:=d.f.Be;have av:=d.f.vf;by_cases j:e<r
  .have ad:(e:Int)<(r:Int):=by omega
   go_wp2_with fail;go_fit (jy d.f.sv j z);rintro B m⟨V,rfl,h,F⟩;obtain⟨A,E,u,D,rfl⟩:=h.shape;have G:=hU m (.cells #[.bool A,.slice E u D] 79);have C:=d_ F G;have ar:=F.size;obtain⟨ab,ak,U⟩:=d.f.lX.later C;have s:=hO C (h.below G) (iw.new m (.bool A) (.slice E u D) rfl);clear h F G C al W X;go_wp2_with fail;go_fit (jy (d.f.sv.below s.f) j x);rintro B P⟨V,rfl,h,l⟩;obtain⟨Y,T,ac,aa,rfl⟩:=h.shape;have aw:m.heap.size+1<=P.heap.size:=by have:=l.size;simpa using this
   have k:=hU P (.cells #[.bool Y,.slice T ac aa] 79);have O:=s.f.trans ((d_ l k).mono (by simp;omega));have H:=(s.l.below l (by simp)).below k (by omega);have i:=hY O (h.below k) ((s.g.below l).below k) H;clear h l k O H ab ak U;go_wp2_with fail;go_fit (oQ (d.f.later i.f) M i.g j z);rintro B Z⟨rfl,N,y,R⟩;have K:iw Z m.heap.size (.bool A) (.slice E u D):=by
    unfold iw;rw[y.block _ (by simp;omega) (by simp;omega)];exact i.o
   obtain⟨ai,aj,-,-⟩:=K.cells;have v:=hO N y (i.j.hV R);clear N y R K;go_wp2_with fail;go_fit (oQ v.f M v.l j x);rintro B ap⟨rfl,I,Q,-⟩;have J:=b_ I (hZ (hZ (ib d.g i.f) v.g) Q);clear I Q ai aj;go_wp2;go_roundw;exact⟨e+1,_,by omega,by go_num,a_ ⟨J.f,J.i,d.l.step d.f.len z x j rfl rfl⟩⟩;simp[intOf];omega
  .have ad:¬(e:Int)<(r:Int):=by omega
   have S:e=r:=by omega
   have am:=a_ S;clear S;go_wp2;go_end0;refine⟨rfl,⟨t,d.f,λf n ae ag=>?_⟩,d.g⟩;rw[d.l f n ae ag,if_pos (by have:=am.e;omega)]
theorem uG{p o g r c a:Nat}{zs:List Int}{L:Nat}{w:World}(l:iT w p o g r c zs L)(T:p≠g)(j:a<r):Calls Tryz.prog 137 #[.pointer (some ⟨p,o,none⟩),.int .i64 a] w λe Z=>e=.returned (.tuple #[])/\xD w Z p o g r c (λb d=>if b=a then-e_ c zs b d else e_ c zs b d) L:=by
 have Y:=a_ l;have ae:=l.hr;have ah:=l.hc;obtain⟨n,s⟩:∃n:Nat->Nat->Int,n=λb d=>if b=a then-e_ c zs b d else e_ c zs b d:=⟨_,rfl⟩
 rw[<-s];have J:=a_ s;clear l s;go_in;go_wp2_with fail;go_loopw [4] (λb wr=>∃(e:Nat) (i:List Int),e<=c/\b=.int .i64 e/\f_ (iT wr p o g r c i L/\w.grownBy wr (some g)/\∀b d,b<r->d<c->e_ c i b d=if d<e then n b d else e_ c zs b d)) (λb _=>c-(intOf b).toNat)
 case atStart=>exact⟨0,zs,hR,rfl,a_ ⟨Y.e,jM _ _,λb d _ _=>by simp⟩⟩
 case round=>
  obtain⟨e,i,ad,rfl,f⟩:=hrel;obtain⟨ab,O,P⟩:=f.f.lX;have ai:=f.f.Be;have al:=f.f.vf;by_cases k:e<c
  .have V:(e:Int)<(c:Int):=by omega
   go_wp2_with fail;go_fit (jy f.f.sv j k);rintro E aj⟨N,rfl,h,v⟩;obtain⟨ak,an,af,am,rfl⟩:=h.shape;have G:=b_ h v;have S:=v.size;clear h v;go_wp2_with fail;go_fit (nA G.f);rintro E aa⟨N,rfl,h,y⟩;obtain⟨Q,K,U,R,rfl⟩:=h.shape;have M:=y.size;have x:=hU aa (.cells #[.bool Q,.slice K U R] 79);have F:=G.i.trans ((y.trans (x.mono M)).mono S);have q:=b_ F (h.below x);clear h y x F ab O P;go_wp2_with fail;go_fit (oQ (f.f.later q.f) T q.i j k);rintro E ag⟨rfl,D,B,-⟩;have z:=b_ D (hZ (ib f.g q.f) B);clear D B;go_wp2;go_roundw
   .refine⟨e+1,_,by omega,by go_num,a_ ⟨z.f,z.i,λb d u m=>?_⟩⟩;rw[kN i r c f.f.len a e b d _ j k m];have W:=f.l b d u m;have H:=f.l a e j k;rw[if_neg (qy e)]at H;by_cases t:b=a/\d=e
    .obtain⟨rfl,rfl⟩:=t;rw[if_pos ⟨rfl,rfl⟩,if_pos (nb d),J.e];show-e_ c i b d=_;rw[H];exact(if_pos rfl).symm
    .rw[if_neg t,W];by_cases C:d<e
     .rw[if_pos C,if_pos (by omega)]
     .rw[if_neg C];by_cases A:d<e+1
      .rw[if_pos A,J.e];show _=if b=a then _ else _
       rw[if_neg (λX=>t ⟨X,by omega⟩)]
      .rw[if_neg A]
   simp[intOf];omega
  .have V:¬(e:Int)<(c:Int):=by omega
   have I:e=c:=by omega
   have ac:=a_ I;clear I;go_wp2;go_end0;refine⟨rfl,⟨i,f.f,λb d u m=>?_⟩,f.g⟩;rw[f.l b d u m,if_pos (by have:=ac.e;omega)]
theorem AX{p o g r c a:Nat}{zs:List Int}{L:Nat}{w:World}(l:iT w p o g r c zs L)(T:p≠g)(j:a<c):Calls Tryz.prog 138 #[.pointer (some ⟨p,o,none⟩),.int .i64 a] w λe Y=>e=.returned (.tuple #[])/\xD w Y p o g r c (λb d=>if d=a then-e_ c zs b d else e_ c zs b d) L:=by
 have X:=a_ l;have ae:=l.hr;have ah:=l.hc;obtain⟨n,s⟩:∃n:Nat->Nat->Int,n=λb d=>if d=a then-e_ c zs b d else e_ c zs b d:=⟨_,rfl⟩
 rw[<-s];have J:=a_ s;clear l s;go_in;go_wp2_with fail;go_loopw [4] (λb wr=>∃(e:Nat) (i:List Int),e<=r/\b=.int .i64 e/\f_ (iT wr p o g r c i L/\w.grownBy wr (some g)/\∀b d,b<r->d<c->e_ c i b d=if b<e then n b d else e_ c zs b d)) (λb _=>r-(intOf b).toNat)
 case atStart=>exact⟨0,zs,hR,rfl,a_ ⟨X.e,jM _ _,λb d _ _=>by simp⟩⟩
 case round=>
  obtain⟨e,i,ad,rfl,f⟩:=hrel;obtain⟨ab,O,P⟩:=f.f.lX;have ai:=f.f.Be;have al:=f.f.vf;by_cases k:e<r
  .have V:(e:Int)<(r:Int):=by omega
   go_wp2_with fail;go_fit (jy f.f.sv k j);rintro E aj⟨N,rfl,h,v⟩;obtain⟨ak,an,af,am,rfl⟩:=h.shape;have G:=b_ h v;have S:=v.size;clear h v;go_wp2_with fail;go_fit (nA G.f);rintro E Z⟨N,rfl,h,y⟩;obtain⟨Q,K,U,R,rfl⟩:=h.shape;have M:=y.size;have x:=hU Z (.cells #[.bool Q,.slice K U R] 79);have F:=G.i.trans ((y.trans (x.mono M)).mono S);have q:=b_ F (h.below x);clear h y x F ab O P;go_wp2_with fail;go_fit (oQ (f.f.later q.f) T q.i k j);rintro E ag⟨rfl,D,B,-⟩;have z:=b_ D (hZ (ib f.g q.f) B);clear D B;go_wp2;go_roundw
   .refine⟨e+1,_,by omega,by go_num,a_ ⟨z.f,z.i,λb d u m=>?_⟩⟩;rw[kN i r c f.f.len e a b d _ k j m];have W:=f.l b d u m;have H:=f.l e a k j;rw[if_neg (qy e)]at H;by_cases t:b=e/\d=a
    .obtain⟨rfl,rfl⟩:=t;rw[if_pos ⟨rfl,rfl⟩,if_pos (nb b),J.e];show-e_ c i b d=_;rw[H];exact(if_pos rfl).symm
    .rw[if_neg t,W];by_cases C:b<e
     .rw[if_pos C,if_pos (by omega)]
     .rw[if_neg C];by_cases A:b<e+1
      .rw[if_pos A,J.e];show _=if d=a then _ else _
       rw[if_neg (λaa=>t ⟨by omega,aa⟩)]
      .rw[if_neg A]
   simp[intOf];omega
  .have V:¬(e:Int)<(r:Int):=by omega
   have I:e=r:=by omega
   have ac:=a_ I;clear I;go_wp2;go_end0;refine⟨rfl,⟨i,f.f,λb d u m=>?_⟩,f.g⟩;rw[f.l b d u m,if_pos (by have:=ac.e;omega)]
theorem Jl(c x s:Nat)(j:s<32)(f:c<2^s)(h:x<4294967296):bits BinOp.or IntKind.u64 (c:Int) (IntKind.u64.wrap ((x:Int)*2^s))=((c+x*2^s:Nat):Int):=by
 have d:2^s<=2^31:=jb (by decide) (by omega);have k:x*2^s<=4294967295*2^31:=jR (by omega) d;have g:((x:Int)*2^s)=((x*2^s:Nat):Int):=by rw[m_,Int.natCast_pow];rfl
 have e:IntKind.u64.wrap ((x*2^s:Nat):Int)=((x*2^s:Nat):Int):=by rw[IntKind.wrap_u64];omega
 rw[g,e,u64_or_nat c (x*2^s) (by omega) (by omega),Nat.or_comm];have a:=B9 (i:=s) (b:=c) f x;rw[Nat.shiftLeft_eq]at a;rw[<-a,Nat.add_comm]
theorem Cq{zs xs:List Nat}{k c S x:Nat}(b:k+i<zs.length)(a:x=xs.getD k 0)(h:val (zs.take (k+i))+4294967296^(k+i)*c=4294967296^i*(S*val (xs.take k))):val ((zs.set (k+i) ((c+x*S)%4294967296)).take (k+1+i))+4294967296^(k+1+i)*((c+x*S)/4294967296)=4294967296^i*(S*val (xs.take (k+1))):=by
 rw[show k+1+i=(k+i)+1 from by omega,k9 zs _ _ b,h_,<-a,jx];have d:=tF (c+x*S) 4294967296;have f:4294967296^(k+i)*((c+x*S)%4294967296)+4294967296^(k+i)*4294967296*((c+x*S)/4294967296)=4294967296^(k+i)*c+4294967296^(k+i)*(x*S):=by
  rw[jG,<-jd,d,jd]
 have e:4294967296^i*(S*(val (xs.take k)+4294967296^k*x))=4294967296^i*(S*val (xs.take k))+4294967296^(k+i)*(x*S):=by
  rw[jd,jd,kg,ij x S];congr 1;rw[wS S,<-jG,ij (4294967296^i)]
 rw[e,<-h];omega
theorem uU{v:Value}{xs:List Nat}{p a s:Nat}{w:World}(J:Own w v xs)(W:Lo xs)(ap:xs.length<=500000000)(an:a<=500000000)(S:s<32)(g:(p:Int)/32=(a:Int))(t:(p:Int)%32=(s:Int)):Calls Tryz.prog 220 #[v,.int .i64 p] w λC L=>∃u,C=.returned u/\kP w L u (4294967296^a*(2^s*val xs)) (xs.length+a+1):=by
 obtain⟨ah,ax,T,am,ar,B,-,-⟩:=J.open_;have M:=a_ B;clear J B;subst T;go_in;go_wp2_with (at_make;refine mx rfl (.tmp 19) (.tmp 19) rfl (n:=xs.length+a+1) rfl rfl ?_ ?_ (by omega) ?_)
 .omega
 .omega
 intro ao d h;clear g t;obtain⟨m,q⟩:=hQ (xs.length+a+1);rw[<-q]at d|-;have aj:xs.length+a<m:=by omega
 have r:=a_ q;have G:2^s<=2147483648:=jb (n:=2) (j:=31) (by decide) (by omega);have N:=a_ G;clear q G;go_wp2_with fail;go_loopw [8,9] (λaa x wr=>∃(b c:Nat) (f:List Nat),b<=xs.length/\x=.int .i64 b/\c<=2147483647/\aa=.int .u64 c/\f.length=m/\Lo f/\Own wr (.slice (some ⟨w.heap.size,0,none⟩) m m) f/\Below w.heap.size w wr/\f_ (c<2^s/\val (f.take (b+a))+4294967296^(b+a)*c=4294967296^a*(2^s*val (xs.take b)))) (λ_ x _=>xs.length-(intOf x).toNat)
 case atStart=>exact⟨0,0,_,hR,rfl,hR,rfl,by rw[sQ],mM _,by rw[r.e];rw[r.e]at d;exact d,h,a_ ⟨kx (by decide),by rw[lG (λl k=>rQ (tD k))];simp[val]⟩⟩
 case round=>
  clear d h;obtain⟨b,c,f,aq,rfl,al,rfl,e,A,d,h,o⟩:=hrel;by_cases ae:b<xs.length
  .have y:=jW W b;have H:=d.cell e (b+a) (by omega);have P:=d.frozen e (b+a);obtain⟨ak,rfl,F⟩:=M.e b ae;have ab:=g_ h F;obtain⟨l,k⟩:=hQ (xs.getD b 0);obtain⟨aw,K⟩:=hQ (f.getD (b+a) 0);rw[<-k]at y ab;rw[<-K]at H;have O:=a_ k;have i:=a_ e;clear k K F e;have af:=Jl c l s S o.f y;obtain⟨I,g⟩:=hQ (c+l*2^s);rw[<-g]at af;have V:=a_ g;clear g;go_wp2_with fail;have au:l*2^s+2^s<=4294967296*2^s:=by
    have:=jo (2^s) (show l+1<=4294967296 from y);rw[jV,j7]at this;exact this
   have av:=o.f;have ai:=N.e;have g:=V.e;go_roundw
   case rel=>
    refine⟨b+1,I/4294967296,f.set (b+a) (I%4294967296),by omega,by go_num,by omega,by go_num,by simp[i.e],mf A _ _ (mQ _ (by decide)),d.Z i.e (b+a) _ (by omega),h.setCell c_ _,a_ ⟨by omega,?_⟩⟩;rw[g];exact Cq (by have:=i.e;omega) O.e o.i
   case measure=>simp[intOf];omega
  .have ag:xs.length<=b:=by omega
   have H:=d.cell e (xs.length+a) (by omega);have P:=d.frozen e (xs.length+a);have i:=a_ e;clear e;go_wp2_with fail;have Y:=d.Z i.e (xs.length+a) c (z:=(c:Int)) rfl;have R:=mf A (xs.length+a) c (by omega);go_fit (mN Y R);rintro C L⟨⟨u,rfl,t⟩,rfl⟩;go_wp2;go_ret;obtain⟨U,Z,ad,Q,ac⟩:=t;have X:b=xs.length:=by omega
   have D:=o.i;have e:=i.e;have q:=r.e;refine⟨_,rfl,⟨U,Z,?_,by simp at Q;omega,ac⟩,h.setCell c_ _⟩;rw[X,ka c_]at D;have E:=k9 f (xs.length+a) c (by omega);rw[ka (by simp;omega)]at E;rw[ad,E,D]
theorem uX{v:Value}{xs:List Nat}{p:Nat}{w:World}(g:Own w v xs)(f:Lo xs)(d:xs.length<=500000000)(h:p<=16000000000):Calls Tryz.prog 220 #[v,.int .i64 p] w λa e=>∃c,a=.returned c/\kP w e c (2^p*val xs) (xs.length+p/32+1):=by
 have b:=@uU v xs p (p/32) (p%32) w g f d (by omega) (by omega) (by omega) (by omega);have a:4294967296^(p/32)*(2^(p%32)*val xs)=2^p*val xs:=by
  rw[show(4294967296:Nat)=2^32 from rfl,<-qb,<-jG,<-kg,kY]
 rw[a]at b;exact b
def Dn(g:Nat)(v:Value):Prop:=∀a c b,v=.slice (some a) c b->a.block≠g
theorem FX.E5{B g:Nat}{v:Value}(h:FX B v)(e:g<B):Dn g v:=λa c d b=>by have:=h a c d b;omega
theorem Own.E5{w:World}{v:Value}{xs:List Nat}(h:Own w v xs){g:Nat}(f:w.heap.size<=g):Dn g v:=by
 intro i j l a;rcases h.2 with⟨c,_⟩|⟨b,m,k,d,_,e,_⟩
 .rw[c]at a;simp at a
 .rw[d]at a;simp only[iC,iH]at a;obtain⟨rfl,-,-⟩:=a;have:=(jt.1 e).1;show b≠g;omega
theorem Own.other{w:World}{v:Value}{xs:List Nat}(h:Own w v xs){g o:Nat}(u:Value)(e:Dn g v):Own (w.setCell ⟨g,o,none⟩ u) v xs:=by
 refine⟨h.1,?_⟩;rcases h.2 with d|⟨c,k,i,a,b,j,f⟩
 .exact .inl d
 .exact .inr ⟨c,k,i,a,b,by rw[js _ _ _ _ (e _ _ _ a)];exact j,f⟩
theorem GO{zs:List Nat}(g:Lo zs){j e:Nat}(i:e<=32)(k:j<zs.length)(h:2^(32*j+e)∣val zs):2^e∣zs.getD j 0:=by
 have a:=ir zs j (by omega);have b:=j8 (mG g j);rw[kv,o_ (by omega)]at b;have l:(4294967296:Nat)^j=2^(32*j):=by rw[qb]
 rw[l]at a b;rw[kg]at h;have n:2^(32*j)∣val (zs.take j):=by
  have c:2^(32*j)∣val zs:=vX (Nat.dvd_mul_right _ _) h;rw[a]at c;exact(Nat.dvd_add_left (Nat.dvd_mul_right _ _)).1 c
 have f:val (zs.take j)=0:=Nat.eq_zero_of_dvd_of_lt n b;rw[f,jF]at a;rw[a]at h;have d:2^e∣val (zs.drop j):=Nat.dvd_of_mul_dvd_mul_left (kx (by decide)) h;rw[iz zs j k,iN]at d;have m:2^e∣4294967296*val (zs.drop (j+1)):=vX (Nat.pow_dvd_pow 2 i) (Nat.dvd_mul_right _ _);exact(Nat.dvd_add_left m).1 d
theorem JI(z s:Nat)(l:s<32)(g:z<4294967296)(hd:2^(s+1)∣z):z+2^s<4294967296/\bits BinOp.or IntKind.u32 (z:Int) (2^s%4294967296)=((z+2^s:Nat):Int):=by
 obtain⟨a,rfl⟩:=hd;have k:2^s<=2^31:=jb (by decide) (by omega);have e:2^s<2^(s+1):=by rw[jx];have:=kx (n:=s) (show 0<2 by decide);omega
 have h:2^(s+1)*a+2^s<4294967296:=by
  have m:2^(s+1)*2^(31-s)=4294967296:=by rw[<-kg,show s+1+(31-s)=32 from by omega]
  have c:a<2^(31-s):=by
   rcases iX a (2^(31-s))with d|d
   .exact d
   .have:=jJ (2^(s+1)) d;omega
  have j:=jJ (2^(s+1)) (show a+1<=2^(31-s)from c);rw[jd,qd]at j;omega
 refine⟨h,?_⟩;have f:(2^s:Int)=((2^s:Nat):Int):=by rw[Int.natCast_pow];rfl
 rw[f,show((2^s:Nat):Int)%4294967296=((2^s:Nat):Int)from by omega,u32_or_nat _ (2^s) g (by omega)];have c:=B9 (i:=s+1) (b:=2^s) e a;rw[Nat.shiftLeft_eq,ij a]at c;rw[c]
structure qf (A B k Q l:Nat):Prop where
 eq:A=Q*B+l
 lt:l<B*2^k
 dvd:2^k∣Q
theorem qf.no{A B p Q:Nat}(h:qf A B (p+1) Q i)(a:i<2^p*B):qf A B p Q i:=⟨h.eq,by rw[ij];exact a,vX (Nat.pow_dvd_pow 2 (nY p)) h.dvd⟩
theorem qf.yes{A B p Q:Nat}(h:qf A B (p+1) Q i)(a:2^p*B<=i):qf A B p (Q+2^p) (i-2^p*B):=by
 refine⟨?_,?_,?_⟩
 .rw[jV];have:=h.eq;omega
 .have:=h.lt;rw[jx,<-jG,ij B]at this;rw[ij B];omega
 .exact Nat.dvd_add (vX (Nat.pow_dvd_pow 2 (nY p)) h.dvd) (uk _)
theorem qf.done{A B Q:Nat}(h:qf A B 0 Q i):Q=A/B/\i=A%B:=by
 have b:=h.lt;rw[Nat.pow_zero,qd]at b;have a:=h.eq;rw[ij]at a;constructor
 .rw[a,si (by omega),uO b];rfl
 .rw[a,ue,oO b]
theorem qf.start{A B a b:Nat}(d:r7 a A)(f:r7 b B)(h:0<b):qf A B ((a:Int)-(b:Int)+1).toNat 0 A:=by
 refine⟨by omega,?_,Nat.dvd_zero _⟩;have j:A<2^a:=(d a).1 c_;have e:2^(b-1)<=B:=by
  rcases iX B (2^(b-1))with c|c
  .have:=(f (b-1)).2 c;omega
  .exact c
 have g:2^(b-1)*2^((a:Int)-(b:Int)+1).toNat<=B*2^((a:Int)-(b:Int)+1).toNat:=jo _ e;rw[<-kg]at g;have i:2^a<=2^(b-1+((a:Int)-(b:Int)+1).toNat):=jb (by decide) (by omega);omega
theorem GV(w:World):Own (w.alloc (.cells #[] 144)) (.slice (some ⟨w.heap.size,0,none⟩) 0 0) []:=by
 have:=uS (base:=0) (e:=144) (size:=1) w #[] 0 hR (by simp[maxLen]) rfl;simpa[Own,il]using this
theorem nT{v u:Value}{xs ys:List Nat}{w:World}(I:Own w v xs)(T:Own w u ys)(an:l9 xs)(az:l9 ys)(bx:xs.length<=400000000)(bc:ys.length<=400000000):Calls Tryz.prog 188 #[v,u] w λj m=>∃ao R,j=.returned (.tuple #[ao,R])/\kP w m ao (val xs/val ys) xs.length/\kP w m R (val xs%val ys) xs.length:=by
 obtain⟨a2,bh,aG,bv,bd,-⟩:=I.open_;obtain⟨bp,bk,aF,bb,a8,-⟩:=T.open_;have y:=a_ I;have aA:=a_ T;have x:=a_ an;have N:=a_ az;clear I T an az;subst aG;subst aF;go_in;go_wp2_with fail;go_fit (rY aA.e N.e (by omega));rintro j m⟨p,rfl,ay,rfl⟩;have Z:=a_ ay;clear ay;by_cases ah:p=0
 .have bn:=a_ ah;subst ah;go_wp2_with fail;have aR:val ys=0:=by
   have:=(Z.e 0).1 c_;simpa using this
  have W:=hU m (.cells #[] 144);go_ret2;rw[aR,Nat.div_zero,Nat.mod_zero];exact⟨_,_,rfl,⟨⟨[],⟨mz,.inl rfl⟩,rfl,hR,GV m⟩,W⟩,⟨xs,x.e,rfl,c_,y.e.below W⟩,W⟩
 .have bw:((p:Int)==0)=false:=iK.2 (by omega);rename World=>w;go_wp2_with (at_make;refine mx rfl (.tmp 18) (.tmp 18) rfl rfl rfl rfl rfl (by omega) ?_);intro a5 O P;have aI:=O.lt;go_wp2_with fail;go_fit (rY (y.e.below P) x.e (by omega));rintro j a7⟨ae,rfl,S,rfl⟩;have bz:ae<=32*xs.length:=(S _).2 (by have:=j8 x.f;rw[uQ]at this;exact this);have a1:p<=32*ys.length:=(Z.e _).2 (by have:=j8 N.f;rw[uQ]at this;exact this);have aB:=a_ (qf.start S Z.e (by omega));have ab:=b_ O P;clear S O P;go_wp2_with fail;go_loopw [8,9] (λal K wr=>∃(f:Int) (d e:List Nat),-13000000000<=f/\f<=32*(xs.length:Int)-(p:Int)/\K=.int .i64 f/\f_ (d.length=xs.length/\Lo d/\Own wr (.slice (some ⟨w.heap.size,0,none⟩) xs.length xs.length) d/\l9 e/\e.length<=xs.length/\Own wr al e/\Dn w.heap.size al/\Below w.heap.size w wr/\w.heap.size<wr.heap.size/\qf (val xs) (val ys) (f+1).toNat (val d) (val e))) (λ_ K _=>(intOf K+1).toNat)
  case atStart=>
   refine⟨(ae:Int)-(p:Int),_,xs,by omega,by omega,rfl,a_ ⟨sQ,mM _,ab.f,x.e,c_,y.e.below ab.i,y.e.E5 c_,ab.i,aI,?_⟩⟩;rw[lG (λbf aW=>rQ aW)];exact aB.e
  case round=>
   obtain⟨f,d,e,bi,br,rfl,a⟩:=hrel;obtain⟨ba,bA,aS,-⟩:=a.y.open_;subst aS;by_cases bo:f<0
   .go_wp2_with fail;go_fit (mN a.j a.g);rintro j m⟨⟨R,rfl,Q⟩,rfl⟩;have aM:=a_ Q;clear Q;go_wp2;go_ret2;obtain⟨aN,aP,bC,a3,aX⟩:=aM.e;obtain⟨o,A,M,B,D,F,V,n,ax,h⟩:=a.e;rw[show(f+1).toNat=0 from by omega]at h;obtain⟨bB,aT⟩:=h.done;exact⟨_,_,rfl,⟨⟨aN,aP,by omega,by omega,aX⟩,n⟩,⟨e,B,aT,D,F⟩,n⟩
   .obtain⟨b,rfl⟩:=nV (show 0<=f by omega);have aZ:¬((b:Int)<0):=by omega
    go_wp2_with fail;go_fit (uX (aA.e.below a.B) N.f (by omega) (by omega));rintro j bu⟨bm,rfl,ar⟩;obtain⟨bj,a9,E,rfl,k,H⟩:=ar.shape;have bq:=H.size;have L:=a_ H;clear ar H;go_wp2_with fail;go_fit (lT (a.y.below L.e) k.o a.m k.f);rintro j a4⟨rfl,Y,rfl⟩;by_cases l:val e<val E
    .have r:decide (val e<val E)=true:=jm l;have z:=a_ l;rw[r];clear l r;go_wp2;go_roundw
     .obtain⟨o,A,M,B,D,F,V,n,ax,h⟩:=a.e;have t:=im L.e Y;refine⟨(b:Int)-1,d,e,by omega,by omega,by go_num,a_ ⟨o,A,M.below t,B,D,F.below t,V,n.trans (t.mono (by omega)),by have:=t.size;omega,?_⟩⟩;rw[show((b:Int)-1+1).toNat=b from by omega];rw[show((b:Int)+1).toNat=b+1 from by omega]at h;exact h.no (by have:=z.e;rw[k.g]at this;exact this)
     simp[intOf]<;>omega
    .have r:decide (val e<val E)=false:=ic l;have z:=a_ l;rw[r];clear l r;go_wp2_with fail;have U:=a_ (im L.e Y);have G:val E<=val e:=by have:=z.e;omega
     go_fit (rK (a.y.below U.e) (k.o.below (im hP Y)) a.m.1 k.f.1 (by have:=a.r;omega) G (pF a.m k.f G));rintro j be⟨bl,rfl,au,aw⟩;obtain⟨a0,bg,aH,rfl,s,aq⟩:=au.shape;have aO:=U.e.size;have ac:=a_ (U.e.trans (aq.mono aO));have a6:=ac.e.size;have am:=a_ (aw.E5 (g:=w.heap.size) (by have:=a.D;omega));clear au aq G aw;obtain⟨c,aQ⟩:=hQ (b/32);obtain⟨i,aK⟩:=hQ (b%32);have bs:(b:Int)/32=(c:Int):=by omega
     have Q:(b:Int)%32=(i:Int):=by omega
     have aC:i<32:=by omega
     have aL:c<xs.length:=by omega
     have af:f_ (b=32*c+i):=a_ (by omega);clear aQ aK;have C:=a.j.below ac.e;have aU:=C.cell a.f c aL;have bt:=C.frozen a.f c;have ai:2^(i+1)∣d.getD c 0:=by
      refine GO a.g (by omega) (by have:=a.f;omega) ?_;have ak:=a.K.dvd;rw[show((b:Int)+1).toNat=32*c+(i+1)from by have:=af.e;omega]at ak;exact ak
     have ag:=jW a.g c;obtain⟨X,ap⟩:=JI _ i aC ag ai;obtain⟨aj,aa⟩:=hQ (d.getD c 0);rw[<-aa]at aU X ap ag;obtain⟨q,J⟩:=hQ (aj+2^i);rw[<-J]at X ap;have ad:=b_ aa J;have aE:=a_ C;clear aa J C ai;go_wp2;go_roundw
     .obtain⟨o,A,M,B,D,F,V,n,ax,h⟩:=a.e;have aJ:=s.g;have av:=k.g;refine⟨(b:Int)-1,d.set c q,aH,by omega,by omega,by go_num,a_ ⟨by simpa using o,mf A _ _ X,aE.e.Z o c q rfl,s.f,by have:=s.j;omega,s.o.other _ am.e,am.e,(n.trans (ac.e.mono (by omega))).setCell c_ _,by simp[World.setCell];omega,?_⟩⟩;rw[show((b:Int)-1+1).toNat=b from by omega];rw[show((b:Int)+1).toNat=b+1 from by omega]at h;have aV:=oH d c q (by omega);have aD:val (d.set c q)=val d+2^b:=by
       have aY:4294967296^c*q=4294967296^c*aj+2^b:=by rw[ad.i,jd,af.e,kg,uQ]
       rw[<-ad.f,aY]at aV;omega
      rw[aD,aJ,av];exact h.yes (by have:=z.e;rw[av]at this;omega)
     simp[intOf]<;>omega
end Go.Proofs.YtfjbijpagaipnabGreatDoor
