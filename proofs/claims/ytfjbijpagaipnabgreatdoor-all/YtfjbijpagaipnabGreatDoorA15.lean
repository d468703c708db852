import Derived.Test.YtfjbijpagaipnabGreatDoorA14
set_option maxRecDepth 100000
set_option maxHeartbeats 8000000
namespace Go.Proofs.YtfjbijpagaipnabGreatDoor
open Go.RowKit
variable{i j k l m n p q r s:Nat}{w v W:World}{x y z:Value}{A B F G:Nat->Nat->Int}{a b c d:Int}{e f g:List Int}{o h:Nat->Nat}{u:Bool}{O:Option Addr}
def vP(r c:Nat)(zs:List Int)(xs:List (Nat×Nat×List Int)):Prop:=∃a:D5,xs=[(r,c,a.d),(r,r,a.u),(r,r,a.s),(c,c,a.v),(c,c,a.t)]/\DT r c zs a/\(a.d.length=r*c/\a.u.length=r*r/\a.s.length=r*r/\a.v.length=c*c/\a.t.length=c*c)
theorem Cy{r c:Nat}{zs:List Int}{a b:List (Nat×Nat×List Int)}(h:vP r c zs a)(d:vP r c zs b):a=b:=by
 obtain⟨i,rfl,e,-⟩:=h;obtain⟨g,rfl,f,-⟩:=d;rw[D5.HB e.run f.run]
theorem pY.K4{w:World}{g:Nat}{x y z y' z':Nat×Nat×List Int}{e b d c:Option Addr}{t:TypeId}(a:w.heap[g]?=some (.cells #[.int .i64 (x.1:Nat),.int .i64 (x.2.1:Nat),.slice O i n,.int .i64 (y.1:Nat),.int .i64 (y.2.1:Nat),.slice e j p,.int .i64 (z.1:Nat),.int .i64 (z.2.1:Nat),.slice b k q,.int .i64 (y'.1:Nat),.int .i64 (y'.2.1:Nat),.slice d l r,.int .i64 (z'.1:Nat),.int .i64 (z'.2.1:Nat),.slice c m s] t (0,0)))(u:i_ w (.agg #[.int .i64 (x.1:Nat),.int .i64 (x.2.1:Nat),.slice O i n]) x.1 x.2.1 x.2.2 200000000)(B:i_ w (.agg #[.int .i64 (y.1:Nat),.int .i64 (y.2.1:Nat),.slice e j p]) y.1 y.2.1 y.2.2 200000000)(f:i_ w (.agg #[.int .i64 (z.1:Nat),.int .i64 (z.2.1:Nat),.slice b k q]) z.1 z.2.1 z.2.2 200000000)(A:i_ w (.agg #[.int .i64 (y'.1:Nat),.int .i64 (y'.2.1:Nat),.slice d l r]) y'.1 y'.2.1 y'.2.2 200000000)(h:i_ w (.agg #[.int .i64 (z'.1:Nat),.int .i64 (z'.2.1:Nat),.slice c m s]) z'.1 z'.2.1 z'.2.2 200000000):pY w g [x,y,z,y',z']:=by
 intro o v;match o,v with
 |0,_=>exact⟨O,i,n,by simp[World.cell?,a],by simp[World.cell?,a],by simp[World.cell?,a],u⟩
 |1,_=>exact⟨e,j,p,by simp[World.cell?,a],by simp[World.cell?,a],by simp[World.cell?,a],B⟩
 |2,_=>exact⟨b,k,q,by simp[World.cell?,a],by simp[World.cell?,a],by simp[World.cell?,a],f⟩
 |3,_=>exact⟨d,l,r,by simp[World.cell?,a],by simp[World.cell?,a],by simp[World.cell?,a],A⟩
 |4,_=>exact⟨c,m,s,by simp[World.cell?,a],by simp[World.cell?,a],by simp[World.cell?,a],h⟩
theorem rF{b:Nat}{h:Int}{ms:List Hm}{nx:Nat}{w:World}(P:jf w b ms nx)(aE:nx<1000000-5):Calls Tryz.prog 28 #[.pointer (some ⟨b,0,none⟩),.int .i64 h] w λd au=>∃ap k Z ax,d=.returned (.tuple #[ap,.int .i64 k])/\k7 5 vP ms h Z k ax/\q1 w au b 5 nx ms Z ax ap:=by
 have m:=a_ P;have aL:=P.1;have aQ:=P.lt;clear P;go_in;go_wp2_with fail;go_fit (jS m.e);rintro k r⟨⟨a,c,ab,ah,am,Z,rfl,aa⟩,H⟩;have G:=hU r (.cells #[.int .i64 a,.int .i64 c,.slice ab ah am] 66);have M:=d_ H G;have aV:=H.size;rcases id aa with⟨rfl,X,Y,E,ar,ac,az,av⟩|⟨rfl,ag⟩
 .have e:=iu (av.below G) M ar ac az;clear aa av H G M ar ac az;go_wp2_with fail;go_fit (jl e.f (by omega));rintro k J⟨aF,rfl,ae,j⟩;have aY:r.heap.size+1<=J.heap.size:=by have:=j.size;simpa using this
  have aH:J.cell? ⟨r.heap.size,0,none⟩=some (.int .i64 a):=g_ j (by simp);have aK:J.cell? ⟨r.heap.size,1,none⟩=some (.int .i64 c):=g_ j (by simp);have aJ:J.cell? ⟨r.heap.size,2,none⟩=some (.slice ab ah am):=g_ j (by simp);have g:=hO (e.f.below j) (d_ e.g j) ae;clear j ae
  cases aF
  .have aB:f_ (¬hW a c E):=a_ (λh=>by have:=g.l.2 h;cases this);go_wp2;go_ret2;exact⟨_,_,false,[],rfl,.inr ⟨X,Y,a,c,E,e.j,e.m,e.x,.inl ⟨aB.e,rfl,rfl,rfl⟩⟩,.inl ⟨rfl,rfl,m.e.below g.g,Fr.I g.g⟩⟩
  .have n:f_ (hW a c E):=a_ (g.l.1 rfl);go_wp2_with fail;go_fit (mg (m.e.below g.g));rintro k au⟨rfl,rfl⟩;obtain⟨V,U⟩:=hQ (ms.countP Option.isNone);have S:=a_ U;rw[<-U];clear U;by_cases aI:V<5
   .have aD:((V:Int)<5):=by omega
    go_wp2;go_ret2;exact⟨_,_,false,[],rfl,.inr ⟨X,Y,a,c,E,e.j,e.m,e.x,.inr (.inl ⟨n.e,by rw[<-S.e];exact aI,rfl,rfl,rfl⟩)⟩,.inl ⟨rfl,rfl,m.e.below g.g,Fr.I g.g⟩⟩
   .have aD:¬((V:Int)<5):=by omega
    go_wp2_with fail;go_fit (xP (g.f.tight n.e) n.f n.g n.e.e_);rintro k l⟨d,aR,aX,aS,aT,aP,rfl,⟨N,L,Q,R,K⟩,ad,T⟩;obtain⟨B,v,rfl⟩:=N.slice;obtain⟨D,A,rfl⟩:=L.slice;obtain⟨F,C,rfl⟩:=Q.slice;obtain⟨p,t,rfl⟩:=R.slice;obtain⟨q,u,rfl⟩:=K.slice;have ao:=d_ g.g T;have af:d.d.length=a*c/\d.u.length=a*a/\d.s.length=a*a/\d.v.length=c*c/\d.t.length=c*c:=⟨N.uY,L.uY,Q.uY,R.uY,K.uY⟩;have f:=hO (Ko N L Q R K) (oB ad af) ao;have aU:=T.size;clear T aH aK aJ N L Q R K ad af ao;go_wp2_with fail;obtain⟨I,s⟩:=hQ ((l.alloc (.cells #[.int .i64 a,.int .i64 c,.slice B (a*c) v,.int .i64 a,.int .i64 a,.slice D (a*a) A,.int .i64 a,.int .i64 a,.slice F (a*a) C,.int .i64 c,.int .i64 c,.slice p (c*c) t,.int .i64 c,.int .i64 c,.slice q (c*c) u] 83)).alloc (.cells #[.int .i64 a,.int .i64 c,.slice B (a*c) v,.int .i64 a,.int .i64 a,.slice D (a*a) A,.int .i64 a,.int .i64 a,.slice F (a*a) C,.int .i64 c,.int .i64 c,.slice p (c*c) t,.int .i64 c,.int .i64 c,.slice q (c*c) u] 66));rw[<-s];have i:Below l.heap.size l I:=by rw[s];exact(hS).alloc (by simp) _
    have aO:I.heap.size=l.heap.size+1+1:=by rw[s];simp
    have aj:I.heap[l.heap.size+1]?=some (.cells #[.int .i64 a,.int .i64 c,.slice B (a*c) v,.int .i64 a,.int .i64 a,.slice D (a*a) A,.int .i64 a,.int .i64 a,.slice F (a*a) C,.int .i64 c,.int .i64 c,.slice p (c*c) t,.int .i64 c,.int .i64 c,.slice q (c*c) u] 66 (0,0)):=by
     rw[s];have:=iP (l.alloc (.cells #[.int .i64 a,.int .i64 c,.slice B (a*c) v,.int .i64 a,.int .i64 a,.slice D (a*a) A,.int .i64 a,.int .i64 a,.slice F (a*a) C,.int .i64 c,.int .i64 c,.slice p (c*c) t,.int .i64 c,.int .i64 c,.slice q (c*c) u] 83)) (.cells #[.int .i64 a,.int .i64 c,.slice B (a*c) v,.int .i64 a,.int .i64 a,.slice D (a*a) A,.int .i64 a,.int .i64 a,.slice F (a*a) C,.int .i64 c,.int .i64 c,.slice p (c*c) t,.int .i64 c,.int .i64 c,.slice q (c*c) u] 66);simpa using this
    have an:=d_ f.l i;have ai:pY I (l.heap.size+1) [(a,c,d.d),(a,a,d.u),(a,a,d.s),(c,c,d.v),(c,c,d.t)]:=pY.K4 (x:=(a,c,d.d)) (y:=(a,a,d.u)) (z:=(a,a,d.s)) (y':=(c,c,d.v)) (z':=(c,c,d.t)) aj ((f.f.1.below i).mono (by omega)) ((f.f.2.1.below i).mono (by omega)) ((f.f.2.2.1.below i).mono (by omega)) ((f.f.2.2.2.1.below i).mono (by omega)) ((f.f.2.2.2.2.below i).mono (by omega));have aN:=f.l.size;have O:=b_ an ai;clear s i aj an ai;go_fit (nz (m.e.below O.f) O.i rfl (by omega) (by omega) (by omega) (by have:=S.e;omega) aE);rintro k aM⟨aW,rfl,aG,aC,rfl,aw,al,aq,aA,ak,ay⟩;have o:=ju aw al aq aA ak ((Fr.I O.f).trans ay);clear aw al aq aA ak ay;go_wp2;go_ret2;exact⟨_,_,true,[(a,c,d.d),(a,a,d.u),(a,a,d.s),(c,c,d.v),(c,c,d.t)],rfl,.inr ⟨X,Y,a,c,E,e.j,e.m,e.x,.inr (.inr ⟨n.e,by have:=S.e;omega,rfl,rfl,rfl,d,rfl,f.g.1,f.g.2⟩)⟩,.inr ⟨rfl,aG,aC,rfl,by have:=O.f.size;have:=o.f;omega,o.g,o.j,o.m,o.r,o.z⟩⟩
 .have W:=b_ ag M;clear ag M H G aa;go_wp2;go_ret2;exact⟨_,_,false,[],rfl,.inl ⟨W.f,rfl,rfl,rfl⟩,.inl ⟨rfl,rfl,m.e.below W.i,Fr.I W.i⟩⟩
section
open R
theorem wM{B b d c:Nat}{h:Int}{ms:List Hm}{nx:Nat}{w:World}(m:nu B w b d c ms nx)(hd:pq ms)(I:nx<1000000-5):Calls Tryz.prog 168 #[.pointer (some ⟨b,0,none⟩),.int .i64 h] w λi N=>∃C t D v,i=.returned (.tuple #[C,.int .i64 t])/\k7 5 vP ms h D t v/\lS B w N b d c 5 nx ms D v C:=by
 obtain⟨o,q,j,-⟩:=m.1.cells;have a:=b_ m hd;clear m hd;go_in;go_wp2_with fail;go_fit (@rF d h ms nx _ a.f.2.1 I);rintro i n⟨L,K,ab,S,rfl,F,f⟩;have k:Fr d w n:=by rcases f with⟨-,-,-,z⟩|⟨-,_,_,_,_,_,_,_,_,z⟩<;>exact z
 have u:Tw n b d c false:=a.f.1.J (k.1.block b a.f.1.lt (by simpa using a.f.1.ne a.f.2.1.ty));have H:jf n c ms nx:=a.f.2.2.1.fr k (Ne.symm a.f.2.2.2.1);clear o q j;obtain⟨o,q,j,-⟩:=u.cells;obtain⟨Y,Q,V,rfl⟩:∃p r l,L=.slice p r l:=by rcases f with⟨-,rfl,-⟩|⟨-,_,_,rfl,-⟩<;>exact⟨_,_,_,rfl⟩
 have e:=hO H F f;clear u H F f k;go_wp2_with fail;go_fit (@rF c h ms nx _ e.f I);rintro i Z⟨O,X,T,P,rfl,s,g⟩;obtain⟨rfl,rfl,rfl⟩:=k7.uniq @Cy a.i e.g s;obtain⟨aa,W,R,rfl⟩:∃p r l,O=.slice p r l:=by rcases g with⟨-,rfl,-⟩|⟨-,_,_,rfl,-⟩<;>exact⟨_,_,_,rfl⟩
 have A:=b_ g (lS.oN a.f e.l g hP).2;clear g o q j s;obtain⟨M,x,G⟩:=A.i;have y:=b_ x G;clear x G;go_wp2_with fail;go_fit (@tX b _ _ K M _ y.f y.i);rintro i U⟨rfl,E⟩;have J:=a_ E;clear E;go_wp2;go_ret2;exact⟨_,_,_,_,rfl,e.g,(lS.oN a.f e.l A.f J.e).1⟩
end
namespace R
theorem kB.IY{w:World}{n:Nat}{z:Int}{L:Nat}(h:kB w (.agg #[.bool u,.slice O n i]) z L):n=0↔z=0:=by
 obtain⟨neg,k,j,b,a,-,d,-,e,-⟩:=h.parts;simp only[j9,j_,kb,iC,Value.bool.injEq,jh]at a;obtain⟨-,-,c,-⟩:=a;have f:=kS d;have g:z=0↔val b=0:=by cases neg<;>simp at e<;>omega
 rw[c,g,f];constructor
 .exact λh=>lp h
 .intro h;rw[h];rfl
theorem A2{v u:Value}{x y L M:Nat}{w:World}(b:kB w v (x:Int) L)(c:kB w u (y:Int) M)(P:L<=10000000000)(D:M<=10000000000):Calls Tryz.prog 214 #[v,u] w λl R=>l=.returned (.bool (decide (x∣y)))/\Below w.heap.size w R:=by
 obtain⟨S,H,N,J,rfl,-⟩:=b.parts;obtain⟨O,U,K,E,rfl,-⟩:=c.parts;obtain⟨i,C⟩:=hQ J.length;obtain⟨t,o⟩:=hQ E.length;rw[<-C]at b|-;rw[<-o]at c|-;have d:=b.IY;have r:=c.IY;have q:=b_ b c;obtain⟨z,j⟩:=hQ (decide (x∣y));rw[<-j];have n:=a_ j;clear b c C o j;by_cases g:i=0
 .have T:x=0:=by have:=d.1 g;omega
  have a:((t:Int)==0)=z:=by
   rw[n.e,r4,jY,pA,T,Nat.zero_dvd];omega
  have I:=a_ a;subst g;clear d r a;go_in;go_wp2;go_ret;exact⟨n3 I.e,(hS).alloc (by simp) _⟩
 .have W:((i:Int)==0)=false:=iK.2 (by omega);have Q:0<x:=by
   rcases kl x with k|k
   .exact absurd (d.2 (by omega)) g
   .exact k
  clear d r g;go_in;go_wp2_with fail;have e:=(hU w (.cells #[.bool S,.slice H i N] 171)).alloc (by simp) (.cells #[.bool O,.slice U t K] 171);go_fit (AO (q.i.below e) (q.f.below e) Q D P);rintro l Z⟨ab,Y,rfl,m,h,s⟩;obtain⟨aa,ag,ae,G,rfl,-⟩:=m.parts;obtain⟨ac,ad,af,V,rfl,-⟩:=h.parts;have A:=h.IY;obtain⟨F,p⟩:=hQ V.length;rw[<-p]at A|-;obtain⟨X,B⟩:=hQ G.length;rw[<-B];have a:((F:Int)==0)=z:=by
   rw[n.e,r4,jY,pA,Nat.dvd_iff_mod_eq_zero];omega
  have f:=b_ a (e.trans (s.mono (by simp<;>omega)));clear m h s e p B A a;go_wp2;go_ret;exact⟨n3 f.f,(f.i.alloc f.i.size _).alloc (by have:=f.i.size;simp;omega) _⟩
structure Lr (f:Nat->Nat->Int) (r c:Nat):Prop where
 pos:∀i j,i<r->j<c->0<=f i j
 off:∀i j,i<r->j<c->i≠j->f i j=0
 div:∀i,i+1<r->i+1<c->f i i∣f (i+1) (i+1)
theorem yI{b r c:Nat}{aT:Nat->Nat}{f:Nat->Nat->Int}{B L:Nat}{w:World}(h:jO B w b r c aT f L)(Y:Lr f r c)(ae:L<=10000000000)(be:r<=99)(bi:c<=99):Calls Tryz.prog 169 #[.pointer (some ⟨b,0,none⟩)] w λd aM=>d=.returned (.bool true)/\Below w.heap.size w aM:=by
 have p:=b_ h Y;obtain⟨bb,P,X,q,m,k,-⟩:=h.open_;clear h Y;go_in;go_wp2_with fail;go_loopw [3] (λs wr=>∃g:Nat,g<=r/\s=.int .i64 g/\Below w.heap.size w wr) (λs _=>r-(intOf s).toNat)
 case atStart=>exact⟨0,hR,rfl,hP⟩
 case round=>
  rename World=>a5;obtain⟨g,a4,rfl,j⟩:=hrel;clear q m k;obtain⟨-,P,X,q,m,k,-⟩:=(p.f.hV (KR.I j)).open_;have ai:=a_ j;clear j;by_cases N:g<r
  .have aI:(g:Int)<(r:Int):=by omega
   go_wp2_with fail;go_loopw [4] (λS wr=>∃d:Nat,d<=c/\S=.int .i64 d/\Below w.heap.size w wr) (λS _=>c-(intOf S).toNat)
   case atStart=>exact⟨0,hR,rfl,ai.e⟩
   case round=>
    rename World=>bd;obtain⟨d,Y,rfl,j⟩:=hrel;clear q m k;obtain⟨-,P,X,q,m,k,E,D,l,n⟩:=(p.f.hV (KR.I j)).open_;have x:=a_ j;clear j;by_cases aa:d<c
    .have aF:(d:Int)<(c:Int):=by omega
     obtain⟨aL,rfl,M⟩:=l g N;obtain⟨aE,aK,aC,ay,y,C,-,-,I⟩:=n g d N aa;rw[ij 2]at y C;have H:=a_ I;obtain⟨A,o⟩:=hQ (oi (f g d));have aB:=p.i.pos g d N aa;have bf:0<=A:=by rw[o];unfold oi;grind
     have ah:g≠d->A=0:=λaG=>by rw[o,p.i.off g d N aa aG];rfl
     have aD:=a_ ah;have ax:=a_ o;clear I l n ah o aB;go_wp2_with fail;go_fit (kp H.e);rintro W F⟨rfl,i⟩;have aj:=a_ (d_ x.e i);rw[<-ax.e];clear i q m k M y C;by_cases R:g=d
     .have aQ:((g:Int)!=(d:Int))=false:=by simp[R]
      clear R;go_wp2;go_roundw;exact⟨d+1,by omega,by go_num,aj.e⟩;simp[intOf];omega
     .have aQ:((g:Int)!=(d:Int))=true:=by simp;omega
      obtain rfl:A=0:=aD.e R;go_wp2;go_roundw;exact⟨d+1,by omega,by go_num,aj.e⟩;simp[intOf];omega
    .have aF:¬(d:Int)<(c:Int):=by omega
     clear E D l n;go_wp2;go_roundw;exact⟨g+1,by omega,by go_num,x.e⟩;simp[intOf];omega
  .have aI:¬(g:Int)<(r:Int):=by omega
   go_wp2_with fail;clear q m k;go_loopw [6] (λs wr=>∃a:Nat,a<=99/\s=.int .i64 a/\Below w.heap.size w wr) (λs _=>99-(intOf s).toNat)
   case atStart=>exact⟨0,hR,rfl,ai.e⟩
   case round=>
    rename World=>ba;obtain⟨a,bh,rfl,j⟩:=hrel;obtain⟨-,P,X,q,m,k,E,D,l,n⟩:=(p.f.hV (KR.I j)).open_;have x:=a_ j;clear j;obtain⟨e,ar⟩:=hQ (a+1);have bk:(a:Int)+1=(e:Int):=by omega
    have a8:IntKind.i64.wrap (e:Int)=(e:Int):=oV _ (by omega);have t:=a_ ar;clear ar;by_cases U:e<r
    .have aN:(e:Int)<(r:Int):=by omega
     by_cases ap:e<c
     .have aA:(e:Int)<(c:Int):=by omega
      have Z:a<r:=by have:=t.e;omega
      have ao:a<c:=by have:=t.e;omega
      have a1:(a:Int)<(r:Int):=by omega
      have a6:(a:Int)<(c:Int):=by omega
      obtain⟨aL,rfl,M⟩:=l a Z;obtain⟨aE,aK,aC,ay,y,C,-,-,I⟩:=n a a Z ao;obtain⟨a2,aq,ac⟩:=l e U;simp only[iH,jj,jh]at aq;subst aq;obtain⟨a9,bj,bg,bc,ab,V,-,-,an⟩:=n e e U ap;rw[ij 2]at y C ab V;have H:=b_ I an;clear I an l n E D;go_wp2_with fail;go_fit (kp H.f);rintro W F⟨rfl,i⟩;have aP:=g_ i m;have aw:=g_ i k;have aY:=g_ i M;have aH:=g_ i y;have aV:=g_ i C;have ad:=g_ i ac;have au:=g_ i ab;have ak:=g_ i V;obtain⟨A,o⟩:=hQ (oi (f a a));rw[<-o];have G:=hY (d_ x.e i) (H.f.below i) (H.i.below i) o;clear i q m k M y C ac ab V o;go_wp2_with fail;go_still_tail 22,(by kernel_rfl);go_wp2_with fail;obtain⟨ag,J⟩:=nV (p.i.pos a a Z ao);obtain⟨a0,O⟩:=nV (p.i.pos e e U ap);have T:ag∣a0:=by
       have u:=p.i.div a (by have:=t.e;omega) (by have:=t.e;omega);rw[<-t.e,J,O]at u;exact Int.ofNat_dvd.1 u
      have K:=(kQ F.heap.size F).drew;go_fit (A2 (by rw[<-J];exact G.g.below K) (by rw[<-O];exact G.j.below K) ae ae);rintro W aW⟨rfl,af⟩;rw[jm T];have v:Below F.heap.size F aW:=d_ K af;have aJ:=g_ v aw;have aS:=g_ v ad;have aX:=g_ v au;have aO:=g_ v ak;have z:=iu (d_ G.f v) (G.j.below v) J O T;clear af v K aP aw aY aH aV ad au ak J O T;by_cases Q:A=0
      .subst Q;have am:oi (f e e)=0:=by
        have u:=G.o;have aZ:ag=0:=by
         have az:=z.j;unfold oi at u;rw[az]at u;split at u
         .omega
         .split at u<;>omega
        have av:=z.x;rw[aZ,Nat.zero_dvd]at av;rw[z.m,av];rfl
       have aR:=a_ am;clear am;go_wp2_with fail;go_fit (kp z.g);rintro W a3⟨rfl,al⟩;rw[aR.e];have aU:=a_ (d_ z.f al);clear al aJ aS aX aO;go_wp2;go_roundw;exact⟨a+1,by have:=t.e;omega,by go_num,aU.e⟩;simp[intOf];omega
      .have a7:(A==0)=false:=iK.2 Q;clear Q;go_wp2;go_roundw;exact⟨a+1,by have:=t.e;omega,by go_num,z.f⟩;simp[intOf];omega
     .have aA:¬(e:Int)<(c:Int):=by omega
      clear E D l n;go_wp2;go_ret;exact⟨rfl,x.e⟩
    .have aN:¬(e:Int)<(r:Int):=by omega
     clear E D l n;go_wp2;go_ret;exact⟨rfl,x.e⟩
end R
section
open R
theorem vP.fine{r c:Nat}{zs:List Int}{xs:List Mx}(h:vP r c zs xs)(g:r<=4)(i:c<=4)(j:Nat)(a:j<5):mK (xs.getD j l5).1 (xs.getD j l5).2.1 (xs.getD j l5).2.2:=by
 obtain⟨v,rfl,k,m,s,n,p,q⟩:=h;obtain⟨f,u⟩:=hQ 60000000;have l:bD 1579<=16*(f+1):=by unfold bD;omega
 obtain⟨t,o⟩:=k.low;match j,a with
 |0,_=>exact ks g i m (mD (P:=λd=>d.natAbs<2^(16*(f+1))) (λb j e a=>iW (o.b b j e a) (by omega))) (by omega)
 |1,_=>exact ks g g s (mD (P:=λd=>d.natAbs<2^(16*(f+1))) (λb j e a=>iW (k.bits.1 b j e a) l)) (by omega)
 |2,_=>exact ks g g n (mD (P:=λd=>d.natAbs<2^(16*(f+1))) (λb j e a=>iW (k.bits.2.1 b j e a) l)) (by omega)
 |3,_=>exact ks i i p (mD (P:=λd=>d.natAbs<2^(16*(f+1))) (λb j e a=>iW (k.bits.2.2.1 b j e a) l)) (by omega)
 |4,_=>exact ks i i q (mD (P:=λd=>d.natAbs<2^(16*(f+1))) (λb j e a=>iW (k.bits.2.2.2 b j e a) l)) (by omega)
variable{E:List o4}
theorem za{B W:Nat}{ms:List Hm}{nx:Nat}{h:Int}{w:World}(aC:jL B w W i j k ms nx E)(cD:nx<1000000-5):Calls Tryz.prog 115 #[.pointer (some ⟨W,0,none⟩),.int .i64 h] w λr aa=>r=.returned (.bool true)/\ie B w aa W i j k nx:=by
 have cW:=aC.size;have be:=aC.uZ;have q:=a_ aC;clear aC;go_in;go_wp2_with fail;go_fit (@rv B W i j k ms nx E h false _ q.e);rintro r bb⟨⟨ds,dl,rfl,ci⟩,ar⟩;have aU:=q.e.below ar;obtain⟨dm,dF,dn,dB,de,c6,-⟩:=aU.il;have af:=hO ci ar aU;have dz:=ar.size;clear ci ar aU;go_wp2_with fail;go_fit (@wM B i j k h ms nx _ af.j q.l.dst cD);rintro r bi⟨c4,aA,dt,s,rfl,hrel,aB⟩;have bx:=tR q.l.dst af.f hrel;have ax:j5 (tN j k) bb bi:=by rcases aB with⟨-,-,-,aD⟩|⟨-,-,-,aD⟩<;>exact aD
 have aY:Below B w bi:=(af.g.mono cW).trans (ax.below (tN.le q.f.2.2.2.2.2.2.1 q.f.2.2.2.2.2.2.2) (by omega));have dx:=aY.size;obtain⟨aw,ca,bc,rfl⟩:∃cI cB cH,c4=.slice cI cB cH:=by rcases aB with⟨-,rfl,-⟩|⟨-,⟨_,_,rfl,-⟩,-⟩<;>exact⟨_,_,_,rfl⟩
 have bt:=q.l.num;have aW:=sR ms;rw[q.l.len,<-bt]at aW;have cf:=a_ aW;have aJ:=af.l.pK ax;obtain⟨dq,dg,dA,du,cl,bv,-⟩:=id aJ;have t:=kM aB ax aY bx aJ cl bv;clear hrel aB bx ax aY bt aW aJ cl bv c6;go_wp2_with fail;go_fit (@lq W i nx 5 _ _ _ _ E _ (by omega) t.y t.C be);rintro r aa⟨rfl,rfl⟩;rcases t.m with⟨rfl,rfl,cN⟩|⟨rfl,rfl,rfl,aq⟩|⟨rfl,rfl,rfl,aq,cE,d,D,u,db,bm,e,cm,cn,rfl,bh,bK⟩
 .rcases t.f with⟨-,am,M,-⟩|⟨g,-⟩
  .simp only[iC]at am;obtain⟨rfl,rfl,rfl⟩:=am;have ad:f_ (ie B w aa W i j k nx):=a_ ⟨⟨ms,nx,E,⟨M,t.r,q.l⟩,by omega⟩,t.j⟩;have bO:=pW;clear M;have dE:(aA==aA)=true:=by simp
   rcases cN with rfl|rfl
   .go_wp2;go_ret;exact⟨rfl,ad.e⟩
   .go_wp2;go_ret;exact⟨rfl,ad.e⟩
  .cases g
 .rcases t.f with⟨-,am,M,-⟩|⟨g,-⟩
  .simp only[iC]at am;obtain⟨rfl,rfl,rfl⟩:=am;have ad:f_ (ie B w aa W i j k nx):=a_ ⟨⟨ms,nx,E,⟨M,t.r,q.l⟩,by omega⟩,t.j⟩;have bO:=pW;clear M;have ai:decide (24<E.length+5)=true:=jm (by have:=cf.e;omega);rw[ai];clear aq ai;go_wp2;go_ret;exact⟨rfl,ad.e⟩
  .cases g
 .have ai:decide (24<E.length+5)=false:=ic (by have:=cf.e;omega);rw[ai];have o:=kM aq bm e cm cn bh bK;obtain⟨cw,aF⟩:=hQ cE.2.2;rw[<-aF];have cX:=a_ aF;clear aq bm e cm cn bh bK ai aF;go_wp2_with fail;obtain⟨M,x,N,a2,aL,b1,b8⟩:nu B aa i j k (jX ms nx s) (nx+5)/\∃x N,(Value.slice aw ca bc=.slice (some ⟨x,0,none⟩) 5 5)/\bb.heap.size<=x/\(N.length=5/\∀a,a<5->N.getD a 0=nx+a)/\R.Own aa (Value.slice aw ca bc) N:=by
   rcases t.f with⟨g,-⟩|⟨-,⟨x,N,Y,V,bf,cx,cU⟩,cC,-⟩
   .cases g
   .exact⟨cC,x,N,Y,V,⟨bf,cx⟩,cU⟩
  simp only[iC]at a2;obtain⟨rfl,rfl,rfl⟩:=a2;obtain⟨bg,aZ,bp,b2,ba,b6,bV,b9,a7,aT,bw,a0,bF,bX⟩:=af.l.vj t.g x aL;have ac:s.length<=ms.countP Option.isNone:=by have:=o.f;have:=o.y;omega
  have a4:=vP.fine o.C o.r.1 o.r.2.1;have a3:pq (jX ms nx s):=(q.l.w5 s [0,0,0,0,0] ac (by rw[o.y];rfl)).dst;have bu:¬S4 W aZ bp b2 x:=λv=>by have:=(aT x v).2;omega
  have b:=Bs M aL b1 b8 b6 bV b9 a7 aT bw a0 bF bX a4 a3 ac;clear M aL b1 b8 b6 bV b9 a7 aT bw a0 bF bX a4 a3;go_fit (@qz B W i j k x 5 nx (nx+5) _ aZ bp b2 (jX ms nx s) E s (BC ms nx s) _ b.f b.r b.y b.A b.B (λab G=>(b.D ab G).1) (by omega) (by omega) (λa c=>?_) b.P be (λa c=>?_) bu)
  .obtain⟨Y,V⟩:=mI (nx:=nx) q.l.len ac a (by rw[o.y];exact c);exact⟨Y,V,b.L a c⟩
  .have:=b.m.cell b.j.1 a c;rw[b.j.2 a c]at this;exact this
  rintro r cc⟨ct,aN,U,rfl,bT⟩;have a1:=bT;obtain⟨c1,cT,cL,⟨aP,cu⟩,⟨aQ,-⟩,-,-,ak⟩:=bT;rw[U]at aQ;have a8:R.Own cc (.slice (some ⟨x,0,none⟩) 5 5) N:=b.m.J (λbj a6=>by
   simp[Value.ownBlock]at a6;subst a6;exact ak.block b.m.lt bu)
  have a5:ix cc 51 bg (zZ ba):=b.F.1.lP ak (λab G v=>b.F.2.1 ab G (.inl (.inl v)));have z:=kM a1 aP aQ a8 a5 U ak;have dw:=ak.size;obtain⟨A,av,rfl⟩:∃A av,ct=.slice (some ⟨A,0,none⟩) 5 av:=by
   rcases aP with⟨-,T⟩|⟨bj,cK,dj,L,-⟩
   .have:=kX List.length T;rw[kR,U]at this;simp at this
   .rw[kR,U]at L;exact⟨bj,cK,L⟩
  clear a1 aP cu aQ a8 a5 ak;go_wp2_with fail;go_fit (@sW W i (nx+5) x 5 bg c1 cT cL ba N _ z.j z.r z.m b.j.1 (by omega) (by have:=b.G;omega));rintro r f⟨rfl,bJ⟩;obtain⟨az,cj,-⟩:=sL b.f o.y (by omega) (by omega) q.l o.f b.r b.y b.A b.B b.D b.Q b.F b.G b.O b.m.lt b.g (R.Own.GS b.m) (by omega) U b.L z.f (λY V bf c5=>by
    obtain⟨rfl,rfl,rfl⟩:=Lw.inj c5 z.j;exact bJ)
  have Z:ix f 164 (.slice (some ⟨A,0,none⟩) 5 av) (ko aN):=by
   obtain⟨_,_,_,_,c9,_⟩:=bJ;refine z.g.lP c9 (λab G v=>?_);have aH:=(z.g.own ab G).2;rcases v with v|v|v
   .exact iB aH z.j.ty (by decide) v
   .exact iB aH (z.r.own ab v).2 (by decide) rfl
   .exact iB aH (R.Own.GS z.m) (by decide) v
  have aI:Below B w f:=t.j.trans cj;have dr:=aI.size;obtain⟨r,b5,P,-⟩:=o.C;obtain⟨K,I,S,J,O,rfl⟩:∃K I S J O,aN=[K,I,S,J,O]:=by
   match aN,U with
   |[cY,cF,c3,aA,aD],_=>exact⟨cY,cF,c3,aA,aD,rfl⟩
  have X:∀a,a<5->∃aw e,kH f aw e ([K,I,S,J,O].getD a 0) (s.getD a l5).1 (s.getD a l5).2.1 (fz (s.getD a l5).2.1 (s.getD a l5).2.2):=λa c=>by
   obtain⟨Y,V⟩:=mI (nx:=nx) q.l.len ac a (by rw[o.y];exact c);have cS:(nx+a,Ex (s.getD a l5),[K,I,S,J,O].getD a 0)∈E++nB nx s [K,I,S,J,O]:=ji.2 (.inr (kt.2 ⟨a,jB.2 c,rfl⟩));exact(az.entry cS Y V rfl).2.2
  have T:=X 0 (by omega);have L:=X 1 (by omega);have an:=X 2 (by omega);have ae:=X 3 (by omega);have al:=X 4 (by omega);rw[b5]at T L an ae al;obtain⟨bC,dv,T⟩:=T;obtain⟨bR,dh,L⟩:=L;obtain⟨cM,dp,an⟩:=an;obtain⟨bZ,dk,ae⟩:=ae;obtain⟨cy,dD,al⟩:=al;obtain⟨bo,ce⟩:=T.qk;obtain⟨a9,bq⟩:=L.qk;obtain⟨cv,bB⟩:=an.qk;obtain⟨bs,bQ⟩:=ae.qk;obtain⟨cA,ch⟩:=al.qk;obtain⟨-,-,da,di,bE⟩:=az.entry (ji.2 (.inl o.g)) o.j (pk s ms nx d _ q.l.len ac o.m) rfl;obtain⟨cs,au⟩:=bE.qk;rw[<-cX.e]at au;obtain⟨n,b3⟩:=hQ 60000000;have dc:=o.r.1;have dC:=o.r.2.1;have dd:n<=60000000:=by omega
  obtain⟨cV,aX⟩:=P.low;have ah:bD 1579<=16*n:=by unfold bD;omega
  have p:=tk (ce.fit (m:=n) (λd a e c=>iW (aX.b d a e c) (by omega))) (bq.fit (m:=n) (λd a e c=>iW (P.bits.1 d a e c) ah)) (bB.fit (m:=n) (λd a e c=>iW (P.bits.2.1 d a e c) ah)) (au.tight (jT o.r)) P az aI b3 (bQ.fit (m:=n) (λd a e c=>iW (P.bits.2.2.1 d a e c) ah)) (ch.fit (m:=n) (λd a e c=>iW (P.bits.2.2.2 d a e c) ah));have bn:=a_ aX;obtain⟨-,-,-,bP,cg,-⟩:=au.open_;have cq:f.cell? ⟨A,0,none⟩=some (.pointer (some ⟨K,0,none⟩)):=by
   obtain⟨ao,ap,g,-,-,-,F⟩:=Z.shape;simp only[iC]at g;obtain⟨aE,l,H⟩:=F 0 (by simp[ko]);rw[<-g.1]at l;simp only[iH,jj]at l;rw[l.1,H];simp[ko]
  have bG:f.cell? ⟨A,1,none⟩=some (.pointer (some ⟨I,0,none⟩)):=by
   obtain⟨ao,ap,g,-,-,-,F⟩:=Z.shape;simp only[iC]at g;obtain⟨aE,l,H⟩:=F 1 (by simp[ko]);rw[<-g.1]at l;simp only[iH,jj]at l;rw[l.1,H];simp[ko]
  have bM:f.cell? ⟨A,2,none⟩=some (.pointer (some ⟨S,0,none⟩)):=by
   obtain⟨ao,ap,g,-,-,-,F⟩:=Z.shape;simp only[iC]at g;obtain⟨aE,l,H⟩:=F 2 (by simp[ko]);rw[<-g.1]at l;simp only[iH,jj]at l;rw[l.1,H];simp[ko]
  have bA:f.cell? ⟨A,3,none⟩=some (.pointer (some ⟨J,0,none⟩)):=by
   obtain⟨ao,ap,g,-,-,-,F⟩:=Z.shape;simp only[iC]at g;obtain⟨aE,l,H⟩:=F 3 (by simp[ko]);rw[<-g.1]at l;simp only[iH,jj]at l;rw[l.1,H];simp[ko]
  have bI:f.cell? ⟨A,4,none⟩=some (.pointer (some ⟨O,0,none⟩)):=by
   obtain⟨ao,ap,g,-,-,-,F⟩:=Z.shape;simp only[iC]at g;obtain⟨aE,l,H⟩:=F 4 (by simp[ko]);rw[<-g.1]at l;simp only[iH,jj]at l;rw[l.1,H];simp[ko]
  have bO:=oP ⟨A,0,none⟩ 5 av;clear X T L an ae al ce bq bB bQ ch au bE az aI cj Z b5 P b3 ac aX ah;go_wp2_with fail;go_fit (@yI K D u bo (fz u r.d) bC (2*n) _ p.f ⟨λd a e c=>?_,p.r.diag,p.r.div⟩ (by omega) (by omega) (by omega))
  .show 0<=e_ u r.d d a;rcases Nat.decEq d a with aM|aM
   .rw[p.r.diag d a e c aM];exact xz _
   .subst aM;rcases iX d cV with G|G
    .exact Int.le_of_lt (bn.e.low.pos d G)
    .rw[bn.e.low.out d d e c (.inl G)];exact xz _
  rintro aj cJ⟨rfl,y⟩;have cQ:=a_ y;have df:=y.size;have c2:=g_ y bP;have cp:=g_ y cg;have bU:=g_ y cq;have cd:=g_ y bG;have cP:=g_ y bM;have bk:=g_ y bA;have bL:=g_ y bI;clear y bP cg cq bG bM bA bI;go_wp2_with fail;go_still_tail 10,(by kernel_rfl);go_wp2_with fail;have C:Below f.heap.size f cJ.drew:=cQ.e.drew;go_fit (@qB I S D (2*n) a9 cv (fz D r.u) (fz D r.s) bR cM _ (p.g.hV (KR.I C)) (p.j.hV (KR.I C)) (by omega) (by omega) (λd a e c=>p.r.inv.us d a e c));rintro aj b7⟨rfl,Q⟩;have b0:Below f.heap.size f b7:=d_ C Q;have c0:=a_ b0;have cz:=g_ Q cp;have bS:=g_ Q bU;have b4:=g_ Q cd;have cr:=g_ Q bk;have c7:=g_ Q bL;clear Q b0 C cd cP bU bk bL c2 cp;go_wp2_with fail;go_still_tail 10,(by kernel_rfl);go_wp2_with fail;have C:Below f.heap.size f b7.drew:=c0.e.drew;go_fit (@qB J O u (2*n) bs cA (fz u r.v) (fz u r.t) bZ cy _ (p.D.hV (KR.I C)) (p.K.hV (KR.I C)) (by omega) (by omega) (λd a e c=>p.r.inv.vt d a e c));rintro aj cb⟨rfl,ag⟩;have br:Below f.heap.size f cb:=d_ C ag;have aR:=a_ br;have co:=g_ ag bS;have cR:=g_ ag b4;have bl:=g_ ag cr;clear ag br C bS b4 cr c7 cz;go_wp2_with fail;go_fit (@kn (2*n) 4 I D D a9 (fz D r.u) bR cw u cs (fz u db) da _ (p.g.hV (KR.I aR.e)) (p.m.hV (KR.I aR.e)) (by omega) (by omega) (by omega) (by omega));rintro aj bN⟨rfl,⟨c8,bz⟩,ay⟩;have bH:Below f.heap.size f bN:=d_ aR.e ay;have bd:=g_ ay co;have cO:=g_ ay bl;have aK:=b_ bz bH;clear bz ay bH co cR bl;go_wp2_with fail;go_fit (@kn (2*n+4+12) (2*n) cb.heap.size D u c8 _ 0 J u bs (fz u r.v) bZ _ aK.f (p.D.hV (KR.I aK.i)) (by omega) (by omega) (by omega) (by omega));rintro aj cG⟨rfl,⟨cZ,bW⟩,aG⟩;have aO:Below f.heap.size f cG:=d_ aK.i aG;have dy:=g_ aG bd;have aS:=hO bW ((p.f.hV (KR.I aO)).mono (show 2*n<=2*n+4+12+2*n+12 by omega)) aO;clear bW aG aO bd cO;go_wp2_with fail;try go_quiet (fail)
  try go_wp2_with fail
  go_fit (@lM bN.heap.size D u cZ _ 0 K bo _ bC (2*n+4+12+2*n+12) _ aS.f aS.g (λd a e c=>p.r.inv.d d a e c) (by omega) (by omega) (by omega));rintro aj bY⟨rfl,ck⟩;have aV:Below f.heap.size f bY:=d_ aS.l ck;have ad:f_ (ie B w bY W i j k nx):=a_ ⟨⟨_,_,_,p.y.below aV,by omega⟩,p.A.trans (aV.mono (by omega))⟩;clear ck aV;go_wp2;go_ret;exact⟨rfl,ad.e⟩
end
theorem Cs{v:Value}{r c k:Nat}{L:Nat}{w:World}(a4:Gs w v r c k e f g L)(bj:k<=r):Calls Tryz.prog 235 #[v] w λj ao=>∃h u,j=.returned (.agg #[.int .i64 ((r-k:Nat):Int),.int .i64 r,.slice (some ⟨h,0,none⟩) ((r-k)*r) ((r-k)*r)])/\w.heap.size<=h/\iA ao (.slice (some ⟨h,0,none⟩) ((r-k)*r) ((r-k)*r)) ((r-k)*r) u L/\(∀a d,a<r-k->d<r->e_ r u a d=e_ r f (k+a) d)/\Below w.heap.size w ao:=by
 obtain⟨a7,bp,bg,rfl,V,U,ap⟩:=a4;obtain⟨z,x,rfl⟩:=V.slice;obtain⟨A,t,rfl⟩:=U.slice;obtain⟨p,y,rfl⟩:=ap.slice;have al:=V.1;have ad:=a_ U;clear V U ap;obtain⟨q,az⟩:=hQ (r*c);obtain⟨i,ar⟩:=hQ (r*r);obtain⟨b,W⟩:=hQ (r-k);rw[<-ar]at ad|-;rw[<-az,<-W];have bl:(r:Int)-(k:Int)=(b:Int):=by omega
 have bf:b<=r:=by omega
 have aV:=a_ W;clear az ar W;go_in;go_wp2_with fail;obtain⟨C,D⟩:=hQ ((w.alloc (.cells #[.int .i64 r,.int .i64 c,.slice z q x,.int .i64 r,.int .i64 r,.slice A i t,.int .i64 r,.int .i64 r,.slice p i y,.int .i64 k] 74)).alloc (.cells #[.int .i64 0,.int .i64 0,.slice none 0 0] 66));have a8:C.heap.size=w.heap.size+2:=by rw[D];simp
 have ab:Below w.heap.size w C:=by rw[D];repeat(first|exact hP|refine ia ?_ (by simp<;>omega) _)
 have av:C.heap[w.heap.size+1]?=some (.cells #[.int .i64 0,.int .i64 0,.slice none 0 0] 66 (0,0)):=by
  rw[D];have:=iP (w.alloc (.cells #[.int .i64 r,.int .i64 c,.slice z q x,.int .i64 r,.int .i64 r,.slice A i t,.int .i64 r,.int .i64 r,.slice p i y,.int .i64 k] 74)) (.cells #[.int .i64 0,.int .i64 0,.slice none 0 0] 66);simpa using this
 have au:C.heap[w.heap.size]?=some (.cells #[.int .i64 r,.int .i64 c,.slice z q x,.int .i64 r,.int .i64 r,.slice A i t,.int .i64 r,.int .i64 r,.slice p i y,.int .i64 k] 74 (0,0)):=by
  rw[D];have aX:=iP w (.cells #[.int .i64 r,.int .i64 c,.slice z q x,.int .i64 r,.int .i64 r,.slice A i t,.int .i64 r,.int .i64 r,.slice p i y,.int .i64 k] 74);exact(((kQ (w.alloc (.cells #[.int .i64 r,.int .i64 c,.slice z q x,.int .i64 r,.int .i64 r,.slice A i t,.int .i64 r,.int .i64 r,.slice p i y,.int .i64 k] 74)).heap.size _).alloc c_ _).block _ (by simp)).trans aX
 have G:=hY ab (show vy C w.heap.size r c k (.slice z q x) (.slice A i t) (.slice p i y)from au) av D;rw[<-D];clear ab au av D;go_fit (kh (by omega) al);rintro j m⟨h,rfl,aD,X,S⟩;have a0:C.heap.size<=m.heap.size:=S.size;have ba:=X.ty.lt;have O:=hU m (.cells #[.int .i64 b,.int .i64 r,.slice (some ⟨h,0,none⟩) (b*r) (b*r)] 66);have R:x4 (m.alloc (.cells #[.int .i64 b,.int .i64 r,.slice (some ⟨h,0,none⟩) (b*r) (b*r)] 66)) m.heap.size 0 (.int .i64 b) (.int .i64 r) (.slice (some ⟨h,0,none⟩) (b*r) (b*r)):=⟨fa _ _ _ _ _ rfl rfl,fa _ _ _ _ _ rfl rfl,fa _ _ _ _ _ rfl rfl⟩;obtain⟨J,K⟩:=hQ (m.alloc (.cells #[.int .i64 b,.int .i64 r,.slice (some ⟨h,0,none⟩) (b*r) (b*r)] 66));have bb:J.heap.size=m.heap.size+1:=by rw[K];simp
 rw[<-K]at O R;have aq:=S.trans (O.mono a0);have B:=hO (show iT J m.heap.size 0 h b r (List.replicate (b*r) 0) L from⟨by omega,al,R,(X.mono hR).below O⟩) aq K;clear X S O R K aq;go_wp2_with fail;rw[<-B.l];have aT:m.heap.size≠h:=by omega
 have be:C.heap.size<=h:=aD;go_loopw [5] (λa wr=>∃(l:Nat) (u:List Int),l<=b/\a=.int .i64 l/\f_ (iT wr m.heap.size 0 h b r u L/\J.grownBy wr (some h)/\∀a d,a<b->d<r->a<l->e_ r u a d=e_ r f (k+a) d)) (λa _=>b-(intOf a).toNat)
 case atStart=>exact⟨0,_,hR,rfl,a_ ⟨B.f,jM _ _,λa d _ _ aE=>by omega⟩⟩
 case round=>
  rename World=>s;obtain⟨l,u,a9,rfl,o⟩:=hrel;have bd:vy s w.heap.size r c k (.slice z q x) (.slice A i t) (.slice p i y):=(o.g.block _ (by omega) (by simp;omega)).trans (G.g.below B.g (by omega));by_cases am:l<b
  .have aR:(l:Int)<(b:Int):=by omega
   go_wp2_with fail;go_loopw [6] (λa wr=>∃(j:Nat) (H:List Int),j<=r/\a=.int .i64 j/\f_ (iT wr m.heap.size 0 h b r H L/\J.grownBy wr (some h)/\∀a d,a<b->d<r->(a<l\/(a=l/\d<j))->e_ r H a d=e_ r f (k+a) d)) (λa _=>r-(intOf a).toNat)
   case atStart=>exact⟨0,u,hR,rfl,a_ ⟨o.f,o.g,λa d ak aO aE=>o.l a d ak aO (by omega)⟩⟩
   case round=>
    rename World=>Q;obtain⟨j,H,bh,rfl,n⟩:=hrel;have N:vy Q w.heap.size r c k (.slice z q x) (.slice A i t) (.slice p i y):=(n.g.block _ (by omega) (by simp;omega)).trans (G.g.below B.g (by omega));obtain⟨ae,a2,aY,a3,aN,a6,aB,aA,aS⟩:=N.cells;have aU:Q.cell? ⟨w.heap.size,9,none⟩=some (.int .i64 k):=by unfold vy at N;simp[World.cell?,N]
    have aw:Below w.heap.size w Q:=(G.f.trans (B.g.mono (by omega))).trans (iG n.g (by omega) (by omega));have bk:=n.g.size;have aM:=a_ aw;clear aw N;by_cases aa:j<r
    .have aJ:(j:Int)<(r:Int):=by omega
     obtain⟨M,ac⟩:=hQ (k+l);have bq:(k:Int)+(l:Int)=(M:Int):=by omega
     have bc:IntKind.i64.wrap (M:Int)=(M:Int):=oV _ (by omega);have a5:M<r:=by have:=aV.e;omega
     have aL:=a_ ac;clear ac;go_wp2_with fail;go_fit (jy (ad.e.below aM.e) a5 aa);rintro aW aC⟨ak,rfl,Y,aj⟩;obtain⟨aG,aQ,aH,aZ,rfl⟩:=Y.shape;have Z:=hU aC (.cells #[.bool aG,.slice aQ aH aZ] 79);have ay:=d_ aj Z;have T:=b_ ay (Y.below Z);clear Y aj Z ay ae a2 aY a3 aN a6 aB aA aS aU;go_wp2_with fail;go_fit (oQ (n.f.later T.f) aT T.i am aa);rintro aW bn⟨rfl,ax,ag,-⟩;have af:=b_ ax (hZ (ib n.g T.f) ag);clear ax ag;go_wp2;go_roundw
     .refine⟨j+1,_,by omega,by go_num,a_ ⟨af.f,af.i,λa d I F aI=>?_⟩⟩;rw[kN H b r n.f.len l j a d _ am aa F];by_cases ah:a=l/\d=j
      .obtain⟨rfl,rfl⟩:=ah;rw[if_pos ⟨rfl,rfl⟩,aL.e];rfl
      .rw[if_neg ah];exact n.l a d I F (by omega)
     simp[intOf];omega
    .have aJ:¬(j:Int)<(r:Int):=by omega
     go_wp2;go_roundw;exact⟨l+1,H,by omega,by go_num,a_ ⟨n.f,n.g,λa d I F aI=>n.l a d I F (by omega)⟩⟩;simp[intOf];omega
  .have aR:¬(l:Int)<(b:Int):=by omega
   have E:s.heap[w.heap.size+1]?=some (.cells #[.int .i64 0,.int .i64 0,.slice none 0 0] 66 (0,0)):=((o.g.block _ (by omega) (λj=>by injection j with j;omega)).trans (B.g.block _ (by omega))).trans G.j;have a1:s.cell? ⟨w.heap.size+1,0,none⟩=some (.int .i64 0):=by simp[World.cell?,E]
   have aF:s.cell? ⟨w.heap.size+1,1,none⟩=some (.int .i64 0):=by simp[World.cell?,E]
   have aK:s.cell? ⟨w.heap.size+1,2,none⟩=some (.slice none 0 0):=by simp[World.cell?,E]
   have ae:∀ai,s.frozen? ⟨w.heap.size+1,ai,none⟩=false:=λai=>by simp[World.frozen?,E]
   have aP:f_ (Ty s (w.heap.size+1) 66):=a_ ⟨_,_,E⟩;obtain⟨bm,bo,bi⟩:=o.f.lX;clear E;go_wp2_with fail;refine ig (v:=.agg #[.int .i64 b,.int .i64 r,.slice (some ⟨h,0,none⟩) (b*r) (b*r)]) ?_ rfl ?_
   ·(simp[results,Tryz.results235,go_sem,a1,aF,aK];done)
   .have P:=HR aP.e (by decide) (.int .i64 b) (.int .i64 r) (.slice (some ⟨h,0,none⟩) (b*r) (b*r));have an:Below w.heap.size w s:=(G.f.trans (B.g.mono (by omega))).trans (iG o.g (by omega) (by omega));exact⟨h,rfl,by omega,u,o.f.kA.s4 P.2 P.1 (by omega),λa d I F=>o.l a d I F (by omega),an.trans (iG P.2 (by omega) an.size)⟩
def jA(r c:Nat)(zs:List Int):List Int:=(List.range (c*r)).map λa=>e_ c zs (a%r) (a/r)
theorem qu(r c:Nat)(zs:List Int):nW r c zs (jA r c zs):=by
 refine⟨by simp[jA],λb a g d=>?_⟩;have e:(b*r+a)/r=b:=by rw[ij,si (by omega),uO d];omega
 have f:(b*r+a)%r=a:=by rw[ij,ue];exact oO d
 rw[show e_ r (jA r c zs) b a=(jA r c zs).getD (b*r+a) 0 from rfl];unfold jA;rw[List.getD,wg,vG (jq g d)];simp only[Option.map_some,wy,e,f]
def mA(r c:Nat)(zs ys xs:List Int)(d:Nat)(g:List Int):Prop:=∃a i h b j,rH c r (jA r c zs) a i h b j/\xs=jA 1 c (kL 1 c c (Aj (e_ r h) i (e_ r (jA r 1 ys) 0) c a) b)/\d=c-a/\a<=c/\g.length=d*c/\∀f e,f<d->e<c->e_ c g f e=e_ c b (a+f) e
theorem mA.uniq{r c:Nat}{zs ys xs:List Int}{n:Nat}(a:mA r c zs ys xs n f)(b:mA r c zs ys e i g):xs=e/\n=i/\f=g:=by
 obtain⟨v,D,A,E,z,a,rfl,rfl,C,s,l⟩:=a;obtain⟨G,x,F,w,H,b,rfl,rfl,y,o,u⟩:=b;obtain⟨rfl,m,p,B⟩:=pR.Bh r c_ _ _ _ _ a.run b.run;obtain rfl:=iR a.lh b.lh m;obtain rfl:=iR a.lu b.lu p;refine⟨?_,rfl,iR s o λh j d k=>(l h j d k).trans (u h j d k).symm⟩;rw[xJ (e_ r (jA r 1 ys) 0) c λt q=>((a.st.D2 b.st (λh d=>Sp.row _ r d) (λh d=>Sp.row _ r d)) t q).2.symm]
theorem Gs.JW{w:World}{v:Value}{r c k:Nat}{L:Nat}(h:Gs w v r c k e f g L)(a:Below w.heap.size w W):Gs W v r c k e f g L:=by
 obtain⟨b,l,m,i,d,j,n⟩:=h;exact⟨b,l,m,i,d.below a,j.below a,n.below a⟩
theorem vy.nine{w:World}{q r c k:Nat}(h:vy w q r c k x y z):w.cell? ⟨q,9,none⟩=some (.int .i64 k):=by unfold vy at h;simp[World.cell?,h]
theorem Em{v u:Value}{r c:Nat}{zs ys:List Int}{w:World}(bm:i_ w v r c zs 2)(bb:i_ w u r 1 ys 2)(b0:r<=4)(ck:c<=4)(cj:∀D B,D<r->B<c->(e_ c zs D B).natAbs<2^48):Calls Tryz.prog 230 #[v,u] w λJ A=>∃(e d aW aE:Int) (bn bt:Option Addr) (bx bj a6 be:Nat) (Q:Bool),J=.returned (.tuple #[.agg #[.int .i64 e,.int .i64 d,.slice bn bx a6],.agg #[.int .i64 aW,.int .i64 aE,.slice bt bj be],.bool Q])/\(Q=true↔Sp (e_ r (jA r c zs)) c r (e_ r (jA r 1 ys) 0))/\na (e_ r (jA r c zs)) c r/\(Q=true->∃bR aV X,mA r c zs ys bR aV X/\e=c/\d=1/\aW=aV/\aE=c/\i_ A (.agg #[.int .i64 e,.int .i64 d,.slice bn bx a6]) c 1 bR 200000000/\i_ A (.agg #[.int .i64 aW,.int .i64 aE,.slice bt bj be]) aV c X 200000000)/\Below w.heap.size w A:=by
 have ba:=a_ bm;have bO:=a_ bb;obtain⟨cv,bS,cs,rfl,a9⟩:=bm;obtain⟨ak,an,rfl,-⟩:=a9.shape;obtain⟨-,ae,cE,rfl,a8⟩:=bb;obtain⟨ah,ac,rfl,-⟩:=a8.shape;clear a9 a8;obtain⟨al,bY⟩:=hQ (r*c);obtain⟨Z,bN⟩:=hQ (r*1);rw[<-bY]at ba|-;rw[<-bN]at bO|-;clear bY bN;go_in;go_wp2_with fail;obtain⟨C,K⟩:=hQ ((((w.alloc (.cells #[.int .i64 r,.int .i64 c,.slice ak al an] 66)).alloc (.cells #[.int .i64 r,.int .i64 1,.slice ah Z ac] 66)).alloc (.cells #[.int .i64 0,.int .i64 0,.slice none 0 0] 66)).alloc (.cells #[.int .i64 0,.int .i64 0,.slice none 0 0] 66));have co:C.heap.size=w.heap.size+4:=by rw[K];simp
 have aZ:Below w.heap.size w C:=by rw[K];repeat(first|exact hP|refine ia ?_ (by simp<;>omega) _)
 have bQ:jk C (w.heap.size+1) (.int .i64 r) (.int .i64 1) (.slice ah Z ac):=by
  rw[K];exact⟨iL (iL (fa _ _ _ _ _ (by simp) rfl) _) _,iL (iL (fa _ _ _ _ _ (by simp) rfl) _) _,iL (iL (fa _ _ _ _ _ (by simp) rfl) _) _⟩
 have f:C.heap[w.heap.size+2]?=some (.cells #[.int .i64 0,.int .i64 0,.slice none 0 0] 66 (0,0)):=by
  rw[K];have ae:=iP ((w.alloc (.cells #[.int .i64 r,.int .i64 c,.slice ak al an] 66)).alloc (.cells #[.int .i64 r,.int .i64 1,.slice ah Z ac] 66)) (.cells #[.int .i64 0,.int .i64 0,.slice none 0 0] 66);have cl:=(((kQ (((w.alloc (.cells #[.int .i64 r,.int .i64 c,.slice ak al an] 66)).alloc (.cells #[.int .i64 r,.int .i64 1,.slice ah Z ac] 66)).alloc (.cells #[.int .i64 0,.int .i64 0,.slice none 0 0] 66)).heap.size _).alloc c_ (.cells #[.int .i64 0,.int .i64 0,.slice none 0 0] 66)).block (w.heap.size+2) (by simp));rw[cl];simpa using ae
 have g:C.heap[w.heap.size+3]?=some (.cells #[.int .i64 0,.int .i64 0,.slice none 0 0] 66 (0,0)):=by
  rw[K];have ae:=iP (((w.alloc (.cells #[.int .i64 r,.int .i64 c,.slice ak al an] 66)).alloc (.cells #[.int .i64 r,.int .i64 1,.slice ah Z ac] 66)).alloc (.cells #[.int .i64 0,.int .i64 0,.slice none 0 0] 66)) (.cells #[.int .i64 0,.int .i64 0,.slice none 0 0] 66);simpa using ae
 have F:=hY aZ bQ f g;rw[<-K];clear aZ bQ f g K;go_fit (ob (ba.e.below F.f));rintro J cp⟨cC,ag,rfl,aT,aR,aB⟩;obtain rfl:ag=jA r c zs:=nW.uniq ⟨aT.uY,aR⟩ (qu r c zs);have a3:∀D B,D<c->B<r->(e_ r (jA r c zs) D B).natAbs<2^48:=λD B bJ bK=>by rw[aR D B bJ bK];exact cj B D bK bJ
 have az:=hO aT aB a3;have cf:=aB.size;clear aT aR aB a3;go_wp2_with fail;go_fit (oe az.f ck b0 az.l (by omega));rintro J z⟨cu,a,bC,bB,bU,aY,rfl,ar,bD,bo,bu,aM,bi⟩;obtain⟨cn,cF,ct,rfl,aI,aC,aS⟩:=id ar;have av:rH c r (jA r c zs) a bC bB bU aY:=⟨aI.uY,aC.uY,aS.uY,bD,bo,bu,bi⟩;obtain⟨S,P,rfl⟩:=aI.slice;obtain⟨V,N,rfl⟩:=aC.slice;obtain⟨L,R,rfl⟩:=aS.slice;clear aI aC aS bD bo bu bi;obtain⟨U,bg⟩:=hQ (c*r);obtain⟨x,bc⟩:=hQ (c*c);rw[<-bg,<-bc]at ar|-;clear bg bc;have aX:=hU z (.cells #[.int .i64 c,.int .i64 r,.slice S U P,.int .i64 c,.int .i64 c,.slice V x N,.int .i64 c,.int .i64 c,.slice L x R,.int .i64 a] 74);have ay:Below C.heap.size C (z.alloc (.cells #[.int .i64 c,.int .i64 r,.slice S U P,.int .i64 c,.int .i64 c,.slice V x N,.int .i64 c,.int .i64 c,.slice L x R,.int .i64 a] 74)):=az.g.trans ((d_ aM aX).mono cf);have a0:vy (z.alloc (.cells #[.int .i64 c,.int .i64 r,.slice S U P,.int .i64 c,.int .i64 c,.slice V x N,.int .i64 c,.int .i64 c,.slice L x R,.int .i64 a] 74)) z.heap.size c r a (.slice S U P) (.slice V x N) (.slice L x R):=iP z _;obtain⟨aK,aL,aF⟩:=F.g.later ay;have bW:=av.st.le;have b:=iu ar av ay a0 aX;have cz:C.heap.size<=z.heap.size:=by have:=aM.size;omega
 clear ar av aM aX ay a0;go_wp2_with fail;obtain⟨Y,ax⟩:=hQ (z.alloc (.cells #[.int .i64 c,.int .i64 r,.slice S U P,.int .i64 c,.int .i64 c,.slice V x N,.int .i64 c,.int .i64 c,.slice L x R,.int .i64 a] 74));have cr:Y.heap.size=z.heap.size+1:=by rw[ax];simp
 rw[<-ax]at b aK aL aF|-;clear ax;go_fit (ob (bO.e.below (F.f.trans (b.j.mono (by omega)))));rintro J T⟨cA,cc,rfl,ai,a4,aw⟩;obtain rfl:cc=jA r 1 ys:=nW.uniq ⟨ai.uY,a4⟩ (qu r 1 ys);obtain⟨-,-,cq,rfl,bA⟩:=id ai;obtain⟨aa,W,rfl,-⟩:=bA.shape;obtain⟨aj,bT⟩:=hQ (1*r);rw[<-bT]at ai|-;have aH:=hU T (.cells #[.int .i64 1,.int .i64 r,.slice aa aj W] 66);have au:Below Y.heap.size Y (T.alloc (.cells #[.int .i64 1,.int .i64 r,.slice aa aj W] 66)):=d_ aw aH;have cy:=aw.size;have ad:=b.m.below au b.m.lt;have bL:jk (T.alloc (.cells #[.int .i64 1,.int .i64 r,.slice aa aj W] 66)) T.heap.size (.int .i64 1) (.int .i64 r) (.slice aa aj W):=⟨fa _ _ _ _ _ rfl rfl,fa _ _ _ _ _ rfl rfl,fa _ _ _ _ _ rfl rfl⟩;have am:=hY (ai.below aH) au ad bL;have bd:(T.alloc (.cells #[.int .i64 1,.int .i64 r,.slice aa aj W] 66)).cell? ⟨z.heap.size,9,none⟩=some (.int .i64 a):=by unfold vy at ad;simp[World.cell?,ad]
 obtain⟨bh,a1,bX,bp,bV,bP,bE,bI,a2⟩:=ad.cells;clear ai bA a4 aw aH au ad bL bT aK aL aF;go_wp2_with fail;have bw:=(b.f.JW b.x).JW am.g;go_fit (oM bw (am.f.mono (by omega)) b.g.st (by omega) (by omega));rintro J h⟨e,d,i,j,l,Q,rfl,bk,a7,aN⟩;have aG:=hU h (.cells #[.int .i64 e,.int .i64 d,.slice i j l] 66);have ap:Below Y.heap.size Y (h.alloc (.cells #[.int .i64 e,.int .i64 d,.slice i j l] 66)):=am.g.trans ((d_ aN aG).mono am.g.size);have cB:T.heap.size+1<=h.heap.size:=by have:=aN.size;simpa using this
 have a5:=b.m.below ap b.m.lt;have bG:jk (h.alloc (.cells #[.int .i64 e,.int .i64 d,.slice i j l] 66)) h.heap.size (.int .i64 e) (.int .i64 d) (.slice i j l):=⟨fa _ _ _ _ _ rfl rfl,fa _ _ _ _ _ rfl rfl,fa _ _ _ _ _ rfl rfl⟩;have br:=d_ b.j ap;have k:=ju (a7.trans (mem_iff b.g.st b.g.inv)) (show Q=true->_ from λaD=>(bk aD).below aG) ap a5 bG br;clear bk a7 aN aG ap a5 bG bw bh a1 bX bp bV bP bE bI a2 bd br;have f:=(k.z.block (w.heap.size+1+1) (by omega)).trans F.j;have g:=(k.z.block (w.heap.size+1+1+1) (by omega)).trans F.o;have aO:=b_ f g
 cases Q
 .have t:(h.alloc (.cells #[.int .i64 e,.int .i64 d,.slice i j l] 66)).cell? ⟨w.heap.size+1+1,0,none⟩=some (.int .i64 0):=by simp[World.cell?,f]
  have m:(h.alloc (.cells #[.int .i64 e,.int .i64 d,.slice i j l] 66)).cell? ⟨w.heap.size+1+1,1,none⟩=some (.int .i64 0):=by simp[World.cell?,f]
  have n:(h.alloc (.cells #[.int .i64 e,.int .i64 d,.slice i j l] 66)).cell? ⟨w.heap.size+1+1,2,none⟩=some (.slice none 0 0):=by simp[World.cell?,f]
  have aQ:∀y,(h.alloc (.cells #[.int .i64 e,.int .i64 d,.slice i j l] 66)).frozen? ⟨w.heap.size+1+1,y,none⟩=false:=λy=>by simp[World.frozen?,f]
  have q:(h.alloc (.cells #[.int .i64 e,.int .i64 d,.slice i j l] 66)).cell? ⟨w.heap.size+1+1+1,0,none⟩=some (.int .i64 0):=by simp[World.cell?,g]
  have s:(h.alloc (.cells #[.int .i64 e,.int .i64 d,.slice i j l] 66)).cell? ⟨w.heap.size+1+1+1,1,none⟩=some (.int .i64 0):=by simp[World.cell?,g]
  have o:(h.alloc (.cells #[.int .i64 e,.int .i64 d,.slice i j l] 66)).cell? ⟨w.heap.size+1+1+1,2,none⟩=some (.slice none 0 0):=by simp[World.cell?,g]
  have aP:∀y,(h.alloc (.cells #[.int .i64 e,.int .i64 d,.slice i j l] 66)).frozen? ⟨w.heap.size+1+1+1,y,none⟩=false:=λy=>by simp[World.frozen?,g]
  have ab:Below w.heap.size w (h.alloc (.cells #[.int .i64 e,.int .i64 d,.slice i j l] 66)):=F.f.trans (k.z.mono (by omega));have O:=b_ ab (lI (lL t m n) (lL q s o) (qQ (nb _)) (.int .i64 0) (.int .i64 0) (.slice none 0 0) (.int .i64 0) (.int .i64 0) (.slice none 0 0));clear ab f g;go_wp2_with fail;clear t m n aQ q s o aP;obtain⟨⟨t,m,n⟩,q,s,o⟩:=id O.i;have H:=a_ (kV O.f (show w.heap.size<=w.heap.size+1+1 by omega) (show w.heap.size<=w.heap.size+1+1+1 by omega) (.int .i64 0) (.int .i64 0) (.slice none 0 0) (.int .i64 0) (.int .i64 0) (.slice none 0 0));clear O;unfold u1 at t m n q s o H;generalize World.setCell _ _ _=b4 at t m n q s o H|-;refine ig (v:=.tuple #[.agg #[.int .i64 0,.int .i64 0,.slice none 0 0],.agg #[.int .i64 0,.int .i64 0,.slice none 0 0],.bool false]) ?_ rfl ?_
  ·(simp[results,Tryz.results230,go_sem,t,m,n,q,s,o];done)
  .exact⟨0,0,0,0,none,none,0,0,0,0,false,rfl,k.f,⟨_,_,_,_,_,b.g.st,b.g.inv⟩,(λaD=>by cases aD),H.e⟩
 .clear f g;go_wp2_with fail;have aq:=k.g trivial;obtain⟨E,aJ⟩:=hQ (h.alloc (.cells #[.int .i64 e,.int .i64 d,.slice i j l] 66));have cx:E.heap.size=h.heap.size+1:=by rw[aJ];simp
  rw[<-aJ]at k aO aq|-;clear aJ;have bM:=(b.f.JW b.x).JW k.j;have bZ:=aq.mono (Lk (show a<=4 by omega));have aA:=a_ (show∀A,Below E.heap.size E A->(A.heap[w.heap.size+1+1]?=some (.cells #[.int .i64 0,.int .i64 0,.slice none 0 0] 66 (0,0))/\A.heap[w.heap.size+1+1+1]?=some (.cells #[.int .i64 0,.int .i64 0,.slice none 0 0] 66 (0,0)))/\vy A z.heap.size c r a (.slice S U P) (.slice V x N) (.slice L x R)from λA aU=>
   ⟨⟨(aU.block _ (by omega)).trans aO.f,(aU.block _ (by omega)).trans aO.i⟩,k.m.below aU k.m.lt⟩)
  obtain⟨aK,aL,aF⟩:=k.r;obtain⟨bh,a1,bX,bp,bV,bP,bE,bI,a2⟩:=k.m.cells;have bd:=k.m.nine;have bs:=hO aq bZ bM;clear aq bZ bM;go_region_with (first
   |(go_at_call 105;go_must (refine(vW (bs.g.below (by repeat(first|exact hP|refine iV ?_)))).mono ?_;rintro J I⟨G,ag,rfl,cD,bF,ce,bq⟩;have af:Below E.heap.size E I:=(by refine Below.trans ?_ bq;repeat(first|exact hP|refine iV ?_));obtain⟨b2,cb,cm,ca,ch,b9,b8,cd,b6⟩:=(aA.e I af).2.cells;have b1:=(aA.e I af).2.nine;have b3:=af.size;have bH:i_ I (.agg #[.int .i64 c,.int .i64 ((1:Nat):Int),.slice (some ⟨G,0,none⟩) c c]) c 1 ag 200000000:=(by have bf:i_ I (.agg #[.int .i64 c,.int .i64 ((1:Nat):Int),.slice (some ⟨G,0,none⟩) (c*1) (c*1)]) c 1 ag 200000000:=⟨bS,ae,_,rfl,bF⟩;rw[qd]at bf;exact bf);clear bq bF))
   |(go_at_call 235;go_must (refine(Cs ((bs.l.JW af).JW (by repeat(first|exact hP|refine iV ?_))) bW).mono ?_;rintro J p⟨M,X,rfl,cw,cg,ci,b5⟩;have bz:Below I.heap.size I p:=(by refine Below.trans ?_ b5;repeat(first|exact hP|refine iV ?_));have bv:Below E.heap.size E p:=af.trans (bz.mono b3);obtain⟨⟨f,g⟩,-⟩:=aA.e p bv;have t:p.cell? ⟨w.heap.size+1+1,0,none⟩=some (.int .i64 0):=(by simp[World.cell?,f]);have m:p.cell? ⟨w.heap.size+1+1,1,none⟩=some (.int .i64 0):=(by simp[World.cell?,f]);have n:p.cell? ⟨w.heap.size+1+1,2,none⟩=some (.slice none 0 0):=(by simp[World.cell?,f]);have aQ:∀y,p.frozen? ⟨w.heap.size+1+1,y,none⟩=false:=(λy=>by simp[World.frozen?,f]);have q:p.cell? ⟨w.heap.size+1+1+1,0,none⟩=some (.int .i64 0):=(by simp[World.cell?,g]);have s:p.cell? ⟨w.heap.size+1+1+1,1,none⟩=some (.int .i64 0):=(by simp[World.cell?,g]);have o:p.cell? ⟨w.heap.size+1+1+1,2,none⟩=some (.slice none 0 0):=(by simp[World.cell?,g]);have aP:∀y,p.frozen? ⟨w.heap.size+1+1+1,y,none⟩=false:=(λy=>by simp[World.frozen?,g]);clear b2 cb cm ca ch b9 b8 cd b6 b1)))
  all_goals
   have ab:Below w.heap.size w p:=(F.f.trans (k.z.mono (by omega))).trans (bv.mono (by omega));have O:=a_ (lI (lL t m n) (lL q s o) (qQ (nb _)) (.int .i64 c) (.int .i64 1) (.slice (some ⟨G,0,none⟩) c c) (.int .i64 ((c-a:Nat):Int)) (.int .i64 c) (.slice (some ⟨M,0,none⟩) ((c-a)*c) ((c-a)*c)));have ao:=a_ (C2 ⟨_,_,f⟩ ⟨_,_,g⟩ (by decide) (by decide) (by decide) (by decide) (.int .i64 c) (.int .i64 1) (.slice (some ⟨G,0,none⟩) c c) (.int .i64 ((c-a:Nat):Int)) (.int .i64 c) (.slice (some ⟨M,0,none⟩) ((c-a)*c) ((c-a)*c)));have H:=a_ (kV ab (show w.heap.size<=w.heap.size+1+1 by omega) (show w.heap.size<=w.heap.size+1+1+1 by omega) (.int .i64 c) (.int .i64 1) (.slice (some ⟨G,0,none⟩) c c) (.int .i64 ((c-a:Nat):Int)) (.int .i64 c) (.slice (some ⟨M,0,none⟩) ((c-a)*c) ((c-a)*c)));clear ab f g t m n aQ q s o aP;go_wp2_with fail;obtain⟨⟨t,m,n⟩,q,s,o⟩:=id O.e;clear O;unfold u1 at t m n q s o H ao;generalize World.setCell _ _ _=b4 at t m n q s o H ao|-;have bl:i_ p (.agg #[.int .i64 ((c-a:Nat):Int),.int .i64 c,.slice (some ⟨M,0,none⟩) ((c-a)*c) ((c-a)*c)]) (c-a) c X 4000:=⟨by omega,bS,_,rfl,cg⟩;have b7:=nW.uniq ⟨bH.uY,ce⟩ (qu 1 c _);refine ig (v:=.tuple #[.agg #[.int .i64 c,.int .i64 1,.slice (some ⟨G,0,none⟩) c c],.agg #[.int .i64 ((c-a:Nat):Int),.int .i64 c,.slice (some ⟨M,0,none⟩) ((c-a)*c) ((c-a)*c)],.bool true]) ?_ rfl ?_
   ·(simp[results,Tryz.results230,go_sem,Act.put,t,m,n,q,s,o];done)
   .exact⟨c,1,((c-a:Nat):Int),c,some ⟨G,0,none⟩,some ⟨M,0,none⟩,c,(c-a)*c,c,(c-a)*c,true,rfl,(by simpa using k.f),⟨_,_,_,_,_,b.g.st,b.g.inv⟩,(λ_=>⟨ag,c-a,X,⟨a,bC,bB,bU,aY,b.g,b7,rfl,bW,bl.uY,ci⟩,rfl,rfl,rfl,rfl,(bH.below bz).oJ ao.e,(bl.mono (by omega)).oJ ao.e⟩),H.e⟩
def xn(r q:Nat)(zs ys:List Int):Prop:=Sp (e_ r (jA r q zs)) q r (e_ r (jA r 1 ys) 0)
def r2(ms:List Hm)(g h:Int)(y:Bool)(e:Int)(xs:List (Nat×Nat×List Int)):Prop:=
 (((∀j,j<24->∀k,ms.getD j none=some k->(k.1:Int)≠g)\/(∀j,j<24->∀k,ms.getD j none=some k->(k.1:Int)≠h))/\y=false/\e=2/\xs=[])\/∃j m a b c q o d f i,j<24/\ms.getD j none=some (m,a,b,c)/\((m:Nat):Int)=g/\q<24/\ms.getD q none=some (o,d,f,i)/\((o:Nat):Int)=h/\((¬(f=1/\d=a)/\y=false/\e=3/\xs=[])\/((f=1/\d=a)/\¬(hW a b c/\hW d f i)/\y=false/\e=4/\xs=[])\/((f=1/\d=a)/\(hW a b c/\hW d f i)/\(¬xn a b c i/\na (e_ a (jA a b c)) b a)/\y=false/\e=0/\xs=[])\/((f=1/\d=a)/\(hW a b c/\hW d f i)/\(xn a b c i/\na (e_ a (jA a b c)) b a)/\ms.countP Option.isNone<2/\y=false/\e=5/\xs=[])\/((f=1/\d=a)/\(hW a b c/\hW d f i)/\(xn a b c i/\na (e_ a (jA a b c)) b a)/\2<=ms.countP Option.isNone/\y=true/\e=0/\∃n p l,mA a b c i n p l/\xs=[(b,1,n),(p,b,l)]))
theorem pY.two{w:World}{g:Nat}{x y:Nat×Nat×List Int}{b:Option Addr}{t:TypeId}(a:w.heap[g]?=some (.cells #[.int .i64 (x.1:Nat),.int .i64 (x.2.1:Nat),.slice O i k,.int .i64 (y.1:Nat),.int .i64 (y.2.1:Nat),.slice b j l] t (0,0)))(d:i_ w (.agg #[.int .i64 (x.1:Nat),.int .i64 (x.2.1:Nat),.slice O i k]) x.1 x.2.1 x.2.2 200000000)(e:i_ w (.agg #[.int .i64 (y.1:Nat),.int .i64 (y.2.1:Nat),.slice b j l]) y.1 y.2.1 y.2.2 200000000):pY w g [x,y]:=by
 intro c f;match c,f with
 |0,_=>exact⟨O,i,k,by simp[World.cell?,a],by simp[World.cell?,a],by simp[World.cell?,a],d⟩
 |1,_=>exact⟨b,j,l,by simp[World.cell?,a],by simp[World.cell?,a],by simp[World.cell?,a],e⟩
theorem vN{b:Nat}{g h:Int}{ms:List Hm}{nx:Nat}{w:World}(ap:jf w b ms nx)(bx:nx<1000000-5):Calls Tryz.prog 215 #[.pointer (some ⟨b,0,none⟩),.int .i64 g,.int .i64 h] w λaE f=>∃aD a9 k bn,aE=.returned (.tuple #[.bool aD,a9,.int .i64 k])/\r2 ms g h aD k bn/\q1 w f b 2 nx ms aD bn a9:=by
 have bJ:=ap.1;have bQ:=ap.lt;have o:=a_ ap;clear ap;go_in;go_wp2_with fail;go_fit (jS o.e);rintro k s⟨⟨e,c,H,N,T,ba,rfl,bt⟩,ay⟩;have aO:=b_ bt ay;have bG:=ay.size;clear bt ay;go_wp2_with fail;have z:Below w.heap.size w (s.alloc (.cells #[.int .i64 e,.int .i64 c,.slice H N T] 66)):=aO.i.alloc bG _;go_fit (jS (o.e.below z));rintro k m⟨⟨i,d,C,D,E,bV,rfl,bb⟩,ag⟩;have bm:jk (s.alloc (.cells #[.int .i64 e,.int .i64 c,.slice H N T] 66)) s.heap.size (.int .i64 e) (.int .i64 c) (.slice H N T):=⟨fa _ _ _ _ _ rfl rfl,fa _ _ _ _ _ rfl rfl,fa _ _ _ _ _ rfl rfl⟩;have au:=hU m (.cells #[.int .i64 i,.int .i64 d,.slice C D E] 66);have bh:=(bm.later ag).later au;have bg:jk (m.alloc (.cells #[.int .i64 i,.int .i64 d,.slice C D E] 66)) m.heap.size (.int .i64 i) (.int .i64 d) (.slice C D E):=⟨fa _ _ _ _ _ rfl rfl,fa _ _ _ _ _ rfl rfl,fa _ _ _ _ _ rfl rfl⟩;have aI:Below w.heap.size w m:=d_ z ag;have aS:=((aO.f.below (hP.alloc c_ (.cells #[.int .i64 e,.int .i64 c,.slice H N T] 66))).below ag).below au;have a8:=bb.below au;have a0:Below w.heap.size w (m.alloc (.cells #[.int .i64 i,.int .i64 d,.slice C D E] 66)):=aI.alloc aI.size _;have bL:s.heap.size<m.heap.size:=by have:=ag.size;simp at this;omega
 have j:=iu aS a8 a0 bh bg;clear bb ag bm au bh bg aI aS a8 a0 z;obtain⟨l,v⟩:=hQ (m.alloc (.cells #[.int .i64 i,.int .i64 d,.slice C D E] 66));have an:=a_ v;rw[<-v]at j;clear v;have bO:l.heap.size=m.heap.size+1:=by rw[an.e];simp
 rcases id j.f with⟨rfl,Q,R,u,be,aK,bs,bi⟩|⟨rfl,ad⟩
 .rcases id j.g with⟨rfl,I,J,r,aT,bl,bq,aR⟩|⟨rfl,ad⟩
  .have a:=iu (vO be aK bs bi) aT bl bq aR;have aj:=a_ (show∀f,Below l.heap.size l f->f.cell? ⟨s.heap.size,0,none⟩=some (.int .i64 e)/\f.cell? ⟨s.heap.size,1,none⟩=some (.int .i64 c)/\f.cell? ⟨s.heap.size,2,none⟩=some (.slice H N T)/\f.cell? ⟨m.heap.size,0,none⟩=some (.int .i64 i)/\f.cell? ⟨m.heap.size,1,none⟩=some (.int .i64 d)/\f.cell? ⟨m.heap.size,2,none⟩=some (.slice C D E)from λf Y=>⟨(j.m.later Y).1,(j.m.later Y).2.1,(j.m.later Y).2.2,(j.x.later Y).1,(j.x.later Y).2.1,(j.x.later Y).2.2⟩);clear be aK bs bi aT bl bq aR;go_upto_region 5 with fail
   rw[<-an.e];obtain⟨a6,aN⟩:=hQ (decide (d=1/\i=e));have aq:=a_ aN;clear aN;go_cut [43]from 34 to 43 (λaE bv=>aE=.bool (!a6)/\Below l.heap.size l bv)
   case first=>
    by_cases M:(d:Int)=1
    .have bE:((d:Int)!=1)=false:=by simp[M]
     have aG:=a_ M;clear M;go_region_held3 (λf=>f.cell? ⟨s.heap.size,0,none⟩=some (.int .i64 e)/\f.cell? ⟨s.heap.size,1,none⟩=some (.int .i64 c)/\f.cell? ⟨s.heap.size,2,none⟩=some (.slice H N T)/\f.cell? ⟨m.heap.size,0,none⟩=some (.int .i64 i)/\f.cell? ⟨m.heap.size,1,none⟩=some (.int .i64 d)/\f.cell? ⟨m.heap.size,2,none⟩=some (.slice C D E)) (exact aj.e _ (by first|exact hP.drew|exact(hS).drew|exact((hS).alloc (by simp) _).drew|exact(((hS).alloc (by simp) _).alloc (by simp<;>omega) _).drew)) (first
       |(go_at_call 84;refine(oq).mono ?_;rintro k f⟨rfl,rfl⟩)
       |(go_at_call 85;refine(oo).mono ?_;rintro k f⟨rfl,rfl⟩))
     all_goals
      go_wp2_with fail;go_meet
      case rel=>
       refine⟨?_,(((hS).alloc (by simp) _).alloc (by simp<;>omega) _).drew⟩;rw[aq.e];have:=aG.e;by_cases h:i=e
       .rw[jm (oB (by omega) h),h];simp
       .rw[ic (λk=>h k.2)];simp;omega
    .have bE:((d:Int)!=1)=true:=by simp[M]
     have aG:=a_ M;clear M;obtain⟨O,U,P,L,K,W⟩:=aj.e l hP;go_region_with (go_at_call 84;refine(oq).mono ?_;rintro k f⟨rfl,rfl⟩);all_goals
      go_wp2_with fail;go_meet
      case rel=>
       exact⟨by rw[aq.e,ic (λh=>aG.e (by omega))];rfl,(hS).drew⟩
   case rest=>
    obtain⟨rfl,ab⟩:=hcut;have aU:Below w.heap.size w wc:=d_ j.j ab;obtain⟨O,U,P,L,K,W⟩:=aj.e wc ab;have am:=b_ ab aU;have bB:=ab.size;clear ab aU
    cases a6
    .have bA:f_ (¬(d=1/\i=e)):=a_ (λk=>by have:=aq.e;rw[jm k]at this;cases this);go_wp2;go_ret3;exact⟨_,_,_,[],rfl,.inr ⟨Q,R,e,c,u,I,J,i,d,r,a.f.1,a.f.2.1,a.f.2.2.1,a.g,a.j,a.m,.inl ⟨bA.e,rfl,rfl,rfl⟩⟩,.inl ⟨rfl,rfl,o.e.below am.i,Fr.I am.i⟩⟩
    .have aX:d=1/\i=e:=yO aq.e.symm;have F:=a_ aX;clear aX;go_wp2_with fail;go_fit (jl (a.f.2.2.2.below am.f) (by omega));rintro k bp⟨aF,rfl,ac,aM⟩;have Z:Below l.heap.size l bp:=am.f.trans (aM.mono bB);clear O U P L K W;obtain⟨O,U,P,L,K,W⟩:=aj.e bp Z;have bD:=Z.size;have X:=hO Z (d_ j.j Z) ac;clear aM Z ac
     cases aF
     .have ax:f_ (¬hW e c u):=a_ (λh=>by have:=X.l.2 h;cases this);go_wp2;go_ret3;exact⟨_,_,_,[],rfl,.inr ⟨Q,R,e,c,u,I,J,i,d,r,a.f.1,a.f.2.1,a.f.2.2.1,a.g,a.j,a.m,.inr (.inl ⟨F.e,λh=>ax.e h.1,rfl,rfl,rfl⟩)⟩,.inl ⟨rfl,rfl,o.e.below X.g,Fr.I X.g⟩⟩
     .go_wp2_with fail;go_fit (jl (a.x.below X.f) (by omega));rintro k aw⟨aF,rfl,ac,a5⟩;have ai:Below l.heap.size l aw:=X.f.trans (a5.mono bD);clear O U P L K W;obtain⟨O,U,P,L,K,W⟩:=aj.e aw ai;have bT:=ai.size;have G:=hO ai (d_ j.j ai) ac;clear a5 ai ac
      cases aF
      .have ax:f_ (¬hW i d r):=a_ (λh=>by have:=G.l.2 h;cases this);go_wp2;go_ret3;exact⟨_,_,_,[],rfl,.inr ⟨Q,R,e,c,u,I,J,i,d,r,a.f.1,a.f.2.1,a.f.2.2.1,a.g,a.j,a.m,.inr (.inl ⟨F.e,λh=>ax.e h.2,rfl,rfl,rfl⟩)⟩,.inl ⟨rfl,rfl,o.e.below G.g,Fr.I G.g⟩⟩
      .have B:f_ (hW e c u/\hW i d r):=a_ ⟨X.l.1 rfl,G.l.1 rfl⟩;have a4:=(a.f.2.2.2.below G.f).tight B.f;have aV:=(a.x.below G.f).tight B.i;have aW:=b_ a4 aV;clear a4 aV;go_wp2_with fail;have bH:f_ (i_ aw (.agg #[.int .i64 i,.int .i64 d,.slice C D E]) e 1 r 2):=a_ (by
        have bc:=aW.i;rw[F.f,F.i]at bc|-;exact bc)
       go_fit (Em aW.f bH.e B.f.1 B.f.2.1 B.f.e_);rintro k t⟨bK,bX,bM,bW,p,q,ah,af,aa,ae,ba,rfl,aP,bj,aQ,aC⟩;have aJ:Below w.heap.size w t:=d_ G.g aC;have bN:=aC.size;have n:=hY aP bj aQ aJ;clear aP bj aQ aC aJ O U P L K W
       cases ba
       .have bI:f_ (¬xn e c u r):=a_ (λh=>by have:=n.f.2 h;cases this);have z:∀p q,Below w.heap.size w ((t.alloc p).alloc q):=λp q=>(n.o.alloc n.o.size _).alloc (by have:=n.o.size;simp;omega) _;have S:=a_ z;clear z;go_wp2;go_ret3;exact⟨_,_,_,[],rfl,.inr ⟨Q,R,e,c,u,I,J,i,d,r,a.f.1,a.f.2.1,a.f.2.2.1,a.g,a.j,a.m,.inr (.inr (.inl ⟨F.e,B.e,⟨bI.e,n.g⟩,rfl,rfl,rfl⟩))⟩,.inl ⟨rfl,rfl,o.e.below (S.e _ _),Fr.I (S.e _ _)⟩⟩
       .have bo:f_ (xn e c u r):=a_ (n.f.1 rfl);obtain⟨ar,A,ak,aL,rfl,rfl,rfl,rfl,bf,a3⟩:=n.j rfl;have aH:=hO aL bf a3;clear aL bf a3;have z:∀p q,Below w.heap.size w ((t.alloc p).alloc q):=λp q=>(n.o.alloc n.o.size _).alloc (by have:=n.o.size;simp;omega) _;have S:=a_ z;clear z;go_wp2_with fail;go_fit (mg (o.e.below (S.e _ _)));rintro k f⟨rfl,rfl⟩;obtain⟨aA,az⟩:=hQ (ms.countP Option.isNone);have av:=a_ az;rw[<-az];clear az;by_cases bC:aA<2
        .have bw:((aA:Int)<2):=by omega
         go_wp2;go_ret3;exact⟨_,_,_,[],rfl,.inr ⟨Q,R,e,c,u,I,J,i,d,r,a.f.1,a.f.2.1,a.f.2.2.1,a.g,a.j,a.m,.inr (.inr (.inr (.inl ⟨F.e,B.e,⟨bo.e,n.g⟩,by rw[<-av.e];exact bC,rfl,rfl,rfl⟩)))⟩,.inl ⟨rfl,rfl,o.e.below (S.e _ _),Fr.I (S.e _ _)⟩⟩
        .have bw:¬((aA:Int)<2):=by omega
         go_wp2_with fail;obtain⟨l,v⟩:=hQ (((t.alloc (.cells #[.int .i64 c,.int .i64 1,.slice p ah aa] 66)).alloc (.cells #[.int .i64 A,.int .i64 c,.slice q af ae] 66)).alloc (.cells #[.int .i64 c,.int .i64 1,.slice p ah aa,.int .i64 A,.int .i64 c,.slice q af ae] 66));rw[<-v];have al:Below t.heap.size t l:=by rw[v];exact((hS).alloc (by simp) _).alloc (by simp<;>omega) _
         have bS:l.heap.size=t.heap.size+1+1+1:=by rw[v];simp
         have aZ:l.heap[t.heap.size+1+1]?=some (.cells #[.int .i64 c,.int .i64 1,.slice p ah aa,.int .i64 A,.int .i64 c,.slice q af ae] 66 (0,0)):=by
          rw[v];have:=iP ((t.alloc (.cells #[.int .i64 c,.int .i64 1,.slice p ah aa] 66)).alloc (.cells #[.int .i64 A,.int .i64 c,.slice q af ae] 66)) (.cells #[.int .i64 c,.int .i64 1,.slice p ah aa,.int .i64 A,.int .i64 c,.slice q af ae] 66);simpa using this
         have a7:=d_ n.o al;have aY:pY l (t.heap.size+1+1) [(c,1,ar),(A,c,ak)]:=pY.two (x:=(c,1,ar)) (y:=(A,c,ak)) aZ (aH.g.below al) (aH.l.below al);have bP:=n.o.size;have ao:=b_ a7 aY;clear v al aZ a7 aY;go_fit (nz (o.e.below ao.f) ao.i rfl (by omega) (by omega) (by omega) (by have:=av.e;omega) bx);rintro k bU⟨bR,rfl,bz,bF,rfl,bk,a2,bd,bu,a1,br⟩;have V:=ju bk a2 bd bu a1 ((Fr.I ao.f).trans br);clear bk a2 bd bu a1 br;go_wp2;go_ret3;exact⟨_,_,_,[(c,1,ar),(A,c,ak)],rfl,.inr ⟨Q,R,e,c,u,I,J,i,d,r,a.f.1,a.f.2.1,a.f.2.2.1,a.g,a.j,a.m,.inr (.inr (.inr (.inr ⟨F.e,B.e,⟨bo.e,n.g⟩,by have:=av.e;omega,rfl,rfl,ar,A,ak,aH.f,rfl⟩)))⟩,.inr ⟨rfl,bz,bF,rfl,by have:=ao.f.size;have:=V.f;omega,V.g,V.j,V.m,V.r,V.z⟩⟩
  .have aB:=a_ ad;clear ad;go_wp2;go_ret3;rw[<-an.e];exact⟨_,_,_,[],rfl,.inl ⟨.inr aB.e,rfl,rfl,rfl⟩,.inl ⟨rfl,rfl,o.e.below j.j,Fr.I j.j⟩⟩
 .have aB:=a_ ad;clear ad;go_wp2;go_ret3;rw[<-an.e];exact⟨_,_,_,[],rfl,.inl ⟨.inl aB.e,rfl,rfl,rfl⟩,.inl ⟨rfl,rfl,o.e.below j.j,Fr.I j.j⟩⟩
section
open R
theorem r2.uniq{ms:List Hm}{g h:Int}{y:Bool}{e:Int}{D B:List (Nat×Nat×List Int)}(hd:pq ms)(a:r2 ms g h y e D)(b:r2 ms g h u c B):y=u/\e=c/\D=B:=by
 rcases a with⟨m,rfl,rfl,rfl⟩|⟨o,F,N,P,T,q,G,J,S,H,t,r,x,v,n,A,m⟩
 .rcases b with⟨i,rfl,rfl,rfl⟩|⟨o,F,N,P,T,q,G,J,S,H,t,r,x,v,n,A,i⟩
  .exact⟨rfl,rfl,rfl⟩
  .rcases m with m|m
   .exact absurd x (m o t _ r)
   .exact absurd A (m q v _ n)
 .rcases b with⟨i,rfl,rfl,rfl⟩|⟨C,Q,Z,X,ah,E,K,Y,ag,ab,M,s,ai,I,w,V,i⟩
  .rcases i with i|i
   .exact absurd x (i o t _ r)
   .exact absurd A (i q v _ n)
  .have L:o=C:=hd o C _ _ t M r s (by show F=Q;omega);have c:q=E:=hd q E _ _ v I n w (by show G=K;omega);subst L;subst c;rw[r]at s;rw[n]at w;simp only[iH,lN]at s w;obtain⟨rfl,rfl,rfl,rfl⟩:=s;obtain⟨rfl,rfl,rfl,rfl⟩:=w;rcases m with⟨k,rfl,rfl,rfl⟩|⟨k,l,rfl,rfl,rfl⟩|⟨k,l,p,rfl,rfl,rfl⟩|⟨k,l,p,O,rfl,rfl,rfl⟩|⟨k,l,p,O,rfl,rfl,af,ad,aa,R,rfl⟩
   .rcases i with⟨d,rfl,rfl,rfl⟩|⟨d,_⟩|⟨d,_⟩|⟨d,_⟩|⟨d,_⟩
    .exact⟨rfl,rfl,rfl⟩
    all_goals exact absurd d k
   .rcases i with⟨d,_⟩|⟨d,f,rfl,rfl,rfl⟩|⟨d,f,_⟩|⟨d,f,_⟩|⟨d,f,_⟩
    .exact absurd k d
    .exact⟨rfl,rfl,rfl⟩
    all_goals exact absurd f l
   .rcases i with⟨d,_⟩|⟨d,f,_⟩|⟨d,f,j,rfl,rfl,rfl⟩|⟨d,f,j,_⟩|⟨d,f,j,_⟩
    .exact absurd k d
    .exact absurd l f
    .exact⟨rfl,rfl,rfl⟩
    all_goals exact absurd j.1 p.1
   .rcases i with⟨d,_⟩|⟨d,f,_⟩|⟨d,f,j,_⟩|⟨d,f,j,z,rfl,rfl,rfl⟩|⟨d,f,j,z,_⟩
    .exact absurd k d
    .exact absurd l f
    .exact absurd p.1 j.1
    .exact⟨rfl,rfl,rfl⟩
    .omega
   .rcases i with⟨d,_⟩|⟨d,f,_⟩|⟨d,f,j,_⟩|⟨d,f,j,z,_⟩|⟨d,f,j,z,rfl,rfl,W,ae,ac,U,rfl⟩
    .exact absurd k d
    .exact absurd l f
    .exact absurd p.1 j.1
    .omega
    .obtain⟨rfl,rfl,rfl⟩:=R.uniq U;exact⟨rfl,rfl,rfl⟩
theorem Aw{B b f e:Nat}{g h:Int}{ms:List Hm}{nx:Nat}{w:World}(n:nu B w b f e ms nx)(hd:pq ms)(M:nx<1000000-5):Calls Tryz.prog 171 #[.pointer (some ⟨b,0,none⟩),.int .i64 g,.int .i64 h] w λd I=>∃r F v z,d=.returned (.tuple #[.bool r,F,.int .i64 v])/\r2 ms g h r v z/\lS B w I b f e 2 nx ms r z F:=by
 obtain⟨p,s,k,-⟩:=n.1.cells;have a:=b_ n hd;clear n hd;go_in;go_wp2_with fail;go_fit (vN a.f.2.1 M);rintro d o⟨K,O,x,V,rfl,H,i⟩;have l:Fr f w o:=by rcases i with⟨-,-,-,D⟩|⟨-,_,_,_,_,_,_,_,_,D⟩<;>exact D
 have y:Tw o b f e false:=a.f.1.J (l.1.block b a.f.1.lt (by simpa using a.f.1.ne a.f.2.1.ty));have L:jf o e ms nx:=a.f.2.2.1.fr l (Ne.symm a.f.2.2.2.1);clear p s k;obtain⟨p,s,k,-⟩:=y.cells;obtain⟨aa,S,X,rfl⟩:∃q t m,O=.slice q t m:=by rcases i with⟨-,rfl,-⟩|⟨-,_,_,rfl,-⟩<;>exact⟨_,_,_,rfl⟩
 have c:=hO L H i;clear y L H i l;go_wp2_with fail;go_fit (vN c.f M);rintro d ac⟨Q,P,Z,R,rfl,u,j⟩;obtain⟨rfl,rfl,rfl⟩:=r2.uniq a.i c.g u;obtain⟨ae,Y,U,rfl⟩:∃q t m,P=.slice q t m:=by rcases j with⟨-,rfl,-⟩|⟨-,_,_,rfl,-⟩<;>exact⟨_,_,_,rfl⟩
 have E:=b_ j (lS.oN a.f c.l j hP).2;clear j p s k u;obtain⟨ab,A,J⟩:=E.i;have C:=b_ A J;clear A J;have T:(K==K)=true:=by simp
 have ad:(x==x)=true:=by simp
 go_wp2_with fail;go_fit (vY C.f C.i);rintro d W⟨rfl,G⟩;have N:=a_ G;clear G;go_wp2_with fail;go_fit (ma);rintro d I⟨rfl,rfl⟩;go_wp2;go_ret3;exact⟨_,_,_,_,rfl,c.g,(lS.oN a.f c.l E.f N.e).1⟩
end
namespace R
theorem Gt{d:Int}:∀(a:Nat) (b:Nat->Int),(∀c,c<a->d∣b c)->d∣jP a b:=by
 intro a;induction a with
 |zero=>intro b _;exact uo d
 |succ a f=>intro b e;rw[jP];exact Int.dvd_add (f b (λc g=>e c (by omega))) (e a (by omega))
theorem zK{d:Int}{n m:Nat}{vs:List (Nat->Int)}(h:∀a:List Nat,a.length=m->(∀c∈a,c<n)->d∣mv vs a):∀(b:List (Nat->Int)) (a:List Nat),a.length=b.length+m->(∀c∈a,c<n)->d∣mv (b++vs) a:=by
 intro b;induction b with
 |nil=>intro a g e;exact h a (by simpa using g) e
 |cons j b l=>
  intro a g e;rw[mS,mv];refine Gt _ _ (λf k=>?_);have o:=l (a.eraseIdx f) (by rw[uv,if_pos k];simp at g;omega) (λc p=>e c (xS p));have i:d∣j (a.getD f 0)*mv (b++vs) (a.eraseIdx f):=Int.dvd_trans o (AV _ _);unfold signed;split
  .exact Int.dvd_neg.2 i
  .exact i
theorem Hc{U W:Nat->Nat->Int}{n k:Nat}(F:k<=n)(x:n<=4)(u:∀a d,a<n->d<n->dot W U a d n=kd a d):iU (λa=>U (k+a)) (n-k) n (n-k)=1:=by
 have t:=(la (iU (λa=>U (k+a)) (n-k) n (n-k)) _ _ _ _ (by omega)).1 (uk _);generalize E:iU (λa=>U (k+a)) (n-k) n (n-k)=e at*;have A:(e:Int)∣mv ((List.range n).map U) (List.range n):=by
  have o:(List.range n).map U=(List.range k).map U++(List.range (n-k)).map (λa=>U (k+a)):=by
   rw[show(List.range (n-k)).map (λa=>U (k+a))=((List.range (n-k)).map (λa=>k+a)).map U from by rw[List.map_map];rfl,<-kT,<-List.range_add,show k+(n-k)=n from by omega]
  rw[o];exact zK (n:=n) (m:=n-k) (λH B b=>qD (by omega) t (by simp) (λi b=>jB.1 b) B b) _ _ (by simp;omega) (λi b=>jB.1 b)
 have p:yY (e:Int) U n (List.range n):=by
  intro y r l;have:=@n1 e U (List.range n) (by simpa using x) n n [] (by simp) (λD j=>by
   rw[nv,rM]at j;rw[j,rV];exact A) y (by simpa using r) l
  simpa using this
 have q:=k_ p (λa v=>oR (g:=kd) (c:=n) (λi b=>jB.1 b) (λd w=>u a d v w));have f:=q (List.range n) rfl (λi b=>jB.1 b);rw[rO,EN n 0 (λa d G _=>by unfold kd;rw[if_neg (by omega)])]at f;have C:pr kd 0 n=1:=by
  have s:∀n h,pr kd h n=1:=by
   intro n;induction n with
   |zero=>intro h;rfl
   |succ n z=>intro h;rw[pr,z];unfold kd;simp
  exact s n 0
 rw[C]at f;exact Nat.dvd_one.1 (Df.1 f)
theorem JB{f:Nat->Nat->Int}{r c m:Nat}(l:m+1<=4)(h:iU f r c m=0):iU f r c (m+1)=0:=by
 rw[oF f r c m (by omega),po]at h;rw[oF f r c (m+1) l];intro i g e o p;obtain⟨v,u⟩:=jI p;match i,g with
 |q::j,k=>
  have:=zK (d:=0) (n:=c) (m:=m) (vs:=j.map f) (λw t a=>qD (by omega) h (by simpa using k) (λb s=>e b (lg _ s)) t a) [f q] o (by simp;omega) u;exact uK.1 (by simpa using this)
theorem qV{f:Nat->Nat->Int}{r c:Nat}(k:r<=4)(g:r<=c)(h:iU f r c r≠0):iF f r c r:=by
 refine⟨c_,g,λb l e=>?_,.inl rfl⟩;have d:∀a,b+1+a<=r->iU f r c (b+1+a)=0:=by
  intro a;induction a with
  |zero=>intro _;exact e
  |succ a i=>intro j;exact JB (m:=b+1+a) (by omega) (i (by omega))
 have:=d (r-(b+1)) (by omega);rw[show b+1+(r-(b+1))=r from by omega]at this;exact h this
end R
section
open R
theorem div_eq{A:Nat->Nat->Int}{r c m:Nat}(i:m<=4)(h:∀b a,b<r->a<c->A b a=B b a):iU A r c m=iU B r c m:=by
 refine oa (λb d=>?_) (λb d=>?_) i
 .obtain⟨g,f⟩:=Sp.row B c d;exact⟨g,λa e=>(h b a d e).trans (f a e)⟩
 .obtain⟨g,f⟩:=Sp.row A c d;exact⟨g,λa e=>(h b a d e).symm.trans (f a e)⟩
theorem iF.turn{f g:Nat->Nat->Int}{r c k:Nat}(h:iF f r c k)(t:r<=4)(n:∀b e,b<c->e<r->g b e=f e b):iF g c r k:=by
 obtain⟨o,p,s,a⟩:=h;have j:∀d,d<=4->iU g c r d=iU f r c d:=λd l=>by
  rw[<-sa f r c d l];exact div_eq l n
 refine⟨p,o,λb q=>by rw[j (b+1) (by omega)];exact s b q,?_⟩;by_cases m:k=c
 .exact .inl m
 .by_cases i:k=r
  .exact .inr (.inl i)
  .rcases a with a|a|a
   .exact absurd a i
   .exact absurd a m
   .exact .inr (.inr (by rw[j (k+1) (by omega)];exact a))
theorem q8(r c:Nat)(zs:List Int){i j:Nat}(a:i<c)(b:j<r):fz r (jA r c zs) i j=fz c zs j i:=(qu r c zs).2 i j a b
theorem mA.back{r c:Nat}{zs ys xs:List Int}(h:mA r c zs ys xs i e)(q:xn r c zs ys):∀b a,b<r->a<1->dot (fz c zs) (fz 1 xs) b a c=fz 1 ys b a:=by
 obtain⟨f,l,j,g,o,p,rfl,-,-,-,-⟩:=h;intro b a d t;obtain rfl:a=0:=by omega
 have n:uF c r (jA r c zs) (jA r 1 ys) (kL 1 c c (Aj (e_ r j) l (e_ r (jA r 1 ys) 0) c f) g):=⟨f,l,j,g,o,p,rfl⟩;have m:=n.back q 0 b (by omega) d;rw[q8 r 1 ys (by omega) d]at m;rw[<-m,iD,iD];refine iq c (λs k=>?_);rw[q8 r c zs k d,q8 1 c _ k (by omega),wa]
theorem mA.kernel{r c:Nat}{zs ys xs:List Int}(h:mA r c zs ys xs i e)(t:r<=4)(k:c<=4):∃b,i=c-b/\b<=c/\iF (fz c zs) r c b/\iF (fz c e) i c i/\iU (fz c e) i c i=1/\∀a d,a<i->d<r->dot (fz c e) (fz r (jA r c zs)) a d c=0:=by
 obtain⟨b,w,x,m,u,g,-,rfl,q,s,o⟩:=h;have p:iU (fz c e) (c-b) c (c-b)=1:=by
  rw[<-Hc (U:=e_ c m) (W:=e_ c u) q k g.inv.wu];exact div_eq (by omega) o
 refine⟨b,rfl,q,iF.turn (f:=e_ r (jA r c zs)) (ot g.st g.inv k t) k (λa d n j=>((qu r c zs).2 d a j n).symm),qV (by omega) (by omega) (by rw[p];decide),p,λa d n j=>?_⟩;have v:dot (fz c e) (fz r (jA r c zs)) a d c=dot (e_ c m) (e_ r (jA r c zs)) (b+a) d c:=by
  rw[iD,iD];refine iq c (λl s=>?_);rw[show fz c e a l=e_ c m (b+a) l from o a l n s];rfl
 rw[v,g.inv.ua (b+a) d (by omega) j,g.st.rest (b+a) (by omega) (by omega) d j]
end
namespace R
def qt(f:Nat->Nat->Int)(c a e:Nat)(g:Nat->Nat->Int):Prop:=∀b d,b<c->(d<a\/(d=a/\b<e))->g b d=f d b
theorem qt.next{f:Nat->Nat->Int}{c a e:Nat}{g:Nat->Nat->Int}(h:qt f c a e g):qt f c a (e+1) (uV g e a (f a e)):=by
 intro i d j k;unfold uV;by_cases b:i=e/\d=a
 .rw[if_pos b,b.1,b.2]
 .rw[if_neg b];exact h i d j (by omega)
theorem qt.row{f:Nat->Nat->Int}{c a e:Nat}{g:Nat->Nat->Int}(h:qt f c a e g)(k:c<=e):qt f c (a+1) 0 g:=λi b d j=>h i b d (by omega)
theorem wb{b r c:Nat}{S:Nat->Nat}{f:Nat->Nat->Int}{B L:Nat}{w:World}(h:jO B w b r c S f L)(ad:r<=99)(am:c<=99):Calls Tryz.prog 172 #[.pointer (some ⟨b,0,none⟩)] w λa o=>a=.returned (.pointer (some ⟨w.heap.size,0,none⟩))/\(∃l,jO 0 o w.heap.size c r l (λi j=>f j i) L)/\Below w.heap.size w o:=by
 have G:=a_ h;obtain⟨ai,x,N,m,p,q,-⟩:=h.open_;clear h;go_in;go_upto_region 1 with fail
 go_region_held3 (λo=>o.cell? ⟨b,0,none⟩=some (.int .i64 r)/\o.cell? ⟨b,1,none⟩=some (.int .i64 c)) (first|go_keep|exact⟨g_ hb2 m,g_ hb2 p⟩) (first|(go_at_call 174;refine(mw (by omega) (by omega)).mono ?_;rintro a Z⟨rfl,T,hb2⟩));all_goals
  have E:Below w.heap.size w Z:=(kQ w.heap.size w).drew.trans hb2;obtain⟨l,e⟩:=T;have C:=e.tH;have aa:=a_ C;have F:=b_ ((e.xl hR).mono (AW L)) E;clear e E C hb2 m p q;go_wp2_with fail;go_loopw [4] (λi wr=>∃(d:Nat) (g:Nat->Nat->Int),d<=r/\i=.int .i64 d/\jO 0 wr w.heap.size c r l g L/\Below w.heap.size w wr/\f_ (qt f c d 0 g)) (λi _=>r-(intOf i).toNat)
  case atStart=>exact⟨0,_,hR,rfl,F.f,F.i,a_ (λi j W ax=>by omega)⟩
  case round=>
   rename World=>ap;obtain⟨d,g,al,rfl,e,k,J⟩:=hrel;obtain⟨-,x,N,m,p,q,-⟩:=(G.e.hV (KR.I k)).open_;have s:=b_ e k;clear e k;by_cases u:d<r
   .have ae:(d:Int)<(r:Int):=by omega
    go_wp2_with fail;go_loopw [5] (λj wr=>∃(a:Nat) (g:Nat->Nat->Int),a<=c/\j=.int .i64 a/\jO 0 wr w.heap.size c r l g L/\Below w.heap.size w wr/\f_ (qt f c d a g)) (λj _=>c-(intOf j).toNat)
    case atStart=>exact⟨0,g,hR,rfl,s.f,s.i,J⟩
    case round=>
     rename World=>av;clear m p q;obtain⟨a,g,ac,rfl,e,k,I⟩:=hrel;have v:=G.e.hV (KR.I k);obtain⟨-,x,N,m,p,q,ah,af,K,z⟩:=v.open_;obtain⟨-,aC,aA,ag,ar,aE,aw,aD,M,D⟩:=e.open_;have t:=b_ e k;clear e k v;by_cases n:a<c
     .have ay:(a:Int)<(c:Int):=by omega
      obtain⟨az,rfl,an⟩:=K d u;obtain⟨aj,ab,aq,ao,X,Y,-,-,y⟩:=z d a u n;obtain⟨aH,rfl,aF⟩:=M a n;obtain⟨ak,au,aG,aB,Q,O,R,U,-⟩:=D a d n u;rw[ij 2]at X Y Q O R U;have P:=a_ y;clear K z M D y;go_wp2_with fail;go_region;all_goals
       go_wp2;go_roundw
       .have A:=t.f.set n u P.e (tZ.zero _);rw[ij 2]at A;have H:w.heap.size<=l a:=(aa.e a n).1;exact⟨a+1,_,by omega,by go_num,A,((t.i.setCell H _).setCell H _).drew,a_ I.e.next⟩
       simp[intOf];omega
     .go_wp2;go_roundw;exact⟨d+1,g,by omega,by go_num,t.f,t.i,a_ (I.e.row (by omega))⟩;simp[intOf];omega
   .go_wp2;go_ret;refine⟨rfl,⟨l,?_⟩,s.i⟩;exact s.f.congr λi j V W=>J.e i j V (by omega)
end R
section
open R
def KM(X w:World):Prop:=∀(b:Nat) (c:Array Value) (a:TypeId),(a=202\/a=178)->X.heap[b]?=some (.cells c a (0,0))->w.heap[b]?=some (.cells c a (0,0))
theorem KM.set{X w:World}(h:KM X w){b o:Nat}(f:Ty w b 171)(u:Value):KM X (w.setCell ⟨b,o,none⟩ u):=λd g e a k=>by
 have c:=h d g e a k;rw[js _ _ _ _ (λi=>?_)]
 .exact c
 .have j:d=b:=i;subst j;have:=pj c f;rcases a with rfl|rfl
  .revert this;decide
  .revert this;decide
def sy(k:World)(j:Nat)(f:Nat->Nat->Int)(L:Nat)(i:Nat->Nat)(c r a e:Nat)(w:World):Prop:=∀d b,d<c->b<r->(b<a\/(b=a/\d<e))->∃h g,w.cell? ⟨i d,b*2,none⟩=some h/\w.cell? ⟨i d,b*2+1,none⟩=some g/\kB k (.agg #[h,g]) (f b d) L/\tZ j (.agg #[h,g])
theorem sU{w:World}{g k:Nat}(h:i≠g\/(j≠k/\j≠k+1))(a b:Value):((w.setCell ⟨g,k,none⟩ a).setCell ⟨g,k+1,none⟩ b).cell? ⟨i,j,none⟩=w.cell? ⟨i,j,none⟩:=by
 refine(jZ (w:=w.setCell ⟨g,k,none⟩ a) (v:=b) (a:=⟨g,k+1,none⟩) (b:=⟨i,j,none⟩) (λc=>?_)).trans (jZ (w:=w) (v:=a) (a:=⟨g,k,none⟩) (b:=⟨i,j,none⟩) (λc=>?_))
 .have e:g=i:=kX Addr.block c;have d:k+1=j:=kX Addr.off c;rcases h with h|h
  .exact h e.symm
  .exact h.2 d.symm
 .have e:g=i:=kX Addr.block c;have d:k=j:=kX Addr.off c;rcases h with h|h
  .exact h e.symm
  .exact h.1 d.symm
theorem sy.next{f:Nat->Nat->Int}{L:Nat}{c r a e:Nat}{w:World}(h:sy W i f L o c r a e w)(t:∀d,d<c->d≠e->o d≠o e){x y u v:Value}(E:w.cell? ⟨o e,a*2,none⟩=some u)(s:w.cell? ⟨o e,a*2+1,none⟩=some v)(D:kB W (.agg #[x,y]) (f a e) L)(H:tZ i (.agg #[x,y])):sy W i f L o c r a (e+1) ((w.setCell ⟨o e,a*2,none⟩ x).setCell ⟨o e,a*2+1,none⟩ y):=by
 intro d g l C I;by_cases k:d=e/\g=a
 .obtain⟨rfl,rfl⟩:=k;have A:(w.setCell ⟨o d,g*2,none⟩ x).cell? ⟨o d,g*2,none⟩=some x:=sH _ _ _ E;have G:(w.setCell ⟨o d,g*2,none⟩ x).cell? ⟨o d,g*2+1,none⟩=some v:=(jZ (w:=w) (v:=x) (a:=⟨o d,g*2,none⟩) (b:=⟨o d,g*2+1,none⟩) (λe=>by have:=kX Addr.off e;simp at this)).trans s;refine⟨x,y,?_,sH _ _ _ G,D,H⟩;exact(jZ (w:=w.setCell ⟨o d,g*2,none⟩ x) (v:=y) (a:=⟨o d,g*2+1,none⟩) (b:=⟨o d,g*2,none⟩) (λe=>by have:=kX Addr.off e;simp at this)).trans A
 .obtain⟨p,q,F,n,B⟩:=h d g l C (by omega);have m:o d≠o e\/g≠a:=by
   by_cases j:d=e
   .exact .inr (λz=>k ⟨j,z⟩)
   .exact .inl (t d l j)
  refine⟨p,q,?_,?_,B⟩
  .rw[sU (by rcases m with h|h;exact .inl h;exact .inr (by omega))];exact F
  .rw[sU (by rcases m with h|h;exact .inl h;exact .inr (by omega))];exact n
theorem sy.row{f:Nat->Nat->Int}{L:Nat}{c r a e:Nat}{w:World}(h:sy v i f L o c r a e w)(l:c<=e):sy v i f L o c r (a+1) 0 w:=λg b d j k=>h g b d j (by omega)
theorem Cm{X W v:World}{L r c N:Nat}{f g:Nat->Nat->Int}(O:jO N X N c r o (λ_ _=>0) 0)(D:jO 0 W N c r o g L)(q:KM X W)(hd:sy w i f L o c r r 0 W)(A:i<=N)(k:∀b,N<=b->b<W.heap.size->v.heap[b]?=W.heap[b]?)(T:AJ i w v):jO i v N c r o (λa e=>f e a) L:=by
 obtain⟨-,J,K,⟨B,R⟩,t,M⟩:=O;obtain⟨-,ab,-,-,U,-⟩:=D;have l:∀{a:Nat} {Q:Obj},W.heap[a]?=some Q->a<W.heap.size:=λz=>(jt.1 z).1;have p:=q N _ _ (.inr rfl) K;refine⟨A,J,by rw[k N c_ (l p)];exact p,⟨B,?_⟩,λa h=>⟨by have:=(t a h).1;omega,?_⟩,M⟩
 .rcases R with H|⟨j,Z,G,E,I,Y,y⟩
  .exact .inl H
  .have u:=q j _ _ (.inl rfl) Y;exact .inr ⟨j,Z,G,E,by omega,by rw[k j I (l u)];exact u,y⟩
 .obtain⟨C,d,F,aa⟩:=(U a h).2;refine⟨C,by rw[k _ (t a h).1 (l d)];exact d,F,λe s=>?_⟩;obtain⟨V,S,x,n,P,m⟩:=hd a e h s (.inl s);rw[ij e 2]at x n;refine⟨V,S,by simpa[World.cell?,d]using x,by simpa[World.cell?,d]using n,Bz P m T,m⟩
theorem DQ{b r c j:Nat}{x:Nat->Nat}{f:Nat->Nat->Int}{L:Nat}{m w:World}(P:jO j m b r c x f L)(M:AJ j m w)(T:m.heap.size<=w.heap.size)(a3:r<=99)(ba:c<=99):Calls Tryz.prog 172 #[.pointer (some ⟨b,0,none⟩)] w λa p=>a=.returned (.pointer (some ⟨w.heap.size,0,none⟩))/\(∃i,∀D:World,(∀E,w.heap.size<=E->E<p.heap.size->D.heap[E]?=p.heap[E]?)->AJ j m D->jO j D w.heap.size c r i (λd o=>f o d) L)/\Below w.heap.size w p:=by
 have O:=hO P M T;have g:=BU P M;have ad:=a_ g;have aI:j<=w.heap.size:=by have:=g.1;have:=g.open_.1;omega
 obtain⟨aX,S,ae,y,t,z,-⟩:=g.open_;clear g P M T;go_in;go_upto_region 1 with fail
 go_region_held3 (λp=>p.cell? ⟨b,0,none⟩=some (.int .i64 r)/\p.cell? ⟨b,1,none⟩=some (.int .i64 c)) (first|go_keep|exact⟨g_ hb2 y,g_ hb2 t⟩) (first|(go_at_call 174;refine(mw (by omega) (by omega)).mono ?_;rintro a A⟨rfl,aL,hb2⟩));all_goals
  have aj:Below w.heap.size w A:=(kQ w.heap.size w).drew.trans hb2;obtain⟨i,h⟩:=aL;have aa:=h.tH;have aE:=a_ aa;have aH:=a_ (show jO w.heap.size A w.heap.size c r i (λ_ _=>0) 0 from h);have ay:f_ (∀d a,d<c->a<c->d≠a->i d≠i a):=a_ (λd a N af J=>by
   obtain⟨-,_,-,-,-,ac⟩:=h;rcases mY d a with g|g|g
   .have:=ac d a g af;omega
   .exact absurd g J
   .have:=ac a d g N;omega)
  have al:=b_ ((h.xl hR).mono (AW L)) aj;clear h aj aa hb2 y t z;go_wp2_with fail;go_loopw [4] (λd wr=>∃(e:Nat) (l:Nat->Nat->Int),e<=r/\d=.int .i64 e/\jO 0 wr w.heap.size c r i l L/\Below w.heap.size w wr/\f_ (KM A wr/\sy m j f L i c r e 0 wr)) (λd _=>r-(intOf d).toNat)
  case atStart=>exact⟨0,_,hR,rfl,al.f,al.i,a_ ⟨λ_ _ _ _ g=>g,λd o _ _ aY=>by omega⟩⟩
  case round=>
   rename World=>aT;obtain⟨e,l,aR,rfl,h,k,R⟩:=hrel;obtain⟨-,S,ae,y,t,z,-⟩:=(ad.e.hV (KR.I k)).open_;have B:=b_ h k;clear h k;by_cases C:e<r
   .have a4:(e:Int)<(r:Int):=by omega
    go_wp2_with fail;go_loopw [5] (λo wr=>∃(a:Nat) (l:Nat->Nat->Int),a<=c/\o=.int .i64 a/\jO 0 wr w.heap.size c r i l L/\Below w.heap.size w wr/\f_ (KM A wr/\sy m j f L i c r e a wr)) (λo _=>c-(intOf o).toNat)
    case atStart=>exact⟨0,l,hR,rfl,B.f,B.i,R⟩
    case round=>
     rename World=>s;clear y t z;obtain⟨a,l,af,rfl,h,k,H⟩:=hrel;have an:=ad.e.hV (KR.I k);obtain⟨-,S,ae,y,t,z,aP,aO,X,aJ⟩:=an.open_;obtain⟨-,a7,bd,aW,bb,a8,bc,a0,aq,V⟩:=h.open_;have q:=b_ h k;have G:AJ j m s:=O.g.trans (AJ.I k) O.l;clear h k an;by_cases n:a<c
     .have aZ:(a:Int)<(c:Int):=by omega
      obtain⟨a6,rfl,aS⟩:=X e C;obtain⟨-,_,-,-,W,-⟩:=O.f;obtain⟨ao,ag,I,az,am⟩:=W e C;obtain⟨aU,a1,ah,K,u,F⟩:=am a n;obtain⟨aA,aG,aM,ar,ab,-⟩:=u.parts;simp only[j9,j_,kb,jh]at ab;obtain⟨rfl,rfl⟩:=ab;obtain⟨aB,Z⟩:=hQ ar.length;rw[<-Z]at K u F;have Q:s.heap[x e]?=some (.cells ag 171 (0,0)):=(G (x e) ao (jt.1 I).1).trans I;have aN:s.cell? ⟨x e,2*a,none⟩=some (.bool aA):=by simp[World.cell?,Q,ah]
      have aD:s.cell? ⟨x e,2*a+1,none⟩=some (.slice aG aB aM):=by simp[World.cell?,Q,K]
      obtain⟨a9,rfl,a2⟩:=aq a n;obtain⟨aQ,a5,aV,be,Y,ap,au,aC,-⟩:=V a e n C;rw[ij 2]at aN aD Y ap au aC;have v:=iu (Bz u F G) u F Y ap;clear X aJ aq V W ao I az am ah K u F Q G Z;go_wp2_with fail;go_region;all_goals
       go_wp2;go_roundw
       .have U:=q.f.set n C v.f (tZ.zero _);rw[ij 2]at U;have ak:w.heap.size<=i a:=(aE.e a n).1;have ai:Ty s (i a) 171:=by
         obtain⟨-,_,-,-,aF,-⟩:=q.f;obtain⟨ag,av,-⟩:=(aF a n).2;exact⟨_,_,av⟩
        exact⟨a+1,_,by omega,by go_num,U,((q.i.setCell ak _).setCell ak _).drew,a_ ⟨(H.f.set ai _).set (ai.setCell _ _) _,H.i.next (λd N J=>ay.e d a N n J) v.m v.x v.g v.j⟩⟩
       simp[intOf];omega
     .clear G;go_wp2;go_roundw;exact⟨e+1,l,by omega,by go_num,q.f,q.i,a_ ⟨H.f,H.i.row (by omega)⟩⟩;simp[intOf];omega
   .go_wp2;go_ret;have aw:e=r:=by omega
    subst aw;exact⟨rfl,⟨i,λD ax aK=>Cm aH.e B.f R.f R.i aI ax aK⟩,B.i⟩
end
end Go.Proofs.YtfjbijpagaipnabGreatDoor
