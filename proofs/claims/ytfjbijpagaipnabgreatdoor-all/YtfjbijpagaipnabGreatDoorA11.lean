import Derived.Test.YtfjbijpagaipnabGreatDoorA10
import Derived.StillTailTactics
set_option maxRecDepth 100000
set_option maxHeartbeats 8000000
namespace Go.Proofs.YtfjbijpagaipnabGreatDoor
open Go.RowKit
variable{i j k l m n p q r s:Nat}{w v W:World}{x y z:Value}{A B F G:Nat->Nat->Int}{a b c d:Int}{e f g:List Int}{X Y:List Nat}{P Q:Nat->Int}{L K:List UInt8}{o h:Nat->Nat}{t:TypeId}{u:Bool}{O:Option Addr}
section
open R
def rX(ms:List Hm)(h:Int)(t:List UInt8)(e:Int):Prop:=
 ((∀c,c<24->∀g,ms.getD c none=some g->(g.1:Int)≠h)/\t=[]/\e=2)\/∃c f a b d,c<24/\ms.getD c none=some (f,a,b,d)/\((f:Nat):Int)=h/\((a≠b/\t=[]/\e=3)\/(a=b/\¬hW a b d/\t=[]/\e=4)\/(a=b/\hW a b d/\t=Lib.itoa (jn a (gz b d))/\e=0))
def v7(ms:List Hm)(h z e:Int):Prop:=
 ((∀a,a<24->∀i,ms.getD a none=some i->(i.1:Int)≠h)/\z=-1/\e=2)\/∃a f d b c,a<24/\ms.getD a none=some (f,d,b,c)/\((f:Nat):Int)=h/\((¬hW d b c/\z=-1/\e=4)\/(hW d b c/\e=0/\∃g:Nat,z=(g:Int)/\iF (gz b c) d b g))
theorem kf{f:Nat->Nat->Int}{r c k:Nat}(h:iF f r c k)(m:iF f r c i):k=i:=by
 obtain⟨s,o,b,j⟩:=h;obtain⟨q,p,d,n⟩:=m;rcases mY k i with e|l|g
 .rcases j with a|a|a
  .omega
  .omega
  .exact absurd a (d k e)
 .exact l
 .rcases n with a|a|a
  .omega
  .omega
  .exact absurd a (b i g)
theorem rX.uniq{ms:List Hm}{h e:Int}{t:List UInt8}(hd:pq ms)(a:rX ms h t e)(b:rX ms h L c):t=L/\e=c:=by
 rcases a with⟨o,rfl,rfl⟩|⟨i,r,v,x,y,l,j,p,o⟩
 .rcases b with⟨-,rfl,rfl⟩|⟨i,r,v,x,y,l,j,p,-⟩
  .exact⟨rfl,rfl⟩
  .exact absurd p (o i l _ j)
 .rcases b with⟨g,-⟩|⟨q,w,A,B,C,u,k,z,g⟩
  .exact absurd p (g i l _ j)
  .have s:i=q:=hd i q _ _ l u j k (by show r=w;omega);subst s;rw[j]at k;simp only[iH,lN]at k;obtain⟨rfl,rfl,rfl,rfl⟩:=k;rcases o with⟨f,rfl,rfl⟩|⟨f,m,rfl,rfl⟩|⟨f,m,rfl,rfl⟩
   .rcases g with⟨-,rfl,rfl⟩|⟨d,_⟩|⟨d,_⟩
    .exact⟨rfl,rfl⟩
    .exact absurd d f
    .exact absurd d f
   .rcases g with⟨d,_⟩|⟨-,-,rfl,rfl⟩|⟨-,n,_⟩
    .exact absurd f d
    .exact⟨rfl,rfl⟩
    .exact absurd n m
   .rcases g with⟨d,_⟩|⟨-,n,_⟩|⟨-,-,rfl,rfl⟩
    .exact absurd f d
    .exact absurd m n
    .exact⟨rfl,rfl⟩
theorem v7.uniq{ms:List Hm}{h z z' e:Int}(hd:pq ms)(a:v7 ms h z e)(b:v7 ms h z' c):z=z'/\e=c:=by
 rcases a with⟨l,rfl,rfl⟩|⟨d,p,u,w,x,j,f,n,l⟩
 .rcases b with⟨-,rfl,rfl⟩|⟨d,p,u,w,x,j,f,n,-⟩
  .exact⟨rfl,rfl⟩
  .exact absurd n (l d j _ f)
 .rcases b with⟨i,-⟩|⟨o,v,B,D,E,t,g,A,i⟩
  .exact absurd n (i d j _ f)
  .have s:d=o:=hd d o _ _ j t f g (by show p=v;omega);subst s;rw[f]at g;simp only[iH,lN]at g;obtain⟨rfl,rfl,rfl,rfl⟩:=g;rcases l with⟨k,rfl,rfl⟩|⟨k,rfl,y,rfl,r⟩
   .rcases i with⟨-,rfl,rfl⟩|⟨m,_⟩
    .exact⟨rfl,rfl⟩
    .exact absurd m k
   .rcases i with⟨m,_⟩|⟨-,rfl,C,rfl,q⟩
    .exact absurd k m
    .rw[kf r q];exact⟨rfl,rfl⟩
theorem xr{b:Nat}{h:Int}{ms:List Hm}{nx:Nat}{w:World}(y:jf w b ms nx):Calls Tryz.prog 16 #[.pointer (some ⟨b,0,none⟩),.int .i64 h] w λaa Y=>∃K g,aa=.returned (.tuple #[.int .i64 K,.int .i64 g])/\v7 ms h K g/\Below w.heap.size w Y:=by
 have X:=a_ y;clear y;go_in;go_wp2_with fail;go_fit (jS X.e);rintro g j⟨⟨a,d,s,L,M,aj,rfl,p⟩,n⟩;have l:=hU j (.cells #[.int .i64 a,.int .i64 d,.slice s L M] 66);have k:=d_ n l;have ah:=n.size;rcases id p with⟨rfl,z,A,m,E,u,x,q⟩|⟨rfl,J⟩
 .have c:=iu (q.below l) k E u x;clear p q n l k E u x;go_wp2_with fail;go_fit (jl c.f (by omega));rintro g o⟨O,rfl,D,f⟩;have am:j.heap.size+1<=o.heap.size:=by have:=f.size;simpa using this
  have Q:o.cell? ⟨j.heap.size,0,none⟩=some (.int .i64 a):=g_ f (by simp);have V:o.cell? ⟨j.heap.size,1,none⟩=some (.int .i64 d):=g_ f (by simp);have P:o.cell? ⟨j.heap.size,2,none⟩=some (.slice s L M):=g_ f (by simp);have i:=hO (c.f.below f) (d_ c.g f) D;clear f D
  cases O
  .have T:f_ (¬hW a d m):=a_ (λh=>by have:=i.l.2 h;cases this);go_wp2;go_ret2;exact⟨_,_,rfl,.inr ⟨z,A,a,d,m,c.j,c.m,c.x,.inl ⟨T.e,rfl,rfl⟩⟩,i.g⟩
  .have e:f_ (hW a d m):=a_ (i.l.1 rfl);go_wp2_with fail;go_fit (oe (i.f.tight e.e) e.f e.g e.e.e_ (by omega));rintro g af⟨ac,r,ag,ae,ak,ad,rfl,⟨ab,al,an,rfl,F,I,G⟩,C,H,-,B,-⟩;obtain⟨R,N,rfl⟩:=F.slice;obtain⟨W,U,rfl⟩:=I.slice;obtain⟨S,Z,rfl⟩:=G.slice;clear F I G;have t:=b_ (ot C H e.f e.g) (d_ i.g B);clear C H B Q V P;have ai:=BA (.int .i64 a) (.int .i64 d) (.slice R (a*d) N) (.int .i64 a) (.int .i64 a) (.slice W (a*a) U) (.int .i64 a) (.int .i64 a) (.slice S (a*a) Z) (r:Int);go_wp2;go_ret2;exact⟨_,_,rfl,.inr ⟨z,A,a,d,m,c.j,c.m,c.x,.inr ⟨e.e,rfl,r,rfl,t.f⟩⟩,t.i⟩
 .have v:=b_ J k;clear J k n l p;go_wp2;go_ret2;exact⟨_,_,rfl,.inl ⟨v.f,rfl,rfl⟩,v.i⟩
theorem Ke{w:World}{v:Value}{r c:Nat}{zs:List Int}{L:Nat}(e:r=c)(h:i_ w v r c zs L):i_ w v r r zs L:=by subst e;exact h
theorem GG(n:Nat)(h:n<=4):LD 2 n<=100:=by
 obtain rfl|rfl|rfl|rfl|rfl:n=0\/n=1\/n=2\/n=3\/n=4:=by omega
 all_goals decide
theorem zV{b:Nat}{h:Int}{ms:List Hm}{nx:Nat}{w:World}(M:jf w b ms nx)(L:vx w):Calls Tryz.prog 17 #[.pointer (some ⟨b,0,none⟩),.int .i64 h] w λR C=>∃H e,R=.returned (.tuple #[.string ⟨H.toArray⟩,.int .i64 e])/\rX ms h H e/\Below w.heap.size w C:=by
 have P:=b_ M L;clear M L;go_in;go_wp2_with fail;go_fit (jS P.f);rintro e f⟨⟨a,c,l,m,n,ad,rfl,B⟩,s⟩;have q:=hU f (.cells #[.int .i64 a,.int .i64 c,.slice l m n] 66);have o:=d_ s q;have ac:=s.size;rcases id B with⟨rfl,x,y,g,O,I,K,E⟩|⟨rfl,Q⟩
 .have d:=iu (E.below q) o O I K;clear B E s q o O I K;have v:=(kQ (f.alloc (.cells #[.int .i64 a,.int .i64 c,.slice l m n] 66)).heap.size (f.alloc (.cells #[.int .i64 a,.int .i64 c,.slice l m n] 66))).alloc c_ (.cells #[.int .i64 a,.int .i64 c,.slice l m n] 66);have p:=b_ (d.f.below v) (d_ d.g v);clear v;by_cases r:a=c
  .have Y:((a:Int)==(c:Int))=true:=jY.2 (by omega);have j:=a_ r;clear r;go_wp2_with (go_at_call 38;refine(nC).mono ?_;rintro e C⟨rfl,rfl⟩);go_fit (jl p.f (by omega));rintro e t⟨S,rfl,N,i⟩;have ag:f.heap.size+1+1<=t.heap.size:=by have:=i.size;simpa using this
   have V:t.cell? ⟨f.heap.size,0,none⟩=some (.int .i64 a):=g_ i (by simp);have X:t.cell? ⟨f.heap.size,1,none⟩=some (.int .i64 c):=g_ i (by simp);have U:t.cell? ⟨f.heap.size,2,none⟩=some (.slice l m n):=g_ i (by simp);have k:=hO (p.f.below i) (d_ p.i i) N;clear i N
   cases S
   .have W:f_ (¬hW a c g):=a_ (λh=>by have:=k.l.2 h;cases this);go_wp2;go_ret2;exact⟨[],_,rfl,.inr ⟨x,y,a,c,g,d.j,d.m,d.x,.inr (.inl ⟨j.e,W.e,rfl,rfl⟩)⟩,k.g⟩
   .have z:f_ (hW a c g):=a_ (k.l.1 rfl);have F:f_ (LD 2 a<=100):=a_ (GG a z.f);go_wp2_with fail;go_fit (y4 a _ g (gz c g) 2 _ (Ke j.e (k.f.tight z.e)) (by rw[j.e];exact λ_ _ _ _=>rfl) (by have:=F.e;omega) (by omega));rintro e aa⟨R,rfl,D,A⟩;obtain⟨af,ah,ae,ab,rfl⟩:=D.shape;have u:=hO D (d_ k.g A) (P.i.below (d_ k.g A));clear D A V X U;go_wp2_with fail;go_fit (qE u.f (by have:=F.e;omega) u.l);rintro e Z⟨rfl,G⟩;have T:=a_ (d_ u.g G);clear G;go_wp2;go_ret2;exact⟨_,_,rfl,.inr ⟨x,y,a,c,g,d.j,d.m,d.x,.inr (.inr ⟨j.e,z.e,rfl,rfl⟩)⟩,T.e⟩
  .have Y:((a:Int)==(c:Int))=false:=iK.2 (by omega);have j:=a_ r;clear r;go_wp2_with (go_at_call 38;refine(nC).mono ?_;rintro e C⟨rfl,rfl⟩);go_ret2;exact⟨[],_,rfl,.inr ⟨x,y,a,c,g,d.j,d.m,d.x,.inl ⟨j.e,rfl,rfl⟩⟩,p.i⟩
 .have J:=b_ Q o;clear Q o s q B;go_wp2;go_ret2;exact⟨[],_,rfl,.inl ⟨J.f,rfl,rfl⟩,J.i⟩
theorem xO{a:ByteArray}{e:Int}{w:World}:Calls Tryz.prog 203 #[.pointer (some ⟨i,0,none⟩),.string a,.int .i64 e,.string a,.int .i64 e] w λc b=>c=.returned (.tuple #[.string a,.int .i64 e])/\b=w:=by
 have f:(a.toList==a.toList)=true:=by simp
 have d:(e==e)=true:=by simp
 go_in;go_wp2_with fail;go_fit (ma);rintro c b⟨rfl,rfl⟩;go_wp2;go_ret2;exact⟨rfl,rfl⟩
theorem Dz{B:Nat}{h:Int}{ms:List Hm}{nx:Nat}{w:World}(n:nu B w i j k ms nx)(hd:pq ms):Calls Tryz.prog 156 #[.pointer (some ⟨i,0,none⟩),.int .i64 h] w λf s=>∃a c,f=.returned (.tuple #[.string ⟨a.toArray⟩,.int .i64 c])/\rX ms h a c/\Below w.heap.size w s:=by
 obtain⟨o,p,l,-⟩:=n.1.cells;have d:=b_ n hd;clear n hd;go_in;go_wp2_with fail;go_fit (zV d.f.2.1 d.f.2.2.2.2.1.tab);rintro f y⟨a,c,rfl,hrel,e⟩;have g:=d.f.below e;clear o p l;obtain⟨o,p,l,-⟩:=g.1.cells;have b:=hO g hrel e;have x:=e.size;clear g hrel e;go_wp2_with fail;go_fit (zV b.f.2.2.1 b.f.2.2.2.2.1.tab);rintro f A⟨C,z,rfl,q,t⟩;obtain⟨rfl,rfl⟩:=rX.uniq d.i b.g q;have u:=a_ (b.l.trans (t.mono x));clear t q o p l;obtain⟨r,m⟩:∃r:ByteArray,r=⟨a.toArray⟩:=⟨_,rfl⟩;have v:=a_ m;rw[<-m];clear m;go_wp2_with fail;go_fit (xO);rintro f s⟨rfl,rfl⟩;go_wp2;go_ret2;exact⟨a,c,by rw[v.e];rfl,b.g,u.e⟩
theorem Cd{B:Nat}{h:Int}{ms:List Hm}{nx:Nat}{w:World}(g:nu B w i j k ms nx)(hd:pq ms):Calls Tryz.prog 159 #[.pointer (some ⟨i,0,none⟩),.int .i64 h] w λd p=>∃q a,d=.returned (.tuple #[.int .i64 q,.int .i64 a])/\v7 ms h q a/\Below w.heap.size w p:=by
 obtain⟨l,n,f,-⟩:=g.1.cells;have m:=b_ g hd;clear g hd;go_in;go_wp2_with fail;go_fit (xr m.f.2.1);rintro d v⟨s,a,rfl,hrel,c⟩;have e:=m.f.below c;clear l n f;obtain⟨l,n,f,-⟩:=e.1.cells;have b:=hO e hrel c;have u:=c.size;clear e hrel c;go_wp2_with fail;go_fit (xr b.f.2.2.1);rintro d y⟨z,x,rfl,o,r⟩;obtain⟨rfl,rfl⟩:=v7.uniq m.i b.g o;have t:=a_ (b.l.trans (r.mono u));clear r o l n f;go_wp2_with fail;go_fit (s7);rintro d p⟨rfl,rfl⟩;go_wp2;go_ret2;exact⟨s,a,rfl,b.g,t.e⟩
def EL(j:List o4)(ms:List Hm)(g:Bool)(h:Int)(v:Value)(d:Int):Prop:=
 ((∀c,c<24->∀i,ms.getD c none=some i->(i.1:Int)≠h)/\d=2)\/∃e c a b f,e∈j/\c<24/\ms.getD c none=some (e.1,a,b,f)/\((e.1:Nat):Int)=h/\((g=true/\a≠b/\d=3)\/((g=true->a=b)/\¬hW a b f/\d=4)\/((g=true->a=b)/\hW a b f/\d=0/\v=.pointer (some ⟨e.2.2,0,none⟩)))
theorem rv{B W X Z V:Nat}{ms:List Hm}{nx:Nat}{O:List o4}{h:Int}{p:Bool}{w:World}(K:jL B w W X Z V ms nx O):Calls Tryz.prog 155 #[.pointer (some ⟨W,0,none⟩),.int .i64 h,.bool p] w λv ab=>(∃D L,v=.returned (.tuple #[D,.int .i64 L])/\EL O ms p h D L)/\Below w.heap.size w ab:=by
 have y:=a_ K;clear K;go_in;go_wp2_with fail;go_fit (tq y.e);rintro v c⟨⟨D,rfl,P⟩,G⟩;have l:=b_ P G;have N:=G.size;clear P G;rcases l.f with⟨rfl,R⟩|⟨n,A,S,rfl⟩
 .have aa:=a_ R;clear R;go_wp2;go_ret2;exact⟨⟨_,_,rfl,.inl ⟨A_.none y.e aa.e,rfl⟩⟩,l.i⟩
 .obtain⟨q,a,b,e,F,H⟩:=y.e.BZ A;obtain⟨-,Q,ae,ak,T⟩:=(y.e.below l.i).entry A F H rfl;obtain⟨af,x⟩:=T.qk;obtain⟨ag,C⟩:=hQ n.2.2;rw[<-C]at x|-;have d:=kM A S F H Q x C;obtain⟨-,aj,ah,ai,al,-⟩:=x.open_;clear A S F H Q x C T;by_cases z:p=true/\a≠b
  .obtain⟨rfl,U⟩:=z;have ac:((a:Int)==(b:Int))=false:=iK.2 (by omega);have Y:=a_ U;clear U;go_wp2_with fail;go_quiet (fail);all_goals
    go_wp2;go_ret2;obtain⟨g,f,k,j,-⟩:=d.e;exact⟨⟨_,_,rfl,.inr ⟨n,q,a,b,e,g,k,j,f,.inl ⟨rfl,Y.e,rfl⟩⟩⟩,by first|exact l.i|exact im l.i _⟩
  .have E:f_ (p=true->a=b):=a_ (λh=>qe λad=>z ⟨h,ad⟩)
   cases p
   .clear z;go_wp2_with fail;go_quiet (fail);go_wp2_with fail;go_fit (sY (d.y.hV (KR.I (im hP _))) (by omega) d.r.1 d.r.2.1);rintro v I⟨r,rfl,s,t⟩;have o:Below c.heap.size c I:=(im (kQ c.heap.size c) _).trans (t.mono (im (kQ c.heap.size c) _).size);have i:=b_ (show r=true↔¬hW a b e from by rw[<-qF];exact s) (l.i.trans (o.mono N));clear s t o
    cases r
    .have m:f_ (hW a b e):=a_ (qe λh=>(by have:=i.f.2 h;cases this));go_wp2;go_ret2;obtain⟨g,f,k,j,-,-,u⟩:=d.e;exact⟨⟨_,_,rfl,.inr ⟨n,q,a,b,e,g,k,j,f,.inr (.inr ⟨E.e,m.e,rfl,by rw[<-u];rfl⟩)⟩⟩,i.i⟩
    .have m:f_ (¬hW a b e):=a_ (i.f.1 rfl);go_wp2;go_ret2;obtain⟨g,f,k,j,-,-,u⟩:=d.e;exact⟨⟨_,_,rfl,.inr ⟨n,q,a,b,e,g,k,j,f,.inr (.inl ⟨E.e,m.e,rfl⟩)⟩⟩,i.i⟩
   .have J:=E.e rfl;have ac:((a:Int)==(b:Int))=true:=jY.2 (by omega);have M:=a_ J;clear z J;go_wp2_with fail;go_quiet (fail);go_wp2_with fail;go_fit (sY (d.y.hV (KR.I (im hP _))) (by omega) d.r.1 d.r.2.1);rintro v I⟨r,rfl,s,t⟩;have o:Below c.heap.size c I:=(im (kQ c.heap.size c) _).trans (t.mono (im (kQ c.heap.size c) _).size);have i:=b_ (show r=true↔¬hW a b e from by rw[<-qF];exact s) (l.i.trans (o.mono N));clear s t o
    cases r
    .have m:f_ (hW a b e):=a_ (qe λh=>(by have:=i.f.2 h;cases this));go_wp2;go_ret2;obtain⟨g,f,k,j,-,-,u⟩:=d.e;exact⟨⟨_,_,rfl,.inr ⟨n,q,a,b,e,g,k,j,f,.inr (.inr ⟨λ_=>M.e,m.e,rfl,by rw[<-u];rfl⟩)⟩⟩,i.i⟩
    .have m:f_ (¬hW a b e):=a_ (i.f.1 rfl);go_wp2;go_ret2;obtain⟨g,f,k,j,-,-,u⟩:=d.e;exact⟨⟨_,_,rfl,.inr ⟨n,q,a,b,e,g,k,j,f,.inr (.inl ⟨λ_=>M.e,m.e,rfl⟩)⟩⟩,i.i⟩
variable{E:List o4}
theorem GD{ms:List Hm}{h e:Int}{v:Value}{t:List UInt8}(hd:pq ms)(q:EL E ms true h v a)(k:rX ms h t e):((a=2\/a=3\/a=4)/\e=a/\t=[])\/(a=0/\e=0/\∃g c b i,g∈E/\c<24/\ms.getD c none=some (g.1,b,b,i)/\hW b b i/\v=.pointer (some ⟨g.2.2,0,none⟩)/\t=Lib.itoa (jn b (fz b i))):=by
 rcases q with⟨o,rfl⟩|⟨g,c,b,z,i,y,l,j,p,q⟩
 .rcases k with⟨-,rfl,rfl⟩|⟨c,u,b,z,i,l,j,p,-⟩
  .exact .inl ⟨.inl rfl,rfl,rfl⟩
  .exact absurd p (o c l _ j)
 .rcases k with⟨o,-⟩|⟨s,u,B,C,D,w,m,A,k⟩
  .exact absurd p (o c l _ j)
  .have x:c=s:=hd c s _ _ l w j m (by show g.1=u;omega);subst x;rw[j]at m;simp only[iH,lN]at m;obtain⟨rfl,rfl,rfl,rfl⟩:=m;rcases q with⟨-,f,rfl⟩|⟨n,f,rfl⟩|⟨n,f,rfl,rfl⟩
   .rcases k with⟨-,rfl,rfl⟩|⟨d,_⟩|⟨d,_⟩
    .exact .inl ⟨.inr (.inl rfl),rfl,rfl⟩
    .exact absurd d f
    .exact absurd d f
   .rcases k with⟨d,_⟩|⟨-,-,rfl,rfl⟩|⟨-,r,_⟩
    .exact absurd (n rfl) d
    .exact .inl ⟨.inr (.inr rfl),rfl,rfl⟩
    .exact absurd r f
   .rcases k with⟨d,_⟩|⟨-,r,_⟩|⟨-,-,rfl,rfl⟩
    .exact absurd (n rfl) d
    .exact absurd f r
    .obtain rfl:=n rfl;exact .inr ⟨rfl,rfl,g,c,b,i,y,l,j,f,rfl,rfl⟩
theorem DZ{ms:List Hm}{h z e:Int}{v:Value}(hd:pq ms)(r:EL E ms false h v a)(k:v7 ms h z e):((a=2\/a=3\/a=4)/\e=a/\z=-1)\/(a=0/\e=0/\∃d b f c g l,d∈E/\b<24/\ms.getD b none=some (d.1,f,c,g)/\hW f c g/\v=.pointer (some ⟨d.2.2,0,none⟩)/\z=((l:Nat):Int)/\iF (fz c g) f c l):=by
 rcases r with⟨o,rfl⟩|⟨d,b,f,c,g,y,j,i,q,r⟩
 .rcases k with⟨-,rfl,rfl⟩|⟨b,t,f,c,g,j,i,q,-⟩
  .exact .inl ⟨.inl rfl,rfl,rfl⟩
  .exact absurd q (o b j _ i)
 .rcases k with⟨o,-⟩|⟨s,t,C,D,F,u,m,B,k⟩
  .exact absurd q (o b j _ i)
  .have w:b=s:=hd b s _ _ j u i m (by show d.1=t;omega);subst w;rw[i]at m;simp only[iH,lN]at m;obtain⟨rfl,rfl,rfl,rfl⟩:=m;rcases r with⟨A,-⟩|⟨-,n,rfl⟩|⟨-,n,rfl,rfl⟩
   .cases A
   .rcases k with⟨-,rfl,rfl⟩|⟨p,_⟩
    .exact .inl ⟨.inr (.inr rfl),rfl,rfl⟩
    .exact absurd p n
   .rcases k with⟨p,_⟩|⟨-,rfl,l,rfl,x⟩
    .exact absurd n p
    .exact .inr ⟨rfl,rfl,d,b,f,c,g,l,y,j,i,n,rfl,rfl,x⟩
theorem Br{B W:Nat}{ms:List Hm}{nx:Nat}{h:Int}{w:World}(n:jL B w W i j k ms nx E):Calls Tryz.prog 113 #[.pointer (some ⟨W,0,none⟩),.int .i64 4,.int .i64 h] w λe Y=>e=.returned (.bool true)/\ie B w Y W i j k nx:=by
 have L:=n.size;have b:=a_ n;clear n;go_in;go_wp2_with fail;go_fit (rv b.e);rintro e ap⟨⟨aq,ae,rfl,K⟩,m⟩;have o:=b.e.below m;obtain⟨af,ak,ah,aw,an,V,-⟩:=o.il;have u:=hO K m o;have U:=m.size;clear K m o;go_wp2_with fail;go_fit (Dz u.j b.l.dst);rintro e J⟨ai,ag,rfl,hrel,O⟩;have C:=GD b.l.dst u.f hrel;have l:Below w.heap.size w J:=u.g.trans (O.mono U);have c:=hO (b.e.below l) l C;have P:=l.size;clear hrel O l C V;rcases c.l with⟨X,rfl,rfl⟩|⟨rfl,rfl,R,ao,a,Z,F,G,H,r,rfl,rfl⟩
 .have d:f_ (ie B w J W i j k nx):=a_ ⟨⟨ms,nx,E,c.f,by omega⟩,c.g.mono L⟩;rcases X with rfl|rfl|rfl
  .go_wp2;go_ret;exact⟨rfl,d.e⟩
  .go_wp2;go_ret;exact⟨rfl,d.e⟩
  .go_wp2;go_ret;exact⟨rfl,d.e⟩
 .obtain⟨-,-,aj,ar,N⟩:=c.f.entry F G H rfl;obtain⟨al,s⟩:=N.qk;obtain⟨am,x⟩:=hQ R.2.2;rw[<-x]at s|-;have A:=b_ (s.tight (jT r)) r.1;clear F G H N s x r;have ad:=A.i;have I:f_ (LM 4 a<=10000000000):=a_ (by
   obtain rfl|rfl|rfl|rfl|rfl:a=0\/a=1\/a=2\/a=3\/a=4:=by omega
   all_goals decide)
  obtain⟨g,p⟩:∃g:ByteArray,g=⟨(Lib.itoa (jn a (fz a Z))).toArray⟩:=⟨_,rfl⟩;have T:=a_ p;rw[<-p];clear p;have au:(g.toList==g.toList)=true:=by simp
  go_wp2_with fail;go_fit (ER A.f (by omega) (by omega) I.e);rintro e q⟨av,rfl,M,D⟩;have f:=b_ M (c.g.trans (D.mono P));have ab:=f.i.size;clear M D;obtain⟨aa,Q,ac,S,rfl,-⟩:=f.f.parts;go_wp2_with fail;have t:Below q.heap.size q (q.alloc (.cells #[.bool aa,.slice Q S.length ac] 171)):=hS;go_fit (sZ (f.f.below t) (by have:=I.e;omega));rintro e z⟨rfl,y⟩;have v:Below w.heap.size w z:=f.i.trans ((d_ t y).mono ab);have d:f_ (ie B w z W i j k nx):=a_ ⟨⟨ms,nx,E,b.e.below v,by omega⟩,v.mono L⟩;rw[<-T.e];clear y v t;go_wp2;go_ret;exact⟨rfl,d.e⟩
theorem zH{B W:Nat}{ms:List Hm}{nx:Nat}{h:Int}{w:World}(m:jL B w W i j k ms nx E):Calls Tryz.prog 113 #[.pointer (some ⟨W,0,none⟩),.int .i64 5,.int .i64 h] w λl O=>l=.returned (.bool true)/\ie B w O W i j k nx:=by
 have G:=m.size;have a:=a_ m;clear m;go_in;go_wp2_with fail;go_fit (rv a.e);rintro l ab⟨⟨ac,P,rfl,F⟩,g⟩;have n:=a.e.below g;obtain⟨Q,aj,S,af,Z,M,-⟩:=n.il;have q:=hO F g n;have L:=g.size;clear F g n;go_wp2_with fail;go_fit (Cd q.j a.l.dst);rintro l D⟨ai,R,rfl,hrel,I⟩;have v:=DZ a.l.dst q.f hrel;have f:Below w.heap.size w D:=q.g.trans (I.mono L);have b:=hO (a.e.below f) f v;have J:=f.size;clear hrel I f v M;rcases b.l with⟨N,rfl,rfl⟩|⟨rfl,rfl,K,aa,X,ae,ag,s,z,A,C,e,rfl,rfl,y⟩
 .have c:f_ (ie B w D W i j k nx):=a_ ⟨⟨ms,nx,E,b.f,by omega⟩,b.g.mono G⟩;rcases N with rfl|rfl|rfl
  .go_wp2;go_ret;exact⟨rfl,c.e⟩
  .go_wp2;go_ret;exact⟨rfl,c.e⟩
  .go_wp2;go_ret;exact⟨rfl,c.e⟩
 .obtain⟨-,-,T,ad,H⟩:=b.f.entry z A C rfl;obtain⟨U,p⟩:=H.qk;obtain⟨Y,r⟩:=hQ K.2.2;rw[<-r]at p|-;have d:=hY (p.tight (jT e)) e.1 e.2.1 y;clear z A C H p r e y;have V:((s:Int)==(s:Int))=true:=by simp
  go_wp2_with fail;go_fit (mW d.f (by have:=d.g;omega) (by have:=d.j;omega) (by omega));rintro l u⟨ah,rfl,t,x⟩;obtain rfl:=kf t d.o;have o:Below w.heap.size w u:=b.g.trans (x.mono J);have c:f_ (ie B w u W i j k nx):=a_ ⟨⟨ms,nx,E,a.e.below o,by omega⟩,o.mono G⟩;clear t x o;go_wp2;go_ret;exact⟨rfl,c.e⟩
end
def ff(ms:List Hm):Nat:=ms.findIdx Option.isNone
def oz(ms:List Hm)(nx:Nat)(x:Nat×Nat×List Int):List Hm:=ms.set (ff ms) (some (nx,x))
def jX(ms:List Hm)(nx:Nat):List (Nat×Nat×List Int)->List Hm
 |[]=>ms
 |a::b=>jX (oz ms nx a) (nx+1) b
theorem ya(x:Nat×Nat×List Int):∀b c a,jX c a (b++[x])=oz (jX c a b) (a+b.length) x:=by
 intro b;induction b with
 |nil=>intro c a;rfl
 |cons f d e=>
  intro c a;rw[mS,jX,e,jX,j3,show a+1+d.length=a+(d.length+1)from by omega]
theorem wQ:∀c a b,(jX a b c).length=a.length:=by
 intro c;induction c with
 |nil=>intro a b;rfl
 |cons f e d=>intro a b;rw[jX,d];simp[oz]
theorem q4{ms:List Hm}(h:ms.length=24)(d:0<ms.countP Option.isNone):ke ms (ff ms):=by
 have b:ff ms<ms.length:=List.findIdx_lt_length_of_exists (List.countP_pos_iff.1 d);have f:(ms[ff ms]).isNone=true:=List.findIdx_getElem (w:=b);refine⟨by omega,?_,λe c a=>?_⟩
 .rw[List.getD,iI b];simpa using f
 .have g:=List.not_of_lt_findIdx (show e<ms.findIdx Option.isNone from c);rw[List.getD,iI (by omega)]at a;simp at a;simp[a]at g
theorem tM{ms:List Hm}(e:ms.length=24)(c:0<ms.countP Option.isNone)(nx:Nat)(x:Nat×Nat×List Int):(oz ms nx x).countP Option.isNone+1=ms.countP Option.isNone:=by
 have a:=q4 e c;have b:ff ms<ms.length:=by have:=a.1;omega
 have d:ms[ff ms]=none:=by have:=a.2.1;rw[List.getD,iI b]at this;simpa using this
 unfold oz;rw[List.countP_set b,d];simp;omega
theorem tu:∀c a b,a.length=24->c.length<=a.countP Option.isNone->(jX a b c).countP Option.isNone+c.length=a.countP Option.isNone:=by
 intro c;induction c with
 |nil=>intro a b _ _;rfl
 |cons d h g=>
  intro a b e f;rw[j3]at f;have i:=tM e (by omega) b d;have j:=g (oz a b d) (b+1) (by simp[oz,e]) (by omega);rw[jX,j3];omega
def pY(w:World)(g:Nat)(xs:List (Nat×Nat×List Int)):Prop:=∀a,a<xs.length->∃d c b,w.cell? ⟨g,a*3,none⟩=some (.int .i64 ((xs.getD a (0,0,[])).1:Nat))/\w.cell? ⟨g,a*3+1,none⟩=some (.int .i64 ((xs.getD a (0,0,[])).2.1:Nat))/\w.cell? ⟨g,a*3+2,none⟩=some (.slice d c b)/\
 i_ w (.agg #[.int .i64 ((xs.getD a (0,0,[])).1:Nat),.int .i64 ((xs.getD a (0,0,[])).2.1:Nat),.slice d c b]) (xs.getD a (0,0,[])).1 (xs.getD a (0,0,[])).2.1 (xs.getD a (0,0,[])).2.2 200000000
theorem R.Own.J{w:World}{v:Value}{xs:List Nat}(h:R.Own w v xs)(j:∀a,v.ownBlock=some a->W.heap[a]?=w.heap[a]?):R.Own W v xs:=by
 obtain⟨d,e⟩:=h;refine⟨d,?_⟩;rcases e with l|⟨a,k,g,b,c,i,f⟩
 .exact .inl l
 .exact .inr ⟨a,k,g,b,c,by rw[j a (by rw[b];rfl)];exact i,f⟩
theorem R.Own.GS{w:World}{g n:Nat}{xs:List Nat}(h:R.Own w (.slice (some ⟨g,0,none⟩) n i) xs):Ty w g 3:=by
 obtain⟨j,b⟩:=h;rcases b with⟨d,_⟩|⟨f,m,l,a,e,c,k⟩
 .simp at d
 .simp only[iC,iH,jj]at a;obtain⟨⟨rfl,_⟩,_⟩:=a;exact⟨_,_,c⟩
theorem rT{w:World}{g:Nat}(h:v.heap[g]?=w.heap[g]?)(o:Nat):v.cell? ⟨g,o,none⟩=w.cell? ⟨g,o,none⟩:=by simp only[World.cell?,h]
theorem pY.fr{w:World}{g b:Nat}{xs:List (Nat×Nat×List Int)}(h:pY w g xs)(c:Fr b w v)(e:g<w.heap.size)(d:g≠b):pY v g xs:=by
 intro j f;obtain⟨n,o,p,k,l,q,i⟩:=h j f;have a:v.heap[g]?=w.heap[g]?:=c.1.block g e (λm=>d (by injection m));exact⟨n,o,p,by rw[rT a];exact k,by rw[rT a];exact l,by rw[rT a];exact q,i.oJ c.2⟩
def CU(w c:World)(b nx n:Nat)(ms:List Hm)(xs:List (Nat×Nat×List Int))(v:Value):Prop:=∃e a,v=.slice (some ⟨e,0,none⟩) n n/\w.heap.size<=e/\a.length=n/\(∀d,d<n->a.getD d 0=nx+d)/\R.Own c v a/\jf c b (jX ms nx xs) (nx+n)/\Fr b w c
theorem nz{b g n:Nat}{xs:List (Nat×Nat×List Int)}{ms:List Hm}{nx:Nat}{w:World}(B:jf w b ms nx)(l:pY w g xs)(H:xs.length=n)(av:n<=5)(K:g<w.heap.size)(D:g≠b)(M:n<=ms.countP Option.isNone)(ay:nx<1000000-5):Calls Tryz.prog 53 #[.pointer (some ⟨b,0,none⟩),.slice (some ⟨g,0,none⟩) n i] w λo ak=>∃O,o=.returned O/\CU w ak b nx n ms xs O:=by
 have c:=iu B l H D M;have ap:=B.lt;clear B l H M;go_in;go_wp2_with (refine @R.lJ _ _ _ _ _ _ rfl _ _ rfl _ _ n rfl rfl (by omega) (by omega) (by omega) ?_);intro ar f G;obtain⟨d,y⟩:=hQ w.heap.size;rw[<-y]at f|-;have k:=hO f G y;clear f G y;go_wp2_with fail;go_loopw [6] (λz wr=>∃(a:Nat) (j:List Nat),a<=n/\z=.int .i64 a/\f_ (j.length=n)/\R.Own wr (.slice (some ⟨d,0,none⟩) n n) j/\jf wr b (jX ms nx (xs.take a)) (nx+a)/\Fr b w wr/\pY wr g xs/\f_ (∀h,h<a->j.getD h 0=nx+h)) (λz _=>n-(intOf z).toNat)
 case atStart=>exact⟨0,_,hR,rfl,a_ sQ,k.f,c.f.below k.g,Fr.I k.g,c.g.fr (Fr.I k.g) K D,a_ (λh aj=>by omega)⟩
 case round=>
  obtain⟨a,j,au,rfl,m,f,s,q,l,T⟩:=hrel;have aq:w.heap.size<=wr.heap.size:=q.1.size;by_cases C:a<n
  .obtain⟨Y,am,ai,S,J,aa,t⟩:=l a (by rw[c.j];exact C);have an:=f.lt;obtain⟨Z,E⟩:=hQ (xs.getD a (0,0,[]));rw[<-E]at S J t;have ah:(xs.take a).length=a:=by have:=c.j;simp;omega
   have V:=q4 (ms:=jX ms nx (xs.take a)) (by rw[wQ];exact c.f.1) (by
    have P:=tu (xs.take a) ms nx c.f.1 (by have:=c.x;omega);have:=c.x;omega)
   clear ah;obtain⟨F,v,u⟩:=Z;have e:=kM f s q l t V E;have X:(a:Int)<(n:Int):=by omega
   clear f s q l t V E;go_wp2_with fail;go_fit (@q2 b F v Y am ai u _ _ _ _ e.g e.r e.y (by omega));rintro o p⟨rfl,U,A⟩;have W:d≠b:=by rw[k.l];omega
   have r:R.Own p (.slice (some ⟨d,0,none⟩) n n) j:=e.f.J (λaw Q=>by
    simp[Value.ownBlock]at Q;subst Q;exact A.1.block d an (λo=>W (by injection o)))
   have ax:=r.frozen m.e a;have ao:=r.cell m.e a C;have ac:=hO r U (e.j.trans A);clear r U A S J aa;go_wp2;go_roundw
   .obtain⟨I,ag,x⟩:=ac.e;have ae:g<p.heap.size:=by have:=x.1.size;omega
    have ad:Ty p d 3:=R.Own.GS I;have N:Fr d p (p.setCell ⟨d,a,none⟩ (.int .i64 ((nx+a:Nat):Int))):=(Fr.refl d p).nk ad (by decide) (by decide) _;have af:g≠d:=by rw[k.l];omega
    refine⟨a+1,j.set a (nx+a),by omega,by go_num,a_ (by simp[m.e]),I.Z m.e a _ (by omega),?_,x.nU (by rw[k.l];exact c_) _,(c.g.fr x K D).fr N ae af,a_ (λh aj=>?_)⟩
    .have P:jX ms nx (xs.take (a+1))=oz (jX ms nx (xs.take a)) (nx+a) (F,v,u):=by
      have al:xs.take (a+1)=xs.take a++[(F,v,u)]:=by
       rw[e.C,qU,List.getD,iI (by have:=c.j;omega)];rfl
      rw[al,ya,show(xs.take a).length=a from by have:=c.j;simp;omega]
     rw[P];exact ag.fr N W.symm
    .by_cases L:h=a
     .subst L;simp[List.getD,show h<j.length by rw[m.e];exact C]
     .rw[List.getD,mb (λo=>L o.symm)];exact T.e h (by omega)
   simp[intOf];omega
  .have ab:a=n:=by omega
   subst ab;have X:¬(a:Int)<(a:Int):=by omega
   have e:=hO f s q;clear f s q l;go_wp2;go_ret;refine⟨_,rfl,d,j,rfl,by rw[k.l];exact c_,m.e,T.e,e.f,?_,e.l⟩;have:=e.g;rw[ka (by have:=c.j;omega)]at this;exact this
def k7(n:Nat)(k:Nat->Nat->List Int->List (Nat×Nat×List Int)->Prop)(ms:List Hm)(h:Int)(d:Bool)(e:Int)(xs:List (Nat×Nat×List Int)):Prop:=
 ((∀g,g<24->∀i,ms.getD g none=some i->(i.1:Int)≠h)/\d=false/\e=2/\xs=[])\/∃j f b c a,j<24/\ms.getD j none=some (f,b,c,a)/\(f:Int)=h/\((¬hW b c a/\d=false/\e=4/\xs=[])\/(hW b c a/\ms.countP Option.isNone<n/\d=false/\e=5/\xs=[])\/(hW b c a/\n<=ms.countP Option.isNone/\d=true/\e=0/\xs.length=n/\k b c a xs))
def q1(w a:World)(b n nx:Nat)(ms:List Hm)(c:Bool)(xs:List (Nat×Nat×List Int))(v:Value):Prop:=
 (c=false/\v=.slice none 0 0/\jf a b ms nx/\Fr b w a)\/(c=true/\CU w a b nx n ms xs v)
theorem k7.uniq{n:Nat}{k:Nat->Nat->List Int->List (Nat×Nat×List Int)->Prop}(H:∀o q r z y,k o q r z->k o q r y->z=y){ms:List Hm}{h e:Int}{v:Bool}{xs ys:List (Nat×Nat×List Int)}(hd:pq ms)(a:k7 n k ms h u e xs)(b:k7 n k ms h v c ys):u=v/\e=c/\xs=ys:=by
 rcases a with⟨m,rfl,rfl,rfl⟩|⟨p,G,o,q,r,x,s,F,m⟩
 .rcases b with⟨-,rfl,rfl,rfl⟩|⟨j,w,D,J,K,l,f,t,i⟩
  .exact⟨rfl,rfl,rfl⟩
  .exact absurd t (m j l _ f)
 .rcases b with⟨i,-⟩|⟨j,w,D,J,K,l,f,t,i⟩
  .exact absurd F (i p x _ s)
  .have C:p=j:=hd p j _ _ x l s f (by show G=w;omega);subst C;rw[s]at f;simp only[iH,lN]at f;obtain⟨rfl,rfl,rfl,rfl⟩:=f;rcases m with⟨g,rfl,rfl,rfl⟩|⟨g,A,rfl,rfl,rfl⟩|⟨g,A,rfl,rfl,-,I⟩
   .rcases i with⟨-,rfl,rfl,rfl⟩|⟨d,_⟩|⟨d,_⟩
    .exact⟨rfl,rfl,rfl⟩
    .exact absurd d g
    .exact absurd d g
   .rcases i with⟨d,_⟩|⟨-,-,rfl,rfl,rfl⟩|⟨-,B,_⟩
    .exact absurd g d
    .exact⟨rfl,rfl,rfl⟩
    .omega
   .rcases i with⟨d,_⟩|⟨-,B,_⟩|⟨-,-,rfl,rfl,-,E⟩
    .exact absurd g d
    .omega
    .exact⟨rfl,rfl,H _ _ _ _ _ I E⟩
theorem iR{r c:Nat}{xs ys:List Int}(l:xs.length=r*c)(o:ys.length=r*c)(h:∀f d,f<r->d<c->e_ c xs f d=e_ c ys f d):xs=ys:=by
 apply sq (by omega);intro a m i;have g:0<c:=by
  rcases kl c with b|b
  .subst b;rw[l6]at l;omega
  .exact b
 have n:a/c<r:=by rw[ss g];omega
 have k:=mQ a g;have j:a/c*c+a%c=a:=by rw[ij];exact kY a c
 have e:=h (a/c) (a%c) n k;unfold e_ at e;rw[j]at e;simpa[List.getD,m,i]using e
structure rH (r c:Nat) (zs:List Int) (k:Nat) (pc:Nat->Nat) (hs us ws:List Int):Prop where
 lh:hs.length=r*c
 lu:us.length=r*r
 lw:ws.length=r*r
 st:iJ r c k pc (e_ c hs)
 inv:jw (e_ c zs) (e_ c hs) (e_ r us) (e_ r ws) r c
 eb:EB (e_ c hs) (e_ r us) (e_ r ws) r c k 48
 run:pR r c (e_ c zs) c k (e3 r c hs us ws)
def sh(r c:Nat)(zs:List Int)(xs:List (Nat×Nat×List Int)):Prop:=∃e f d b a,xs=[(r,c,d),(r,r,b),(r,r,a)]/\rH r c zs e f d b a
theorem zL{r c:Nat}{zs:List Int}{x y:List (Nat×Nat×List Int)}(h:sh r c zs x)(g:sh r c zs y):x=y:=by
 obtain⟨k,p,j,l,i,rfl,b⟩:=h;obtain⟨n,q,m,o,s,rfl,a⟩:=g;obtain⟨-,d,f,e⟩:=pR.Bh c c_ _ _ _ _ b.run a.run;rw[iR b.lh a.lh d,iR b.lu a.lu f,iR b.lw a.lw e]
theorem i_.len{w:World}{v:Value}{r c L:Nat}{zs:List Int}(h:i_ w v r c zs L):zs.length=r*c:=by
 obtain⟨_,_,b,_,a⟩:=h;exact a.1
theorem pY.three{w:World}{g:Nat}{x y z:Nat×Nat×List Int}{b c:Option Addr}{t:TypeId}(a:w.heap[g]?=some (.cells #[.int .i64 (x.1:Nat),.int .i64 (x.2.1:Nat),.slice O i l,.int .i64 (y.1:Nat),.int .i64 (y.2.1:Nat),.slice b j m,.int .i64 (z.1:Nat),.int .i64 (z.2.1:Nat),.slice c k n] t (0,0)))(f:i_ w (.agg #[.int .i64 (x.1:Nat),.int .i64 (x.2.1:Nat),.slice O i l]) x.1 x.2.1 x.2.2 200000000)(h:i_ w (.agg #[.int .i64 (y.1:Nat),.int .i64 (y.2.1:Nat),.slice b j m]) y.1 y.2.1 y.2.2 200000000)(o:i_ w (.agg #[.int .i64 (z.1:Nat),.int .i64 (z.2.1:Nat),.slice c k n]) z.1 z.2.1 z.2.2 200000000):pY w g [x,y,z]:=by
 intro e d;match e,d with
 |0,_=>exact⟨O,i,l,by simp[World.cell?,a],by simp[World.cell?,a],by simp[World.cell?,a],f⟩
 |1,_=>exact⟨b,j,m,by simp[World.cell?,a],by simp[World.cell?,a],by simp[World.cell?,a],h⟩
 |2,_=>exact⟨c,k,n,by simp[World.cell?,a],by simp[World.cell?,a],by simp[World.cell?,a],o⟩
theorem s9{b:Nat}{h:Int}{ms:List Hm}{nx:Nat}{w:World}(M:jf w b ms nx)(aF:nx<1000000-5):Calls Tryz.prog 27 #[.pointer (some ⟨b,0,none⟩),.int .i64 h] w λaG au=>∃ao g W ax,aG=.returned (.tuple #[ao,.int .i64 g])/\k7 3 sh ms h W g ax/\q1 w au b 3 nx ms W ax ao:=by
 have k:=a_ M;have aN:=M.1;have aS:=M.lt;clear M;go_in;go_wp2_with fail;go_fit (jS k.e);rintro g p⟨⟨a,c,Y,ad,aj,W,rfl,X⟩,F⟩;have E:=hU p (.cells #[.int .i64 a,.int .i64 c,.slice Y ad aj] 66);have J:=d_ F E;have aW:=F.size;rcases id X with⟨rfl,U,V,n,ar,Z,az,av⟩|⟨rfl,ac⟩
 .have d:=iu (av.below E) J ar Z az;clear X av F E J ar Z az;go_wp2_with fail;go_fit (jl d.f (by omega));rintro g H⟨aH,rfl,ab,f⟩;have aZ:p.heap.size+1<=H.heap.size:=by have:=f.size;simpa using this
  have aJ:H.cell? ⟨p.heap.size,0,none⟩=some (.int .i64 a):=g_ f (by simp);have aM:H.cell? ⟨p.heap.size,1,none⟩=some (.int .i64 c):=g_ f (by simp);have aL:H.cell? ⟨p.heap.size,2,none⟩=some (.slice Y ad aj):=g_ f (by simp);have e:=hO (d.f.below f) (d_ d.g f) ab;clear f ab
  cases aH
  .have aC:f_ (¬hW a c n):=a_ (λh=>by have:=e.l.2 h;cases this);go_wp2;go_ret2;exact⟨_,_,false,[],rfl,.inr ⟨U,V,a,c,n,d.j,d.m,d.x,.inl ⟨aC.e,rfl,rfl,rfl⟩⟩,.inl ⟨rfl,rfl,k.e.below e.g,Fr.I e.g⟩⟩
  .have l:f_ (hW a c n):=a_ (e.l.1 rfl);go_wp2_with fail;go_fit (mg (k.e.below e.g));rintro g au⟨rfl,rfl⟩;obtain⟨S,R⟩:=hQ (ms.countP Option.isNone);have P:=a_ R;rw[<-R];clear R;by_cases aK:S<3
   .have aE:((S:Int)<3):=by omega
    go_wp2;go_ret2;exact⟨_,_,false,[],rfl,.inr ⟨U,V,a,c,n,d.j,d.m,d.x,.inr (.inl ⟨l.e,by rw[<-P.e];exact aK,rfl,rfl,rfl⟩)⟩,.inl ⟨rfl,rfl,k.e.below e.g,Fr.I e.g⟩⟩
   .have aE:¬((S:Int)<3):=by omega
    go_wp2_with fail;go_fit (oe (e.f.tight l.e) l.f l.g l.e.e_ (by omega));rintro g i⟨aV,O,am,v,C,o,rfl,⟨aO,aY,aT,rfl,K,I,N⟩,ap,ag,ak,Q,aB⟩;have aa:rH a c n O am v C o:=⟨K.len,I.len,N.len,ap,ag,ak,aB⟩;obtain⟨B,u,rfl⟩:=K.slice;obtain⟨D,t,rfl⟩:=I.slice;obtain⟨q,A,rfl⟩:=N.slice;have an:=d_ e.g Q;have j:=iu K I N aa an;have aU:=Q.size;clear ap ag Q aJ aM aL K I N ak aB aa an;go_wp2_with fail;obtain⟨G,s⟩:=hQ ((i.alloc (.cells #[.int .i64 a,.int .i64 c,.slice B (a*c) u,.int .i64 a,.int .i64 a,.slice D (a*a) t,.int .i64 a,.int .i64 a,.slice q (a*a) A,.int .i64 O] 74)).alloc (.cells #[.int .i64 a,.int .i64 c,.slice B (a*c) u,.int .i64 a,.int .i64 a,.slice D (a*a) t,.int .i64 a,.int .i64 a,.slice q (a*a) A] 66));rw[<-s];have r:Below i.heap.size i G:=by rw[s];exact(hS).alloc (by simp) _
    have aR:G.heap.size=i.heap.size+1+1:=by rw[s];simp
    have af:G.heap[i.heap.size+1]?=some (.cells #[.int .i64 a,.int .i64 c,.slice B (a*c) u,.int .i64 a,.int .i64 a,.slice D (a*a) t,.int .i64 a,.int .i64 a,.slice q (a*a) A] 66 (0,0)):=by
     rw[s];have:=iP (i.alloc (.cells #[.int .i64 a,.int .i64 c,.slice B (a*c) u,.int .i64 a,.int .i64 a,.slice D (a*a) t,.int .i64 a,.int .i64 a,.slice q (a*a) A,.int .i64 O] 74)) (.cells #[.int .i64 a,.int .i64 c,.slice B (a*c) u,.int .i64 a,.int .i64 a,.slice D (a*a) t,.int .i64 a,.int .i64 a,.slice q (a*a) A] 66);simpa using this
    have al:=d_ j.x r;have ae:pY G (i.heap.size+1) [(a,c,v),(a,a,C),(a,a,o)]:=pY.three (x:=(a,c,v)) (y:=(a,a,C)) (z:=(a,a,o)) af ((j.f.below r).mono (by omega)) ((j.g.below r).mono (by omega)) ((j.j.below r).mono (by omega));have aQ:=j.x.size;have L:=b_ al ae;clear s r af al ae;go_fit (nz (k.e.below L.f) L.i rfl (by omega) (by omega) (by omega) (by have:=P.e;omega) aF);rintro g aP⟨aX,rfl,aI,aD,rfl,aw,ai,aq,aA,ah,ay⟩;have m:=ju aw ai aq aA ah ((Fr.I L.f).trans ay);clear aw ai aq aA ah ay;go_wp2;go_ret2;exact⟨_,_,true,[(a,c,v),(a,a,C),(a,a,o)],rfl,.inr ⟨U,V,a,c,n,d.j,d.m,d.x,.inr (.inr ⟨l.e,by have:=P.e;omega,rfl,rfl,rfl,O,am,v,C,o,rfl,j.m⟩)⟩,.inr ⟨rfl,aI,aD,rfl,by have:=L.f.size;have:=m.f;omega,m.g,m.j,m.m,m.r,m.z⟩⟩
 .have T:=b_ ac J;clear ac J F E X;go_wp2;go_ret2;exact⟨_,_,false,[],rfl,.inl ⟨T.f,rfl,rfl,rfl⟩,.inl ⟨rfl,rfl,k.e.below T.i,Fr.I T.i⟩⟩
section
open R
theorem vY{v u:Value}{zs:List Nat}{w:World}(e:R.Own w v zs)(f:R.Own w u zs):Calls Tryz.prog 216 #[v,u] w λc m=>c=.returned (.bool true)/\Below w.heap.size w m:=by
 obtain⟨p,D,rfl,x,A,-⟩:=e.open_;obtain⟨B,r,rfl,o,y,-⟩:=f.open_;have h:=b_ e f;clear e f;have s:((zs.length:Int)==(zs.length:Int))=true:=by simp
 go_in;go_wp2_with fail;go_loopw [5] (λd wr=>∃a:Nat,a<=zs.length/\d=.int .i64 a/\Below w.heap.size w wr) (λd _=>zs.length-(intOf d).toNat)
 case atStart=>exact⟨0,hR,rfl,hP⟩
 case round=>
  obtain⟨a,t,rfl,b⟩:=hrel;by_cases g:a<zs.length
  .obtain⟨C,rfl,k⟩:=(h.f.below b).at_ rfl a g;obtain⟨z,rfl,l⟩:=(h.i.below b).at_ rfl a g;obtain⟨c,i⟩:=hQ (zs.getD a 0);rw[<-i]at k l;have q:((c:Int)==(c:Int))=true:=by simp
   have j:(a:Int)<(zs.length:Int):=by omega
   have n:=a_ b;clear i b;go_wp2_with fail;go_region;all_goals
    go_wp2;go_roundw;exact⟨a+1,by omega,by go_num,n.e.drew⟩;simp[intOf];omega
  .have j:¬(a:Int)<(zs.length:Int):=by omega
   go_wp2;go_ret;exact⟨rfl,b⟩
theorem tX{i:Nat}{v u:Value}{e:Int}{zs:List Nat}{w:World}(a:R.Own w v zs)(b:R.Own w u zs):Calls Tryz.prog 210 #[.pointer (some ⟨i,0,none⟩),v,.int .i64 e,u,.int .i64 e] w λc f=>c=.returned (.tuple #[v,.int .i64 e])/\Below w.heap.size w f:=by
 obtain⟨l,k,rfl,-⟩:=a.open_;obtain⟨m,j,rfl,-⟩:=b.open_;have g:=b_ a b;clear a b;have n:(e==e)=true:=by simp
 go_in;go_wp2_with fail;go_fit (vY g.f g.i);rintro c o⟨rfl,d⟩;have h:=a_ d;clear d;go_wp2_with fail;go_fit (ma);rintro c f⟨rfl,rfl⟩;go_wp2;go_ret2;exact⟨rfl,h.e⟩
def lS(B:Nat)(w a:World)(g c b n nx:Nat)(ms:List Hm)(f:Bool)(xs:List (Nat×Nat×List Int))(v:Value):Prop:=
 (f=false/\v=.slice none 0 0/\nu B a g c b ms nx/\j5 (tN c b) w a)\/(f=true/\(∃h d,v=.slice (some ⟨h,0,none⟩) n n/\w.heap.size<=h/\d.length=n/\(∀e,e<n->d.getD e 0=nx+e)/\R.Own a v d)/\nu B a g c b (jX ms nx xs) (nx+n)/\j5 (tN c b) w a)
theorem EY{n nx:Nat}{zs ys:List Nat}(g:zs.length=n)(h:ys.length=n)(a:∀c,c<n->zs.getD c 0=nx+c)(b:∀c,c<n->ys.getD c 0=nx+c):zs=ys:=by
 apply sq (by omega);intro d f e;have:=(a d (by omega)).trans (b d (by omega)).symm;simpa[List.getD,f,e]using this
theorem lS.oN{B:Nat}{w a r:World}{n nx:Nat}{ms:List Hm}{x:Bool}{xs:List (Nat×Nat×List Int)}{v u:Value}(h:nu B w i j k ms nx)(G:q1 w W j n nx ms x xs v)(y:q1 W a k n nx ms x xs u)(b:Below a.heap.size a r):lS B w r i j k n nx ms x xs v/\∃e,R.Own a v e/\R.Own a u e:=by
 obtain⟨d,aa,N,m,U,F,s,t⟩:=h;have g:Fr j w W:=by rcases G with⟨-,-,-,l⟩|⟨-,_,_,_,_,_,_,_,_,l⟩<;>exact l
 have c:Fr k W a:=by rcases y with⟨-,-,-,l⟩|⟨-,_,_,_,_,_,_,_,_,l⟩<;>exact l
 have z:Below B w W:=g.ni s (by have:=d.lt;omega);have L:Below B W a:=c.ni t (by have:=z.size;have:=d.lt;omega);have ab:=g.1.size;have ad:=c.1.size;have q:Tw W i j k false:=d.J (g.1.block i d.lt (by simpa using d.ne aa.ty));have T:jf W k ms nx:=N.fr g (Ne.symm m);have O:Tw a i j k false:=q.J (c.1.block i q.lt (by simpa using q.ne T.ty));have J:j5 (tN j k) w r:=((j5.p_ g (.inl rfl)).trans (j5.p_ c (.inr rfl))).trans (j5.I b);have I:=((U.below z).below L).below (b.mono (by have:=z.size;have:=L.size;have:=d.lt;omega));have M:=O.J (b.block i O.lt);rcases G with⟨rfl,rfl,p,-⟩|⟨rfl,o,e,rfl,p,A,E,D,Y,-⟩
 .rcases y with⟨-,rfl,K,-⟩|⟨f,-⟩
  .exact⟨.inl ⟨rfl,rfl,⟨M,(p.fr c m).below b,K.below b,m,I,F,s,t⟩,J⟩,[],R.Own.nil _,R.Own.nil _⟩
  .cases f
 .rcases y with⟨f,-⟩|⟨-,af,ac,rfl,K,Q,X,P,V,-⟩
  .cases f
  .have S:=EY A Q E X;subst S;have Z:o≠k:=by have:=N.lt;omega
   have H:R.Own a (.slice (some ⟨o,0,none⟩) n n) e:=D.J (λae C=>by
    simp[Value.ownBlock]at C;subst C;exact c.1.block o D.lt (λf=>Z (by injection f)))
   exact⟨.inr ⟨rfl,⟨o,e,rfl,p,A,E,H.below b⟩,⟨M,(Y.fr c m).below b,V.below b,m,I,F,s,t⟩,J⟩,e,H,P⟩
theorem xo{B b d c:Nat}{h:Int}{ms:List Hm}{nx:Nat}{w:World}(m:nu B w b d c ms nx)(hd:pq ms)(I:nx<1000000-5):Calls Tryz.prog 163 #[.pointer (some ⟨b,0,none⟩),.int .i64 h] w λi N=>∃C t D v,i=.returned (.tuple #[C,.int .i64 t])/\k7 3 sh ms h D t v/\lS B w N b d c 3 nx ms D v C:=by
 obtain⟨o,q,j,-⟩:=m.1.cells;have a:=b_ m hd;clear m hd;go_in;go_wp2_with fail;go_fit (@s9 d h ms nx _ a.f.2.1 I);rintro i n⟨L,K,ab,S,rfl,F,f⟩;have k:Fr d w n:=by rcases f with⟨-,-,-,z⟩|⟨-,_,_,_,_,_,_,_,_,z⟩<;>exact z
 have u:Tw n b d c false:=a.f.1.J (k.1.block b a.f.1.lt (by simpa using a.f.1.ne a.f.2.1.ty));have H:jf n c ms nx:=a.f.2.2.1.fr k (Ne.symm a.f.2.2.2.1);clear o q j;obtain⟨o,q,j,-⟩:=u.cells;obtain⟨Y,Q,V,rfl⟩:∃p r l,L=.slice p r l:=by rcases f with⟨-,rfl,-⟩|⟨-,_,_,rfl,-⟩<;>exact⟨_,_,_,rfl⟩
 have e:=hO H F f;clear u H F f k;go_wp2_with fail;go_fit (@s9 c h ms nx _ e.f I);rintro i Z⟨O,X,T,P,rfl,s,g⟩;obtain⟨rfl,rfl,rfl⟩:=k7.uniq @zL a.i e.g s;obtain⟨aa,W,R,rfl⟩:∃p r l,O=.slice p r l:=by rcases g with⟨-,rfl,-⟩|⟨-,_,_,rfl,-⟩<;>exact⟨_,_,_,rfl⟩
 have A:=b_ g (lS.oN a.f e.l g hP).2;clear g o q j s;obtain⟨M,x,G⟩:=A.i;have y:=b_ x G;clear x G;go_wp2_with fail;go_fit (@tX b _ _ K M _ y.f y.i);rintro i U⟨rfl,E⟩;have J:=a_ E;clear E;go_wp2;go_ret2;exact⟨_,_,_,_,rfl,e.g,(lS.oN a.f e.l A.f J.e).1⟩
theorem ix.stored{w:World}{g n:Nat}{xs:List Value}(h:ix w t (.slice (some ⟨g,0,none⟩) n i) xs)(k:Nat)(u:Value):ix (w.setCell ⟨g,k,none⟩ u) t (.slice (some ⟨g,0,none⟩) n i) (xs.set k u):=by
 rcases h with⟨a,-⟩|⟨q,r,d,a,m,o,p,f,e⟩
 .simp at a
 .simp only[iC,iH,jj]at a;obtain⟨⟨rfl,-⟩,rfl,rfl⟩:=a;refine .inr ⟨g,i,d.set! k u,by simp,by rw[ja _ _ _ _ _ _ m];simp,by simpa using o,by simpa using p,f,λb c=>?_⟩;rw[vC]at c;have j:=e b c;rw[Array.set!_eq_setIfInBounds,Array.getElem?_setIfInBounds,List.getElem?_set];have l:b<d.size:=by omega
  by_cases a:k=b
  .subst a;simp[l,c]
  .simp[a,j]
theorem Gf{w:World}{W:Nat}{a:Value}{nx:Nat}(h:Lw w W i x y z a nx)(u:Value):Lw (w.setCell ⟨W,5,none⟩ u) W i u y z a nx:=by
 unfold Lw at*;rw[ja _ _ _ _ _ _ h];simp
def CK(w b:World)(W h nx g n:Nat)(d f i j:Value)(e:List Hl):Prop:=∃c,Lw b W h c f i j nx/\ix b 51 c (zZ (e++[(g,n)]))/\ix b 3 (Iw (g,n)) (List.replicate n (.int .i64 (-1-(e.length:Int))))/\j5 (λa=>a=W\/d.ownBlock=some a\/a=g) w b/\∀a,c.ownBlock=some a->d.ownBlock=some a\/w.heap.size<=a
theorem sW{W K nx g n:Nat}{x J Q L:Value}{e:List Hl}{zs:List Nat}{w:World}(i:Lw w W K x J Q L nx)(p:ix w 51 x (zZ e))(A:R.Own w (.slice (some ⟨g,0,none⟩) n n) zs)(am:zs.length=n)(aW:n<=5)(a2:e.length<=1000000):Calls Tryz.prog 164 #[.pointer (some ⟨W,0,none⟩),.slice (some ⟨g,0,none⟩) n n] w λax ae=>ax=.returned (.tuple #[])/\CK w ae W K nx g n x J Q L e:=by
 have o:=R.Own.GS A;have aj:g≠W:=iB o i.ty (by decide);have aK:=o.lt;have aC:=i.lt;have al:ix w 3 (.slice (some ⟨g,0,none⟩) n n) (R.il zs):=ix.vp (B:=0) (by
  have f:(R.il zs).length=zs.length:=by simp[R.il]
  rw[f];exact A)
 obtain⟨ab,ag,rfl,ap,aN,-⟩:=p.shape;rw[vk]at i p ap|-;have ak:∀a,(Value.slice ab e.length ag).ownBlock=some a->a≠g:=λa ac b=>iB (p.own a ac).2 o (by decide) b;have m:=ju i p al ak o am;obtain⟨I,D,v,u,t,y,F⟩:=i.cells;clear i p al ak o A am;go_in;go_wp2_with fail;go_loopw [4] (λC wr=>∃(a:Nat) (h:List Value),a<=n/\C=.int .i64 a/\f_ (h.length=n/\ix wr 3 (.slice (some ⟨g,0,none⟩) n n) h/\j5 (λa=>a=g) w wr/\∀k,k<a->h[k]?=some (.int .i64 (-1-(e.length:Int))))) (λC _=>n-(intOf C).toNat)
 case atStart=>exact⟨0,R.il zs,hR,rfl,a_ ⟨by simp[R.il,m.z],m.j,j5.I hP,λk aB=>by omega⟩⟩
 case round=>
  obtain⟨a,h,ac,rfl,d⟩:=hrel;have H:=m.f.J (d.j.block aC (λb=>aj b.symm));clear I D v u t y F;obtain⟨I,D,v,u,t,y,F⟩:=H.cells;have ad:=a_ H;clear H;have aX:=d.j.size;by_cases s:a<n
  .have ao:(a:Int)<(n:Int):=by omega
   have aR:wr.frozen? ⟨g,a,none⟩=false:=by
    rcases d.g with⟨b,-⟩|⟨aF,a0,aO,b,f,-⟩
    .simp at b
    .simp only[iC,iH,jj]at b;obtain⟨⟨rfl,-⟩,-⟩:=b;simp[World.frozen?,f]
   have aw:∃V,wr.cell? ⟨g,a,none⟩=some V:=by
    obtain⟨aI,aJ,b,-,-,-,aG⟩:=d.g.shape;obtain⟨aF,E,az⟩:=aG a (by rw[d.f];exact s);simp only[iC]at b;obtain⟨ay,-⟩:=b;rw[<-ay]at E;simp only[iH,jj]at E;rw[E.1,az];exact⟨h[a]'(by rw[d.f];exact s),by simp[d.f,s]⟩
   obtain⟨V,aP⟩:=aw;go_wp2;go_roundw
   .obtain⟨M,O,av,ar⟩:=d.e;refine⟨a+1,h.set a (.int .i64 (-1-(e.length:Int))),by omega,by go_num,a_ ⟨by simp[M],O.stored a _,av.trans (j5.tQ (S:=λa=>a=g) (O.own g rfl).2 (by decide) (by decide) rfl _),λk aB=>?_⟩⟩;by_cases T:k=a
    .subst T;simp[M,s]
    .rw[mb (λb=>T b.symm)];exact ar k (by omega)
   simp[intOf];omega
  .have ao:¬(a:Int)<(n:Int):=by omega
   have aD:a=n:=by omega
   subst aD;obtain⟨aq,ah,aa,Y,X⟩:=kO Tryz.II;have r:=hY ah aa Y X;have an:ix wr 51 (.slice ab e.length ag) (zZ e):=m.g.lP d.j (λl c b=>m.m l c b);have N:=a_ an;clear ah aa Y X an;go_wp2_with (at_builtin;refine kj rfl _ _ rfl aq (.slice none 0 0) 24 Tryz.underlying56 r.f r.g r.j r.o rfl rfl (N.e.below ?_) ⟨_,0,none⟩ (.slice (some ⟨g,0,none⟩) a a) rfl ?_ rfl ?_ ?_ ?_)
   .exact hS
   .rw[vk];unfold maxLen;omega
   .rw[vk];omega
   .intro aV ae z;have G:=ve (j:=5) ad.e.ty hS N.e z (by decide);obtain⟨aY,a1,ai,-⟩:=z.1.shape;obtain⟨aS,Z⟩:=hQ ((zZ e++[Value.slice (some ⟨g,0,none⟩) a a]).length);rw[<-Z]at ai;clear Z;subst ai;have q:=ad.e.J G.2.2.1;obtain⟨aU,a3,aZ,aM,aT,aL,aQ⟩:=q.cells;have aH:=b_ G q;clear G q z I D v u t y F;go_wp2;go_end0;obtain⟨⟨au,U,-,aE⟩,q⟩:=aH.e;refine⟨rfl,_,Gf q _,?_,?_,?_,λl c=>?_⟩
    .have:zZ (e++[(g,a)])=zZ e++[Value.slice (some ⟨g,0,none⟩) a a]:=by simp[zZ,Iw]
     rw[this];exact au
    .have aA:h=List.replicate a (.int .i64 (-1-(e.length:Int))):=by
      apply List.ext_getElem?;intro af;rcases iX af a with f|f
      .rw[d.o af f];simp[f]
      .rw[l4 (by rw[d.f];exact f),l4 (by simpa using f)]
     rw[<-aA];refine d.g.lP U (λl c b=>?_);simp[Value.ownBlock]at c;subst c;rcases b with b|b
     .exact aj b
     .exact m.m g b rfl
    .exact(d.j.mono (λl c=>.inr (.inr c))).trans (U.mono (λl c=>by
      rcases c with c|c
      .exact .inl c
      .exact .inr (.inl c)))
    .rcases aE l c with P|P
     .exact .inl P
     .exact .inr (by omega)
theorem zE{ms:List Hm}(a:ms.length=24)(b:0<ms.countP Option.isNone)(nx:Nat)(x:Nat×Nat×List Int)(k:Nat):(oz ms nx x).getD k none=if k=ff ms then some (nx,x)else ms.getD k none:=by
 have:=(q4 a b).1;exact lU (by omega)
theorem pk:∀(e:List Mx) (a:List Hm) (b c:Nat) (d:Nat×Nat×Nat×List Int),a.length=24->e.length<=a.countP Option.isNone->a.getD c none=some d->(jX a b e).getD c none=some d:=by
 intro e;induction e with
 |nil=>intro a b c d _ _ f;exact f
 |cons h e j=>
  intro a b c d g i f;rw[j3]at i;have l:=tM g (by omega) b h;refine j (oz a b h) (b+1) c d (by simp[oz,g]) (by omega) ?_;rw[zE g (by omega),if_neg (λk=>by
   have:=(q4 g (show 0<a.countP Option.isNone by omega)).2.1;rw[<-k,f]at this;cases this)]
  exact f
def BC(ms:List Hm)(nx:Nat)(xs:List Mx)(j:Nat):Nat:=ff (jX ms nx (xs.take j))
theorem mI{xs:List Mx}{ms:List Hm}{nx:Nat}(e:ms.length=24)(m:xs.length<=ms.countP Option.isNone)(j:Nat)(d:j<xs.length):BC ms nx xs j<24/\(jX ms nx xs).getD (BC ms nx xs j) none=some (nx+j,xs.getD j l5):=by
 have i:(xs.take j).length=j:=by simp;omega
 have n:=tu (xs.take j) ms nx e (by omega);have c:(jX ms nx (xs.take j)).length=24:=by rw[wQ];exact e
 have f:=q4 c (by omega);refine⟨f.1,?_⟩;have l:xs=xs.take j++(xs.getD j l5::xs.drop (j+1)):=by
  rw[show xs.getD j l5=xs[j]from by simp[List.getD,d],<-ow d,tz]
 have g:∀(a b:List Mx) (ms:List Hm) (nx:Nat),jX ms nx (a++b)=jX (jX ms nx a) (nx+a.length) b:=by
  intro a;induction a with
  |nil=>intro b ms nx;rfl
  |cons o a h=>intro b ms nx;rw[mS,jX,h,jX,j3,show nx+1+a.length=nx+(a.length+1)from by omega]
 have k:jX ms nx xs=jX (oz (jX ms nx (xs.take j)) (nx+j) (xs.getD j l5)) (nx+j+1) (xs.drop (j+1)):=by
  conv=>lhs;rw[l]
  rw[g,i,jX]
 rw[k];have p:=tM c (show 0<(jX ms nx (xs.take j)).countP Option.isNone by omega) (nx+j) (xs.getD j l5);refine pk _ _ _ _ _ (by simp[oz,c]) (by rw[pJ];omega) ?_;rw[zE c (by omega),if_pos (show BC ms nx xs j=ff (jX ms nx (xs.take j))from rfl)]
variable{E:List o4}
theorem Rel.w5{ms:List Hm}{nx:Nat}(h:Rel E ms nx)(xs:List Mx)(b:List Nat)(k:xs.length<=ms.countP Option.isNone)(l:b.length=xs.length):Rel (E++nB nx xs b) (jX ms nx xs) (nx+xs.length):=by
 have d:∀a,a<=xs.length->Rel (E++nB nx xs (b.take a)) (jX ms nx (xs.take a)) (nx+a):=by
  intro a;induction a with
  |zero=>intro _;simpa[nB,jX]using h
  |succ a e=>
   intro m;have f:=e (by omega);have g:(xs.take a).length=a:=by simp;omega
   have i:(b.take a).length=a:=by simp;omega
   have n:=tu (xs.take a) ms nx h.len (by omega);have c:=q4 (ms:=jX ms nx (xs.take a)) (by rw[wQ];exact h.len) (by omega);have j:=f.push c (xs.getD a l5).1 (xs.getD a l5).2.1 (xs.getD a l5).2.2 (b.getD a 0);rw[show xs.take (a+1)=xs.take a++[xs.getD a l5]from by rw[qU,List.getD,iI (by omega)];rfl,ya,g,show b.take (a+1)=b.take a++[b.getD a 0]from by rw[qU,List.getD,iI (by omega)];rfl,xt,i,<-sx];exact j
 have:=d xs.length c_;rw[ka c_,ka (by omega)]at this;exact this
theorem jL.vj{B:Nat}{w:World}{W:Nat}{ms:List Hm}{nx:Nat}(h:jL B w W i j k ms nx E)(f:j5 (tN j k) w v)(g:Nat)(G:w.heap.size<=g):∃l c d e n,Lw v W i l c d e nx/\ix v 3 c (rB E)/\ix v 164 d (tE E)/\ix v 9 e (tc E)/\(∀b,S4 W c d e b->B<=b/\b<w.heap.size)/\mJ v E (λb=>Vh W l c d e j k b\/b=g)/\Hs v l n (λb=>Vl W c d e j k b\/b=g)/\n.length<=nx/\∀g,l.ownBlock=some g->B<=g/\g<w.heap.size:=by
 obtain⟨y,⟨l,c,d,e,p,q,t,r,F,D,n,z,A⟩,H⟩:=h;have o:∀b s,Ty w b s->s≠103->¬tN j k b:=λb s a C m=>by
  rcases m with m|m
  .exact iB a y.2.1.ty C m
  .exact iB a y.2.2.1.ty C m
 refine⟨l,c,d,e,n,p.J (f.block p.lt (o W _ p.ty (by decide))),q.lP f (λb a=>o b _ (q.own b a).2 (by decide)),t.lP f (λb a=>o b _ (t.own b a).2 (by decide)),r.lP f (λb a=>o b _ (r.own b a).2 (by decide)),λb a=>⟨F b a,?_⟩,D.lP f (λb a=>.inl (.inr a)) (λb a=>?_),z.lP f (λb a=>.inr a) (λb a=>?_),A.1,λx u=>⟨A.2 x u,(z.1.own x u).1⟩⟩
 .rcases a with a|a|a|a
  .rw[a];exact p.lt
  .exact(q.own b a).1
  .exact(t.own b a).1
  .exact(r.own b a).1
 .rcases a with a|a
  .exact .inl a
  .exact .inr (by omega)
 .rcases a with a|a
  .exact .inl a
  .exact .inr (by omega)
theorem sL{B W nx g n:Nat}{f ay:Value}{r:List Hl}{ms:List Hm}{xs:List Mx}{w q:World}(A:nu B w i j k (jX ms nx xs) (nx+n))(aI:xs.length=n)(a8:1<=n)(aU:n<=5)(aB:Rel E ms nx)(a5:n<=ms.countP Option.isNone)(aE:Lw w W i x y z f nx)(aZ:ix w 3 y (rB E))(aV:ix w 164 z (tE E))(aG:ix w 9 f (tc E))(u:∀a,S4 W y z f a->B<=a/\a<l)(aY:mJ w E (λa=>Vh W x y z f j k a\/a=g))(R:Hs w x r (λa=>Vl W y z f j k a\/a=g))(bf:r.length<=nx)(G:∀e,x.ownBlock=some e->B<=e/\e<l)(aA:g<w.heap.size)(a9:l<=g)(aF:Ty w g 3)(bc:B<=l)(aH:X.length=n)(a2:∀s,s<n->mK (xs.getD s l5).1 (xs.getD s l5).2.1 (xs.getD s l5).2.2)(aT:KN w W i x y z f nx E xs X ay v)(aN:∀p m o,Lw v W i x p m o (nx+n)->CK v q W i (nx+n) g n x p m o r):jL B q W i j k (jX ms nx xs) (nx+n) (E++nB nx xs X)/\Below B w q/\j5 (λa=>S4 W y z f a\/x.ownBlock=some a\/a=g) w q:=by
 obtain⟨p,m,o,⟨bb,a4⟩,⟨L,ae,am,ah⟩,P,ax,D⟩:=aT;rw[aH]at L;obtain⟨U,af,ar,aw,t,V⟩:=aN p m o L;have a6:=D.size;have bg:=t.size;have a7:j<w.heap.size:=A.2.1.ty.lt;have ba:k<w.heap.size:=A.2.2.1.ty.lt;have ao:∀a,S4 W p m o a->(a<l\/w.heap.size<=a)/\B<=a:=λa b=>by
  rcases P a b with c|c
  .exact⟨.inl (u a c).2,(u a c).1⟩
  .exact⟨.inr c,by omega⟩
 have aa:∀a d,Ty w a d->d≠129->d≠3->d≠164->d≠9->¬S4 W y z f a:=λa d b K H I ab c=>by
  rcases c with c|c|c|c
  .exact iB b aE.ty K c
  .exact iB b (aZ.own a c).2 H rfl
  .exact iB b (aV.own a c).2 I rfl
  .exact iB b (aG.own a c).2 ab rfl
 have O:nu B v i j k (jX ms nx xs) (nx+n):=A.lP D (aa i _ ⟨_,_,A.1⟩ (by decide) (by decide) (by decide) (by decide)) (aa j _ A.2.1.ty (by decide) (by decide) (by decide) (by decide)) (aa k _ A.2.2.1.ty (by decide) (by decide) (by decide) (by decide)) (λa b=>(u a b).1);have aJ:¬S4 W y z f g:=λc=>by have:=(u g c).2;omega
 have aM:Ty v g 3:=by
  obtain⟨aW,aC,e⟩:=aF;exact⟨aW,aC,by rw[D.block aA aJ];exact e⟩
 have T:ix v 51 x (zZ r):=R.1.lP D (λa b aR=>R.2.1 a b (.inl (.inl aR)));have J:∀a d,Ty v a d->d≠129->d≠51->d≠3->¬(a=W\/x.ownBlock=some a\/a=g):=λa d b K H I c=>by
  rcases c with c|c|c
  .exact iB b L.ty K c
  .exact iB b (T.own a c).2 H rfl
  .exact iB b aM I c
 have aS:∀a,(a=W\/x.ownBlock=some a\/a=g)->B<=a:=λa b=>by
  rcases b with b|b|b
  .rw[b];exact(u W (.inl rfl)).1
  .exact(G a b).1
  .omega
 have M:nu B q i j k (jX ms nx xs) (nx+n):=O.lP t (J i _ ⟨_,_,O.1⟩ (by decide) (by decide) (by decide)) (J j _ O.2.1.ty (by decide) (by decide) (by decide)) (J k _ O.2.2.1.ty (by decide) (by decide) (by decide)) aS;have ap:∀a,S4 W p m o a->a≠g:=λa b aP=>by
  rcases(ao a b).1 with c|c<;>omega
 have au:ix q 3 p (rB (E++nB nx xs X)):=ae.lP t (λa b c=>by
  rcases c with c|c|c
  .exact iB (ae.own a b).2 L.ty (by decide) c
  .exact iB (ae.own a b).2 (T.own a c).2 (by decide) rfl
  .exact ap a (.inr (.inl b)) c)
 have ag:ix q 164 m (tE (E++nB nx xs X)):=am.lP t (λa b=>J a _ (am.own a b).2 (by decide) (by decide) (by decide));have Z:ix q 9 o (tc (E++nB nx xs X)):=ah.lP t (λa b=>J a _ (ah.own a b).2 (by decide) (by decide) (by decide));have a0:∀a,(Vh W U p m o j k a\/a=g)->(Vh W x y z f j k a\/a=g)\/w.heap.size<=a:=λa b=>by
  rcases b with((b|b)|b)|b
  .rcases P a b with c|c
   .exact .inl (.inl (.inl (.inl c)))
   .exact .inr c
  .exact .inl (.inl (.inl (.inr b)))
  .rcases V a b with c|c
   .exact .inl (.inl (.inr c))
   .exact .inr (by omega)
  .exact .inl (.inr b)
 have ad:j5 (λa=>S4 W y z f a\/x.ownBlock=some a\/a=g) w q:=(D.mono (λa b=>.inl b)).trans (t.mono (λa b=>by
  rcases b with b|b|b
  .exact .inl (.inl b)
  .exact .inr (.inl b)
  .exact .inr (.inr b)))
 have aK:Below B w q:=ad.below (λa b=>by
  rcases b with b|b|b
  .exact(u a b).1
  .exact(G a b).1
  .omega) (by omega)
 have az:∀a d,Ty q a d->d≠129->d≠3->d≠164->d≠9->d≠103->¬Vl W p m o j k a:=λa d b K H I ab av c=>by
  rcases c with(c|c|c|c)|c|c
  .exact iB b af.ty K c
  .exact iB b (au.own a c).2 H rfl
  .exact iB b (ag.own a c).2 I rfl
  .exact iB b (Z.own a c).2 ab rfl
  .exact iB b M.2.1.ty av c
  .exact iB b M.2.2.1.ty av c
 refine⟨⟨M,⟨U,p,m,o,af,au,ag,Z,λa b=>(ao a b).2,mJ.app ?_ (λaP al=>?_),r++[(g,n)],⟨ar,λe h=>az e _ (ar.own e h).2 (by decide) (by decide) (by decide) (by decide) (by decide),λC N=>?_⟩,by simp;omega,λe h=>?_⟩,aI▸aB.w5 xs X (by omega) (by omega)⟩,aK,ad⟩
 .have ac:=aY.lP (S:=λa=>S4 W y z f a\/x.ownBlock=some a\/a=g) (V':=Vh W U p m o j k) ad (λa b=>by
   rcases b with b|b|b
   .exact .inl (.inl (.inl b))
   .exact .inl (.inr b)
   .exact .inr b) (λa b=>a0 a (.inl b))
  exact ac
 .unfold nB at al;obtain⟨s,aX,rfl⟩:=kt.1 al;have aO:s<X.length:=jB.1 aX;obtain⟨aL,N,be,ak,an⟩:=ax s aO;have bd:N<=v.heap.size:=by obtain⟨_,_,_,_,_,a1⟩:=ak;exact a1
  refine⟨_,_,_,aL,N,rfl,a2 s (by omega),ak.lP t (λa b=>?_),λe h=>?_⟩
  .rcases b with b|b|b
   .exact an a (.inl (.inl b))
   .exact .inl (by have:=(G a b).2;omega)
   .exact .inl (by omega)
  .rcases h with(h|h)|h
   .exact an e (.inl h)
   .rcases h with h|h<;>exact .inl (by omega)
   .rcases V e h with c|c
    .exact .inl (by have:=(G e c).2;omega)
    .exact .inr (by omega)
 .rw[j6,nn]at N;by_cases aq:C<r.length
  .have Y:(r++[(g,n)]).getD C (0,0)=r.getD C (0,0):=by simp[List.getD,lQ aq]
   rw[Y];have ac:=R.lP (S:=S4 W y z f) (V':=λa=>Vl W p m o j k a\/a=g) D (λa b=>.inl (.inl b)) (λa b=>by
    rcases b with(b|b)|b
    .rcases P a b with c|c
     .exact .inl (.inl (.inl c))
     .exact .inr c
    .exact .inl (.inl (.inr b))
    .exact .inl (.inr b))
   obtain⟨aQ,aj,Q⟩:=ac.2.2 C aq;refine⟨aQ,λa3=>aj (.inl a3),Q.lP t (λa b c=>?_)⟩;have aD:=(vh _ _).1 b;rcases c with c|c|c
   .exact iB (Q.own a b).2 L.ty (by decide) c
   .exact iB (Q.own a b).2 (T.own a c).2 (by decide) rfl
   .exact aj (.inr (by rw[<-aD];exact c))
  .have ai:C=r.length:=by omega
   have Y:(r++[(g,n)]).getD C (0,0)=(g,n):=by simp[List.getD,ai]
   rw[Y,ai];refine⟨aU,λc=>?_,aw⟩;have F:=(aw.own g ((vh _ _).2 rfl)).2;rcases c with(c|c|c|c)|c|c
   .exact iB F af.ty (by decide) c
   .exact ap g (.inr (.inl c)) rfl
   .exact iB F (ag.own g c).2 (by decide) rfl
   .exact iB F (Z.own g c).2 (by decide) rfl
   .exact iB F M.2.1.ty (by decide) c
   .exact iB F M.2.2.1.ty (by decide) c
 .rcases V e h with c|c
  .exact(G e c).1
  .omega
theorem E3{z:Int}{m:Nat}(h:z.natAbs<2^(16*m)):z.natAbs<10^(5*m)/\z.natAbs<10000^(2*m):=by
 have a:2^(16*m)=(65536:Nat)^m:=by rw[qb]
 have c:10^(5*m)=(100000:Nat)^m:=by rw[qb]
 have b:10000^(2*m)=(100000000:Nat)^m:=by rw[qb]
 rw[a]at h;rw[c,b];exact⟨l_ h (vH (by decide) m),l_ h (vH (by decide) m)⟩
theorem R.kB.fit{w:World}{v:Value}{z:Int}{L K:Nat}(h:kB w v z L)(n:z.natAbs<10000^K):kB w v z K:=by
 obtain⟨neg,j,b,f,g,d,e,c,m⟩:=h;refine⟨neg,j,b,f,g,d,e,c,?_⟩;rcases iX K b.length with a|a
 .exfalso;have o:=R.oY d (by intro i;rw[i]at a;simp at a);have l:10000^K<=10000^(b.length-1):=jb (by decide) (by omega);have k:z.natAbs=R.val b:=by
   cases neg
   .rw[c];simp
   .rw[c];simp
  omega
 .exact a
theorem R.jO.fit{B:Nat}{w:World}{b r c:Nat}{f:Nat->Nat->Int}{L m:Nat}(h:jO B w b r c o f L)(v:∀a d,a<r->d<c->(f a d).natAbs<2^(16*m)):jO B w b r c o f (2*m):=by
 obtain⟨y,s,u,z,g,x⟩:=h;refine⟨y,s,u,z,λa e=>⟨(g a e).1,?_⟩,x⟩;obtain⟨j,k,n,C⟩:=(g a e).2;refine⟨j,k,n,λd i=>?_⟩;obtain⟨A,b,l,t,p,q⟩:=C d i;exact⟨A,b,l,t,p.fit (E3 (v a d e i)).2,q⟩
theorem ks{r c m:Nat}{zs:List Int}(d:r<=4)(f:c<=4)(e:zs.length=r*c)(g:∀a,a<r*c->(zs.getD a 0).natAbs<2^(16*(m+1)))(h:m<=399999999):mK r c zs:=
 wW (k:=5*m+4) d f e (λa b=>(E3 (g a b)).1) (by omega)
end
namespace R
theorem jO.FY{B:Nat}{w:World}{b r c:Nat}{f:Nat->Nat->Int}{L:Nat}(h:jO B w b r c o f L){i:Nat}(g:i<r):b≠o i:=by
 obtain⟨l,p,a,m,j,k⟩:=h;obtain⟨n,d,-⟩:=(j i g).2;intro e;rw[e,d]at a;simp at a
theorem jO.I3{B:Nat}{w:World}{b r c:Nat}{f:Nat->Nat->Int}{L:Nat}(h:jO B w b r c o f L){i j:Nat}(p:i<r)(q:j<c){x y:Value}{z:Int}(A:kB w (.agg #[x,y]) z L)(v:w.cell? ⟨b,2,none⟩=some (.slice (some ⟨l,0,none⟩) r m)){k:Nat}(u:k<r):((w.setCell ⟨o i,2*j,none⟩ x).setCell ⟨o i,2*j+1,none⟩ y).cell? ⟨b,2,none⟩=some (.slice (some ⟨l,0,none⟩) r m)/\((w.setCell ⟨o i,2*j,none⟩ x).setCell ⟨o i,2*j+1,none⟩ y).cell? ⟨l,k,none⟩=some (.slice (some ⟨o k,0,none⟩) c c):=by
 have n:=h.FY p;have a:((w.setCell ⟨o i,2*j,none⟩ x).setCell ⟨o i,2*j+1,none⟩ y).cell? ⟨b,2,none⟩=some (.slice (some ⟨l,0,none⟩) r m):=by
  rw[jZ _ _ _ _ (λg=>n (by injection g with a;exact a.symm)),jZ _ _ _ _ (λg=>n (by injection g with a;exact a.symm))];exact v
 refine⟨a,?_⟩;obtain⟨-,C,E,-,-,e,-,-,s,-⟩:=((h.xl hR).set p q A (tZ.zero _)).open_;rw[a]at e;simp only[iH,iC]at e;obtain⟨D,d,t⟩:=s k u;rw[<-e.1]at d;simp only[iH,jj,jh]at d;rw[d];exact t
def CI(n:Nat)(g:Nat->Nat->Int):Prop:=∀a b,g a b=if a=b/\a<n then 1 else 0
theorem CI.next{n:Nat}{g:Nat->Nat->Int}(h:CI n g):CI (n+1) (uV g n n 1):=λa b=>by
 unfold uV;rw[h a b];grind
theorem Hy{b r:Nat}{f:Nat->Nat->Int}{B L:Nat}{w:World}(h:jO B w b r r o f L)(O:∀c g,c<r->g<r->f c g=if c=g then 1 else 0)(Z:L<=50000000000)(au:4<=L)(P:r<=99):Calls Tryz.prog 211 #[.pointer (some ⟨b,0,none⟩)] w λy e=>y=.returned (.bool true)/\Below w.heap.size w e:=by
 have x:=b_ h O;obtain⟨az,Y,ag,C,N,F,-⟩:=h.open_;clear h O;go_in;go_upto_region 1 with fail
 go_cut [3]from 6 to 15 (λac E=>ac=.pointer (some ⟨w.heap.size,0,none⟩)/\(∃j,jO w.heap.size E w.heap.size r r j (λ_ _=>0) 0)/\Below w.heap.size w E)
 case first=>
  go_region_held3 (λe=>e.cell? ⟨b,0,none⟩=some (.int .i64 r)) (first|go_keep|exact g_ hb2 C) (first|(go_at_call 174;refine(@mw r r _ (by omega) (by omega)).mono ?_;rintro y s⟨rfl,al,hb2⟩));all_goals
   go_wp2_with fail;go_meet
   case rel=>exact⟨rfl,al,(kQ w.heap.size w).drew.trans hb2⟩
 case rest=>
  obtain⟨rfl,⟨j,i⟩,Q⟩:=hcut;have M:=i.tH;have ae:=a_ M;have R:=b_ ((i.xl hR).mono (AW L)) Q;clear i Q M C N F;go_wp2_with fail;go_loopw [4] (λc wr=>∃(a:Nat) (m:Nat->Nat->Int),a<=r/\c=.int .i64 a/\jO 0 wr w.heap.size r r j m L/\Below w.heap.size w wr/\f_ (CI a m)) (λc _=>r-(intOf c).toNat)
  case atStart=>exact⟨0,_,hR,rfl,R.f,R.i,a_ (λc g=>by simp)⟩
  case round=>
   rename World=>l;obtain⟨a,m,ar,rfl,i,n,X⟩:=hrel;obtain⟨-,Y,ag,C,N,F,-⟩:=(x.f.hV (KR.I n)).open_;obtain⟨-,aD,V,aL,aQ,T,av,aG,I,J⟩:=i.open_;have k:=b_ i n;have z:=n.size;clear i n;by_cases d:a<r
   .have aF:(a:Int)<(r:Int):=by omega
    obtain⟨p,rfl,af⟩:=I a d;obtain⟨aC,aK,ax,ap,u,A,q,v,-⟩:=J a a d d;rw[ij 2]at u A q v;clear I J;have ah:=a_ (show∀e,Below l.heap.size l e->e.cell? ⟨w.heap.size,2,none⟩=some (.slice (some ⟨p,0,none⟩) r V)/\e.cell? ⟨p,a,none⟩=some (.slice (some ⟨j a,0,none⟩) r r)from λe W=>⟨g_ W T,g_ W af⟩);have H:j a<l.heap.size:=(k.f.tH a d).2;have aM:=ju H z u A q v;clear H z u A q v;go_wp2_with fail;go_region_held3 (λe=>e.cell? ⟨w.heap.size,2,none⟩=some (.slice (some ⟨p,0,none⟩) r V)/\e.cell? ⟨p,a,none⟩=some (.slice (some ⟨j a,0,none⟩) r r)) (first|exact hk9|exact ah.e _ (by first|exact hb9|exact hP.drew)) (first|(go_at_call 207;refine(@pX 1 _ (by omega)).mono ?_;rintro y s⟨aJ,rfl,D,hb2⟩;obtain⟨aI,ay,aw,aP,rfl,-⟩:=D.parts;have hb9:Below l.heap.size l s:=hP.drew.trans hb2;have t:=k.f.hV (KR.I hb9);obtain⟨-,aA,aH,-,-,-,-,-,-,U⟩:=t.open_;obtain⟨aR,aB,aq,aO,an,ad,am,ak,-⟩:=U a a d d;rw[ij 2]at an ad am ak;have hk9:=t.I3 d d (D.mono (show 3<=L by omega)) (g_ hb9 T) d;rw[ij 2]at hk9;clear hb2 U));all_goals
     go_wp2;go_roundw
     .have G:=t.set d d (D.mono (show 3<=L by omega)) (tZ.zero _);rw[ij 2]at G;have S:=(ae.e a d).1;have aa:Below w.heap.size w s:=d_ k.i hb9;exact⟨a+1,_,by omega,by go_num,G,(aa.setCell S _).setCell S _,a_ (X.e.next)⟩
     simp[intOf];omega
   .go_wp2_with fail;go_fit (@lM b r r o f B w.heap.size j m 0 L _ (x.f.hV (KR.I k.i)) k.f (λc g ai aj=>by rw[x.i c g ai aj,X.e c g];by_cases ab:c=g<;>simp[ab];omega) Z P P);rintro aE aN⟨rfl,K⟩;have ao:=a_ (k.i.trans (K.mono z));clear K;go_wp2;go_ret;exact⟨rfl,ao.e⟩
structure Jh (f:Nat->Nat->Int) (r c k:Nat) (pc:Nat->Nat):Prop where
 le:k<=r
 lY:∀i,i<k->pc i<c
 up:∀a b,a<b->b<k->pc a<pc b
 left:∀i,i<k->∀j,j<pc i->f i j=0
 pos:∀i,i<k->0<f i (pc i)
 qp:∀a i,a<i->i<k->0<=f a (pc i)/\f a (pc i)<f i (pc i)
 rest:∀i,k<=i->i<r->∀j,j<c->f i j=0
def KE(k:Nat)(pc:Nat->Nat)(i:Nat)(a:Int):Prop:=(i<k->a<(pc i:Int))
theorem Gy{z:Int}(h:0<z):oi z=1:=by unfold oi;grind
theorem ux{b r c:Nat}{m:Nat->Nat}{f:Nat->Nat->Int}{B L k:Nat}{pc:Nat->Nat}{w:World}(h:jO B w b r c m f L)(W:Jh f r c k pc)(aj:L<=50000000000)(a4:r<=99)(ba:c<=99):Calls Tryz.prog 165 #[.pointer (some ⟨b,0,none⟩)] w λa g=>a=.returned (.bool true)/\Below w.heap.size w g:=by
 have x:=b_ h W;obtain⟨a2,O,H,o,n,l,-⟩:=h.open_;clear h W;go_in;go_wp2_with fail;go_loopw [3,4] (λaV ad wr=>∃(d:Nat) (Y:Int),d<=r/\ad=.int .i64 d/\aV=.int .i64 Y/\f_ (KE k pc d Y)/\Below w.heap.size w wr) (λ_ ad _=>r-(intOf ad).toNat)
 case atStart=>exact⟨0,-1,hR,rfl,rfl,a_ (λ_=>by omega),hP⟩
 case round=>
  rename World=>aZ;obtain⟨d,Y,aX,rfl,rfl,aD,j⟩:=hrel;clear o n l;obtain⟨-,O,H,o,n,l,-⟩:=(x.f.hV (KR.I j)).open_;have ac:=a_ j;clear j;by_cases E:d<r
  .by_cases N:d<k
   .obtain⟨G,S⟩:=hQ (pc d);have aY:G<c:=by rw[S];exact x.i.lY d N
    have a3:Y<(G:Int):=by rw[S];exact aD.e N
    have Q:=a_ S;clear S;go_wp2_with fail;go_loopw [5] (λp wr=>∃a:Nat,a<=G/\p=.int .i64 a/\Below w.heap.size w wr) (λp _=>G-(intOf p).toNat)
    case atStart=>exact⟨0,hR,rfl,ac.e⟩
    case round=>
     rename World=>aH;obtain⟨a,W,rfl,j⟩:=hrel;clear o n l;obtain⟨-,O,H,o,n,l,ah,ag,q,u⟩:=(x.f.hV (KR.I j)).open_;have K:=a_ j;clear j;have I:a<c:=by omega
     have aL:(d:Int)<(r:Int):=by omega
     have aI:(a:Int)<(c:Int):=by omega
     obtain⟨C,rfl,A⟩:=q d E;obtain⟨U,X,T,P,s,v,-,-,D⟩:=u d a E I;rw[ij 2]at s v;have y:=a_ D;clear D q u;by_cases a6:a<G
     .have z:oi (f d a)=0:=by rw[x.i.left d N a (by have:=Q.e;omega)];rfl
      go_wp2_with fail;go_fit (kp y.e);rintro V R⟨rfl,i⟩;have M:=a_ (d_ K.e i);rw[z];clear i o n l A s v z;go_wp2;go_roundw;exact⟨a+1,by omega,by go_num,M.e⟩;simp[intOf];omega
     .obtain rfl:a=G:=by omega
      have z:oi (f d a)=1:=Gy (by rw[Q.e];exact x.i.pos d N);go_wp2_with fail;go_fit (kp y.e);rintro V R⟨rfl,i⟩;have M:=a_ (d_ K.e i);have aE:=a_ (y.e.below i);have aF:=g_ i o;have aB:=g_ i n;have aT:=g_ i l;have aK:=g_ i A;have aR:=g_ i s;have aP:=g_ i v;rw[z];clear i o n l A s v;go_wp2_with fail;go_fit (kp aE.e);rintro V a9⟨rfl,ak⟩;have aO:=a_ (d_ M.e ak);rw[z];clear ak aF aB aT aK aR aP z;go_wp2_with fail;go_loopw [7,8] (λ_ p wr=>∃e:Nat,e<=d/\p=.int .i64 e/\Below w.heap.size w wr) (λ_ p _=>d-(intOf p).toNat)
      case atStart=>exact⟨0,hR,rfl,aO.e⟩
      case round=>
       rename World=>a1;obtain⟨e,a7,rfl,j⟩:=hrel;obtain⟨-,O,H,o,n,l,ah,ag,q,u⟩:=(x.f.hV (KR.I j)).open_;have ax:=a_ j;clear j;by_cases aQ:e<d
       .have an:e<r:=by omega
        have a0:(e:Int)<(r:Int):=by omega
        have bb:(e:Int)<(d:Int):=by omega
        obtain⟨C,rfl,A⟩:=q d E;obtain⟨U,X,T,P,s,v,-,-,D⟩:=u d a E I;obtain⟨aW,av,ai⟩:=q e an;simp only[iH,jj,jh]at av;subst av;obtain⟨al,aw,ar,am,af,ae,-,-,aq⟩:=u e a an I;rw[ij 2]at s v af ae;have y:=b_ aq D;clear D aq q u;have ao:=a_ (show 0<=f e a/\f e a<f d a by rw[Q.e];exact x.i.qp e d aQ N);obtain⟨aN,Z⟩:=hQ (oi (f e a));have a5:0<=aN:=by have:=ao.f;rw[Z];unfold oi;grind
        go_wp2_with fail;go_fit (kp y.f);rintro V J⟨rfl,t⟩;rw[<-Z];have au:=a_ (show∀g,Below J.heap.size J g->g.cell? ⟨b,2,none⟩=some (.slice (some ⟨C,0,none⟩) r H)/\g.cell? ⟨C,d,none⟩=some (.slice (some ⟨m d,0,none⟩) c c)/\g.cell? ⟨m d,a*2,none⟩=some (.bool U)/\g.cell? ⟨m d,a*2+1,none⟩=some (.slice X T P)/\g.cell? ⟨C,e,none⟩=some (.slice (some ⟨m e,0,none⟩) c c)/\g.cell? ⟨m e,a*2,none⟩=some (.bool al)/\g.cell? ⟨m e,a*2+1,none⟩=some (.slice aw ar am)from λg F=>⟨g_ F (g_ t l),g_ F (g_ t A),g_ F (g_ t s),g_ F (g_ t v),g_ F (g_ t ai),g_ F (g_ t af),g_ F (g_ t ae)⟩);have aa:=hO (d_ ax.e t) (y.f.below t) (y.i.below t);have ab:=au.e J hP;obtain⟨ab,az,aA,aC,aU,aG,aM⟩:=ab;clear t o n l A s v ai af ae Z;go_upto_region 20 with fail
        go_cut [9]from 84 to 105 (λaJ ay=>aJ=.int .i64 (-1)/\Below w.heap.size w ay)
        case first=>
         go_region_held3 (λg=>g.cell? ⟨b,2,none⟩=some (.slice (some ⟨C,0,none⟩) r H)/\g.cell? ⟨C,d,none⟩=some (.slice (some ⟨m d,0,none⟩) c c)/\g.cell? ⟨m d,a*2,none⟩=some (.bool U)/\g.cell? ⟨m d,a*2+1,none⟩=some (.slice X T P)/\g.cell? ⟨C,e,none⟩=some (.slice (some ⟨m e,0,none⟩) c c)/\g.cell? ⟨m e,a*2,none⟩=some (.bool al)/\g.cell? ⟨m e,a*2+1,none⟩=some (.slice aw ar am)) (exact au.e _ (by first|exact hb9|exact hP.drew)) (first|(go_at_call 200;refine(mc _ _ (f e a) (f d a) L L _ (aa.g.below (hP.drew)) (aa.l.below (hP.drew)) aj aj).mono ?_;rintro a R⟨rfl,i⟩;have hb9:Below J.heap.size J R:=hP.drew.trans i;clear i));all_goals
          go_wp2_with fail;go_meet
          case rel=>
           refine⟨?_,d_ aa.f hb9⟩;have:oi (f e a-f d a)=-1:=by have:=ao.i;unfold oi;grind
           rw[this]
        case rest=>
         obtain⟨rfl,ap⟩:=hcut;have aS:=a_ ap;clear ap ab az aA aC aU aG aM;go_wp2;go_roundw;exact⟨e+1,by omega,by go_num,aS.e⟩;simp[intOf];omega
       .clear q u;go_wp2;go_roundw;exact⟨d+1,_,by omega,by go_num,rfl,a_ (λh=>by have:=x.i.up d (d+1) (by omega) h;have:=Q.e;omega),ax.e⟩;simp[intOf];omega
   .go_wp2_with fail;go_loopw [5] (λp wr=>∃a:Nat,a<=c/\p=.int .i64 a/\Below w.heap.size w wr) (λp _=>c-(intOf p).toNat)
    case atStart=>exact⟨0,hR,rfl,ac.e⟩
    case round=>
     rename World=>aH;obtain⟨a,W,rfl,j⟩:=hrel;clear o n l;obtain⟨-,O,H,o,n,l,ah,ag,q,u⟩:=(x.f.hV (KR.I j)).open_;have K:=a_ j;clear j;by_cases I:a<c
     .have aL:(d:Int)<(r:Int):=by omega
      have aI:(a:Int)<(c:Int):=by omega
      obtain⟨C,rfl,A⟩:=q d E;obtain⟨U,X,T,P,s,v,-,-,D⟩:=u d a E I;rw[ij 2]at s v;have y:=a_ D;clear D q u;have z:oi (f d a)=0:=by rw[x.i.rest d (by omega) E a I];rfl
      go_wp2_with fail;go_fit (kp y.e);rintro V R⟨rfl,i⟩;have M:=a_ (d_ K.e i);rw[z];clear i o n l A s v z;go_wp2;go_roundw;exact⟨a+1,by omega,by go_num,M.e⟩;simp[intOf];omega
     .obtain rfl:a=c:=by omega
      clear q u;have a8:((a:Int)==(a:Int))=true:=by simp
      go_wp2;go_roundw;exact⟨d+1,_,by omega,by go_num,rfl,a_ (λh=>by omega),K.e⟩;simp[intOf];omega
  .go_wp2;go_ret;exact⟨rfl,ac.e⟩
end R
section
open R
theorem qB{b b' n L:Nat}{q A:Nat->Nat}{f k:Nat->Nat->Int}{B u:Nat}{w:World}(h:jO B w b n n q f L)(c:jO u w b' n n A k L)(a:n<=8)(H:L<=15000000000)(i:∀d e,d<n->e<n->dot f k d e n=if d=e then 1 else 0):Calls Tryz.prog 166 #[.pointer (some ⟨b,0,none⟩),.pointer (some ⟨b',0,none⟩),.int .i64 n] w λp x=>p=.returned (.bool true)/\Below w.heap.size w x:=by
 have g:=hO h c i;obtain⟨-,C,K,v,y,-⟩:=h.open_;obtain⟨-,I,D,t,z,-⟩:=c.open_;clear h c i;have E:((n:Int)==(n:Int))=true:=by simp
 go_in;go_wp2_with fail;try go_quiet (fail)
 go_wp2_with fail;go_fit (kn g.f g.g a a a (by omega));rintro r F⟨rfl,⟨G,j⟩,l⟩;have o:=b_ j l;clear j l v y t z;go_wp2_with fail;go_fit (Hy o.f g.l (by omega) (by omega) (by omega));rintro r J⟨rfl,m⟩;have s:=a_ (d_ o.i m);clear m;go_wp2;go_ret;exact⟨rfl,s.e⟩
theorem sR(ms:List Hm):Bg ms+ms.countP Option.isNone=ms.length:=by
 unfold Bg;induction ms with
 |nil=>rfl
 |cons b ms a=>
  cases b with
  |none=>simp at a|-;omega
  |some c=>simp at a|-;omega
variable{E:List o4}
theorem tR{n:Nat}{y:Nat->Nat->List Int->List (Nat×Nat×List Int)->Prop}{ms:List Hm}{h e:Int}{v:Value}{xs:List (Nat×Nat×List Int)}(hd:pq ms)(s:EL E ms false h v a)(k:k7 n y ms h u e xs):(u=false/\e=a/\(a=2\/a=4))\/(u=false/\e=5/\a=0/\ms.countP Option.isNone<n)\/(u=true/\e=0/\a=0/\n<=ms.countP Option.isNone/\∃d c g i j,d∈E/\c<24/\ms.getD c none=some (d.1,g,i,j)/\hW g i j/\v=.pointer (some ⟨d.2.2,0,none⟩)/\xs.length=n/\y g i j xs):=by
 rcases s with⟨t,rfl⟩|⟨d,c,g,i,j,z,r,m,C,s⟩
 .rcases k with⟨-,rfl,rfl,-⟩|⟨l,x,B,F,H,q,f,w,-⟩
  .exact .inl ⟨rfl,rfl,.inl rfl⟩
  .exact absurd w (t l q _ f)
 .rcases k with⟨t,-⟩|⟨l,x,B,F,H,q,f,w,k⟩
  .exact absurd C (t c r _ m)
  .have A:c=l:=hd c l _ _ r q m f (by show d.1=x;omega);subst A;rw[m]at f;simp only[iH,lN]at f;obtain⟨rfl,rfl,rfl,rfl⟩:=f;rcases s with⟨b,-⟩|⟨-,o,rfl⟩|⟨-,b,rfl,rfl⟩
   .cases b
   .rcases k with⟨-,rfl,rfl,-⟩|⟨b,-⟩|⟨b,-⟩
    .exact .inl ⟨rfl,rfl,.inr rfl⟩
    .exact absurd b o
    .exact absurd b o
   .rcases k with⟨o,-⟩|⟨-,p,rfl,rfl,-⟩|⟨-,p,rfl,rfl,G,D⟩
    .exact absurd b o
    .exact .inr (.inl ⟨rfl,rfl,rfl,p⟩)
    .exact .inr (.inr ⟨rfl,rfl,rfl,p,d,c,g,i,j,z,r,m,b,rfl,G,D⟩)
theorem pW(w:World):Sem.run Tryz.prog (binOp BinOp.eql 51 (Value.slice none 0 0) (Value.slice none 0 0)) w=Result.ok (Value.bool true) w:=by
 have a:=run_equal_slice_nil (P:=Tryz.prog) w 51 _ none 0 0 Tryz.underlying51;simp[binOp,go_sem,a,Result.andThen]
theorem mD{r c:Nat}{zs:List Int}{P:Int->Prop}(h:∀f e,f<r->e<c->P (e_ c zs f e))(t:Nat)(g:t<r*c):P (zs.getD t 0):=by
 have d:0<c:=by
  rcases kl c with a|a
  .subst a;rw[l6]at g;omega
  .exact a
 have i:t/c<r:=by rw[ss d];omega
 have b:=h (t/c) (t%c) i (mQ t d);unfold e_ at b;rw[show t/c*c+t%c=t from by rw[ij];exact kY t c]at b;exact b
theorem rH.small{r c k:Nat}{pc:Nat->Nat}{zs:List Int}(h:rH r c zs k pc e f g)(l:r<=4)(n:c<=4){m:Nat}(t:8000<=m):(∀b a,b<r->a<c->(e_ c e b a).natAbs<2^(16*m))/\(∀b a,b<r->a<r->(e_ r f b a).natAbs<2^(16*m))/\(∀b a,b<r->a<r->(e_ r g b a).natAbs<2^(16*m)):=by
 obtain⟨q,p⟩:=Ck l n;have u:=sE r 48 h.st.te;have s:=oK r 48 h.st.te;have o:2^hB r 48 k<=2^(16*m):=jb (by decide) (by omega);have j:2^uB r 48 k<=2^(16*m):=jb (by decide) (by omega);exact⟨λb a i d=>l_ (h.eb.h b a i d) o,λb a i d=>l_ (h.eb.u b a i d) j,λb a i d=>l_ (h.eb.w b a i d) j⟩
theorem sh.fine{r c:Nat}{zs:List Int}{xs:List Mx}(h:sh r c zs xs)(a:r<=4)(f:c<=4)(j:Nat)(l:j<3):mK (xs.getD j l5).1 (xs.getD j l5).2.1 (xs.getD j l5).2.2:=by
 obtain⟨o,s,p,q,n,rfl,e⟩:=h;obtain⟨d,t⟩:=hQ 7999;obtain⟨k,i,g⟩:=e.small a f (m:=d+1) (by omega);match j,l with
 |0,_=>exact ks a f e.lh (mD (P:=λb=>b.natAbs<2^(16*(d+1))) k) (by omega)
 |1,_=>exact ks a a e.lu (mD (P:=λb=>b.natAbs<2^(16*(d+1))) i) (by omega)
 |2,_=>exact ks a a e.lw (mD (P:=λb=>b.natAbs<2^(16*(d+1))) g) (by omega)
theorem iJ.Ka{r c k:Nat}{pc:Nat->Nat}(h:iJ r c k pc A):Jh A r c k pc:=⟨h.le,h.lY,h.up,h.left,h.zr,λb e a d=>h.qp e d b a,h.rest⟩
theorem Lw.inj{w:World}{W nx:Nat}{d b c e:Value}(h:Lw w W i x y z d nx)(a:Lw w W i x b c e nx):y=b/\z=c/\d=e:=by
 unfold Lw at h a;rw[h]at a;simp at a;exact a
theorem Aq{B W:Nat}{ms:List Hm}{nx:Nat}{h:Int}{w:World}(ao:jL B w W i j k ms nx E)(b8:nx<1000000-5):Calls Tryz.prog 114 #[.pointer (some ⟨W,0,none⟩),.int .i64 h] w λt N=>t=.returned (.bool true)/\ie B w N W i j k nx:=by
 have cq:=ao.size;have a0:=ao.uZ;have d:=a_ ao;clear ao;go_in;go_wp2_with fail;go_fit (@rv B W i j k ms nx E h false _ d.e);rintro t aY⟨⟨cS,cM,rfl,bS⟩,ad⟩;have aG:=d.e.below ad;obtain⟨cN,c4,cO,c0,cG,cz,-⟩:=aG.il;have Q:=hO bS ad aG;have cY:=ad.size;clear bS ad aG;go_wp2_with fail;go_fit (@xo B i j k h ms nx _ Q.j d.l.dst b8);rintro t a4⟨cx,br,cT,g,rfl,hrel,an⟩;have be:=tR d.l.dst Q.f hrel;have aj:j5 (tN j k) aY a4:=by rcases an with⟨-,-,-,bM⟩|⟨-,-,-,bM⟩<;>exact bM
 have aI:Below B w a4:=(Q.g.mono cq).trans (aj.below (tN.le d.f.2.2.2.2.2.2.1 d.f.2.2.2.2.2.2.2) (by omega));have cX:=aI.size;obtain⟨ai,bK,aZ,rfl⟩:∃cc b6 cb,cx=.slice cc b6 cb:=by rcases an with⟨-,rfl,-⟩|⟨-,⟨_,_,rfl,-⟩,-⟩<;>exact⟨_,_,_,rfl⟩
 have ba:=d.l.num;have aH:=sR ms;rw[d.l.len,<-ba]at aH;have bR:=a_ aH;have av:=Q.l.pK aj;obtain⟨cQ,cI,cZ,cU,bU,bc,-⟩:=id av;have n:=kM an aj aI be av bU bc;clear hrel an be aj aI ba aH av bU bc cz;go_wp2_with fail;go_fit (@lq W i nx 3 _ _ _ _ E _ (by omega) n.y n.C a0);rintro t N⟨rfl,rfl⟩;rcases n.m with⟨rfl,rfl,ci⟩|⟨rfl,rfl,rfl,ac⟩|⟨rfl,rfl,rfl,ac,b9,S,y,X,cD,a6,A,bV,bW,rfl,a3,bm⟩
 .rcases n.f with⟨-,aa,C,-⟩|⟨f,-⟩
  .simp only[iC]at aa;obtain⟨rfl,rfl,rfl⟩:=aa;have P:f_ (ie B w N W i j k nx):=a_ ⟨⟨ms,nx,E,⟨C,n.r,d.l⟩,by omega⟩,n.j⟩;have bp:=pW;clear C;have c3:(br==br)=true:=by simp
   rcases ci with rfl|rfl
   .go_wp2;go_ret;exact⟨rfl,P.e⟩
   .go_wp2;go_ret;exact⟨rfl,P.e⟩
  .cases f
 .rcases n.f with⟨-,aa,C,-⟩|⟨f,-⟩
  .simp only[iC]at aa;obtain⟨rfl,rfl,rfl⟩:=aa;have P:f_ (ie B w N W i j k nx):=a_ ⟨⟨ms,nx,E,⟨C,n.r,d.l⟩,by omega⟩,n.j⟩;have bp:=pW;clear C;have V:decide (24<E.length+3)=true:=jm (by have:=bR.e;omega);rw[V];clear ac V;go_wp2;go_ret;exact⟨rfl,P.e⟩
  .cases f
 .have V:decide (24<E.length+3)=false:=ic (by have:=bR.e;omega);rw[V];have c:=kM ac a6 A bV bW a3 bm;obtain⟨b4,ap⟩:=hQ b9.2.2;rw[<-ap];have cr:=a_ ap;clear ac a6 A bV bW a3 bm V ap;go_wp2_with fail;obtain⟨C,s,D,aN,aw,bB,bI⟩:nu B N i j k (jX ms nx g) (nx+3)/\∃s D,(Value.slice ai bK aZ=.slice (some ⟨s,0,none⟩) 3 3)/\aY.heap.size<=s/\(D.length=3/\∀b,b<3->D.getD b 0=nx+b)/\R.Own N (Value.slice ai bK aZ) D:=by
   rcases n.f with⟨f,-⟩|⟨-,⟨s,D,M,L,a1,b5,co⟩,b7,-⟩
   .cases f
   .exact⟨b7,s,D,M,L,⟨a1,b5⟩,co⟩
  simp only[iC]at aN;obtain⟨rfl,rfl,rfl⟩:=aN;obtain⟨a2,aJ,a8,bC,aX,bG,bx,bJ,aT,aE,bd,aK,bj,bz⟩:=Q.l.vj n.g s aw;have J:g.length<=ms.countP Option.isNone:=by have:=c.f;have:=c.y;omega
  have aQ:=sh.fine c.C c.r.1 c.r.2.1;have aP:pq (jX ms nx g):=(d.l.w5 g [0,0,0] J (by rw[c.y];rfl)).dst;have bb:¬S4 W aJ a8 bC s:=λl=>by have:=(aE s l).2;omega
  have a:=Bs C aw bB bI bG bx bJ aT aE bd aK bj bz aQ aP J;clear C aw bB bI bG bx bJ aT aE bd aK bj bz aQ aP;go_fit (@qz B W i j k s 3 nx (nx+3) _ aJ a8 bC (jX ms nx g) E g (BC ms nx g) _ a.f a.r a.y a.A a.B (λO U=>(a.D O U).1) (by omega) (by omega) (λb o=>?_) a.P a0 (λb o=>?_) bb)
  .obtain⟨M,L⟩:=mI (nx:=nx) d.l.len J b (by rw[c.y];exact o);exact⟨M,L,a.L b o⟩
  .have:=a.m.cell a.j.1 b o;rw[a.j.2 b o]at this;exact this
  rintro t bL⟨b0,aA,K,rfl,bv⟩;have aL:=bv;obtain⟨cu,cn,cg,⟨aB,b1⟩,⟨aC,-⟩,-,-,Y⟩:=bv;rw[K]at aC;have aU:R.Own bL (.slice (some ⟨s,0,none⟩) 3 3) D:=a.m.J (λa5 aS=>by
   simp[Value.ownBlock]at aS;subst aS;exact Y.block a.m.lt bb)
  have aR:ix bL 51 a2 (zZ aX):=a.F.1.lP Y (λO U l=>a.F.2.1 O U (.inl (.inl l)));have u:=kM aL aB aC aU aR K Y;have cW:=Y.size;obtain⟨F,ag,rfl⟩:∃F ag,b0=.slice (some ⟨F,0,none⟩) 3 ag:=by
   rcases aB with⟨-,I⟩|⟨a5,ce,cL,z,-⟩
   .have:=kX List.length I;rw[kR,K]at this;simp at this
   .rw[kR,K]at z;exact⟨a5,ce,z⟩
  clear aL aB b1 aC aU aR Y;go_wp2_with fail;go_fit (@sW W i (nx+3) s 3 a2 cu cn cg aX D _ u.j u.r u.m a.j.1 (by omega) (by have:=a.G;omega));rintro t e⟨rfl,bl⟩;obtain⟨al,bT,-⟩:=sL a.f c.y (by omega) (by omega) d.l c.f a.r a.y a.A a.B a.D a.Q a.F a.G a.O a.m.lt a.g (R.Own.GS a.m) (by omega) K a.L u.f (λM L a1 cy=>by
    obtain⟨rfl,rfl,rfl⟩:=Lw.inj cy u.j;exact bl)
  have am:ix e 164 (.slice (some ⟨F,0,none⟩) 3 ag) (ko aA):=by
   obtain⟨_,_,_,_,cB,_⟩:=bl;refine u.g.lP cB (λO U l=>?_);have aq:=(u.g.own O U).2;rcases l with l|l|l
   .exact iB aq u.j.ty (by decide) l
   .exact iB aq (u.r.own O l).2 (by decide) rfl
   .exact iB aq (R.Own.GS u.m) (by decide) l
  have au:Below B w e:=n.j.trans bT;have cR:=au.size;obtain⟨cf,cj,l,bQ,b2,bF,ar⟩:=c.C;obtain⟨x,v,H,rfl⟩:∃x v H,aA=[x,v,H]:=by
   match aA,K with
   |[cs,ca,cv],_=>exact⟨cs,ca,cv,rfl⟩
  have ak:∀b,b<3->∃ai A,kH e ai A ([x,v,H].getD b 0) (g.getD b l5).1 (g.getD b l5).2.1 (fz (g.getD b l5).2.1 (g.getD b l5).2.2):=λb o=>by
   obtain⟨M,L⟩:=mI (nx:=nx) d.l.len J b (by rw[c.y];exact o);have cm:(nx+b,Ex (g.getD b l5),[x,v,H].getD b 0)∈E++nB nx g [x,v,H]:=ji.2 (.inr (kt.2 ⟨b,jB.2 o,rfl⟩));exact(al.entry cm M L rfl).2.2
  have I:=ak 0 (by omega);have z:=ak 1 (by omega);have ab:=ak 2 (by omega);rw[bF]at I z ab;obtain⟨bh,cV,I⟩:=I;obtain⟨bt,cJ,z⟩:=z;obtain⟨ch,cP,ab⟩:=ab;obtain⟨a7,bP⟩:=I.qk;obtain⟨aV,a9⟩:=z.qk;obtain⟨b3,bg⟩:=ab.qk;obtain⟨-,-,cC,cK,bi⟩:=al.entry (ji.2 (.inl c.g)) c.j (pk g ms nx S _ d.l.len J c.m) rfl;obtain⟨bZ,ae⟩:=bi.qk;rw[<-cr.e]at ae;obtain⟨p,bD⟩:=hQ 8000;obtain⟨aW,bE,bO⟩:=ar.small c.r.1 c.r.2.1 (m:=p) (by omega);have r:=vD (bP.fit (m:=p) aW) (a9.fit (m:=p) bE) (bg.fit (m:=p) bO) (ae.tight (jT c.r)) ar al au bD;have cE:=c.r.1;have c1:=c.r.2.1;have cF:p<=8000:=by omega
  obtain⟨-,-,-,bs,-⟩:=ae.open_;have bY:e.cell? ⟨F,0,none⟩=some (.pointer (some ⟨x,0,none⟩)):=by
   obtain⟨aM,aO,f,-,-,-,T⟩:=am.shape;simp only[iC]at f;obtain⟨bX,q,Z⟩:=T 0 (by simp[ko]);rw[<-f.1]at q;simp only[iH,jj]at q;rw[q.1,Z];simp[ko]
  have bk:e.cell? ⟨F,1,none⟩=some (.pointer (some ⟨v,0,none⟩)):=by
   obtain⟨aM,aO,f,-,-,-,T⟩:=am.shape;simp only[iC]at f;obtain⟨bX,q,Z⟩:=T 1 (by simp[ko]);rw[<-f.1]at q;simp only[iH,jj]at q;rw[q.1,Z];simp[ko]
  have bn:e.cell? ⟨F,2,none⟩=some (.pointer (some ⟨H,0,none⟩)):=by
   obtain⟨aM,aO,f,-,-,-,T⟩:=am.shape;simp only[iC]at f;obtain⟨bX,q,Z⟩:=T 2 (by simp[ko]);rw[<-f.1]at q;simp only[iH,jj]at q;rw[q.1,Z];simp[ko]
  have bp:=oP ⟨F,0,none⟩ 3 ag;clear ak I z ab bP a9 bg ae bi aW bE bO al au bT am bF ar bD J;go_wp2_with fail;go_fit (@ux x y X a7 (fz X l) bh (2*p) cf cj _ r.f r.r.st.Ka (by omega) (by omega) (by omega));rintro t cd⟨rfl,G⟩;have cl:=a_ G;have cH:=G.size;have cp:=g_ G bs;have bN:=g_ G bk;have ck:=g_ G bn;have bw:=g_ G bY;clear G bs bY bk bn;go_wp2_with fail;go_still_tail 10,(by kernel_rfl);go_wp2_with fail;have ah:Below e.heap.size e cd.drew:=cl.e.drew;go_fit (@qB v H y (2*p) aV b3 (fz y bQ) (fz y b2) bt ch _ (r.g.hV (KR.I ah)) (r.j.hV (KR.I ah)) (by omega) (by omega) (λS b A o=>r.r.inv.uw S b A o));rintro t bH⟨rfl,af⟩;have bA:Below e.heap.size e bH:=d_ ah af;have aF:=a_ bA;have ct:=g_ af bN;have bu:=g_ af bw;clear af bA ah bN ck bw cp;go_wp2_with fail;go_fit (@kn (2*p) 4 v y y aV (fz y bQ) bt b4 X bZ (fz X cD) cC _ (r.g.hV (KR.I aF.e)) (r.m.hV (KR.I aF.e)) (by omega) (by omega) (by omega) (by omega));rintro t cw⟨rfl,⟨cA,bf⟩,ax⟩;have ay:Below e.heap.size e cw:=d_ aF.e ax;have c2:=g_ ax bu;have aD:=hO bf ((r.f.hV (KR.I ay)).mono (show 2*p<=2*p+4+12 by omega)) ay;clear bf ax ay bu ct;go_wp2_with fail;try go_quiet (fail)
  try go_wp2_with fail
  go_fit (@lM bH.heap.size y X cA _ 0 x a7 _ bh (2*p+4+12) _ aD.f aD.g (λS b A o=>r.r.inv.ua S b A o) (by omega) (by omega) (by omega));rintro t bo⟨rfl,bq⟩;have az:Below e.heap.size e bo:=d_ aD.l bq;have P:f_ (ie B w bo W i j k nx):=a_ ⟨⟨_,_,_,r.y.below az,by omega⟩,r.A.trans (az.mono (by omega))⟩;clear bq az;go_wp2;go_ret;exact⟨rfl,P.e⟩
end
namespace R
theorem Co(w:World)(j:TypeId)(g n:Nat)(c:Addr)(e:Array Value)(a:List Value)(h:w.heap[g]?=some (.cells e 171 (0,0)))(q:e.size=n*2)(o:a.length=n*2)(i:∀f b,a[f]?=some b->w.cell? (c.add f)=some b)(m:∀b∈a,b.oneCell'=true):(Builtin.copy_ #[202,202] j #[.slice (some ⟨g,0,none⟩) n n,.slice (some c) n n]).run Tryz.prog w=.ok (goInt n) (w.setRow g a.toArray):=by
 obtain⟨t,p,r,k,s⟩:=kO Tryz.yi;have l:=run_firstCells_some (P:=Tryz.prog) w 2 n c n n a o i;have d:=run_storeCells_at Tryz.prog g 0 171 a 0 e w h (by omega) m;simp only[nt,jF,List.take_zero,om]at d;rw[lA (by rw[Array.length_toList];omega),rV]at d;simp[Builtin.copy_,run_underlying Tryz.underlying202,Builtin.lenOf,sizeOf,typeInfo,p,k,l,d]
theorem um{w:World}{ops:Array Oper}{o:Oper}{a:Act}{K:Act->World->Prop}{Q:Exit->Act->World->Prop}{E:Prop}(G:o.guard=none)(d s:Operand)(H:o.op=.call {callee:=.builtin .copy,args:=#[d,s],argTypes:=#[202,202]}){g c:Nat}{f:Nat->Int}{L:Nat}(hd:a.eval d=.slice (some ⟨g,0,none⟩) c c)(T:a.eval s=.slice (some ⟨i,0,none⟩) c c)(R:pI 0 w g c P j)(S:pI 0 w i c f L)(V:∀v,pI 0 v g c f L->w.grownBy v (some g)->K (a.put o.dst (goInt c)) v):if Region.wanted o (yielded ops a.tmps)=true then Oper.wp Tryz.prog o a w K Q else E:=by
 have O:Region.wanted o (yielded ops a.tmps)=true:=by simp[Region.wanted,G]
 rw[if_pos O];obtain⟨N,q,aa,-⟩:=R;obtain⟨h,z,A,C⟩:=S;have X:∀m∈h.toList,m.oneCell'=true:=by
  intro m W;obtain⟨b,k,J⟩:=List.getElem_of_mem W;have ae:h.toList.length=2*c:=by simpa using A
  obtain⟨y,D,n,t,p,-⟩:=C (b/2) (by omega);obtain⟨ac,ad,Z,ab,l,-⟩:=p.parts;simp only[j9,j_,kb,jh]at l;have e:h[b]?=some m:=by rw[<-Array.getElem?_toList,iI k,J]
  rcases(show b=2*(b/2)\/b=2*(b/2)+1 from by omega)with r|r
  .rw[r,n]at e;injection e with e;rw[<-e,l.1];rfl
  .rw[r,t]at e;injection e with e;rw[<-e,l.2];rfl
 have U:=Co w o.type g c ⟨i,0,none⟩ N h.toList q (by omega) (by simp;omega) (λb m k=>by
  rw[Array.getElem?_toList]at k;by_cases B:b=0
  .subst B;simp[World.cell?,Addr.add,z,k]
  .simp[World.cell?,Addr.add,B,z,k]) X
 unfold Oper.wp;simp[execOp,H,resolve,invoke,builtin,hd,T,U,Result.andThen];have F:w.grownBy (w.setRow g h) (some g):=⟨rfl,rfl,rfl,by simp[World.setRow],λx _ Y=>setRow_other w g x _ (λM=>Y (by simp[M]))⟩;have I:KI w (w.setRow g h):=KI.N F (λx u=>by injection u with u;subst u;exact⟨_,_,q⟩) (by decide);refine V _ ⟨h,setRow_heap w g _ _ _ _ q,A,λb k=>?_⟩ F;obtain⟨y,D,n,t,p,l⟩:=C b k;exact⟨y,D,n,t,p.hV I,l⟩
theorem jO.Ik{w:World}{b r c:Nat}{f:Nat->Nat->Int}{L:Nat}(h:jO 0 w b r c o f L){i:Nat}(q:i<r){g:Nat->Int}(C:pI 0 v (o i) c g L)(A:w.grownBy v (some (o i))):jO 0 v b r c o (λk e=>if k=i then g e else f k e) L:=by
 have Y:=h.FY q;obtain⟨W,P,R,B,n,x⟩:=h;obtain⟨aa,z,-⟩:=(n i q).2;have M:Ty w (o i) 171:=⟨_,_,z⟩;have D:KI w v:=KI.N A (λa d=>by injection d with d;subst d;exact M) (by decide);have p:∀(a:Nat) (t:Array Value) (m:TypeId),a≠o i->w.heap[a]?=some (.cells t m (0,0))->v.heap[a]?=some (.cells t m (0,0)):=by
  intro a t m s d;rw[A.block a (jt.1 d).1 (λj=>s (by injection j with j))];exact d
 refine⟨W,P,p _ _ _ Y R,⟨B.1,?_⟩,λa d=>⟨(n a d).1,?_⟩,x⟩
 .rcases B.2 with l|⟨V,Z,G,S,T,y,r⟩
  .exact .inl l
  .exact .inr ⟨V,Z,G,S,T,p _ _ _ (λj=>by rw[j,z]at y;simp at y) y,r⟩
 .by_cases u:a=i
  .subst u;have j:(λk e=>if k=a then g e else f k e) a=g:=by funext e;simp
   rw[j];exact C
  .have I:o a≠o i:=by
    rcases Nat.lt_or_gt_of_ne u with l|l
    .have:=x a i l q;omega
    .have:=x i a l d;omega
   have j:(λk e=>if k=i then g e else f k e) a=f a:=by funext e;simp[u]
   rw[j];obtain⟨O,N,H,E⟩:=(n a d).2;refine⟨O,p _ _ _ I N,H,λm s=>?_⟩;obtain⟨U,X,F,Q,J,K⟩:=E m s;exact⟨U,X,F,Q,J.hV D,K⟩
theorem jO.row{B:Nat}{w:World}{b r c:Nat}{f:Nat->Nat->Int}{L:Nat}(h:jO B w b r c o f L){i:Nat}(a:i<r):pI 0 w (o i) c (f i) L:=by
 obtain⟨g,l,j,k,d,e⟩:=h;exact(d i a).2.xl hR
end R
def Sp(e:Nat->Nat->Int)(k c:Nat)(v:Nat->Int):Prop:=∃d:Nat->Int,∀a,a<c->v a=sm (λb=>d b*e b a) k
theorem Sp.sub{k c:Nat}{v w:Nat->Int}(h:Sp A k c v)(f:Sp A k c w):Sp A k c (λa=>v a-w a):=by
 obtain⟨i,e⟩:=h;obtain⟨g,j⟩:=f;refine⟨λb=>i b-g b,λa d=>?_⟩;show v a-w a=_;rw[e a d,j a d,yH];exact iq k (λb _=>by grind)
theorem Sp.row(d:Nat->Nat->Int){k b:Nat}(c:Nat)(g:b<k):Sp d k c (d b):=
 ⟨λa=>if a=b then 1 else 0,λe _=>by
  rw[ml k b g (λa _ f=>by show(if a=b then(1:Int)else 0)*d a e=0;rw[if_neg f];simp)];simp⟩
theorem zA(x:Nat->Int)(k:Nat):(∀a,a<k->x a=0)\/∃b,b<k/\x b≠0/\∀a,a<b->x a=0:=by
 induction k with
 |zero=>exact .inl (λa c=>by omega)
 |succ k e=>
  rcases e with c|⟨b,j,f,h⟩
  .by_cases d:x k=0
   .exact .inl (λa i=>by
     by_cases g:a=k
     .rw[g];exact d
     .exact c a (by omega))
   .exact .inr ⟨k,by omega,d,c⟩
  .exact .inr ⟨b,by omega,f,h⟩
theorem iJ.lead{r c k:Nat}{pc:Nat->Nat}(h:iJ r c k pc A){v:Nat->Int}(p:Sp A k c v):(∀b,b<c->v b=0)\/∃a,a<k/\(∀b,b<pc a->v b=0)/\v (pc a)≠0/\A a (pc a)∣v (pc a):=by
 obtain⟨l,j⟩:=p;rcases zA l k with t|⟨a,f,u,m⟩
 .exact .inl (λb n=>by rw[j b n];exact nH k (λd g=>by rw[t d g];simp))
 .have x:=h.le;have q:=h.lY a f;have s:∀b,b<pc a->v b=0:=λb n=>by
   rw[j b (by omega)];refine nH k (λd g=>?_);by_cases i:d<a
   .rw[m d i];simp
   .have:pc a<=pc d:=by
     by_cases e:d=a
     .rw[e];exact c_
     .exact nf (h.up a d (by omega) g)
    rw[h.left d g b (by omega)];simp
  have o:v (pc a)=l a*A a (pc a):=by
   rw[j _ q];refine ml k a f (λd g y=>?_);by_cases i:d<a
   .rw[m d i];simp
   .rw[h.below a f d (by omega) (by omega)];simp
  have w:=h.zr a f;refine .inr ⟨a,f,s,?_,?_⟩
  .rw[o];intro e;rcases Int.mul_eq_zero.1 e with e|e
   .exact u e
   .omega
  .rw[o];exact AV _ _
theorem iJ.yq{r r' c k:Nat}{pc:Nat->Nat}(h:iJ r c k pc A)(g:iJ r' c i o B)(l:∀b,b<k->Sp B i c (A b))(b:Nat)(d:b<k):∃a,a<i/\o a=pc b/\B a (o a)∣A b (pc b):=by
 have v:=h.zr b d;have n:=h.lY b d;rcases g.lead (l b d)with s|⟨a,q,t,j,f⟩
 .have:=s _ n;omega
 .have e:o a=pc b:=by
   rcases mY (o a) (pc b)with m|u|p
   .exact absurd (h.left b d _ m) j
   .exact u
   .have:=t _ p;omega
  rw[e]at f;exact⟨a,q,e,by rw[e];exact f⟩
theorem iJ.D2{r r' c k:Nat}{pc:Nat->Nat}(h:iJ r c k pc A)(d:iJ r' c i o B)(t:∀a,a<k->Sp B i c (A a))(v:∀a,a<i->Sp A k c (B a)):∀a,a<k->a<i/\o a=pc a:=by
 intro a;induction a using Nat.strongRecOn with
 |_ a m=>
  intro g;obtain⟨e,l,x,-⟩:=h.yq d t a g;rcases mY e a with j|y|u
  .have p:=(m e j (by omega)).2;have f:=h.up e a j g;omega
  .subst y;exact⟨l,x⟩
  .obtain⟨b,q,D,-⟩:=d.yq h v a (by omega);have p:=d.up a e u l;have f:b<a:=by
    rcases mY b a with w|n|s
    .exact w
    .subst n;omega
    .have:=h.up a b s q;omega
   have z:=m b f (by omega);have C:=d.up b a f (by omega);omega
theorem iJ.uniq{r r' c k:Nat}{pc:Nat->Nat}(h:iJ r c k pc A)(e:iJ r' c i o B)(v:∀a,a<k->Sp B i c (A a))(t:∀a,a<i->Sp A k c (B a)):k=i/\∀a f,a<k->f<c->A a f=B a f:=by
 have n:=h.D2 e v t;have K:=e.D2 h t v;have O:k=i:=by
  rcases mY k i with l|m|g
  .have:=K k l;omega
  .exact m
  .have:=n i g;omega
 subst O;have C:∀a,a<k->A a (pc a)=B a (pc a):=λa d=>by
  obtain⟨s,j,S,q⟩:=h.yq e v a d;obtain⟨p,w,T,F⟩:=e.yq h t a d;have y:=(n a d).2;have D:s=a:=by
   rcases mY s a with l|m|g
   .have:=e.up s a l d;omega
   .exact m
   .have:=e.up a s g j;omega
  have z:p=a:=by
   rcases mY p a with l|m|g
   .have:=h.up p a l d;omega
   .exact m
   .have:=h.up a p g w;omega
  subst D;subst z;rw[y]at q F;have U:=h.zr _ d;have J:=e.zr _ d;rw[y]at J;exact Int.dvd_antisymm (by omega) (by omega) F q
 refine⟨rfl,λa f d Q=>?_⟩;have N:Sp A k c (λf=>A a f-B a f):=(Sp.row A c d).sub (t a d);rcases h.lead N with R|⟨b,j,S,q,w⟩
 .have u:=R f Q;have D:A a f-B a f=0:=u;omega
 .exfalso;have z:A a (pc b)-B a (pc b)≠0:=q;have L:A b (pc b)∣A a (pc b)-B a (pc b):=w;have G:=(n b j).2;rcases mY b a with l|m|g
  .have I:=h.below b j a l (by have:=h.le;omega);have x:=e.below b (n b j).1 a l (by have:=e.le;omega);rw[G]at x;omega
  .subst m;have:=C b d;omega
  .obtain⟨I,x⟩:=h.qp b j a g;have M:=e.qp b (n b j).1 a g;rw[G,<-C b j]at M;obtain⟨H,E⟩:=L;have P:(A a (pc b)-B a (pc b)).natAbs<(A b (pc b)).natAbs:=by omega
   rw[E,np]at P;have W:H≠0:=by
    intro u;rw[u,uH]at E;omega
   have V:=jJ (A b (pc b)).natAbs (show 1<=H.natAbs by omega);omega
end Go.Proofs.YtfjbijpagaipnabGreatDoor
