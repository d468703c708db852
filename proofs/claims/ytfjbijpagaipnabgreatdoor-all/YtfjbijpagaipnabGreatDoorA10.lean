import Derived.Test.YtfjbijpagaipnabGreatDoorA09
set_option maxRecDepth 100000
set_option maxHeartbeats 8000000
namespace Go.Proofs.YtfjbijpagaipnabGreatDoor
open Go.RowKit
variable{i j k l m n p q r s:Nat}{w v W:World}{x y z:Value}{A B F G:Nat->Nat->Int}{X Y:List Nat}{P Q:Nat->Int}{t:TypeId}{u:Bool}{O:Option Addr}
namespace R
def ik:Nat->Nat->List (List Nat)
 |0,_=>[[]]
 |b+1,c=>((List.range c).drop b).flatMap λa=>(ik b a).map (·++[a])
theorem oC(k:Nat):∀b,(ik k b).length<=2^b:=by
 induction k with
 |zero=>intro b;have:=rS b;simp[ik];omega
 |succ k e=>
  intro b;have d:∀a,(((List.range a).drop k).flatMap λc=>(ik k c).map (·++[c])).length<=2^a:=by
   intro a;induction a with
   |zero=>simp
   |succ a g=>
    by_cases f:k<=a
    .rw[lW,Bo (by simpa using f),List.flatMap_append,j6];simp only[List.flatMap_singleton,rJ];have:=e a;rw[jx];omega
    .rw[lA (by simp;omega)];simp
  exact d b
theorem jC(k:Nat):∀c,∀d∈ik k c,d.length=k/\∀e∈d,e<c:=by
 induction k with
 |zero=>intro c d a;simp[ik]at a;subst a;simp
 |succ k h=>
  intro c d a;rw[ik,List.mem_flatMap]at a;obtain⟨f,l,a⟩:=a;obtain⟨j,g,rfl⟩:=kt.1 a;have n:=jB.1 (zw l);obtain⟨i,m⟩:=h f j g;refine⟨by simp[i],λe b=>?_⟩;rcases ji.1 b with b|b
  .have:=m e b;omega
  .simp at b;omega
def LR(w:World)(v:Value)(xss:List (List Nat)):Prop:=∃b:List Value,ix w 51 v b/\b.length=xss.length/\∀a,a<xss.length->Own w (b.getD a (.slice none 0 0)) (xss.getD a [])
theorem KI.N{w:World}{o:Option Nat}(h:w.grownBy v o)(d:∀c,o=some c->Ty w c t)(e:t≠3):KI w v:=by
 intro b g a;rw[h.block b (jt.1 a).1 (λf=>e (pj a (d b f.symm)).symm)];exact a
theorem LR.below{w:World}{v:Value}{xss:List (List Nat)}(h:LR w v xss)(a:Below w.heap.size w W):LR W v xss:=by
 obtain⟨f,c,d,g⟩:=h;exact⟨f,c.below a,d,λb e=>(g b e).below a⟩
theorem LR.shape{w:World}{v:Value}{xss:List (List Nat)}(h:LR w v xss):∃d c,v=.slice d xss.length c/\xss.length<=c/\c<=9223372036854775807/\∀a,a<xss.length->∃b e,d=some ⟨b,0,none⟩/\b<w.heap.size/\w.cell? ⟨b,a,none⟩=some e/\Own w e (xss.getD a []):=by
 obtain⟨i,f,k,o⟩:=h;obtain⟨d,c,rfl,p,l,-,n⟩:=id f.shape;refine⟨d,c,by rw[<-k],by omega,l,λa m=>?_⟩;obtain⟨b,g,j⟩:=n a (by omega);refine⟨b,i.getD a (.slice none 0 0),g,?_,?_,o a m⟩
 .subst g;exact(f.own b rfl).1
 .rw[j];simp[List.getD,iI (show a<i.length by omega)]
theorem Tryz.II:(Tryz.prog.info? 51).map (λa=>(a.zero,a.size,a.bytes))=some (some (.slice none 0 0),1,24):=by kernel_rfl
theorem uR{w:World}{ops:Array Oper}{m:List Oper}{o:Oper}{a:Act}{Q:Exit->Act->World->Prop}(y:o.guard=none)(s x:Operand)(z:o.op=.call {callee:=.builtin .append,args:=#[s,x],argTypes:=#[56,56]}){v:Value}{xss:List (List Nat)}(F:a.eval s=v)(L:LR w v xss)(i:Addr)(K:a.eval x=.slice (some i) 1 1){u:Value}{xs:List Nat}(t:Own w u xs)(G:w.cell? (i.add 0)=some u)(O:xss.length<=30000)(J:∀g c,LR c g (xss++[xs])->w.grownBy c v.ownBlock->KI w c->(∀k,g.ownBlock=some k->v.ownBlock=some k\/w.heap.size<=k)->wpList Tryz.prog ops Q m (a.put o.dst g) c):wpList Tryz.prog ops Q (o::m) a w:=by
 obtain⟨b,j,B,H,D⟩:=kO Tryz.II;obtain⟨f,p,r,E⟩:=L;obtain⟨d,e,rfl,-⟩:=t.open_;refine kj y s x z b (.slice none 0 0) 24 Tryz.underlying56 j B H D rfl F p i (.slice d xs.length e) K G rfl ?_ ?_ ?_
 .unfold maxLen;omega
 .omega
 .intro g c N;obtain⟨C,l,M⟩:=N;have h:KI w c:=KI.N l (λA I=>(p.own A I).2) (by decide);refine J g c ⟨f++[.slice d xs.length e],C,by simp[r],λb j=>?_⟩ l h M;rw[j6,nn]at j;by_cases q:b<xss.length
  .rw[show(f++[Value.slice d xs.length e]).getD b (.slice none 0 0)=f.getD b (.slice none 0 0)from by simp[List.getD,lQ (show b<f.length by omega)],show(xss++[xs]).getD b []=xss.getD b []from by simp[List.getD,lQ q]];exact(E b q).hV h
  .have n:b=xss.length:=by omega
   rw[show(f++[Value.slice d xs.length e]).getD b (.slice none 0 0)=.slice d xs.length e from by simp[List.getD,n,<-r],show(xss++[xs]).getD b []=xs from by simp[List.getD,n]];exact t.hV h
theorem z6(k j:Nat)(h:k<=j):((List.range (j+1)).drop k).flatMap (λa=>(ik k a).map (·++[a]))=((List.range j).drop k).flatMap (λa=>(ik k a).map (·++[a]))++(ik k j).map (·++[j]):=by
 rw[lW,Bo (by simpa using h),List.flatMap_append];simp
theorem qH{k n:Nat}(h:n<=k):((List.range n).drop k).flatMap (λa=>(ik k a).map (·++[a]))=[]:=by
 rw[lA (by simpa using h)];rfl
def pC(k:Nat):Prop:=∀(b:Nat) (a:World),b<=12->Calls Tryz.prog 208 #[.int .i64 b,.int .i64 k] a λf d=>∃c,f=.returned c/\LR d c (ik k b)/\(∀e,c.ownBlock=some e->a.heap.size<=e)/\Below a.heap.size a d
theorem AU:pC 0:=by
 intro f c _;go_in;go_wp2;go_ret;refine⟨_,rfl,⟨[.slice none 0 0],.inr ⟨c.heap.size,1,#[.slice none 0 0],rfl,iP c _,c_,c_,by decide,λb a=>?_⟩,rfl,λb a=>?_⟩,λe d=>by simp[Value.ownBlock]at d;omega,hS⟩
 .obtain rfl:b=0:=by simpa using a
  rfl
 .obtain rfl:b=0:=by simpa[ik]using a
  exact Own.nil _
theorem AP{k:Nat}(bN:k<=8)(a4:pC k):pC (k+1):=by
 intro V e bF;have ba:=a_ a4;clear a4;obtain⟨ap,ay⟩:=hQ (k+1);have a5:=a_ ay;have bW:((ap:Int)==0)=false:=iK.2 (by omega);have bC:(ap:Int)-1=(k:Int):=by omega
 have bS:ap<=9:=by omega
 rw[<-ay];clear ay;go_in;go_wp2_with fail;go_loopw [5,6] (λS F wr=>∃(b:Nat),k<=b/\(b<=V\/b=k)/\F=.int .i64 b/\LR wr S (((List.range b).drop k).flatMap λac=>(ik k ac).map (· ++[ac]))/\(∀a,S.ownBlock=some a->e.heap.size<=a)/\Below e.heap.size e wr) (λ_ F _=>V+1-(intOf F).toNat)
 case atStart=>
  refine⟨k,c_,.inr rfl,rfl,?_,λa c=>by simp[Value.ownBlock]at c,hP⟩;rw[qH c_];exact⟨[],ix.nil _ _,rfl,λF bm=>by simp at bm⟩
 case round=>
  rename World=>T;obtain⟨b,bp,bl,rfl,w,n,J⟩:=hrel;obtain⟨P,aD⟩:=hQ (((List.range b).drop k).flatMap λac=>(ik k ac).map (· ++[ac]));rw[<-aD]at w;obtain⟨bs,bc,a1,-⟩:=w.shape;obtain⟨a8,aB⟩:=hQ P.length;rw[<-aB]at a1;subst a1;have br:=J.size;have aH:∀a,(Value.slice bs a8 bc).ownBlock=some a->a<T.heap.size:=λa c=>by obtain⟨bB,q,-⟩:=w;exact(q.own a c).1
  have v:=ju w J aD aB n aH;clear w J aD aB n aH;by_cases bA:b<V
  .have bR:(b:Int)<(V:Int):=by omega
   go_wp2_with fail;go_fit (ba.e b _ (by omega));rintro ai h⟨bZ,rfl,aC,aN,ag⟩;obtain⟨i,aj⟩:=hQ (ik k b);have bg:i.length<=4096:=by rw[aj];exact iy (oC k b) (iy (jb (by decide) (show b<=12 by omega)) (by decide))
   rw[<-aj]at aC;obtain⟨bw,b0,aG,bn,bY,Z⟩:=aC.shape;obtain⟨Q,au⟩:=hQ i.length;rw[<-au]at aG bn;subst aG;have b1:=ag.size;have aA:Below e.heap.size e h:=v.g.trans (ag.mono br);have m:=ju Z aA (v.f.below ag) aj au aN;have bT:=aA.size;have bH:Q<=4096:=by omega
   have aZ:=a_ (show P.length<=4096 by rw[v.j];exact iy (oC (k+1) b) (iy (jb (by decide) (show b<=12 by omega)) (by decide)));clear aC Z ag aA aj au bg aN;go_wp2_with fail;go_loopw [5,8] (λS F wr=>∃(d:Nat),d<=Q/\F=.int .i64 d/\LR wr S (P++(i.take d).map (· ++[b]))/\Below e.heap.size e wr/\KI h wr/\h.heap.size<=wr.heap.size/\(∀a,bw=some ⟨a,0,none⟩->wr.heap[a]?=h.heap[a]?)/\(∀a,S.ownBlock=some a->e.heap.size<=a/\(a<T.heap.size\/h.heap.size<=a))) (λ_ F _=>Q-(intOf F).toNat)
   case atStart=>
    refine⟨0,hR,rfl,?_,m.g,KI.refl _,c_,λ_ _=>rfl,λa c=>⟨v.r a c,.inl (v.z a c)⟩⟩;simpa using m.j
   case round=>
    rename World=>l;obtain⟨d,bO,rfl,w,J,aF,bI,aJ,n⟩:=hrel;obtain⟨aa,al⟩:=hQ (P++(i.take d).map (· ++[b]));rw[<-al]at w;have ad:=a_ al;clear al;obtain⟨bM,bU,aP,-⟩:=w.shape;obtain⟨bX,aw⟩:=hQ aa.length;rw[<-aw]at aP;subst aP;have aV:=J.size;have g:=ju w J aF aw aJ n;clear w J aF aw aJ n;by_cases bD:d<Q
    .have bx:(d:Int)<(Q:Int):=by omega
     obtain⟨f,a7,bi,bv,a3,aR⟩:=m.f d (by have:=m.r;omega);subst bi;have bE:l.cell? ⟨f,d,none⟩=some a7:=by
      have q:=g.r f rfl;rw[<-a3];simp only[World.cell?,q]
     have bJ:T.heap.size<=f:=m.z f rfl;have ah:=aR.hV g.j;obtain⟨bz,bt,av,-⟩:=ah.open_;obtain⟨j,ak⟩:=hQ (i.getD d []);rw[<-ak]at av ah;obtain⟨bk,ao⟩:=hQ j.length;rw[<-ao]at av;subst av;have aO:j.length=k:=by
      have be:j∈ik k b:=by
       rw[ak,<-m.m,List.getD,iI (show d<i.length by have:=m.r;omega)];exact lf _
      exact(jC k b j be).1
     have z:=hY ah ak ao aO;clear aR ah ak a3 ao aO;have bK:f<h.heap.size:=bv;rcases id z.f.2 with⟨aQ,aU⟩|⟨a,bL,bG,aI,-,bP,-⟩
     .simp only[iC]at aQ;obtain⟨rfl,rfl,rfl⟩:=aQ;have aT:j=[]:=lp aU;have aK:=a_ aT;clear aT aU;go_wp2_with (at_builtin;refine iZ rfl _ _ rfl (B:=l.heap.size) (zs:=[]) rfl ?_ ⟨_,0,none⟩ rfl b ?_ ?_ ?_ ?_)
      .exact kK (oI _ _ _ _) _
      .simp[Addr.add]
      .first|decide|(simp;done)|(rw[aK.e];decide)
      .simp
      intro aM p aX Y;have y:lB l.heap.size p aM (j++[b]):=by rw[aK.e];exact aX
      clear aX;have r:Below l.heap.size l p:=(hU l _).grown Y (by simp) (λI C=>by simp[Value.ownBlock]at C);obtain⟨H,G,M,-⟩:=y.own.open_;obtain⟨N,L⟩:=hQ (j++[b]);rw[<-L]at y M;have ax:=a_ L;obtain⟨O,K⟩:=hQ N.length;rw[<-K]at M;have bu:=a_ K;subst M;have af:Below e.heap.size e p:=g.g.trans (r.mono aV);have am:=r.size;have s:=hY y.own r (g.f.below r) af;clear y Y r K af L;go_wp2_with (at_builtin;refine uR rfl _ _ rfl (xss:=aa) rfl ?_ ⟨_,0,none⟩ rfl (u:=.slice H O G) (xs:=N) ?_ ?_ ?_ ?_)
      .exact s.j.below hS
      .exact s.f.below hS
      .simp[Addr.add]
      .have q:=aZ.e;have ae:=m.r;rw[ad.e,j6,rJ,kv];omega
      intro W t A x R X;have D:=hU p (.cells #[.slice H O G] 51);have aE:=x.size;have o:f_ (LR t W (P++(i.take (d+1)).map (· ++[b]))/\Below e.heap.size e t/\KI h t/\h.heap.size<=t.heap.size/\(∀a,some (⟨f,0,none⟩:Addr)=some ⟨a,0,none⟩->t.heap[a]?=h.heap[a]?)/\(∀a,W.ownBlock=some a->e.heap.size<=a/\(a<T.heap.size\/h.heap.size<=a))):=a_ (by
       have a9:(p.alloc (.cells #[.slice H O G] 51)).heap.size=p.heap.size+1:=by simp
       have n:=g.z;refine⟨?_,?_,(g.j.trans (KI.I (s.g.trans (D.mono am)))).trans R,by omega,λa c=>?_,λa c=>?_⟩
       .have az:i.take (d+1)=i.take d++[j]:=by
         have ae:=m.r;rw[qU,z.g,List.getD,iI (show d<i.length by omega)];rfl
        rw[az,kT,<-sx,<-ad.e];rw[ax.e]at A;exact A
       .exact(s.o.trans (D.mono (by omega))).grown x (by omega) (λI C=>(n I C).1)
       .injection c with c
        injection c with c
        subst c;rw[x.block f (by omega) (λai=>by have:=n f ai.symm;omega),D.block f (by omega),s.g.block f (by omega)];exact g.r f rfl
       .rcases X a c with E|E
        .exact n a E
        .exact⟨by omega,.inr (by omega)⟩)
      obtain⟨bh,bj,ab,-⟩:=A.shape;obtain⟨a6,U⟩:=hQ ((aa++[N]).length);rw[<-U]at ab;subst ab;clear A x R X D aE U;go_wp2;go_roundw;exact⟨d+1,by omega,by go_num,o.f,o.g,o.j,o.m,o.r,o.z⟩;simp[intOf];omega
     .simp only[iC]at aI;obtain⟨rfl,-,rfl⟩:=aI;go_wp2_with (at_builtin;refine o1 rfl _ _ rfl (B:=l.heap.size) (zs:=[]) rfl (oI _ _ _ _) ⟨a,0,none⟩ bk bt rfl j z.j.symm ?_ ?_ c_ ?_)
      .intro bf bb;have aW:=z.f.cell z.j.symm bf bb;first
        |(rw[w9,jF];exact aW)
        |simpa[List.getD]using aW
      .have q:=z.j;have ae:=z.o;simp;omega
      intro bq aY a2 aL;have an:Below l.heap.size l aY:=hP.grown aL c_ (λI C=>by simp[Value.ownBlock]at C);have aq:lB l.heap.size aY bq j:=a2;obtain⟨bV,b2,a0,-⟩:=aq.own.open_;obtain⟨bQ,Z⟩:=hQ j.length;rw[<-Z]at a0;subst a0;have bo:=an.size;have ar:=b_ aq an;clear a2 aq aL an Z;go_wp2_with (at_builtin;refine iZ rfl _ _ rfl (B:=l.heap.size) (zs:=j) rfl ?_ ⟨_,0,none⟩ rfl b ?_ ?_ ?_ ?_)
      .exact kK ar.f _
      .simp[Addr.add]
      .have ae:=z.o;omega
      .simp;omega
      intro aM p y Y;have r:Below l.heap.size l p:=(ar.i.alloc bo _).grown Y (by simp;omega) (λI C=>(kF ar.f I C).1);obtain⟨H,G,M,-⟩:=y.own.open_;obtain⟨N,L⟩:=hQ (j++[b]);rw[<-L]at y M;have ax:=a_ L;obtain⟨O,K⟩:=hQ N.length;rw[<-K]at M;have bu:=a_ K;subst M;have af:Below e.heap.size e p:=g.g.trans (r.mono aV);have am:=r.size;have s:=hY y.own r (g.f.below r) af;clear y Y r K af L;go_wp2_with (at_builtin;refine uR rfl _ _ rfl (xss:=aa) rfl ?_ ⟨_,0,none⟩ rfl (u:=.slice H O G) (xs:=N) ?_ ?_ ?_ ?_)
      .exact s.j.below hS
      .exact s.f.below hS
      .simp[Addr.add]
      .have q:=aZ.e;have ae:=m.r;rw[ad.e,j6,rJ,kv];omega
      intro W t A x R X;have D:=hU p (.cells #[.slice H O G] 51);have aE:=x.size;have o:f_ (LR t W (P++(i.take (d+1)).map (· ++[b]))/\Below e.heap.size e t/\KI h t/\h.heap.size<=t.heap.size/\(∀a,some (⟨f,0,none⟩:Addr)=some ⟨a,0,none⟩->t.heap[a]?=h.heap[a]?)/\(∀a,W.ownBlock=some a->e.heap.size<=a/\(a<T.heap.size\/h.heap.size<=a))):=a_ (by
       have a9:(p.alloc (.cells #[.slice H O G] 51)).heap.size=p.heap.size+1:=by simp
       have n:=g.z;refine⟨?_,?_,(g.j.trans (KI.I (s.g.trans (D.mono am)))).trans R,by omega,λa c=>?_,λa c=>?_⟩
       .have az:i.take (d+1)=i.take d++[j]:=by
         have ae:=m.r;rw[qU,z.g,List.getD,iI (show d<i.length by omega)];rfl
        rw[az,kT,<-sx,<-ad.e];rw[ax.e]at A;exact A
       .exact(s.o.trans (D.mono (by omega))).grown x (by omega) (λI C=>(n I C).1)
       .injection c with c
        injection c with c
        subst c;rw[x.block f (by omega) (λai=>by have:=n f ai.symm;omega),D.block f (by omega),s.g.block f (by omega)];exact g.r f rfl
       .rcases X a c with E|E
        .exact n a E
        .exact⟨by omega,.inr (by omega)⟩)
      obtain⟨bh,bj,ab,-⟩:=A.shape;obtain⟨a6,U⟩:=hQ ((aa++[N]).length);rw[<-U]at ab;subst ab;clear A x R X D aE U;go_wp2;go_roundw;exact⟨d+1,by omega,by go_num,o.f,o.g,o.j,o.m,o.r,o.z⟩;simp[intOf];omega
    .have aS:d=Q:=by omega
     have bd:=a_ aS;clear aS;go_wp2;go_roundw
     .refine⟨b+1,by omega,.inl (by omega),by go_num,?_,λa c=>(g.z a c).1,g.g⟩;rw[z6 k b bp,<-v.j,<-m.m];have:=g.f;rw[ad.e,ka (by have:=m.r;have:=bd.e;omega)]at this;exact this
     simp[intOf];omega
  .go_wp2;go_ret;refine⟨_,rfl,?_,v.r,v.g⟩;have q:=v.f;rw[v.j]at q;rw[a5.e,ik];rcases bl with E|E
   .have:b=V:=by omega
    rw[this]at q;exact q
   .rw[qH (by omega)];rw[E,qH c_]at q;exact q
theorem xa(k:Nat)(b:k<=8):pC k:=by
 induction k with
 |zero=>exact AU
 |succ k a=>exact AP (by omega) (a (by omega))
theorem sk{v:Value}{z:Int}{L:Nat}{w:World}(h:kB w v z L):Calls Tryz.prog 219 #[v] w λn u=>∃g,n=.returned g/\xe w u g (z.natAbs:Int) L:=by
 obtain⟨neg,x,C,y,rfl,l,e,k,b,c⟩:=h.parts;have j:=iu l e k b c;clear h l e k b c;go_in;go_wp2_with fail;go_fit (oh (j.f.below ?_) j.g.1)
 .repeat(first|exact hP|refine ia ?_ (by simp<;>omega) _)
 rintro n i⟨g,rfl,d,a⟩;obtain⟨o,r,q,s,rfl,-⟩:=d.parts;obtain⟨t,B⟩:=oG a;have f:Ty i (w.heap.size+1) 171:=Ty.below (Ty.at_ _ _ _ (by simp)) a (by simp);have A:w.heap.size+1<i.heap.size:=f.lt;have p:Below w.heap.size w i:=Below.trans (by repeat(first|exact hP|refine ia ?_ (by simp<;>omega) _)) (a.mono (by simp<;>omega));have m:=hO d p f;clear d a p f;go_wp2_with fail;refine ig (v:=.agg #[.bool o,.slice r s.length q]) ?_ rfl ?_
 ·(simp[results,Tryz.results219,go_sem,t];done)
 .obtain⟨l,e,k,b,c⟩:=j.e;refine⟨_,rfl,?_,(m.g.setCell (by simp) _).setCell (by simp) _⟩;have:=(m.f.box m.l (by decide) (.bool o) (.slice r s.length q)).mono c;rw[b]
  cases neg
  .simpa using this
  .simpa using this
theorem zW(xs:List Nat)(k:Nat)(a:k<xs.length):val (xs.drop k)=xs.getD k 0+10000*val (xs.drop (k+1)):=by
 rw[iz xs k a,iN]
theorem yh{zs:List Nat}{k c:Nat}(a:k<zs.length):val ((zs.set k c).drop k)=c+10000*val (zs.drop (k+1)):=by
 rw[zW _ _ (by simpa using a),vL (by omega)];simp[List.getD,a]
theorem tW{x c W:Nat}(h:2*i+c=W):2*((c*10000+x)/2+10000*i)+(c*10000+x)%2=x+10000*W:=by omega
theorem Cp{v:Value}{xs:List Nat}{w:World}(s:Own w v xs)(A:Lo xs)(K:xs.length<=50000000000):Calls Tryz.prog 234 #[v] w λy D=>∃o,y=.returned o/\Cc w D o (val xs/2) xs.length:=by
 obtain⟨T,af,rfl,Y,ad,-⟩:=s.open_;have C:=b_ s A;clear s A;go_in;go_wp2_with (refine lJ rfl _ _ rfl (n:=xs.length) rfl rfl (by omega) (by omega) (by omega) ?_);intro aa b c;obtain⟨h,t⟩:=hQ xs.length;rw[<-t]at b K|-;have l:=a_ t;have E:=b_ b c;clear t b c;go_wp2_with fail;go_loopw [4,5] (λQ p wr=>∃(d i:Nat) (f:List Nat),d<=h/\p=.int .i64 ((d:Int)-1)/\i<=1/\Q=.int .i64 i/\f_ (f.length=h)/\Lo f/\Own wr (.slice (some ⟨w.heap.size,0,none⟩) h h) f/\Below w.heap.size w wr/\f_ (2*val (f.drop d)+i=val (xs.drop d))) (λ_ p _=>(intOf p+1).toNat)
 case atStart=>
  refine⟨h,0,_,c_,rfl,by omega,rfl,a_ sQ,?_,E.f,E.i,a_ ?_⟩
  .intro m j;rw[rQ j];decide
  .rw[lA (by simp),lA (by rw[l.e];exact c_)];rfl
 case round=>
  obtain⟨d,i,f,ac,rfl,V,rfl,g,k,b,c,F⟩:=hrel;have Z:=c.size;by_cases q:d=0
  .have ae:¬((0:Int)<=(d:Int)-1):=by omega
   have e:=hO b c k;have O:=a_ q;clear b c k q;go_wp2_with fail;go_fit (tC (xs:=f) e.f e.l);rintro y D⟨⟨o,rfl,u⟩,rfl⟩;have I:=a_ u;clear u;go_wp2;go_ret;obtain⟨J,H,M,X,L⟩:=I.e;refine⟨_,rfl,⟨J,H,?_,by have:=g.e;have:=l.e;omega,L _ e.f⟩,e.g⟩;have P:=F.e;rw[O.e,pO,pO]at P;rw[M];omega
  .obtain⟨a,rfl⟩:∃a,d=a+1:=⟨d-1,by omega⟩;obtain⟨r,x⟩:∃r:Int,r=((a+1:Nat):Int)-1:=⟨_,rfl⟩;have B:r=(a:Int):=by omega
   rw[<-x];rw[B];have z:a<xs.length:=by have:=l.e;omega
   obtain⟨W,rfl,N⟩:=(C.f.below c).at_ rfl a z;have R:=jW C.i a;obtain⟨m,j⟩:=hQ (xs.getD a 0);rw[<-j]at N R;have ab:=b.cell g.e a (by omega);have U:=b.frozen g.e a;have G:=a_ j;have e:=hO b c k;have S:(a:Int)<(h:Int):=by omega
   clear j b c k x B q;go_wp2_with fail;refine⟨⟨a,(i*10000+m)%2,f.set a ((i*10000+m)/2),by omega,rfl,by omega,?_,a_ (by simp[g.e]),mf e.l _ _ (by omega),e.f.Z g.e a _ (by omega),e.g.setCell c_ _,a_ ?_⟩,by simp[intOf]⟩
   .congr 1
   .rw[yh (by rw[g.e];omega),zW xs a z,<-G.e];exact tW F.e
theorem FT{xs ys:List Nat}(c:Lo xs)(b:l9 ys)(h:val ys<=val xs):ys.length<=xs.length:=by
 rcases iX xs.length ys.length with a|a
 .have:=jH c b a;omega
 .exact a
def jN(w:World)(v:Value)(n L:Nat):Prop:=∃a,l9 a/\val a=n/\a.length<=L/\Own w v a
theorem jN.below{w:World}{v:Value}{n L:Nat}(h:jN w v n L)(e:Below w.heap.size w W):jN W v n L:=by
 obtain⟨a,c,d,f,b⟩:=h;exact⟨a,c,d,f,b.below e⟩
theorem jN.shape{w:World}{v:Value}{n L:Nat}(h:jN w v n L):∃b a c,v=.slice b a c/\(a=0↔n=0)/\a<=L:=by
 obtain⟨i,e,f,g,d⟩:=h;obtain⟨b,c,rfl,-⟩:=d.open_;refine⟨b,_,c,rfl,?_,g⟩;rw[<-f,kS e];constructor
 .exact λh=>lp h
 .intro h;rw[h];rfl
theorem jN.tight{w:World}{v u:Value}{n m L M:Nat}(h:jN w v n L)(k:jN W u m M)(g:n<=m):jN w v n M:=by
 obtain⟨b,a,d,o,c⟩:=h;obtain⟨i,e,j,f,l⟩:=k;exact⟨b,a,d,iy (FT e.1 a (by omega)) f,c⟩
theorem jN.mono{w:World}{v:Value}{n L M:Nat}(h:jN w v n L)(e:L<=M):jN w v n M:=by
 obtain⟨a,c,d,f,b⟩:=h;exact⟨a,c,d,by omega,b⟩
theorem jN.nil(w:World):jN w (.slice none 0 0) 0 0:=⟨[],⟨mz,.inl rfl⟩,rfl,c_,Own.nil _⟩
theorem IL{v u:Value}{n m L M:Nat}{w:World}(j:jN w v n L)(p:jN w u m M)(x:L<=50000000000)(q:M<=50000000000):Calls Tryz.prog 228 #[v,u] w λc b=>∃a,c=.returned a/\jN b a (n+m) (max L M+1)/\Below w.heap.size w b:=by
 obtain⟨s,i,rfl,t,o⟩:=j;obtain⟨r,d,rfl,y,l⟩:=p;go_fit (G_ o l i d (by omega) (by omega));rintro c b⟨a,rfl,⟨k,e,f,z,h⟩,g⟩;exact⟨a,rfl,⟨k,e,f,by omega,h⟩,g⟩
theorem J7{v u:Value}{n m L M:Nat}{w:World}(k:jN w v n L)(q:jN w u m M)(e:m<=n)(x:L<=50000000000):Calls Tryz.prog 229 #[v,u] w λc b=>∃a,c=.returned a/\jN b a (n-m) L/\Below w.heap.size w b:=by
 obtain⟨s,f,rfl,t,p⟩:=k;obtain⟨r,d,rfl,y,o⟩:=q;go_fit (Av p o f.1 d.1 (by omega) (FT f.1 d e) e);rintro c b⟨a,rfl,⟨l,g,h,z,j⟩,i⟩;exact⟨a,rfl,⟨l,g,h,by omega,j⟩,i⟩
theorem u5{v:Value}{n L:Nat}{w:World}(h:jN w v n L)(l:L<=50000000000):Calls Tryz.prog 234 #[v] w λc b=>∃a,c=.returned a/\jN b a (n/2) L/\Below w.heap.size w b:=by
 obtain⟨o,g,rfl,p,f⟩:=h;go_fit (Cp f g.1 (by omega));rintro c b⟨a,rfl,⟨d,i,j,m,e⟩,k⟩;exact⟨a,rfl,⟨d,i,j,by omega,e⟩,k⟩
theorem Io{v u:Value}{n m L M:Nat}{w:World}(g:jN w v n L)(h:jN w u m M)(j:L<=30000000000):Calls Tryz.prog 224 #[v,u] w λe a=>e=.returned (.int .i64 (mL n m))/\Below w.heap.size w a:=by
 obtain⟨l,d,rfl,o,c⟩:=g;obtain⟨i,f,rfl,k,b⟩:=h;exact wO c b d f (by omega)
theorem IC{v:Value}{n L:Nat}{w:World}(g:jN w v n L):Calls Tryz.prog 223 #[.bool false,v] w λc b=>∃a,c=.returned a/\kB b a (n:Int) L/\Below w.heap.size w b:=by
 obtain⟨j,f,rfl,i,e⟩:=g;go_fit (oh e f.1);rintro c b⟨a,rfl,d,h⟩;exact⟨a,rfl,d.mono i,h⟩
def BQ(B:Nat)(p o r:Nat)(t:Nat):Prop:=(o=0/\r<B/\t=0)\/∃a,t=a+1/\o=2^a/\p=B*2^a/\r<B*2^(a+1)
theorem tT{B p o r t:Nat}(h:BQ B p o r t)(g:0<o):∃a,t=a+1/\o=2^a/\p=B*2^a/\∀b,(b=r/\r<p\/p<=r/\b=r-p)->BQ B (p/2) (o/2) b a:=by
 rcases h with⟨e,-,-⟩|⟨a,e,c,d,j⟩
 .omega
 .refine⟨a,e,c,d,λb i=>?_⟩;have f:B*2^(a+1)=2*p:=by rw[d,jx,<-jG,ij]
  have k:b<p:=by omega
  cases a with
  |zero=>
   simp at c d;refine .inl ⟨by rw[c],by omega,rfl⟩
  |succ a=>
   refine .inr ⟨a,rfl,?_,?_,by omega⟩
   .rw[c,jx];omega
   .rw[d,jx,<-jG];omega
theorem AO{v u:Value}{x y L M:Nat}{w:World}(bL:kB w v (x:Int) L)(b4:kB w u (y:Int) M)(ao:0<y)(c0:L<=10000000000)(dh:M<=10000000000):Calls Tryz.prog 227 #[v,u] w λj bo=>∃aF aK,j=.returned (.tuple #[aF,aK])/\kB bo aF ((x/y:Nat):Int) (L+1)/\kB bo aK ((x%y:Nat):Int) M/\Below w.heap.size w bo:=by
 obtain⟨bN,aS,bd,aN,rfl,g,D,ch,a0,ce⟩:=bL.parts;obtain⟨bV,bp,bi,aM,rfl,bZ,bn,cg,a7,b8⟩:=b4.parts;have cx:bN=false:=by
  cases bN
  .rfl
  .exfalso;have:=vm D (ch rfl);simp at a0;omega
 have cB:bV=false:=by
  cases bV
  .rfl
  .exfalso;have:=vm bn (cg rfl);simp at a7;omega
 subst cx;subst cB;have aP:val aN=x:=by simp at a0;omega
 have bF:val aM=y:=by simp at a7;omega
 have bI:jN w (.slice aS aN.length bd) x L:=⟨aN,D,aP,ce,g⟩;have cf:jN w (.slice bp aM.length bi) y M:=⟨aM,bn,bF,b8,bZ⟩;have aq:=b_ bI cf;clear bL b4 g D ch a0 bZ bn cg a7 aP bF ce b8 bI cf;obtain⟨bR,bQ⟩:=hQ aN.length;obtain⟨bO,b9⟩:=hQ aM.length;rw[<-bQ,<-b9]at aq|-;clear bQ b9;obtain⟨e,P⟩:=hQ ((((w.alloc (.cells #[.bool false,.slice aS bR bd] 171)).alloc (.cells #[.bool false,.slice bp bO bi] 171)).alloc (.cells #[.bool false,.slice none 0 0] 171)).alloc (.cells #[.bool false,.slice none 0 0] 171));have bz:e.heap.size=w.heap.size+4:=by rw[P];simp
 have bC:Below w.heap.size w e:=by rw[P];repeat(first|exact hP|refine ia ?_ (by simp<;>omega) _)
 have bP:ih e w.heap.size (.bool false) (.slice aS bR bd):=by rw[P];exact(((ih.new w _ _ rfl).alloc _).alloc _).alloc _
 have b3:ih e (w.heap.size+1) (.bool false) (.slice bp bO bi):=by rw[P];exact((ih.new _ _ _ (by simp)).alloc _).alloc _
 have bG:ih e (w.heap.size+1+1) (.bool false) (.slice none 0 0):=by rw[P];exact(ih.new _ _ _ (by simp)).alloc _
 have bW:ih e (w.heap.size+1+1+1) (.bool false) (.slice none 0 0):=by rw[P];exact ih.new _ _ _ (by simp)
 have i:=kM bP b3 bG bW bC bz P;clear bP b3 bG bW bC P;go_in;go_wp2_with fail;rw[<-i.C];have aI:jN (e.alloc (.cells #[.int .i64 1] 3)) (.slice (some ⟨w.heap.size+1+1+1+1,0,none⟩) 1 1) 1 1:=by
  refine⟨[1],⟨λx aP=>by simp at aP;omega,.inr (by decide)⟩,rfl,c_,?_⟩;refine⟨rfl,.inr ⟨w.heap.size+4,1,#[.int .i64 1],rfl,hR,?_,c_,by decide,rfl,rfl⟩⟩;have:=iP e (.cells #[.int .i64 1] 3);rw[bz]at this;exact this
 have aV:=hU e (.cells #[.int .i64 1] 3);obtain⟨cS,bJ⟩:=hQ (e.alloc (.cells #[.int .i64 1] 3));rw[<-bJ]at aI aV|-;obtain⟨cT,b1⟩:=hQ (Value.slice (some ⟨w.heap.size+1+1+1+1,0,none⟩) 1 1);rw[<-b1]at aI|-;have aW:=b_ aI aV;clear aI aV bJ b1;go_loopg [7,8] (x+1) (λa4 a1 a5 wr=>∃(a f:Nat),jN wr a1 a (max L M+1)/\jN wr a5 f (max L M+1)/\Below e.heap.size e wr/\f_ (∃E,a=y*2^E/\f=2^E/\x+1-a<=a4))
 case atStart=>exact⟨y,1,(((aq.i.below i.r).below aW.i).mono (by omega)),aW.f.mono (by omega),aW.i,a_ ⟨0,by simp,by simp,by omega⟩⟩
 case round=>
  obtain⟨a,f,S,T,aJ,aH⟩:=hrel;obtain⟨cw,cs,cu,rfl,-⟩:=S.shape;obtain⟨cy,Y,ct,rfl,-⟩:=T.shape;have bS:Below w.heap.size w wr:=i.r.trans (aJ.mono (by omega));have h:=hY S T aJ (aq.f.below bS);have bE:=aJ.size;clear S T aJ bS;go_wp2_with fail;go_fit (Io h.f h.o (by omega));rintro j cm⟨rfl,ba⟩;have U:=a_ ba;have cI:=ba.size;clear ba;by_cases bX:a<=x
  .have ae:mL a x<=0:=by unfold mL;split<;>(try split)<;>omega
   obtain⟨ap,r⟩:=hQ (mL a x);rw[<-r]at ae|-;have cv:decide (0<ap)=false:=ic (by omega);clear r;have ag:f<=a:=by
    obtain⟨E,k,g,-⟩:=aH.e;rw[k,g];exact Nat.le_mul_of_pos_left _ ao
   go_wp2_with fail;go_fit (IL ((h.f.tight h.o bX).below U.e) ((h.f.tight h.o bX).below U.e) (by omega) (by omega));rintro j cL⟨dd,rfl,bk,bH⟩;obtain⟨di,dj,dc,rfl,-⟩:=bk.shape;have bq:Below wr.heap.size wr cL:=U.e.trans (bH.mono cI);have aB:=b_ bk bq;have cH:=bq.size;clear bk bH bq;go_wp2_with fail;go_fit (IL ((h.g.tight h.o (by omega)).below aB.i) ((h.g.tight h.o (by omega)).below aB.i) (by omega) (by omega));rintro j cl⟨da,rfl,bc,bf⟩;obtain⟨dq,c8,dl,rfl,-⟩:=bc.shape;have cc:Below wr.heap.size wr cl:=aB.i.trans (bf.mono cH);have bs:=hO bc (aB.f.below bf) cc;clear bc bf cc;go_wp2;go_roundg (x+1-(a+a))
   case measure=>
    obtain⟨E,k,g,D⟩:=aH.e;have:0<a:=by rw[k];exact tB ao (rS E)
    omega
   case rel=>
    refine⟨a+a,f+f,bs.g.mono (by omega),bs.f.mono (by omega),h.j.trans (bs.l.mono bE),a_ ?_⟩;obtain⟨E,k,g,D⟩:=aH.e;refine⟨E+1,?_,?_,c_⟩
    .rw[k,jx,<-jG];omega
    .rw[g,jx];omega
  .have ae:0<mL a x:=by unfold mL;split<;>(try split)<;>omega
   obtain⟨ap,r⟩:=hQ (mL a x);rw[<-r]at ae|-;clear r;obtain⟨an,bU⟩:∃an,a=y*2^an/\f=2^an:=by
    obtain⟨E,k,g,-⟩:=aH.e;exact⟨E,k,g⟩
   have be:=a_ bU;clear bU;have cb:Below e.heap.size e cm:=h.j.trans (U.e.mono bE);have aE:=hY (h.f.below U.e) (h.g.below U.e) (h.o.below U.e) cb;clear cb;go_wp2_with fail;go_loopg [6,7,8,9] (an+1) (λa4 aK a1 a5 aF b=>∃(d a f l:Nat),jN b aK d L/\jN b a1 a (max L M+1)/\jN b a5 f (max L M+1)/\jN b aF l (L+1)/\Below e.heap.size e b/\f_ (BQ y a f d a4/\x=l*y+d))
   case atStart=>
    refine⟨x,a,f,0,aE.j,aE.f,aE.g,(jN.nil _).mono (by omega),aE.o,a_ ⟨.inr ⟨an,rfl,be.i,be.f,?_⟩,by omega⟩⟩;have:=be.f;rw[jx,<-jG,<-this];omega
   case round=>
    rename World=>b;obtain⟨d,a,f,l,au,S,T,av,aX,W⟩:=hrel;obtain⟨df,c3,c2,rfl,-⟩:=au.shape;obtain⟨cw,cs,cu,rfl,-⟩:=S.shape;obtain⟨cy,Y,ct,rfl,aC,-⟩:=T.shape;obtain⟨dg,dt,c4,rfl,-⟩:=av.shape;have bm:=aX.size;have c:=iu au S T av aX;clear au S T av aX;by_cases ag:f=0
    .have cN:Y=0:=aC.2 ag;have ck:decide (0<Y)=false:=ic (by omega);have ds:¬(0<(Y:Int)):=by omega
     have cq:=a_ ag;clear ag aC;have br:d<y/\x=l*y+d:=by
      obtain⟨k,g⟩:=W.e;have ag:=cq.e;rcases k with⟨-,D,-⟩|⟨J,-,D,-,-⟩
      .exact⟨D,g⟩
      .have:=rS J;omega
     have bj:l=x/y/\d=x%y:=by
      obtain⟨k,g⟩:=br;have bh:x/y=l:=by rw[g,ij,si ao,uO k];omega
      have cD:x%y=d:=by rw[g,ij,ue];exact oO k
      exact⟨bh.symm,cD.symm⟩
     have b7:l<=x:=by rw[bj.1];exact Nat.div_le_self _ _
     have bl:=hO bj br.1 b7;clear br bj b7;obtain⟨ah,ai,-,-⟩:=(i.f.below c.x (by omega)).cells;obtain⟨am,al,-,-⟩:=(i.g.below c.x (by omega)).cells;go_wp2_with fail;go_fit (IC c.m);rintro j ar⟨cV,rfl,aD,N⟩;obtain⟨s,m,t,cJ,rfl,-⟩:=aD.parts;obtain⟨n,bM⟩:=hQ cJ.length;rw[<-bM]at aD|-;clear bM;have aA:Below b.heap.size b (ar.alloc (.cells #[.bool s,.slice m n t] 171)):=N.alloc N.size _;have ca:=hU ar (.cells #[.bool s,.slice m n t] 171);have az:=ih.new ar (.bool s) (.slice m n t) rfl;clear ah ai am al;obtain⟨ah,ai,-,-⟩:=((i.f.below c.x (by omega)).below aA (by omega)).cells;obtain⟨am,al,-,-⟩:=((i.g.below c.x (by omega)).below aA (by omega)).cells;have aU:=N.size;have B:=hO aA az (aD.below ca);clear aD N aA ca az;go_wp2_with fail;go_fit (IC ((c.f.tight aq.i (by have:=bl.g;omega)).below B.f));rintro j O⟨ci,rfl,Q,K⟩;obtain⟨G,A,H,cr,rfl,-⟩:=Q.parts;obtain⟨C,cd⟩:=hQ cr.length;rw[<-cd]at Q|-;clear cd;have b2:ar.heap.size+1<=O.heap.size:=by have:=K.size;simpa using this
     have aL:=hU O (.cells #[.bool G,.slice A C H] 171);have bv:Below b.heap.size b O:=B.f.trans (K.mono (by simp;omega));have aG:Below b.heap.size b (O.alloc (.cells #[.bool G,.slice A C H] 171)):=bv.alloc bv.size _;have bT:=ih.new O (.bool G) (.slice A C H) rfl;have az:=(B.g.below K (by simp)).below aL (by omega);clear ah ai am al;obtain⟨ah,ai,-,-⟩:=((i.f.below c.x (by omega)).below aG (by omega)).cells;obtain⟨am,al,-,-⟩:=((i.g.below c.x (by omega)).below aG (by omega)).cells;have q:=iu aG bT az (Q.below aL) ((B.l.below K).below aL);clear Q K aL bv aG bT az;go_wp2_with fail;go_fit (kp q.m);rintro j ad⟨rfl,p⟩;have bY:O.heap.size+1<=ad.heap.size:=by have:=p.size;simpa using this
     have b0:Below b.heap.size b ad:=q.f.trans (p.mono (by simp;omega));have ak:Below e.heap.size e ad:=c.x.trans (b0.mono bm);obtain⟨c9,db,-,-⟩:=(q.g.below p (by simp)).cells;obtain⟨c7,cW,-,-⟩:=(q.j.below p (by simp;omega)).cells;clear ah ai am al;obtain⟨ah,ai,-,-⟩:=(i.f.below ak (by omega)).cells;obtain⟨am,al,-,-⟩:=(i.g.below ak (by omega)).cells;have aa:=i.j.below ak (by omega);have X:=i.m.below ak (by omega);obtain⟨dn,dp,de,cY⟩:=aa.cells;obtain⟨dr,dm,c1,cU⟩:=X.cells;have aj:=iu (i.r.trans (ak.mono (by omega))) aa X (q.m.below p) (q.x.below p);obtain⟨b6,bA⟩:=hQ (oi (d:Int));rw[<-bA];clear p b0 ak aa X bA;have bK:f_ (∀z,z=((((ad.setCell ⟨w.heap.size+1+1,0,none⟩ (.bool s)).setCell ⟨w.heap.size+1+1,1,none⟩ (.slice m n t)).setCell ⟨w.heap.size+1+1+1,0,none⟩ (.bool G)).setCell ⟨w.heap.size+1+1+1,1,none⟩ (.slice A C H))->z.cell? ⟨w.heap.size+1+1,0,none⟩=some (.bool s)/\z.cell? ⟨w.heap.size+1+1,1,none⟩=some (.slice m n t)/\z.cell? ⟨w.heap.size+1+1+1,0,none⟩=some (.bool G)/\z.cell? ⟨w.heap.size+1+1+1,1,none⟩=some (.slice A C H)/\kB z (.agg #[.bool s,.slice m n t]) ((x/y:Nat):Int) (L+1)/\kB z (.agg #[.bool G,.slice A C H]) ((x%y:Nat):Int) M/\Below w.heap.size w z):=a_ (by
      intro z ax;obtain⟨cK,aa,X,au,av⟩:=aj.e;have co:=aa.put (.bool s) (.slice m n t);have aR:ih ((ad.setCell ⟨w.heap.size+1+1,0,none⟩ (.bool s)).setCell ⟨w.heap.size+1+1,1,none⟩ (.slice m n t)) (w.heap.size+1+1+1) (.bool false) (.slice none 0 0):=by
       unfold ih;rw[js _ _ _ _ (by simp),js _ _ _ _ (by simp)];exact X
      have bD:=aR.put (.bool G) (.slice A C H);rw[<-ax]at bD;have cz:ih z (w.heap.size+1+1) (.bool s) (.slice m n t):=by
       unfold ih;rw[ax,js _ _ _ _ (by simp),js _ _ _ _ (by simp)];exact co
      obtain⟨cp,cM,-,-⟩:=bD.cells;obtain⟨cP,bh,-,-⟩:=cz.cells;refine⟨cP,bh,cp,cM,?_,?_,?_⟩
      .rw[<-bl.f.1,ax];exact(av.box aa.ty (by decide) _ _).box aR.ty (by decide) _ _
      .rw[<-bl.f.2,ax];exact(au.box aa.ty (by decide) _ _).box aR.ty (by decide) _ _
      .rw[ax];exact(((cK.setCell (by simp;omega) _).setCell (by simp;omega) _).setCell (by simp;omega) _).setCell (by simp;omega) _)
     by_cases bB:b6=0
     .subst bB;go_wp2_with fail;go_region;go_wp2_with fail;obtain⟨a8,aT,bw,a3,bu,bx,a6⟩:=bK.e _ rfl;refine ig (v:=.tuple #[.agg #[.bool s,.slice m n t],.agg #[.bool G,.slice A C H]]) ?_ rfl ?_
      ·(simp[results,Tryz.results227,go_sem,a8,aT,bw,a3];done)
      .exact⟨_,_,rfl,bu,bx,a6.drew⟩
     .have af:(b6==0)=false:=iK.2 bB;go_wp2_with fail;go_region;go_wp2_with fail;obtain⟨a8,aT,bw,a3,bu,bx,a6⟩:=bK.e _ rfl;refine ig (v:=.tuple #[.agg #[.bool s,.slice m n t],.agg #[.bool G,.slice A C H]]) ?_ rfl ?_
      ·(simp[results,Tryz.results227,go_sem,a8,aT,bw,a3];done)
      .exact⟨_,_,rfl,bu,bx,a6.drew⟩
    .have cN:0<Y:=by
      rcases kl Y with aY|aY
      .exact absurd (aC.1 aY) ag
      .exact aY
     have ck:(0:Int)<(Y:Int):=by omega
     clear aC;go_wp2_with fail;go_fit (Io c.g c.f (by omega));rintro j ar⟨rfl,N⟩;have B:=a_ N;have aU:=N.size;clear N;by_cases b5:a<=d
     .have ae:mL a d<=0:=by unfold mL;split<;>(try split)<;>omega
      obtain⟨ap,r⟩:=hQ (mL a d);rw[<-r]at ae|-;clear r;go_wp2_with fail;go_fit (J7 (c.f.below B.e) (c.g.below B.e) b5 (by omega));rintro j O⟨ci,rfl,Q,K⟩;obtain⟨A,cZ,cX,rfl,-⟩:=Q.shape;have bg:Below b.heap.size b O:=B.e.trans (K.mono aU);have b2:=bg.size;have q:=b_ Q bg;clear Q K bg;have X:l<=x:=by have:=W.i;have:l*1<=l*y:=jJ _ ao;omega
      have cE:f<=d:=by
       obtain⟨J,-,g,D,-⟩:=tT W.f (by omega);have:1*2^J<=y*2^J:=jo _ ao;omega
      go_wp2_with fail;go_fit (IL ((c.m.tight aq.f X).below q.i) ((c.j.tight c.f cE).below q.i) (by omega) (by omega));rintro j ad⟨cR,rfl,bt,p⟩;obtain⟨dk,c6,c5,rfl,-⟩:=bt.shape;have a9:Below b.heap.size b ad:=q.i.trans (p.mono b2);have bY:=a9.size;have aj:=hO bt a9 (q.f.below p);clear bt p a9;go_wp2_with fail;go_fit (u5 (c.g.below aj.g) (by omega));rintro j bb⟨cA,rfl,ab,V⟩;obtain⟨cC,cj,cn,rfl,-⟩:=ab.shape;have Z:Below b.heap.size b bb:=aj.g.trans (V.mono bY);have aZ:=Z.size;have I:=hY ab Z (aj.f.below V) (aj.l.below V);clear ab V Z;go_wp2_with fail;go_fit (u5 (c.j.below I.g) (by omega));rintro j a2⟨cO,rfl,R,F⟩;obtain⟨cG,cF,cQ,rfl,-⟩:=R.shape;have aw:Below b.heap.size b a2:=I.g.trans (F.mono aZ);have o:=iu R aw (I.f.below F) (I.j.below F) (I.o.below F);clear R F aw;obtain⟨J,af,aQ,aO,ay⟩:=tT W.f (by omega);have ac:=hY af aQ aO (ay (d-a) (.inr ⟨b5,rfl⟩));clear af aQ aO ay;go_wp2;go_roundg J
      .refine⟨d-a,a/2,f/2,l+f,o.x,o.j,o.f,o.m.mono (by omega),c.x.trans (o.g.mono bm),a_ ⟨ac.o,?_⟩⟩;have k:=W.i;have g:f*y=a:=by rw[ac.g,ac.j,ij]
       rw[jV,g];omega
      have:=ac.f;omega
     .have ae:0<mL a d:=by unfold mL;split<;>(try split)<;>omega
      obtain⟨ap,r⟩:=hQ (mL a d);rw[<-r]at ae|-;have cv:decide (ap<=0)=false:=ic (by omega);clear r;go_wp2_with fail;go_fit (u5 (c.g.below B.e) (by omega));rintro j bb⟨cA,rfl,ab,V⟩;obtain⟨cC,cj,cn,rfl,-⟩:=ab.shape;have Z:Below b.heap.size b bb:=B.e.trans (V.mono aU);have aZ:=Z.size;have I:=b_ ab Z;clear ab V Z;go_wp2_with fail;go_fit (u5 (c.j.below I.i) (by omega));rintro j a2⟨cO,rfl,R,F⟩;obtain⟨cG,cF,cQ,rfl,-⟩:=R.shape;have aw:Below b.heap.size b a2:=I.i.trans (F.mono aZ);have o:=hO R aw (I.f.below F);clear R F aw;obtain⟨J,af,aQ,aO,ay⟩:=tT W.f (by omega);have ac:=b_ af (ay d (.inl ⟨rfl,by omega⟩));clear af aQ aO ay;go_wp2;go_roundg J;exact⟨d,a/2,f/2,l,c.f.below o.g,o.l,o.f,c.m.below o.g,c.x.trans (o.g.mono bm),a_ ⟨ac.i,W.i⟩⟩;have:=ac.f;omega
theorem BH{v u:Value}{x y:Int}{L:Nat}{w:World}(R:kB w v x L)(ab:kB w u y L)(aH:L<=10000000000):Calls Tryz.prog 209 #[v,u] w λY bh=>∃aW,Y=.returned aW/\xe w bh aW ((Nat.gcd x.natAbs y.natAbs:Nat):Int) L:=by
 obtain⟨m,l,aS,bm,rfl,-⟩:=R.parts;obtain⟨d,e,aU,bj,rfl,-⟩:=ab.parts;obtain⟨aO,aK⟩:=hQ bm.length;obtain⟨aI,a1⟩:=hQ bj.length;rw[<-aK]at R|-;rw[<-a1]at ab|-;have aR:=b_ R ab;clear R ab aK a1;obtain⟨j,B⟩:=hQ (((w.alloc (.cells #[.bool m,.slice l aO aS] 171)).alloc (.cells #[.bool d,.slice e aI aU] 171)).alloc (.cells #[.bool false,.slice none 0 0] 171));have a4:j.heap.size=w.heap.size+3:=by rw[B];simp
 have aC:Below w.heap.size w j:=by rw[B];repeat(first|exact hP|refine ia ?_ (by simp<;>omega) _)
 have aJ:ih j w.heap.size (.bool m) (.slice l aO aS):=by rw[B];exact((ih.new w _ _ rfl).alloc _).alloc _
 have aY:ih j (w.heap.size+1) (.bool d) (.slice e aI aU):=by rw[B];exact(ih.new _ _ _ (by simp)).alloc _
 have aF:ih j (w.heap.size+1+1) (.bool false) (.slice none 0 0):=by rw[B];exact ih.new _ _ _ (by simp)
 have E:=ju aJ aY aF aC a4 B;clear aJ aY aF aC B;go_in;go_wp2_with fail;rw[<-E.z];go_fit (sk (aR.f.below E.m));rintro Y Q⟨bv,rfl,O,ai⟩;obtain⟨aq,am,an,a9,rfl,-⟩:=O.parts;obtain⟨aw,aX⟩:=hQ a9.length;rw[<-aX]at O|-;clear aX;have aA:=hU Q (.cells #[.bool aq,.slice am aw an] 171);have ah:=d_ ai aA;obtain⟨af,ad,-,-⟩:=(E.g.below ah (by omega)).cells;have T:=hO (O.below aA) ah (ih.new Q (.bool aq) (.slice am aw an) rfl);have bP:=ai.size;clear O ai aA ah;go_wp2_with fail;go_fit (sk ((aR.i.below E.m).below T.g));rintro Y D⟨bz,rfl,ac,M⟩;obtain⟨U,W,P,bp,rfl,-⟩:=ac.parts;obtain⟨V,aP⟩:=hQ bp.length;rw[<-aP]at ac|-;clear aP af ad;have N:=hU D (.cells #[.bool U,.slice W V P] 171);have bT:Q.heap.size+1<=D.heap.size:=by have:=M.size;simpa using this
 have a2:=T.g.trans ((d_ M N).mono (by simp;omega));have K:=(T.l.below M (by simp)).below N (by omega);have z:=iu ((T.f.below M).below N) (ac.below N) a2 K (ih.new D (.bool U) (.slice W V P) rfl);clear ac M N a2 K;go_wp2_with fail;obtain⟨be,ao⟩:=hQ (D.alloc (.cells #[.bool U,.slice W V P] 171));rw[<-ao]at z|-;have bA:be.heap.size=D.heap.size+1:=by rw[ao];simp
 clear ao;obtain⟨f,ay⟩:=hQ Q.heap.size;obtain⟨h,al⟩:=hQ D.heap.size;rw[<-ay,<-al]at z|-;have bC:f<h:=by omega
 have aZ:j.heap.size<=f:=by omega
 have bE:=b_ ay al;clear ay al;go_loopg [] (y.natAbs) (λbd wr=>∃(q i:Nat) (m:Bool) (l:Option Addr) (s A:Nat) (d:Bool) (e:Option Addr) (c g:Nat),ih wr f (.bool m) (.slice l s A)/\ih wr h (.bool d) (.slice e c g)/\kB wr (.agg #[.bool m,.slice l s A]) (q:Int) L/\kB wr (.agg #[.bool d,.slice e c g]) (i:Int) L/\Below j.heap.size j wr/\f_ (Nat.gcd q i=Nat.gcd x.natAbs y.natAbs/\bd=i))
 case atStart=>exact⟨x.natAbs,y.natAbs,aq,am,aw,an,U,W,V,P,z.m,z.x,z.f,z.g,z.j,a_ ⟨rfl,rfl⟩⟩
 case round=>
  obtain⟨q,i,m,l,s,A,d,e,c,g,ax,X,K,az,ap,au⟩:=hrel;obtain⟨aL,aT,aM,aG⟩:=ax.cells;obtain⟨af,ad,aN,aQ⟩:=X.cells;have Z:c=0↔i=0:=by
   obtain⟨neg,bF,bt,bq,ar,-,bg,-,a5,-⟩:=az.parts;simp only[j9,j_,kb,iC,Value.bool.injEq,jh]at ar;obtain⟨-,-,a8,-⟩:=ar;have bi:=kS bg;have aa:i=val bq:=by cases neg<;>simp at a5<;>omega
   rw[a8,aa,bi];constructor
   .exact λr=>lp r
   .intro r;rw[r];rfl
  have o:=iu ax X K az ap;have a6:=ap.size;have bo:=X.lt;clear ax X K az ap;by_cases ae:i=0
  .have bn:c=0:=Z.2 ae;have bl:=a_ ae;clear ae Z;have aj:=E.j.below o.x (by omega);obtain⟨bN,bO,bI,bw⟩:=aj.cells;have aV:=a_ aj;clear aj;go_wp2_with fail;obtain⟨ak,J,-,-⟩:=(aV.e.put (.bool m) (.slice l s A)).cells;refine ig (v:=.agg #[.bool m,.slice l s A]) ?_ rfl ?_
   ·(simp[results,Tryz.results209,go_sem,ak,J];done)
   .refine⟨_,rfl,?_,((E.m.trans (o.x.mono (by omega))).setCell (by simp;omega) _).setCell (by simp;omega) _⟩;have aa:=au.f;rw[bl.e,Nat.gcd_zero_right]at aa;rw[<-aa];exact o.j.box aV.e.ty (by decide) _ _
  .have bn:0<c:=by
    rcases kl c with r|r
    .exact absurd (Z.1 r) ae
    .exact r
   have bu:(0:Int)<(c:Int):=by omega
   clear Z;go_wp2_with fail;go_fit (AO o.j o.m (by omega) aH aH);rintro Y k⟨bL,bG,rfl,a0,H,p⟩;obtain⟨F,G,C,bk,rfl,-⟩:=H.parts;obtain⟨bJ,bB,bs,br,rfl,-⟩:=a0.parts;obtain⟨I,aE⟩:=hQ bk.length;rw[<-aE]at H|-;obtain⟨bQ,a3⟩:=hQ br.length;rw[<-a3];clear aE a3 a0;have n:=o.f.below p (by omega);have t:=o.g.below p bo;have bM:=p.size;clear aL aT aM aG af ad aN aQ;obtain⟨aL,aT,aM,aG⟩:=n.cells;obtain⟨af,ad,aN,aQ⟩:=t.cells;have ag:∀a b,ih ((k.alloc a).alloc b) f (.bool m) (.slice l s A):=λa b=>(n.alloc a).alloc b;have av:∀a b,ih ((k.alloc a).alloc b) h (.bool d) (.slice e c g):=λa b=>(t.alloc a).alloc b;have bH:∀a b,((k.alloc a).alloc b).cell? ⟨h,0,none⟩=some (.bool d):=λa b=>(av a b).cells.1;have bS:∀a b,((k.alloc a).alloc b).cell? ⟨h,1,none⟩=some (.slice e c g):=λa b=>(av a b).cells.2.1;have bR:∀a b,((k.alloc a).alloc b).cell? ⟨f,0,none⟩=some (.bool m):=λa b=>(ag a b).cells.1;have ar:∀a b,((k.alloc a).alloc b).cell? ⟨f,1,none⟩=some (.slice l s A):=λa b=>(ag a b).cells.2.1;have bx:f<k.heap.size:=n.lt;have bK:h<k.heap.size:=t.lt;have bD:f≠h:=by omega
   have ba:=hY n t H p;clear n t H p ag av;go_wp2;go_roundg (q%i)
   .obtain⟨n,t,H,p⟩:=ba.e;have ak:=n.put (.bool d) (.slice e c g);have J:ih ((k.setCell ⟨f,0,none⟩ (.bool d)).setCell ⟨f,1,none⟩ (.slice e c g)) h (.bool d) (.slice e c g):=by
     unfold ih;rw[js _ _ _ _ (by simp;omega),js _ _ _ _ (by simp;omega)];exact t
    have bf:=J.put (.bool F) (.slice G I C);have a7:ih ((((k.setCell ⟨f,0,none⟩ (.bool d)).setCell ⟨f,1,none⟩ (.slice e c g)).setCell ⟨h,0,none⟩ (.bool F)).setCell ⟨h,1,none⟩ (.slice G I C)) f (.bool d) (.slice e c g):=by
     unfold ih;rw[js _ _ _ _ (by simp;omega),js _ _ _ _ (by simp;omega)];exact ak
    have bc:=((o.m.below p).box n.ty (by decide) (.bool d) (.slice e c g)).box J.ty (by decide) (.bool F) (.slice G I C);have bb:=(H.box n.ty (by decide) (.bool d) (.slice e c g)).box J.ty (by decide) (.bool F) (.slice G I C);have aD:Below j.heap.size j ((((k.setCell ⟨f,0,none⟩ (.bool d)).setCell ⟨f,1,none⟩ (.slice e c g)).setCell ⟨h,0,none⟩ (.bool F)).setCell ⟨h,1,none⟩ (.slice G I C)):=((((o.x.trans (p.mono a6)).setCell aZ _).setCell aZ _).setCell (show j.heap.size<=h by omega) _).setCell (show j.heap.size<=h by omega) _;have aB:∀(S:World) (a b:Obj),Below S.heap.size S ((S.alloc a).alloc b):=λS a b=>(hS).alloc (by simp) _;refine⟨i,q%i,d,e,c,g,F,G,I,C,(a7.alloc _).alloc _,(bf.alloc _).alloc _,bc.below (aB _ _ _),bb.below (aB _ _ _),aD.trans ((aB _ _ _).mono aD.size),a_ ⟨?_,rfl⟩⟩;rw[<-au.f,Nat.gcd_comm q i,Nat.gcd_rec i q,Nat.gcd_comm]
   have r:=au.i;have:=mQ q (show 0<i by omega);omega
def gR(f:Nat->Nat->Int)(c:List Nat)(d:List (List Nat))(a:Nat):Nat:=d.foldl (λa b=>Nat.gcd a (je f c b).natAbs) a
def gA(f:Nat->Nat->Int)(c d:List (List Nat))(a:Nat):Nat:=c.foldl (λa b=>gR f b d a) a
theorem HF(f:Nat->Nat->Int)(b:List Nat):∀(c:List (List Nat)) (a:Nat),gR f b c a=0↔a=0/\∀k∈c,je f b k=0:=by
 intro c;induction c with
 |nil=>intro a;simp[gR]
 |cons i h j=>
  intro a;have:gR f b (i::h) a=gR f b h (Nat.gcd a (je f b i).natAbs):=rfl;rw[this,j,Nat.gcd_eq_zero_iff];simp only[jU,forall_eq_or_imp,Int.natAbs_eq_zero];constructor
  .rintro⟨⟨d,e⟩,g⟩;exact⟨d,e,g⟩
  .rintro⟨d,e,g⟩;exact⟨⟨d,e⟩,g⟩
theorem Ij(f:Nat->Nat->Int)(b:List (List Nat)):∀(c:List (List Nat)) (a:Nat),gA f c b a=0↔a=0/\∀l∈c,∀k∈b,je f l k=0:=by
 intro c;induction c with
 |nil=>intro a;simp[gA]
 |cons i h j=>
  intro a;have:gA f (i::h) b a=gA f h b (gR f i b a):=rfl;rw[this,j,HF];simp only[jU,forall_eq_or_imp];constructor
  .rintro⟨⟨d,e⟩,g⟩;exact⟨d,e,g⟩
  .rintro⟨d,e,g⟩;exact⟨⟨d,e⟩,g⟩
theorem Hx(f:Nat->Nat->Int)(c:List Nat)(b:List (List Nat))(a t:Nat)(d:t<b.length):gR f c (b.take (t+1)) a=Nat.gcd (gR f c (b.take t) a) (je f c (b.getD t [])).natAbs:=by
 unfold gR;rw[qU,List.foldl_append,List.getD,iI d];rfl
theorem HT(f:Nat->Nat->Int)(b c:List (List Nat))(a t:Nat)(d:t<b.length):gA f (b.take (t+1)) c a=gR f (b.getD t []) c (gA f (b.take t) c a):=by
 unfold gA;rw[qU,List.foldl_append,List.getD,iI d];rfl
def iU(f:Nat->Nat->Int)(r c k:Nat):Nat:=gA f (ik k r) (ik k c) 0
theorem Kq(L n:Nat):3<=LM L n:=by
 induction n with
 |zero=>exact c_
 |succ n a=>rw[LM];omega
theorem LR.grown{w:World}{v:Value}{xss:List (List Nat)}(h:LR w v xss)(f:w.grownBy W (some i))(j:Ty w i 171):LR W v xss:=by
 obtain⟨n,c,q,l⟩:=h;have k:KI w W:=KI.N f (λr b=>by injection b with b;subst b;exact j) (by decide);refine⟨n,c.J (λd g=>f.block d (c.own d g).1 (λa=>?_)),q,λm p=>(l m p).hV k⟩;injection a with a
 subst a;obtain⟨u,t,o⟩:=j;obtain⟨x,s,e⟩:=(c.own d g).2;rw[o]at e;simp at e
def Fx(W:World)(z:Int)(L:Nat)(p:Value)(a:World):Prop:=∃(c:Nat) (f:Bool) (b:Option Addr) (d e:Nat),p=.pointer (some ⟨c,0,none⟩)/\ih a c (.bool f) (.slice b d e)/\kB a (.agg #[.bool f,.slice b d e]) z L/\Below W.heap.size W a
theorem mX{b r c k:Nat}{aI:Nat->Nat}{f:Nat->Nat->Int}{B L:Nat}{w:World}(h:jO B w b r c aI f L)(a7:r<=12)(bS:c<=8)(be:k<=8)(aY:L<=1000000000)(aX:LM L k<=10000000000):Calls Tryz.prog 162 #[.pointer (some ⟨b,0,none⟩),.int .i64 k] w λC t=>∃bc,C=.returned bc/\xe w t bc ((iU f r c k:Nat):Int) (LM L k):=by
 have O:=b_ h aX;obtain⟨b5,bZ,ci,bo,a5,-⟩:=h.open_;clear h aX;go_in;go_wp2_with fail;go_fit (pX (n:=0) (by omega));rintro C E⟨cA,rfl,ab,aq⟩;obtain⟨e,j,d,bU,rfl,-⟩:=ab.parts;obtain⟨g,aW⟩:=hQ bU.length;rw[<-aW]at ab|-;clear aW;have ao:=(ih.new w (.bool false) (.slice none 0 0) rfl).below aq (by simp);have aT:Below w.heap.size w E:=(hS).trans (aq.mono (by simp));have bn:w.heap.size<E.heap.size:=ao.lt;have ai:=hU E (.cells #[.bool e,.slice j g d] 171);have W:=d_ aT ai;have bV:=g_ W bo;have P:=g_ W a5;have F:=hY (ao.below ai bn) (ab.below ai) W (ih.new E (.bool e) (.slice j g d) rfl);clear ab aq ao aT ai W bo a5;go_wp2_with fail;go_fit (xa k be r _ a7);rintro C bz⟨ch,rfl,aj,bM,Z⟩;have bY:E.heap.size+1<=bz.heap.size:=by have:=Z.size;simpa using this
 have bW:=g_ Z P;obtain⟨cy,b4,aH,-⟩:=id aj.shape;obtain⟨A,aJ⟩:=hQ (ik k r);rw[<-aJ]at aj aH;obtain⟨K,an⟩:=hQ A.length;rw[<-an]at aH;subst aH;have q:=hY aj Z aJ an;clear aj bM Z bV P aJ an;go_wp2_with fail;go_fit (xa k be c _ (by omega));rintro C ag⟨cs,rfl,ah,bF,V⟩;have cz:=V.size;obtain⟨cn,cp,al,-⟩:=id ah.shape;obtain⟨x,ar⟩:=hQ (ik k c);rw[<-ar]at ah al;obtain⟨G,aA⟩:=hQ x.length;rw[<-aA]at al;subst al;have R:=d_ q.g V;have bs:=F.f.below R F.f.lt;have aZ:=F.o.below R F.o.lt;have a:=vD (q.f.below V) ah (d_ F.j R) bs aZ (F.g.below R) ar aA;clear ah bF V R bs aZ bW ar aA;go_wp2_with fail;obtain⟨J,bq⟩:=hQ E.heap.size;rw[<-bq]at a|-;have ck:w.heap.size+1<=J:=by omega
 have cj:J<ag.heap.size:=by omega
 have cw:K<=4096:=by rw[q.o,q.j];exact iy (oC k r) (iy (jb (by decide) a7) (by decide))
 have cv:G<=256:=by rw[a.E,a.A];exact iy (oC k c) (iy (jb (by decide) bS) (by decide))
 clear bq bY bn;go_loopw [8] (λax wr=>∃(i:Nat) (e:Bool) (j:Option Addr) (g d:Nat),i<=K/\ax=.int .i64 i/\ih wr J (.bool e) (.slice j g d)/\kB wr (.agg #[.bool e,.slice j g d]) ((gA f (A.take i) x 0:Nat):Int) (LM L k)/\ag.grownBy wr (some J)/\Below w.heap.size w wr) (λax _=>K-(intOf ax).toNat)
 case atStart=>exact⟨0,e,j,g,d,hR,rfl,a.r,a.y.mono (Kq L k),jM _ _,a.j⟩
 case round=>
  rename World=>aV;obtain⟨i,e,j,g,d,cD,rfl,S,T,N,H⟩:=hrel;have z:=hY S T N H;clear S T N H;by_cases cq:i<K
  .have cC:(i:Int)<(K:Int):=by omega
   go_wp2_with fail;go_loopw [9] (λap wr=>∃(m:Nat) (e:Bool) (j:Option Addr) (g d:Nat),m<=G/\ap=.int .i64 m/\ih wr J (.bool e) (.slice j g d)/\kB wr (.agg #[.bool e,.slice j g d]) ((gR f (A.getD i []) (x.take m) (gA f (A.take i) x 0):Nat):Int) (LM L k)/\ag.grownBy wr (some J)/\Below w.heap.size w wr) (λap _=>G-(intOf ap).toNat)
   case atStart=>exact⟨0,e,j,g,d,hR,rfl,z.f,z.g,z.j,z.o⟩
   case round=>
    rename World=>p;obtain⟨m,e,j,g,d,b8,rfl,S,T,N,H⟩:=hrel;have bH:=H.size;have l:=hY S T N H;clear S T N H;by_cases b6:m<G
    .have cl:(m:Int)<(G:Int):=by omega
     have bm:=a.f.grown l.j a.r.ty;have bl:=a.g.grown l.j a.r.ty;obtain⟨cb,cB,P,b7,cd,ba⟩:=bm.shape;obtain⟨ce,b0,bd,b1,b9,bh⟩:=bl.shape;simp only[iC]at P bd;obtain⟨rfl,-,rfl⟩:=P;obtain⟨rfl,-,rfl⟩:=bd;obtain⟨aQ,cc,bL,-,bv,ac⟩:=ba i (by have:=q.o;omega);obtain⟨a6,cE,bO,-,bA,ad⟩:=bh m (by have:=a.E;omega);subst bL;subst bO;obtain⟨ay,aC,aE,-⟩:=ac.open_;obtain⟨aw,aB,am,-⟩:=ad.open_;obtain⟨u,X⟩:=hQ (A.getD i []);obtain⟨s,af⟩:=hQ (x.getD m []);rw[<-X]at ac aE;rw[<-af]at ad am;have a2:u.length=k/\∀au∈u,au<r:=by
      refine jC k r u ?_;rw[X,<-q.j,List.getD,iI (show i<A.length by have:=q.o;omega)];exact lf _
     have bi:s.length=k/\∀au∈s,au<c:=by
      refine jC k c s ?_;rw[af,<-a.A,List.getD,iI (show m<x.length by have:=a.E;omega)];exact lf _
     obtain⟨ak,aO⟩:=hQ u.length;obtain⟨aK,aM⟩:=hQ s.length;rw[<-aO]at aE;rw[<-aM]at am;subst aE;subst am;have o:=hY (lL ac a2 X) (lL ad bi af) aO aM;have bG:=a_ (show∀t,Below p.heap.size p t->t.cell? ⟨aQ,i,none⟩=some (.slice ay ak aC)/\t.cell? ⟨a6,m,none⟩=some (.slice aw aK aB)from λt bk=>⟨g_ bk bv,g_ bk bA⟩);clear bm bl ba bh ac ad a2 bi X af aO aM;have a8:IR p (.slice ay ak aC) u/\IR p (.slice aw aK aB) s:=by
      have D:=IR.pU o.f.1;have bX:=IR.pU o.g.1;exact⟨D,bX⟩
     have aa:=a_ a8;clear a8;go_upto_region 10 with fail
     go_cut [10]from 36 to 46 (λbE bt=>Fx p (je f u s) (LM L k) bE bt)
     case first=>
      go_region_held3 (λt=>t.cell? ⟨aQ,i,none⟩=some (.slice ay ak aC)/\t.cell? ⟨a6,m,none⟩=some (.slice aw aK aB)) (exact bG.e _ (by first|exact hb9|exact hP.drew|exact(hS).drew|exact hb9.alloc hb9.size _|exact(hb9.setCell c_ _).setCell c_ _)) (first
        |(go_at_call 205;refine(me k b r c aI f B L _ _ u s _ ((O.f.hV (KR.I l.o)).hV (KR.I (hP.drew))) (aa.f.below (hP.drew)) (aa.i.below (hP.drew)) o.f.2.1.1 o.g.2.1.1 o.f.2.1.2 o.g.2.1.2 aY O.i (by omega)).mono ?_;rintro C Y⟨bK,rfl,U,I⟩;obtain⟨bJ,bB,bx,bT,rfl,-⟩:=U.parts;have hb9:Below p.heap.size p Y:=hP.drew.trans I;clear I)
        |(go_at_call 205;refine(me k b r c aI f B L _ _ u s _ ((O.f.hV (KR.I l.o)).hV (KR.I ((hS).drew))) (aa.f.below ((hS).drew)) (aa.i.below ((hS).drew)) o.f.2.1.1 o.g.2.1.1 o.f.2.1.2 o.g.2.1.2 aY O.i (by omega)).mono ?_;rintro C Y⟨bK,rfl,U,I⟩;obtain⟨bJ,bB,bx,bT,rfl,-⟩:=U.parts;have hb9:Below p.heap.size p Y:=(hS).drew.trans (I.mono (by simp));have aN:ih Y p.heap.size (.bool false) (.slice none 0 0):=(ih.new p (.bool false) (.slice none 0 0) rfl).CQ.below I (by simp);have cr:=aN.cells;clear I))
      all_goals
       go_wp2_with fail;go_meet
       case rel=>
        first
         |exact⟨_,_,_,_,_,rfl,ih.new _ _ _ rfl,U.below hS,hb9.alloc hb9.size _⟩
         |exact⟨_,_,_,_,_,rfl,aN.put _ _,U.box aN.ty (by decide) _ _,(hb9.setCell c_ _).setCell c_ _⟩
     case rest=>
      obtain⟨b3,cg,cf,cx,co,rfl,bg,a0,M⟩:=hcut;have aF:=l.f.below M l.f.lt;obtain⟨bI,bw,-,-⟩:=bg.cells;obtain⟨aG,av,aU,a9⟩:=aF.cells;have bN:=M.size;have aD:=hY aF a0 (l.g.below M) M;clear bg a0 M aF;go_wp2_with fail;go_fit (BH (y:=je f u s) (L:=LM L k) aD.j aD.g O.i);rintro C bQ⟨ca,rfl,ae,a3⟩;obtain⟨bj,aS,bp,bP,rfl,-⟩:=ae.parts;obtain⟨aR,a1⟩:=hQ bP.length;rw[<-a1]at ae|-;clear a1 bI bw aG av aU a9;have aP:Below p.heap.size p bQ:=aD.o.trans (a3.mono bN);have aL:=l.f.below aP l.f.lt;obtain⟨aG,av,aU,a9⟩:=aL.cells;have Q:=hO aL ae aP;clear aL ae a3 aP;go_wp2;go_roundw
      .refine⟨m+1,bj,aS,aR,bp,by omega,by go_num,Q.f.put _ _,?_,lD (ib l.j Q.l),((l.o.trans (Q.l.mono bH)).setCell (by simp;omega) _).setCell (by simp;omega) _⟩;have D:=Q.g.box Q.f.ty (by decide) (.bool bj) (.slice aS aR bp);rw[Hx f _ x _ m (by have:=a.E;omega),<-o.f.2.2,<-o.g.2.2];rw[<-o.f.2.2,nc]at D;exact D
      simp[intOf];omega
    .have br:m=G:=by omega
     have bu:=a_ br;clear br;go_wp2;go_roundw
     .refine⟨i+1,e,j,g,d,by omega,by go_num,l.f,?_,l.j,l.o⟩;have:=l.g;rw[ka (by have:=a.E;have:=bu.e;omega)]at this;rw[HT f A x 0 i (by have:=q.o;omega)];exact this
     simp[intOf];omega
  .have bf:i=K:=by omega
   have bD:=a_ bf;clear bf;have a4:aV.heap[w.heap.size]?=ag.heap[w.heap.size]?:=z.j.block _ (by omega) (by simp;omega);have az:ih aV w.heap.size (.bool false) (.slice none 0 0):=by unfold ih;rw[a4];exact a.m
   obtain⟨ct,cu,cm,b2⟩:=az.cells;obtain⟨aG,av,-,-⟩:=z.f.cells;have bb:=a_ az;clear a4 az;go_wp2_with fail;obtain⟨bR,bC,-,-⟩:=(bb.e.put (.bool e) (.slice j g d)).cells;refine ig (v:=.agg #[.bool e,.slice j g d]) ?_ rfl ?_
   ·(simp[results,Tryz.results162,go_sem,bR,bC];done)
   .refine⟨_,rfl,?_,(z.o.setCell c_ _).setCell c_ _⟩;have D:=z.g.box bb.e.ty (by decide) (.bool e) (.slice j g d);rw[ka (by have:=q.o;have:=bD.e;omega)]at D;unfold iU;rw[<-q.j,<-a.A];exact D
def iF(f:Nat->Nat->Int)(r c k:Nat):Prop:=k<=r/\k<=c/\(∀a,a<k->iU f r c (a+1)≠0)/\(k=r\/k=c\/iU f r c (k+1)=0)
theorem mW{b r c:Nat}{D:Nat->Nat}{f:Nat->Nat->Int}{B L:Nat}{w:World}(h:jO B w b r c D f L)(ag:r<=12)(al:c<=7)(W:L<=1000000000):Calls Tryz.prog 160 #[.pointer (some ⟨b,0,none⟩)] w λj ac=>∃d:Nat,j=.returned (.int .i64 d)/\iF f r c d/\Below w.heap.size w ac:=by
 have aa:=a_ h;have J:∀d,d<=8->LM L d<=10000000000:=by
  intro d Y;have N:∀e,LM L e<=3+e*(L+e+5):=by
   intro e;induction e with
   |zero=>simp[LM]
   |succ e ao=>
    rw[LM,rG];have:e*(L+e+5)<=e*(L+(e+1)+5):=jJ _ (by omega);omega
  have af:=N d;have ak:d*(L+d+5)<=8*(1000000000+8+5):=jR Y (by omega);omega
 have R:=a_ J;obtain⟨aj,ah,aq,X,ae,-⟩:=h.open_;clear h J;go_in;go_wp2_with fail;go_loopw [3] (λd wr=>∃a:Nat,a<=r/\a<=c/\d=.int .i64 a/\Below w.heap.size w wr/\f_ (∀g,g<a->iU f r c (g+1)≠0)) (λd _=>r-(intOf d).toNat)
 case atStart=>exact⟨0,hR,hR,rfl,hP,a_ (λg Z=>by omega)⟩
 case round=>
  obtain⟨a,y,x,rfl,i,o⟩:=hrel;have an:=g_ i X;have ai:=g_ i ae;have V:=i.size;have q:=a_ i;clear i;by_cases N:a<r
  .have T:(a:Int)<(r:Int):=by omega
   by_cases af:a<c
   .have ad:(a:Int)<(c:Int):=by omega
    go_wp2_with fail;go_fit (@mX b r c (a+1) D f B L _ (aa.e.hV (KR.I q.e)) (by omega) (by omega) (by omega) W (R.e _ (by omega)));rintro j O⟨ap,rfl,l,Q⟩;obtain⟨H,F,E,ab,rfl,-⟩:=l.parts;obtain⟨P,I⟩:=hQ ab.length;rw[<-I]at l|-;clear I;have z:=hU O (.cells #[.bool H,.slice F P E] 171);have M:Below wr.heap.size wr (O.alloc (.cells #[.bool H,.slice F P E] 171)):=d_ Q z;obtain⟨p,t⟩:=hQ (iU f r c (a+1));rw[<-t]at l;have n:=hO (l.below z) M t;clear l Q z M t;go_wp2_with fail;go_fit (@kp _ (p:Int) (LM L (a+1)) _ n.f);rintro j S⟨rfl,K⟩;have G:Below w.heap.size w S:=q.e.trans ((d_ n.g K).mono V);obtain⟨A,s⟩:=hQ (oi (p:Int));rw[<-s];have m:=b_ G s;clear K G s;by_cases u:A=0
    .subst u;have k:p=0:=by
      have:=m.i;unfold oi at this;split at this
      .omega
      .split at this<;>omega
     have v:=a_ k;clear k;go_wp2;go_ret;exact⟨a,rfl,⟨y,x,o.e,.inr (.inr (by rw[<-n.l];exact v.e))⟩,m.f⟩
    .have am:(A==0)=false:=iK.2 u;have k:p≠0:=by
      intro j;have C:=m.i;rw[j]at C;exact u (by rw[C];rfl)
     have v:=a_ k;clear k;go_wp2;go_roundw
     .refine⟨a+1,by omega,by omega,by go_num,m.f,a_ (λg Z=>?_)⟩;by_cases U:g=a
      .rw[U,<-n.l];exact v.e
      .exact o.e g (by omega)
     simp[intOf];omega
   .have ad:¬(a:Int)<(c:Int):=by omega
    go_wp2;go_ret;exact⟨a,rfl,⟨y,x,o.e,.inr (.inl (by omega))⟩,q.e⟩
  .have T:¬(a:Int)<(r:Int):=by omega
   go_wp2;go_ret;exact⟨a,rfl,⟨y,x,o.e,.inl (by omega)⟩,q.e⟩
def mv:List (Nat->Int)->List Nat->Int
 |[],_=>1
 |c::d,b=>jP b.length λa=>signed a (c (b.getD a 0)*mv d (b.eraseIdx a))
theorem qR(f:Nat->Nat->Int):∀(a b:List Nat),je f a b=mv (a.map f) b:=by
 intro a;induction a with
 |nil=>intro b;rfl
 |cons e g c=>intro b;rw[je,nr,mv];exact kC (λd _=>by rw[c])
theorem A5(n:Nat)(a b:Int)(g h:Nat->Int):jP n (λc=>a*g c+b*h c)=a*jP n g+b*jP n h:=by
 induction n with
 |zero=>simp[jP]
 |succ n d=>rw[jP,jP,jP,d];grind
theorem wL(k:Nat)(a b x y:Int):signed k (a*x+b*y)=a*signed k x+b*signed k y:=by
 unfold signed;split<;>grind
theorem yG(a b:Int)(u v:Nat->Int)(ys:List (Nat->Int)):∀(c:List (Nat->Int)) (d:List Nat),mv (c++(λe=>a*u e+b*v e)::ys) d=a*mv (c++u::ys) d+b*mv (c++v::ys) d:=by
 intro c;induction c with
 |nil=>
  intro d;rw[om,om,om,mv,mv,mv,<-A5];refine kC (λf _=>?_);rw[<-wL];congr 1;grind
 |cons h c g=>
  intro d;rw[mS,mS,mS,mv,mv,mv,<-A5];refine kC (λf _=>?_);rw[g,<-wL];congr 1;grind
theorem uf(n:Nat)(g:Nat->Int)(h:∀a,a<n->g a=0):jP n g=0:=by
 induction n with
 |zero=>rfl
 |succ n b=>rw[jP,b (λa c=>h a (by omega)),h n (by omega)];rfl
theorem qX(u:Nat->Int)(ys:List (Nat->Int)):∀(b:List (Nat->Int)) (a:List Nat),(∀f∈a,u f=0)->b.length<a.length->mv (b++u::ys) a=0:=by
 intro b;induction b with
 |nil=>
  intro a e _;rw[om,mv];refine uf _ _ (λc d=>?_);rw[e (a.getD c 0) (by rw[List.getD,iI d];exact lf _)];unfold signed;split<;>simp
 |cons f b i=>
  intro a e h;rw[mS,mv];refine uf _ _ (λc d=>?_);rw[i (a.eraseIdx c) (λg j=>e g (xS j)) (by rw[uv,if_pos d];simp at h;omega)];unfold signed;split<;>simp
theorem qJ(c:Nat):∀(b:List (Nat->Int)) (a:List Nat),(∀f∈b,f c=0)->c∈a->a.length=b.length->mv b a=0:=by
 intro b;induction b with
 |nil=>intro a _ e d;have:a=[]:=lp d;subst this;cases e
 |cons f b m=>
  intro a i e d;rw[mv];refine uf _ _ (λh l=>?_);by_cases k:a.getD h 0=c
  .rw[k,i f (by simp)];unfold signed;split<;>simp
  .rw[m (a.eraseIdx h) (λp n=>i p (lg _ n)) ?_ (by rw[uv,if_pos l];simp at d;omega)]
   .unfold signed;split<;>simp
   .rw[List.mem_eraseIdx_iff_getElem?];obtain⟨q,j,g⟩:=lZ.1 e;refine⟨q,λo=>k ?_,by rw[iI j,g]⟩;subst o;rw[List.getD,iI j];exact g
theorem As:∀(c a:List (Nat->Int)) (b:List Nat),c.length=a.length->(∀e,e<c.length->∀g∈b,(c.getD e (λ_=>0)) g=(a.getD e (λ_=>0)) g)->mv c b=mv a b:=by
 intro c;induction c with
 |nil=>intro a b d _;have:a=[]:=lp d.symm;subst this;rfl
 |cons j c m=>
  intro a b d h;match a,d with
  |p::a,d=>
   rw[mv,mv];refine kC (λf k=>?_);have l:=h 0 (by simp) (b.getD f 0) (by rw[List.getD,iI k];exact lf _);have n:j (b.getD f 0)=p (b.getD f 0):=by simpa using l
   rw[n,m a (b.eraseIdx f) (by simpa using d) (λe o g i=>by
    have:=h (e+1) (by simpa using o) g (xS i);simpa using this)]
theorem Fu(u v:Nat->Int):∀(b:List (Nat->Int)) (a:List Nat),b.length<=2->a.length=b.length+2->mv (u::v::b) a=-mv (v::u::b) a:=by
 intro b a g c;match b,g with
 |[],_=>
  match a,c with
  |[e,d],_=>simp[mv,jP,signed];grind
 |[f],_=>
  match a,c with
  |[e,d,h],_=>simp[mv,jP,signed];grind
 |[f,j],_=>
  match a,c with
  |[e,d,h,i],_=>simp[mv,jP,signed];grind
theorem Gk(n:Nat)(g:Nat->Int):jP n (λa=>-g a)=-jP n g:=by
 induction n with
 |zero=>rfl
 |succ n b=>rw[jP,jP,b];grind
theorem yd(u v:Nat->Int)(ys:List (Nat->Int)):∀(b:List (Nat->Int)) (a:List Nat),a.length=b.length+ys.length+2->ys.length<=2->mv (b++u::v::ys) a=-mv (b++v::u::ys) a:=by
 intro b;induction b with
 |nil=>intro a d c;exact Fu u v ys a c (by simpa using d)
 |cons h b g=>
  intro a d c;rw[mS,mS,mv,mv,<-Gk];refine kC (λe f=>?_);rw[g (a.eraseIdx e) (by rw[uv,if_pos f];simp at d;omega) c];unfold signed;split<;>grind
theorem C6(d:Int)(u:Nat->Int)(zs:List (Nat->Int)):∀(b c:List (Nat->Int)) (a:List Nat),a.length=c.length+b.length+zs.length+1->a.length<=4->(d∣mv (c++u::b++zs) a↔d∣mv (c++b++u::zs) a):=by
 intro b;induction b with
 |nil=>intro c a _ _;simp
 |cons e b h=>
  intro c a f g;have i:mv (c++u::(e::b)++zs) a=-mv ((c++[e])++u::b++zs) a:=by
   have:=yd u e (b++zs) c a (by simp at f|-;omega) (by simp at f|-;omega);simpa using this
  have j:=h (c++[e]) a (by simp at f|-;omega) g;rw[i,Int.dvd_neg,j];simp
theorem vl(u:Nat->Int){xs ys zs:List (Nat->Int)}{C:List Nat}(d:C.length=xs.length+ys.length+zs.length+2)(b:C.length<=4):mv (xs++u::ys++u::zs) C=0:=by
 have a:=C6 0 u (u::zs) ys xs C (by simp;omega) b;rw[uK,uK]at a;rw[a];have c:=yd u u zs (xs++ys) C (by simp;omega) (by omega);omega
theorem vJ{k n:Nat}{Q:List Nat}(h:Q∈ik k n):k<=n:=by
 cases k with
 |zero=>omega
 |succ k=>
  rw[ik,List.mem_flatMap]at h;obtain⟨d,a,-⟩:=h;obtain⟨e,b,c⟩:=lZ.1 a;rw[pJ,j1]at b;omega
theorem qO{k n x:Nat}:x∈(List.range n).drop k↔k<=x/\x<n:=by
 constructor
 .intro a;obtain⟨f,c,b⟩:=lZ.1 a;rw[List.getElem_drop,List.getElem_range]at b;rw[pJ,j1]at c;omega
 .rintro⟨d,e⟩;refine lZ.2 ⟨x-k,by rw[pJ,j1];omega,?_⟩;rw[List.getElem_drop,List.getElem_range];omega
theorem pL{k n:Nat}{Q:List Nat}(h:Q∈ik k i)(a:i<n):Q++[i]∈ik (k+1) n:=by
 rw[ik,List.mem_flatMap];exact⟨i,qO.2 ⟨vJ h,a⟩,kt.2 ⟨Q,h,rfl⟩⟩
theorem sX{k n:Nat}(h:X∈ik (k+1) n):∃b a,X=b++[a]/\b∈ik k a/\k<=a/\a<n:=by
 rw[ik,List.mem_flatMap]at h;obtain⟨a,d,h⟩:=h;obtain⟨b,c,rfl⟩:=kt.1 h;have:=qO.1 d;exact⟨b,a,rfl,c,this.1,this.2⟩
theorem EG:∀(b:List Nat),b≠[]->∃h d f,b=h++d::f/\∀c∈b,c<=d:=by
 intro b;induction b with
 |nil=>intro a;exact absurd rfl a
 |cons g b k=>
  intro _;by_cases j:b=[]
  .subst j;exact⟨[],g,[],rfl,λc e=>by simp at e;omega⟩
  .obtain⟨h,d,f,rfl,i⟩:=k j;by_cases l:g<=d
   .exact⟨g::h,d,f,rfl,λc e=>by
     rcases jU.1 e with a|a
     .omega
     .exact i c a⟩
   .exact⟨[],g,h++d::f,rfl,λc e=>by
     rcases jU.1 e with a|a
     .omega
     .have:=i c a;omega⟩
theorem n1(d:Int)(f:Nat->Nat->Int){C:List Nat}(s:C.length<=4):∀(i l:Nat) (b:List Nat),C.length=i+b.length->(∀g∈ik i l,d∣mv ((g++b).map f) C)->∀g:List Nat,g.length=i->(∀m∈g,m<l)->d∣mv ((g++b).map f) C:=by
 intro i;induction i with
 |zero=>
  intro l b F h g j _;have:g=[]:=lp j;subst this;exact h [] (by simp[ik])
 |succ i D=>
  intro l b F h g j w;obtain⟨e,a,c,rfl,y⟩:=EG g (by intro t;rw[t]at j;simp at j);have H:e.length+c.length=i:=by simp at j;omega
  have z:a<l:=w a (by simp);have E:=C6 d (f a) (b.map f) (c.map f) (e.map f) C (by simp;omega) s;have u:(e++a::c++b).map f=e.map f++f a::c.map f++b.map f:=by simp
  have x:(e++c++a::b).map f=e.map f++c.map f++f a::b.map f:=by simp
  rw[u,E,<-x];by_cases p:a∈e++c
  .obtain⟨n,k,q⟩:=wU p;rw[q,show n++a::k++a::b=n++a::(k++a::b)from by simp];have:=@vl (f a) (n.map f) (k.map f) (b.map f) C (by
    have o:(e++c).length=n.length+k.length+1:=by rw[q];simp;omega
    simp at o|-;omega) s
   have B:mv (List.map f (n++a::(k++a::b))) C=0:=by simpa using this
   rw[B];exact uo d
  .refine D a (a::b) (by simp;omega) (λA v=>?_) (e++c) (by simp;omega) (λm r=>?_)
   .have:=h (A++[a]) (pL v z);simpa using this
   .have G:=y m (by
     rcases ji.1 r with h|h
     .exact ji.2 (.inl h)
     .exact ji.2 (.inr (lg _ h)))
    rcases iX m a with o|o
    .exact o
    .have:m=a:=by omega
     subst this;exact absurd r p
def yY(d:Int)(f:Nat->Nat->Int)(r:Nat)(C:List Nat):Prop:=∀a:List Nat,a.length=C.length->(∀b∈a,b<r)->d∣mv (a.map f) C
theorem JH(d:Nat)(f:Nat->Nat->Int)(b:List Nat):∀(c:List (List Nat)) (a:Nat),d∣gR f b c a↔d∣a/\∀i∈c,(d:Int)∣je f b i:=by
 intro c;induction c with
 |nil=>intro a;simp[gR]
 |cons g e h=>
  intro a;have:gR f b (g::e) a=gR f b e (Nat.gcd a (je f b g).natAbs):=rfl;rw[this,h,Nat.dvd_gcd_iff];simp only[jU,forall_eq_or_imp,Df,and_assoc]
theorem JN(d:Nat)(f:Nat->Nat->Int)(b:List (List Nat)):∀(c:List (List Nat)) (a:Nat),d∣gA f c b a↔d∣a/\∀j∈c,∀i∈b,(d:Int)∣je f j i:=by
 intro c;induction c with
 |nil=>intro a;simp[gA]
 |cons g e h=>
  intro a;have:gA f (g::e) b a=gA f e b (gR f g b a):=rfl;rw[this,h,JH];simp only[jU,forall_eq_or_imp,and_assoc]
theorem la(d:Nat)(f:Nat->Nat->Int)(r c m:Nat)(o:m<=4):d∣iU f r c m↔∀a∈ik m c,yY d f r a:=by
 unfold iU;rw[JN];constructor
 .rintro⟨-,g⟩ a b e i k;have l:=(jC m c a b).1;have:=@n1 d f a (by omega) m r [] (by simp[l]) (λj n=>by
   have:=g j n a b;rw[qR]at this;simpa using this) e (by omega) k
  simpa using this
 .intro g;refine⟨Nat.dvd_zero d,λe i a b=>?_⟩;rw[qR];have h:=jC m r e i;exact g a b e (by rw[h.1,(jC m c a b).1]) h.2
def yu(f:Nat->Nat->Int)(r c m:Nat):Prop:=∀a:List Nat,a.length=m->(∀b∈a,b<r)->∀d∈ik m c,mv (a.map f) d=0
theorem po(f:Nat->Nat->Int)(r c m:Nat):yu f r c m↔∀a∈ik m c,yY 0 f r a:=by
 constructor
 .intro e a b g h d;rw[e g (by rw[h,(jC m c a b).1]) d a b];exact Int.dvd_refl 0
 .intro e g h d a b;exact uK.1 (e a b g (by rw[h,(jC m c a b).1]) d)
theorem oF(f:Nat->Nat->Int)(r c m:Nat)(a:m<=4):iU f r c m=0↔yu f r c m:=by
 rw[po,<-Nat.zero_dvd,la 0 f r c m a];exact Iff.rfl
structure JT (g:Nat->Nat->Int) (r c p:Nat) (pc:Nat->Nat):Prop where
 le:p<=r
 lY:∀b,b<p->pc b<c
 up:∀a b,a<b->b<p->pc a<pc b
 zr:∀b,b<p->g b (pc b)≠0
 below:∀a b,b<p->b<a->a<r->g a (pc b)=0
 rest:∀a,p<=a->a<r->∀j,j<c->g a j=0
theorem wE{pc:Nat->Nat}{p:Nat}(g:∀d b,d<b->b<p->pc d<pc b):∀a c,a<=p->(∀b,b<a->pc b<c)->(List.range a).map pc∈ik a c:=by
 intro a;induction a with
 |zero=>intro c _ _;simp[ik]
 |succ a e=>
  intro c i h;rw[lW,kT,tL];exact pL (e (pc a) (by omega) (λb f=>g b a f (by omega))) (h a (by omega))
theorem z_(n:Nat)(g:Nat->Int)(h:∀a,0<a->a<n+1->g a=0):jP (n+1) g=g 0:=by
 induction n with
 |zero=>simp[jP]
 |succ n b=>rw[jP,b (λa c d=>h a c (by omega)),h (n+1) (by omega) (by omega)];simp
theorem lX{g:Nat->Nat->Int}{r c p:Nat}{pc:Nat->Nat}(h:JT g r c p pc):∀b a,a+b<=p->mv ((List.range' a b).map g) ((List.range' a b).map pc)≠0:=by
 intro b;induction b with
 |zero=>intro a _;simp[mv]
 |succ b k=>
  intro a s;rw[zC,nr,nr,mv,j3,z_ _ _ (λd q f=>?_)]
  .have l:signed 0 (g a ((pc a::(List.range' (a+1) b).map pc).getD 0 0)*mv ((List.range' (a+1) b).map g) ((pc a::(List.range' (a+1) b).map pc).eraseIdx 0))=g a (pc a)*mv ((List.range' (a+1) b).map g) ((List.range' (a+1) b).map pc):=by simp[signed]
   rw[l];intro j;rcases Int.mul_eq_zero.1 j with e|e
   .exact h.zr a (by omega) e
   .exact k (a+1) (by omega) e
  .have o:mv ((List.range' (a+1) b).map g) ((pc a::(List.range' (a+1) b).map pc).eraseIdx d)=0:=by
    refine qJ (pc a) _ _ (λu m=>?_) ?_ ?_
    .obtain⟨n,i,rfl⟩:=kt.1 m;have t:=x6.1 i;have:=h.le;exact h.below n a (by omega) (by omega) (by omega)
    .match d,q with
     |d+1,_=>simp
    .rw[uv,if_pos (by simpa using f)];simp
   rw[o];unfold signed;split<;>simp
theorem Al{g:Nat->Nat->Int}{r c p:Nat}{pc:Nat->Nat}(h:JT g r c p pc):p<=c:=by
 have b:∀a,a<p->a<=pc a:=by
  intro a;induction a with
  |zero=>intro _;omega
  |succ a e=>intro j;have f:=e (by omega);have i:=h.up a (a+1) (by omega) j;omega
 rcases kl p with d|d
 .omega
 .have f:=b (p-1) (by omega);have i:=h.lY (p-1) (by omega);omega
theorem Fl{f g:Nat->Nat->Int}{r c p:Nat}{pc:Nat->Nat}(h:JT g r c p pc)(k:∀n,yu f r c n↔yu g r c n)(D:r<=4)(_hc:c<=4):iF f r c p:=by
 refine⟨h.le,Al h,λa F z=>?_,?_⟩
 .have v:=h.le;have x:=(k (a+1)).1 ((oF f r c (a+1) (by omega)).1 z);have A:=x (List.range (a+1)) j1 (λe d=>by have:=jB.1 d;omega) ((List.range (a+1)).map pc) (wE h.up (a+1) c (by omega) (λo E=>h.lY o (by omega)));have j:=lX h (a+1) 0 (by omega);rw[<-rO]at j;exact j A
 .by_cases y:p=r
  .exact .inl y
  .by_cases s:p=c
   .exact .inr (.inl s)
   .refine .inr (.inr ?_);have v:=h.le;rw[oF f r c (p+1) (by omega),k,<-oF g r c (p+1) (by omega)];unfold iU;rw[Ij];refine⟨rfl,λG u m B=>?_⟩;obtain⟨l,b,rfl,q,C,t⟩:=sX u;rw[qR,kT,tL];have i:=jC (p+1) c m B;have w:=jC p b l q;exact qX (g b) [] (l.map g) m (λe d=>h.rest b C t e (i.2 e d)) (by simp[i.1,w.1])
theorem Dm{v:Nat->Int}(ys:List (Nat->Int)):∀(b:List (Nat->Int)) (a:List Nat),(∀e∈a,v e=P e)->mv (b++v::ys) a=mv (b++P::ys) a:=by
 intro b;induction b with
 |nil=>
  intro a d;rw[om,om,mv,mv];refine kC (λc g=>?_);rw[d (a.getD c 0) (by rw[List.getD,iI g];exact lf _)]
 |cons e b h=>
  intro a d;rw[mS,mS,mv,mv];refine kC (λc _=>?_);rw[h (a.eraseIdx c) (λf i=>d f (xS i))]
theorem Gn(u:Nat->Int)(f:Nat->Nat->Int)(xs ys:List (Nat->Int))(C:List Nat):∀b,mv (xs++(λc=>sm (λa=>u a*f a c) b)::ys) C=sm (λa=>u a*mv (xs++f a::ys) C) b:=by
 intro b;induction b with
 |zero=>
  have:=yG 0 0 (λ_=>0) (λ_=>0) ys xs C;rw[Int.zero_mul,Int.zero_mul,Int.add_zero]at this;rw[sm];rw[<-this];exact Dm ys xs C (λg _=>by simp[sm])
 |succ b e=>
  have d:=yG 1 (u b) (λc=>sm (λa=>u a*f a c) b) (f b) ys xs C;rw[e]at d;rw[sm,show sm (λa=>u a*mv (xs++f a::ys) C) b+u b*mv (xs++f b::ys) C=1*sm (λa=>u a*mv (xs++f a::ys) C) b+u b*mv (xs++f b::ys) C from by omega,<-d];exact Dm ys xs C (λg _=>by rw[sm];omega)
theorem Gr{d:Int}{f:Nat->Int}(n:Nat)(h:∀a,a<n->d∣f a):d∣sm f n:=by
 induction n with
 |zero=>exact uo d
 |succ n b=>rw[sm];exact Int.dvd_add (b (λa c=>h a (by omega))) (h n (by omega))
def yl(f:Nat->Nat->Int)(r:Nat)(C:List Nat)(v:Nat->Int):Prop:=∃c:Nat->Int,∀a∈C,v a=sm (λb=>c b*f b a) r
theorem Am{d:Int}{f:Nat->Nat->Int}{r:Nat}{C:List Nat}(h:yY d f r C):∀(b:List (Nat->Int)),(∀c∈b,yl f r C c)->∀(a:List Nat),a.length+b.length=C.length->(∀j∈a,j<r)->d∣mv (a.map f++b) C:=by
 intro b;induction b with
 |nil=>
  intro _ a g e;rw[rV];exact h a (by simpa using g) e
 |cons c b n=>
  intro k a g e;obtain⟨m,o⟩:=k c (by simp);rw[Dm b (a.map f) C o,Gn m f (a.map f) b C r];refine Gr r (λl s=>Int.dvd_trans ?_ (AV _ _));have:=n (λc p=>k c (by simp[p])) (a++[l]) (by simp at g|-;omega) (λj q=>by
   rcases ji.1 q with i|i
   .exact e j i
   .simp at i;omega)
  simpa using this
theorem k_{d:Int}{f g:Nat->Nat->Int}{r r':Nat}{C:List Nat}(h:yY d f r C)(c:∀a,a<r'->yl f r C (g a)):yY d g r' C:=by
 intro i e b;have:=Am h (i.map g) (λm j=>by
  obtain⟨a,k,rfl⟩:=kt.1 j;exact c a (b a k)) [] (by simpa using e) (λl b=>by simp at b)
 simpa using this
theorem oR{f g u:Nat->Nat->Int}{r c i:Nat}{C:List Nat}(e:∀a∈C,a<c)(h:∀b,b<c->dot u f i b r=g i b):yl f r C (g i):=
 ⟨u i,λa d=>by rw[<-h a (e a d),iD]⟩
theorem jI{m c:Nat}{C:List Nat}(h:C∈ik m c):C.length=m/\∀a∈C,a<c:=by
 have:=jC m c C h;exact⟨this.1,λa b=>by
  obtain⟨g,f,e⟩:=lZ.1 b;have d:=this.2;first
   |exact d a b
   |(rw[<-e];exact d g f)⟩
theorem D0{A U W:Nat->Nat->Int}{r c:Nat}(h:jw A B U W r c)(m:Nat):yu A r c m↔yu B r c m:=by
 rw[po,po];constructor
 .intro i d a;exact k_ (i d a) (λf e=>oR (jI a).2 (λb g=>h.ua f b e g))
 .intro j d a;exact k_ (j d a) (λf e=>oR (jI a).2 (λb g=>h.wh f b e g))
end R
section
open R
def gz(c:Nat)(zs:List Int):Nat->Nat->Int:=λa b=>zs.getD (a*c+b) 0
theorem iJ.Ln{r c k:Nat}{pc:Nat->Nat}(h:iJ r c k pc A):JT A r c k pc:=
 ⟨h.le,h.lY,h.up,λa b=>by have:=h.zr a b;omega,λd a b f e=>h.below a b d f e,h.rest⟩
theorem ot{r c k:Nat}{pc:Nat->Nat}{A U W:Nat->Nat->Int}(h:iJ r c k pc B)(a:jw A B U W r c)(b:r<=4)(d:c<=4):iF A r c k:=
 Fl h.Ln (λe=>D0 a e) b d
theorem i_.slice{w:World}{s:Value}{r c L:Nat}{zs:List Int}(h:i_ w (.agg #[.int .i64 r,.int .i64 c,s]) r c zs L):∃a b,s=.slice a (r*c) b:=by
 obtain⟨_,_,f,d,e⟩:=h;obtain⟨a,b,rfl,-⟩:=e.shape;simp only[j9,j_,kb,jh,nh]at d;exact⟨a,b,d⟩
theorem BA(a b j d e h f g i:Value)(k:Int):∀c:World,(Instr.field 74 (.agg #[a,b,j,d,e,h,f,g,i,.int .i64 k]) 3).run Tryz.prog c=.ok (.int .i64 k) c:=λ_=>by kernel_rfl
theorem hW.e_{r c:Nat}{zs:List Int}(h:hW r c zs)(i j:Nat)(a:i<r)(b:j<c):(e_ c zs i j).natAbs<2^48:=h.2.2 _ (jq a b)
theorem Ck{r c:Nat}(d:r<=4)(b:c<=4):hB r 48 c<=32*4000/\uB r 48 c<=32*4000:=by
 have a:∀r:Fin 5,∀c:Fin 5,hB r.val 48 c.val<=32*4000/\uB r.val 48 c.val<=32*4000:=by decide
 exact a ⟨r,by omega⟩ ⟨c,by omega⟩
theorem oe{v:Value}{r c:Nat}{zs:List Int}{L:Nat}{w:World}(i:i_ w v r c zs L)(a:r<=4)(b:c<=4)(j:∀e d,e<r->d<c->(e_ c zs e d).natAbs<2^48)(g:L<=4000):Calls Tryz.prog 37 #[v] w λh f=>B2 w f h r c zs 48 4000:=
 sN (i.mono g) (by omega) (by omega) j (by omega) (Ck a b).1 (Ck a b).2
end
theorem Ft{v:Value}{r c:Nat}{zs:List Int}{L:Nat}{w:World}(g:i_ w v r c zs L)(d:0<r)(e:i<c):Calls Tryz.prog 64 #[v,.int .i64 0,.int .i64 i] w λf b=>∃a,f=.returned a/\jD w b a (zs.getD i 0) L:=by
 have:=jy g d e;rw[pS,jF]at this;exact this
theorem oD.other{w:World}{b d r c p:Nat}{s x y:Value}(h:oD w b d r c z u s)(n:p≠b)(o:p≠d):oD ((w.setCell ⟨p,0,none⟩ x).setCell ⟨p,1,none⟩ y) b d r c z u s:=by
 have a:∀f e:Nat,(⟨p,f,none⟩:Addr)≠⟨b,e,none⟩:=λf e i=>n (by injection i);have g:∀f e:Nat,(⟨p,f,none⟩:Addr)≠⟨d,e,none⟩:=λf e i=>o (by injection i);obtain⟨t,l,k,m,v,q,j⟩:=h;refine⟨?_,?_,?_,?_,?_,by simpa using q,by simpa using j⟩
 .rw[jZ _ _ _ _ (a _ _),jZ _ _ _ _ (a _ _)];exact t
 .rw[jZ _ _ _ _ (a _ _),jZ _ _ _ _ (a _ _)];exact l
 .rw[jZ _ _ _ _ (a _ _),jZ _ _ _ _ (a _ _)];exact k
 .rw[jZ _ _ _ _ (g _ _),jZ _ _ _ _ (g _ _)];exact m
 .rw[jZ _ _ _ _ (g _ _),jZ _ _ _ _ (g _ _)];exact v
def nw(a:World)(z:Int)(L:Nat)(p:Value)(c:World):Prop:=∃(b:Nat) (g:Bool) (e:Option Addr) (f d:Nat),p=.pointer (some ⟨b,0,none⟩)/\a.heap.size<=b/\iw c b (.bool g) (.slice e f d)/\jE c (.agg #[.bool g,.slice e f d]) z L/\Below a.heap.size a c
theorem nw.made{z:Int}{L:Nat}(b:jE v (.agg #[.bool u,.slice O i j]) z L)(a:Below w.heap.size w v):nw w z L (.pointer (some ⟨v.heap.size,0,none⟩)) (v.alloc (.cells #[.bool u,.slice O i j] 79)):=
 ⟨_,u,O,i,j,rfl,a.size,iw.new _ _ _ rfl,b.below hS,a.alloc a.size _⟩
theorem nw.stored{z:Int}{L b:Nat}{x y:Value}(c:iw v b x y)(a:w.heap.size<=b)(d:jE v (.agg #[.bool u,.slice O i j]) z L)(e:Below w.heap.size w v):nw w z L (.pointer (some ⟨b,0,none⟩)) ((v.setCell ⟨b,0,none⟩ (.bool u)).setCell ⟨b,1,none⟩ (.slice O i j)):=
 ⟨_,u,O,i,j,rfl,a,c.put _ _,d.hV (KU.setCell (KU.setCell (KU.refl _) c.ty (by decide) _) (c.ty.setCell _ _) (by decide) _),(e.setCell a _).setCell a _⟩
theorem AM{n k:Nat}{f:Nat->Nat->Int}{S:Int}(h:S=jP k λa=>signed a (f 0 a*jn n λb c=>f (b+1) (skip a c))):S+signed k (f 0 k*jn n λb c=>f (b+1) (skip k c))=jP (k+1) λa=>signed a (f 0 a*jn n λb c=>f (b+1) (skip a c)):=by rw[jP,h]
theorem Fv{n:Nat}(bR:vo n):vo (n+1):=by
 intro cL ad g h c bx bE bQ bW;have bY:=a_ bR;have bp:=a_ bE;have X:=a_ bQ;have aF:=a_ bx;clear bR bE bQ;obtain⟨ap,_,cy,rfl,bs⟩:=bx;obtain⟨L,Q,rfl,-⟩:=bs.shape;clear bs;obtain⟨d,aW⟩:=hQ (n+1);obtain⟨N,bS⟩:=hQ ((n+1)*(n+1));rw[<-bS]at aF|-;rw[<-aW]at aF ap|-;have E:=a_ aW;have cf:0<d:=by omega
 have cC:((d:Int)==0)=false:=iK.2 (by omega);clear aW bS;go_in;go_wp2_with (go_at_call 38;refine(nC).mono ?_;rintro R cP⟨rfl,rfl⟩);obtain⟨K,M⟩:=hQ ((((c.alloc (.cells #[.int .i64 d,.int .i64 d,.slice L N Q] 66)).alloc (.cells #[.bool false,.slice none 0 0] 79)).alloc (.cells #[.int .i64 d,.int .i64 d,.slice L N Q] 66)).alloc (.cells #[.bool false,.slice none 0 0] 79));rw[<-M];have bH:Below c.heap.size c K:=by
  rw[M];repeat(first|exact hP|refine ia ?_ (by simp<;>omega) _)
 have a9:oD K c.heap.size (c.heap.size+1+1+1) d d (.slice L N Q) false (.slice none 0 0):=by
  rw[M];refine⟨?_,?_,?_,?_,?_,?_,?_⟩
  .exact uM (by simp) _ _ _
  .exact uM (by simp) _ _ _
  .exact uM (by simp) _ _ _
  .exact fa _ _ _ _ _ (by simp) rfl
  .exact fa _ _ _ _ _ (by simp) rfl
  .exact w0 _ _ _ _ _ (by simp)
  .exact w0 _ _ _ _ _ (by simp)
 have aR:Ty K (c.heap.size+1+1+1) 79:=by rw[M];exact Ty.at_ _ _ _ (by simp)
 have am:K.heap[c.heap.size+1]?=some (.cells #[.bool false,.slice none 0 0] 79 (0,0)):=by
  rw[M,qL _ _ _ (by simp),qL _ _ _ (by simp)];have:=iP (c.alloc (.cells #[.int .i64 d,.int .i64 d,.slice L N Q] 66)) (.cells #[.bool false,.slice none 0 0] 79);simpa using this
 have bo:K.heap.size=c.heap.size+4:=by rw[M];simp
 obtain⟨q,bn⟩:=hQ (c.heap.size+1+1+1);rw[<-bn]at a9 aR|-;have cO:c.heap.size+3<=q:=by omega
 have cA:q<=c.heap.size+3:=by omega
 have bX:=a_ am;have bB:=a_ bo;clear M am bo bn;go_loopg [4] d (λb3 e wr=>∃(a:Nat) (ac:Int) (aj:Bool) (ay:Option Addr) (aD aC:Nat),a<=d/\e=.int .i64 a/\Ty wr q 79/\oD wr c.heap.size q d d (.slice L N Q) aj (.slice ay aD aC)/\jE wr (.agg #[.bool aj,.slice ay aD aC]) ac (h+LD h n+a)/\K.grownBy wr (some q)/\Below c.heap.size c wr/\f_ (b3=d-a/\ac=jP a λbc=>signed bc (g 0 bc*jn n λe f=>g (e+1) (skip bc f))))
 case atStart=>exact⟨0,0,_,_,_,_,hR,rfl,aR,a9,jE.zero _ _,jM _ _,bH,a_ ⟨by omega,rfl⟩⟩
 case round=>
  clear a9 bH aR;obtain⟨a,ac,aj,ay,aD,aC,cM,rfl,bG,bj,bM,bv,bK,ae⟩:=hrel;obtain⟨aJ,aM,G,aA,aB,an,af⟩:=id bj;have bC:=a_ bj;have bF:=a_ bG;clear bG;have bk:=a_ bM;have ba:=a_ bv;have aH:=a_ bK;clear bj bM bv bK;by_cases bt:a<d
  .go_wp2_with fail;go_fit (me _ d d a ad h _ ((E.e▸aF.e:i_ c _ d d ad h).below aH.e) (by omega) bt);rintro R ah⟨b4,rfl,⟨a5,bL,bA⟩,Y⟩;have bP:=a_ (bF.e.below Y bF.e.lt);have bN:Jn n a5 λe f=>g (e+1) (skip a f):=bp.e.minor (E.e▸bA);have a7:i_ ah b4 n n a5 h:=by have:=E.e;subst this;exact bL
   obtain⟨cw,cl,cx,rfl,br⟩:=id a7;obtain⟨cN,cG,rfl,-⟩:=br.shape;have ao:=bC.e.below Y;have az:=bk.e.below Y;have au:=ib ba.e Y;have ar:Below c.heap.size c ah:=d_ aH.e Y;clear aJ aM G aA aB an af bC bk ba aH br bL bA Y;have aK:=ju a7 bN ao az au ar;clear a7 bN ao az au ar;go_wp2_with fail;go_fit (bY.e _ a5 (λe f=>g (e+1) (skip a f)) h _ (aK.f.below hS) aK.g (by have:=X.e;have:=Dt h n;omega) bW);rintro R p⟨cm,rfl,a0,bD⟩;obtain⟨cr,cQ,cH,cn,rfl⟩:=a0.shape;have Z:Below ah.heap.size ah p:=(hU ah _).trans (bD.mono (by simp));obtain⟨-,-,ao,az,au,ar⟩:=aK.e;have bO:=a_ (bP.e.below Z bP.e.lt);have P:=ao.below Z;have av:=az.below Z;have al:=ib au Z;have V:Below c.heap.size c p:=d_ ar Z;have bm:i_ p (.agg #[.int .i64 d,.int .i64 d,.slice L N Q]) d d ad h:=(E.e▸aF.e:i_ c _ d d ad h).below V;obtain⟨aJ,aM,G,aA,aB,an,af⟩:=id P;have b5:=iL aJ;have cj:=iL aM;have cc:=iL G;have bU:=P.lt;have aN:=ju P av al V bm a0;clear aK ao az au ar P av al V bm a0 bD Z aJ aM G aA aB an af;obtain⟨cV,cD⟩:=bU;go_upto_region 11 with fail
   go_cut [7]from 17 to 40 (λb1 bT=>nw p (ad.getD a 0*jn n λe f=>g (e+1) (skip a f)) (h+LD h n) b1 bT)
   case first=>
    go_region_with (first
     |(go_at_call 64;go_must (refine(Ft (aN.r.below (by repeat(first|exact hP|refine iV ?_|refine ia ?_ (by simp<;>omega) _))) cf bt).mono ?_;rintro R a6⟨cB,rfl,bu,ak⟩;obtain⟨cu,cq,cE,cF,rfl⟩:=bu.shape;obtain⟨cU,cS⟩:=oG ak;have ca:p.heap.size<a6.heap.size:=(by have:=ak.size;simp at this;omega);try(have aq:=a_ (iw.below (iw.drew (iw.new (p.alloc _) (.bool false) (.slice none 0 0) (b:=p.heap.size+1) (by simp))) ak (by simp));obtain⟨cI,cv,cp,co⟩:=aq.e.cells;have ch:p.heap.size+1<a6.heap.size:=aq.e.ty.lt)))
     |(go_at_call 65;go_must (refine(j0 (bu.below (by repeat(first|exact hP|refine ia ?_ (by first|omega|(simp<;>omega)) _))) (aN.z.below (by repeat(first|exact hP|refine Below.trans ?_ (ak.mono (by first|omega|(simp<;>omega)))|refine iV ?_|refine ia ?_ (by first|omega|(simp<;>omega)) _))) (by omega) (by have:=X.e;have:=Dt h n;omega)).mono ?_;rintro R cg⟨cz,rfl,k,W⟩;have aL:f_ (Below p.heap.size p cg):=a_ (Below.trans (by repeat(first|exact hP|refine Below.trans ?_ (ak.mono (by first|omega|(simp<;>omega)))|refine iV ?_|refine ia ?_ (by first|omega|(simp<;>omega)) _)) (W.mono (by first|omega|(simp<;>omega))));obtain⟨b7,cd,ce,b0,rfl⟩:=k.shape;obtain⟨ct,cs⟩:=oG W;have cT:=W.size;try(have ax:=a_ (iw.below (iw.new a6 (.bool false) (.slice none 0 0) rfl) W (by simp));obtain⟨bg,aZ,aT,aU⟩:=ax.e.cells);try(have ax:=a_ (aq.e.below W (by have:=aq.e.ty.lt;omega));obtain⟨bg,aZ,aT,aU⟩:=ax.e.cells))))
    all_goals
     go_wp2_with fail;go_meet
     case rel=>
      first
       |exact nw.made k aL.e
       |exact nw.stored ax.e (nf ca) k aL.e
       |exact nw.stored ax.e (nY _) k aL.e
       |exact nw.stored (aq.e.below W ch) (nY _) k aL.e
   case rest=>
    obtain⟨j,b7,cd,ce,b0,rfl,cR,u,k,aa⟩:=hcut;obtain⟨P,av,al,V,-,-⟩:=aN.e;have y:=P.below aa;have T:=av.below aa;have J:=ib al aa;have U:Below c.heap.size c wc:=d_ V aa;have A:Ty wc q 79:=bO.e.below aa bO.e.lt;have bJ:ad.getD a 0=g 0 a:=by have:=bp.e 0 a (by omega) (by have:=E.e;omega);simpa using this
    have b6:j<wc.heap.size:=u.ty.lt;rw[bJ]at k;clear aN P av al V aa b5 cj cc bJ;by_cases aE:a%2=1
    .have cb:((a:Int)%2==1)=true:=jY.2 (by omega);have S:f_ (-(g 0 a*jn n λe f=>g (e+1) (skip a f))=signed a (g 0 a*jn n λe f=>g (e+1) (skip a f))):=a_ (by unfold signed;rw[if_pos aE]);clear aE;have be:=kM y T J U A u k;obtain⟨bg,aZ,aT,aU⟩:=u.cells;clear y T J U A u k;go_wp2_with fail;go_fit (nA be.C);rintro R ab⟨cK,rfl,ap,O⟩;obtain⟨z,H,I,F,rfl⟩:=ap.shape;obtain⟨y,T,J,U,A,u,-⟩:=be.e;have aw:=u.below O b6;have bw:=y.below O;obtain⟨bV,ck,b2,b9⟩:=aw.cells;have bb:KU ab ((ab.setCell ⟨j,0,none⟩ (.bool z)).setCell ⟨j,1,none⟩ (.slice H I F)):=KU.setCell (KU.setCell (KU.refl _) aw.ty (by decide) _) (aw.ty.setCell _ _) (by decide) _;have s:jE ((ab.setCell ⟨j,0,none⟩ (.bool z)).setCell ⟨j,1,none⟩ (.slice H I F)) (.agg #[.bool z,.slice H I F]) (-(g 0 a*jn n λe f=>g (e+1) (skip a f))) (h+LD h n):=ap.hV bb;have D:=(T.below O).hV bb;have w:oD ((ab.setCell ⟨j,0,none⟩ (.bool z)).setCell ⟨j,1,none⟩ (.slice H I F)) c.heap.size q d d (.slice L N Q) aj (.slice ay aD aC):=bw.other (by omega) (by omega);have C:K.grownBy ((ab.setCell ⟨j,0,none⟩ (.bool z)).setCell ⟨j,1,none⟩ (.slice H I F)) (some q):=DK (ib J O) (by have:=bB.e;omega);have B:Below c.heap.size c ((ab.setCell ⟨j,0,none⟩ (.bool z)).setCell ⟨j,1,none⟩ (.slice H I F)):=((d_ U O).setCell (by simp;omega) _).setCell (by simp;omega) _;have r:=((A.below O A.lt).setCell ⟨j,0,none⟩ (.bool z)).setCell ⟨j,1,none⟩ (.slice H I F);obtain⟨aY,aS,a2,bd,bf,aV,a4⟩:=id w;obtain⟨a8,a1,bl,aQ⟩:=(aw.put (.bool z) (.slice H I F)).cells;generalize aG:-(g 0 a*jn n λe f=>g (e+1) (skip a f))=aI at s S;have aP:=S;clear S aG ap O aw bw bb y T J U A u bg aZ aT aU;have ag:=ju s D w C B r;clear s D w C B r be;go_wp2_with fail;obtain⟨s,D,w,C,B,r⟩:=ag.e;go_fit (ny D s (by have:=X.e;rw[LD]at this;omega) (by have:=X.e;rw[LD]at this;omega));rintro R ai⟨bz,rfl,m,l⟩;obtain⟨a3,aX,G,aO,rfl⟩:=m.shape;have o:=w.below l;have t:=ib C l;have x:Below c.heap.size c ai:=d_ B l;obtain⟨-,-,-,aA,aB,an,af⟩:=id o;have i:Ty ai q 79:=r.below l r.lt;have bh:=iu o t x m i;clear o t x m i l w D s C B r ag bV ck b2 b9 aY aS a2 bd bf aV a4 a8 a1 bl aQ;go_wp2;go_roundg (d-(a+1))
     .obtain⟨o,t,x,m,i⟩:=bh.e;refine⟨a+1,ac+aI,a3,aX,G,aO,by omega,by go_num,(i.setCell _ _).setCell _ _,o.put (by omega),(m.mono (by omega)).hV (KU.setCell (KU.setCell (KU.refl _) i (by decide) _) (i.setCell _ _) (by decide) _),lD t,(x.setCell (by simp;omega) _).setCell (by simp;omega) _,a_ ⟨rfl,?_⟩⟩;rw[<-AM ae.i,aP.e]
     have:=ae.f;omega
    .have cb:((a:Int)%2==1)=false:=iK.2 (by omega);have S:f_ ((g 0 a*jn n λe f=>g (e+1) (skip a f))=signed a (g 0 a*jn n λe f=>g (e+1) (skip a f))):=a_ (by unfold signed;rw[if_neg aE]);clear aE;obtain⟨aY,aS,a2,bd,bf,aV,a4⟩:=id y;obtain⟨a8,a1,bl,aQ⟩:=u.cells;generalize aG:(g 0 a*jn n λe f=>g (e+1) (skip a f))=aI at k S;have aP:f_ (aI=signed a (g 0 a*jn n λe f=>g (e+1) (skip a f))):=a_ (by rw[aG];exact S.e);have ag:=ju k T y J U A;clear S aG k T y J U A u;go_wp2_with fail;obtain⟨s,D,w,C,B,r⟩:=ag.e;go_fit (ny D s (by have:=X.e;rw[LD]at this;omega) (by have:=X.e;rw[LD]at this;omega));rintro R ai⟨bz,rfl,m,l⟩;obtain⟨a3,aX,G,aO,rfl⟩:=m.shape;have o:=w.below l;have t:=ib C l;have x:Below c.heap.size c ai:=d_ B l;obtain⟨-,-,-,aA,aB,an,af⟩:=id o;have i:Ty ai q 79:=r.below l r.lt;have bh:=iu o t x m i;clear o t x m i l w D s C B r ag aY aS a2 bd bf aV a4 a8 a1 bl aQ;go_wp2;go_roundg (d-(a+1))
     .obtain⟨o,t,x,m,i⟩:=bh.e;refine⟨a+1,ac+aI,a3,aX,G,aO,by omega,by go_num,(i.setCell _ _).setCell _ _,o.put (by omega),(m.mono (by omega)).hV (KU.setCell (KU.setCell (KU.refl _) i (by decide) _) (i.setCell _ _) (by decide) _),lD t,(x.setCell (by simp;omega) _).setCell (by simp;omega) _,a_ ⟨rfl,?_⟩⟩;rw[<-AM ae.i,aP.e]
     have:=ae.f;omega
  .have am:wr.heap[c.heap.size+1]?=some (.cells #[.bool false,.slice none 0 0] 79 (0,0)):=by
    rw[ba.e.block _ (by have:=bB.e;omega) (by simp;omega)];exact bX.e
   have bi:iw wr (c.heap.size+1) (.bool false) (.slice none 0 0):=am;obtain⟨ci,bZ,bz,cJ⟩:=bi.cells;have bI:=a_ bi;clear am bi;go_wp2_with fail;refine ig (v:=.agg #[.bool aj,.slice ay aD aC]) ?_ rfl ?_
   ·(simp[results,Tryz.results39,go_sem,ci,bZ];done)
   .have bq:a=n+1:=by have:=E.e;omega
    refine⟨_,rfl,?_,(aH.e.setCell (by simp) _).setCell (by simp) _⟩;have b8:ac=jn d g:=by rw[ae.i,bq,E.e,jn]
    rw[<-b8];refine(bk.e.mono ?_).hV (KU.setCell (KU.setCell (KU.refl _) bI.e.ty (by decide) _) (bI.e.ty.setCell _ _) (by decide) _);rw[E.e,LD,bq];exact c_
theorem y4(n:Nat):vo n:=by
 induction n with
 |zero=>exact GN
 |succ n a=>exact Fv a
end Go.Proofs.YtfjbijpagaipnabGreatDoor
