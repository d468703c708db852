import Derived.Test.YtfjbijpagaipnabGreatDoorA12
set_option maxRecDepth 100000
set_option maxHeartbeats 8000000
namespace Go.Proofs.YtfjbijpagaipnabGreatDoor
open Go.RowKit
variable{i j k l m n p q r s:Nat}{w v W:World}{x y z:Value}{A B F G:Nat->Nat->Int}{a b c d:Int}{e f g:List Int}{X Y:List Nat}{o h:Nat->Nat}{u:Bool}
def Bx(w:World)(a:Nat):Prop:=w.heap[a]?=some (.cells #[.int .i64 0,.int .i64 0,.slice none 0 0] 66 (0,0))
theorem Bx.new(w:World):Bx (w.alloc (.cells #[.int .i64 0,.int .i64 0,.slice none 0 0] 66)) w.heap.size:=iP w _
theorem Bx.drew{w:World}(h:Bx w i):Bx w.drew i:=h
theorem Bx.lt{w:World}(h:Bx w i):i<w.heap.size:=(jt.1 h).1
theorem Bx.below{w:World}{n:Nat}(h:Bx w i)(b:Below n w v)(a:i<n):Bx v i:=(b.block i a).trans h
theorem Bx.cells{w:World}(h:Bx w i):w.cell? ⟨i,0,none⟩=some (.int .i64 0)/\w.cell? ⟨i,1,none⟩=some (.int .i64 0)/\w.cell? ⟨i,2,none⟩=some (.slice none 0 0)/\(∀a,w.frozen? ⟨i,a,none⟩=false):=by
 unfold Bx at h;refine⟨?_,?_,?_,λa=>?_⟩<;>simp[World.cell?,World.frozen?,h]
theorem Bx.KK{w:World}(h:Bx w i):jk w i (.int .i64 0) (.int .i64 0) (.slice none 0 0):=⟨h.cells.1,h.cells.2.1,h.cells.2.2.1⟩
theorem Bx.hV{w:World}(h:Bx w i)(a b d:Value):KT w (((w.setCell ⟨i,0,none⟩ a).setCell ⟨i,1,none⟩ b).setCell ⟨i,2,none⟩ d):=by
 have c:Ty w i 66:=⟨_,_,h⟩;exact KT.setCell (KT.setCell (KT.setCell (KT.refl _) c (by decide) (by decide) a) (c.setCell ⟨i,0,none⟩ a) (by decide) (by decide) b) ((c.setCell ⟨i,0,none⟩ a).setCell ⟨i,1,none⟩ b) (by decide) (by decide) d
theorem Gs.below{w:World}{v:Value}{r c k:Nat}{L:Nat}(h:Gs w v r c k e f g L)(a:Below w.heap.size w W):Gs W v r c k e f g L:=by
 obtain⟨b,l,m,i,d,j,n⟩:=h;exact⟨b,l,m,i,d.below a,j.below a,n.below a⟩
theorem Lk{k:Nat}(h:k<=4):2*lx 4000 k+20<=200000000:=by
 obtain rfl|rfl|rfl|rfl|rfl:k=0\/k=1\/k=2\/k=3\/k=4:=by omega
 all_goals decide
def I1(X:World)(r:Nat)(xs:List Int)(L:Nat)(S:Prop)(p y:Value)(c:World):Prop:=∃(b:Nat) (h e:Int) (d:Option Addr) (f g:Nat) (a:Bool),p=.pointer (some ⟨b,0,none⟩)/\y=.bool a/\X.heap.size<=b/\jk c b (.int .i64 h) (.int .i64 e) (.slice d f g)/\(a=true->i_ c (.agg #[.int .i64 h,.int .i64 e,.slice d f g]) 1 r xs L)/\(a=true↔S)/\Below X.heap.size X c
def sf(ms:List Hm)(nx:Nat)(g h:Int)(y:Bool)(k e:Int)(m:List Hm)(l:Nat):Prop:=
 (((∀d,d<24->∀n,ms.getD d none=some n->(n.1:Int)≠g)\/(∀d,d<24->∀n,ms.getD d none=some n->(n.1:Int)≠h))/\y=false/\k=-1/\e=2/\m=ms/\l=nx)\/∃d o b a c q p f i j,d<24/\ms.getD d none=some (o,b,a,c)/\((o:Nat):Int)=g/\q<24/\ms.getD q none=some (p,f,i,j)/\((p:Nat):Int)=h/\((¬(f=1/\i=a)/\y=false/\k=-1/\e=3/\m=ms/\l=nx)\/((f=1/\i=a)/\¬(hW b a c/\hW f i j)/\y=false/\k=-1/\e=4/\m=ms/\l=nx)\/((f=1/\i=a)/\(hW b a c/\hW f i j)/\(¬Sp (e_ a c) b a (e_ a j 0)/\na (e_ a c) b a)/\y=false/\k=-1/\e=0/\m=ms/\l=nx)\/((f=1/\i=a)/\(hW b a c/\hW f i j)/\(Sp (e_ a c) b a (e_ a j 0)/\na (e_ a c) b a)/\(∀d,d<24->ms.getD d none≠none)/\y=false/\k=-1/\e=5/\m=ms/\l=nx)\/((f=1/\i=a)/\(hW b a c/\hW f i j)/\(Sp (e_ a c) b a (e_ a j 0)/\na (e_ a c) b a)/\y=true/\k=(nx:Int)/\e=0/\∃r s,uF b a c j s/\ke ms r/\m=ms.set r (some (nx,1,b,s))/\l=nx+1))
theorem uL{b:Nat}{g h:Int}{ms:List Hm}{nx:Nat}{w:World}(aQ:jf w b ms nx)(bK:nx<1000000):Calls Tryz.prog 217 #[.pointer (some ⟨b,0,none⟩),.int .i64 g,.int .i64 h] w λaN c=>∃ax o p bk bC,aN=.returned (.tuple #[.bool ax,.int .i64 o,.int .i64 p])/\sf ms nx g h ax o p bk bC/\jf c b bk bC/\Fr b w c:=by
 have aX:=aQ.1;have x:=a_ aQ;clear aQ;go_in;go_wp2_with fail;go_fit (jS x.e);rintro p m⟨⟨e,d,G,I,J,L,rfl,bE⟩,aI⟩;have a4:=b_ bE aI;have bZ:=aI.size;clear bE aI;go_wp2_with fail;have aH:Below w.heap.size w (m.alloc (.cells #[.int .i64 e,.int .i64 d,.slice G I J] 66)):=a4.i.alloc bZ _;go_fit (jS (x.e.below aH));rintro p j⟨⟨f,i,B,C,D,cg,rfl,bl⟩,aq⟩;have bv:jk (m.alloc (.cells #[.int .i64 e,.int .i64 d,.slice G I J] 66)) m.heap.size (.int .i64 e) (.int .i64 d) (.slice G I J):=⟨fa _ _ _ _ _ rfl rfl,fa _ _ _ _ _ rfl rfl,fa _ _ _ _ _ rfl rfl⟩;have aC:=hU j (.cells #[.int .i64 f,.int .i64 i,.slice B C D] 66);have bq:=(bv.later aq).later aC;have bp:jk (j.alloc (.cells #[.int .i64 f,.int .i64 i,.slice B C D] 66)) j.heap.size (.int .i64 f) (.int .i64 i) (.slice B C D):=⟨fa _ _ _ _ _ rfl rfl,fa _ _ _ _ _ rfl rfl,fa _ _ _ _ _ rfl rfl⟩;have aV:Below w.heap.size w j:=d_ aH aq;have a6:=((a4.f.below (hP.alloc c_ (.cells #[.int .i64 e,.int .i64 d,.slice G I J] 66))).below aq).below aC;have bj:=bl.below aC;have bf:Below w.heap.size w (j.alloc (.cells #[.int .i64 f,.int .i64 i,.slice B C D] 66)):=aV.alloc aV.size _;have b5:m.heap.size<j.heap.size:=by have:=aq.size;simp at this;omega
 have n:=iu a6 bj bf bq bp;clear bl aq bv aC bq bp aV a6 bj bf aH;obtain⟨A,aG⟩:=hQ (j.alloc (.cells #[.int .i64 f,.int .i64 i,.slice B C D] 66));have ay:=a_ aG;rw[<-aG]at n;clear aG;have b6:A.heap.size=j.heap.size+1:=by rw[ay.e];simp
 rcases id n.f with⟨rfl,ae,af,s,bn,a0,bB,bt⟩|⟨rfl,an⟩
 .rcases id n.g with⟨rfl,aa,ab,r,a8,bu,bz,a5⟩|⟨rfl,an⟩
  .have a:=iu (vO bn a0 bB bt) a8 bu bz a5;have ah:=a_ (show∀c,Below A.heap.size A c->c.cell? ⟨m.heap.size,0,none⟩=some (.int .i64 e)/\c.cell? ⟨m.heap.size,1,none⟩=some (.int .i64 d)/\c.cell? ⟨m.heap.size,2,none⟩=some (.slice G I J)/\c.cell? ⟨j.heap.size,0,none⟩=some (.int .i64 f)/\c.cell? ⟨j.heap.size,1,none⟩=some (.int .i64 i)/\c.cell? ⟨j.heap.size,2,none⟩=some (.slice B C D)from λc M=>⟨(n.m.later M).1,(n.m.later M).2.1,(n.m.later M).2.2,(n.x.later M).1,(n.x.later M).2.1,(n.x.later M).2.2⟩);clear bn a0 bB bt a8 bu bz a5;go_upto_region 5 with fail
   rw[<-ay.e];obtain⟨bi,a3⟩:=hQ (decide (f=1/\i=d));have aA:=a_ a3;clear a3;go_cut [42]from 33 to 42 (λaN aD=>aN=.bool (!bi)/\Below A.heap.size A aD)
   case first=>
    by_cases ad:(f:Int)=1
    .have bX:((f:Int)!=1)=false:=by simp[ad]
     have aP:=a_ ad;clear ad;go_region_held3 (λc=>c.cell? ⟨m.heap.size,0,none⟩=some (.int .i64 e)/\c.cell? ⟨m.heap.size,1,none⟩=some (.int .i64 d)/\c.cell? ⟨m.heap.size,2,none⟩=some (.slice G I J)/\c.cell? ⟨j.heap.size,0,none⟩=some (.int .i64 f)/\c.cell? ⟨j.heap.size,1,none⟩=some (.int .i64 i)/\c.cell? ⟨j.heap.size,2,none⟩=some (.slice B C D)) (exact ah.e _ (by first|exact hP.drew|exact(hS).drew|exact((hS).alloc (by simp) _).drew|exact(((hS).alloc (by simp) _).alloc (by simp<;>omega) _).drew)) (first
       |(go_at_call 84;refine(oq).mono ?_;rintro p c⟨rfl,rfl⟩)
       |(go_at_call 85;refine(oo).mono ?_;rintro p c⟨rfl,rfl⟩))
     all_goals
      go_wp2_with fail;go_meet
      case rel=>
       refine⟨?_,(((hS).alloc (by simp) _).alloc (by simp<;>omega) _).drew⟩;rw[aA.e];have:=aP.e;by_cases h:i=d
       .rw[jm (oB (by omega) h),h];simp
       .rw[ic (λp=>h p.2)];simp;omega
    .have bX:((f:Int)!=1)=true:=by simp[ad]
     have aP:=a_ ad;clear ad;obtain⟨R,V,S,P,O,Y⟩:=ah.e A hP;go_region_with (go_at_call 85;refine(oo).mono ?_;rintro p c⟨rfl,rfl⟩);all_goals
      go_wp2_with fail;go_meet
      case rel=>
       exact⟨by rw[aA.e,ic (λh=>aP.e (by omega))];rfl,(hS).drew⟩
   case rest=>
    obtain⟨rfl,al⟩:=hcut;have a9:Below w.heap.size w wc:=d_ n.j al;obtain⟨R,V,S,P,O,Y⟩:=ah.e wc al;have aw:=b_ al a9;have bV:=al.size;clear al a9
    cases bi
    .have bR:f_ (¬(f=1/\i=d)):=a_ (λp=>by have:=aA.e;rw[jm p]at this;cases this);go_wp2;go_ret3;exact⟨_,_,_,ms,nx,rfl,.inr ⟨ae,af,e,d,s,aa,ab,f,i,r,a.f.1,a.f.2.1,a.f.2.2.1,a.g,a.j,a.m,.inl ⟨bR.e,rfl,rfl,rfl,rfl,rfl⟩⟩,x.e.below aw.i,Fr.I aw.i⟩
    .have bc:f=1/\i=d:=yO aA.e.symm;have N:=a_ bc;clear bc;go_wp2_with fail;go_fit (jl (a.f.2.2.2.below aw.f) (by omega));rintro p bx⟨aO,rfl,am,a1⟩;have ak:Below A.heap.size A bx:=aw.f.trans (a1.mono bV);clear R V S P O Y;obtain⟨R,V,S,P,O,Y⟩:=ah.e bx ak;have bW:=ak.size;have ai:=hO ak (d_ n.j ak) am;clear a1 ak am
     cases aO
     .have ac:f_ (¬hW e d s):=a_ (λh=>by have:=ai.l.2 h;cases this);go_wp2;go_ret3;exact⟨_,_,_,ms,nx,rfl,.inr ⟨ae,af,e,d,s,aa,ab,f,i,r,a.f.1,a.f.2.1,a.f.2.2.1,a.g,a.j,a.m,.inr (.inl ⟨N.e,λh=>ac.e h.1,rfl,rfl,rfl,rfl,rfl⟩)⟩,x.e.below ai.g,Fr.I ai.g⟩
     .go_wp2_with fail;go_fit (jl (a.x.below ai.f) (by omega));rintro p k⟨aO,rfl,am,bh⟩;have au:Below A.heap.size A k:=ai.f.trans (bh.mono bW);clear R V S P O Y;obtain⟨R,V,S,P,O,Y⟩:=ah.e k au;have bS:=au.size;have K:=hO au (d_ n.j au) am;clear bh au am
      cases aO
      .have ac:f_ (¬hW f i r):=a_ (λh=>by have:=K.l.2 h;cases this);go_wp2;go_ret3;exact⟨_,_,_,ms,nx,rfl,.inr ⟨ae,af,e,d,s,aa,ab,f,i,r,a.f.1,a.f.2.1,a.f.2.2.1,a.g,a.j,a.m,.inr (.inl ⟨N.e,λh=>ac.e h.2,rfl,rfl,rfl,rfl,rfl⟩)⟩,x.e.below K.g,Fr.I K.g⟩
      .have t:f_ (hW e d s/\hW f i r):=a_ ⟨ai.l.1 rfl,K.l.1 rfl⟩;have bg:=(a.f.2.2.2.below K.f).tight t.f;have ba:=(a.x.below K.f).tight t.i;have aL:=b_ bg ba;clear bg ba;go_wp2_with fail;go_cut [13,14]from 49 to 55 (λbM ax aD=>∃o v u y z,rH e d s o v u y z/\I1 k e (kL 1 e e (Aj (e_ d u) v (e_ d r 0) e o) y) 200000000 (∀a2,a2<d->wB (e_ d u) v (e_ d r 0) o a2=0) bM ax aD)
       case first=>
        have aU:f_ (i_ k (.agg #[.int .i64 f,.int .i64 i,.slice B C D]) 1 d r 4000):=a_ (by
         have bm:=aL.i;rw[N.f,N.i]at bm|-;exact bm.mono (by omega))
        have bL:f_ (∀c,Below k.heap.size k c->c.cell? ⟨m.heap.size,0,none⟩=some (.int .i64 e)/\c.cell? ⟨m.heap.size,1,none⟩=some (.int .i64 d)/\c.cell? ⟨m.heap.size,2,none⟩=some (.slice G I J)/\c.cell? ⟨j.heap.size,0,none⟩=some (.int .i64 f)/\c.cell? ⟨j.heap.size,1,none⟩=some (.int .i64 i)/\c.cell? ⟨j.heap.size,2,none⟩=some (.slice B C D)):=a_ (λc M=>ah.e c (K.f.trans (M.mono bS)));have b3:e<=4:=t.f.1;clear R V S P O Y;go_region_held3 (λc=>c.cell? ⟨m.heap.size,0,none⟩=some (.int .i64 e)/\c.cell? ⟨m.heap.size,1,none⟩=some (.int .i64 d)/\c.cell? ⟨m.heap.size,2,none⟩=some (.slice G I J)/\c.cell? ⟨j.heap.size,0,none⟩=some (.int .i64 f)/\c.cell? ⟨j.heap.size,1,none⟩=some (.int .i64 i)/\c.cell? ⟨j.heap.size,2,none⟩=some (.slice B C D)) (exact bL.e _ (by first|exact hbW6|exact hbW6.alloc hbW6.size _|exact hbW5|exact hbW5.alloc hbW5.size _|exact hP.drew|exact(hS).drew|exact((hbW6.setCell c_ _).setCell c_ _).setCell c_ _|exact((hbW6.setCell hw5s _).setCell hw5s _).setCell hw5s _)) (first
          |(go_at_call 37;refine(oe (aL.f.below hP.drew) t.f.1 t.f.2.1 t.f.e_ (by omega)).mono ?_;rintro aB E⟨bN,o,v,u,y,z,rfl,aj,X,ap,ar,ag,ao⟩;obtain⟨bF,b2,bP,rfl,T,Q,Z⟩:=id aj;have W:=a_ (show rH e d s o v u y z from⟨T.len,Q.len,Z.len,X,ap,ar,ao⟩);have bJ:=X.le;obtain⟨bY,bQ,rfl⟩:=T.slice;obtain⟨b1,bO,rfl⟩:=Q.slice;obtain⟨bH,bU,rfl⟩:=Z.slice;clear T Q Z X ap ar ao;have hbW5:Below k.heap.size k E:=(hP.drew).trans ag;clear ag)
          |(go_at_call 37;refine(oe (aL.f.below hS.drew) t.f.1 t.f.2.1 t.f.e_ (by omega)).mono ?_;rintro aB E⟨bN,o,v,u,y,z,rfl,aj,X,ap,ar,ag,ao⟩;obtain⟨bF,b2,bP,rfl,T,Q,Z⟩:=id aj;have W:=a_ (show rH e d s o v u y z from⟨T.len,Q.len,Z.len,X,ap,ar,ao⟩);have bJ:=X.le;obtain⟨bY,bQ,rfl⟩:=T.slice;obtain⟨b1,bO,rfl⟩:=Q.slice;obtain⟨bH,bU,rfl⟩:=Z.slice;clear T Q Z X ap ar ao;have hbW5:Below k.heap.size k E:=((hS).drew).trans (ag.mono (by simp));have bD:Bx E k.heap.size:=Bx.below (Bx.drew (Bx.new k)) ag (by simp);clear ag)
          |(go_at_call 231;refine(oM aj (aU.e.below hbW5) W.e.st (by omega) (by omega)).mono ?_;rintro aB F⟨aE,aW,aK,aT,aS,L,rfl,av,H,q⟩;have hbW6:Below k.heap.size k F:=d_ hbW5 q;have U:Bx F k.heap.size:=bD.below q bD.lt;have bG:=U.cells;clear q)
          |(go_at_call 231;refine(oM aj (aU.e.below hbW5) W.e.st (by omega) (by omega)).mono ?_;rintro aB F⟨aE,aW,aK,aT,aS,L,rfl,av,H,q⟩;have hbW6:Below k.heap.size k F:=d_ hbW5 q;clear q)
          |(go_at_call 231;refine(oM (Gs.below aj (hU E _)) ((aU.e.below hbW5).below (hU E _)) W.e.st (by omega) (by omega)).mono ?_;rintro aB F⟨aE,aW,aK,aT,aS,L,rfl,av,H,q⟩;have hbW6:Below k.heap.size k F:=hbW5.trans (((hU E _).trans (q.mono (by simp))).mono hbW5.size);have hw5s:=hbW5.size;have U:Bx F E.heap.size:=Bx.below (Bx.new E) q (by simp);have bG:=U.cells;clear q))
        all_goals
         go_wp2_with fail;go_meet
         case rel=>
          have aF:=Lk (show o<=4 by omega);first
           |exact⟨o,v,u,y,z,W.e,_,_,_,_,_,_,L,rfl,rfl,hbW6.size,⟨fa _ _ _ _ _ rfl rfl,fa _ _ _ _ _ rfl rfl,fa _ _ _ _ _ rfl rfl⟩,λh=>((av h).mono aF).below hS,H,hbW6.alloc hbW6.size _⟩
           |exact⟨o,v,u,y,z,W.e,_,_,_,_,_,_,L,rfl,rfl,c_,ry U.KK _ _ _,λh=>((av h).mono aF).oJ (U.hV _ _ _),H,((hbW6.setCell c_ _).setCell c_ _).setCell c_ _⟩
           |exact⟨o,v,u,y,z,W.e,_,_,_,_,_,_,L,rfl,rfl,hw5s,ry U.KK _ _ _,λh=>((av h).mono aF).oJ (U.hV _ _ _),H,((hbW6.setCell hw5s _).setCell hw5s _).setCell hw5s _⟩
       case rest=>
        rename World=>F;obtain⟨o,v,u,y,z,az,b7,aE,aW,aK,aT,aS,L,rfl,rfl,ce,⟨ca,cb,b9⟩,bA,H,q⟩:=hcut;have be:Below w.heap.size w F:=d_ K.g q;have l:=hY az bA (H.trans (mem_iff az.st az.inv)) be;have cd:=q.size;clear az bA H q be R V S P O Y
        cases L
        .have b0:f_ (¬Sp (e_ d s) e d (e_ d r 0)):=a_ (λh=>by have:=l.j.2 h;cases this);go_wp2;go_ret3;exact⟨_,_,_,ms,nx,rfl,.inr ⟨ae,af,e,d,s,aa,ab,f,i,r,a.f.1,a.f.2.1,a.f.2.2.1,a.g,a.j,a.m,.inr (.inr (.inl ⟨N.e,t.e,⟨b0.e,_,_,_,_,_,l.f.st,l.f.inv⟩,rfl,rfl,rfl,rfl,rfl⟩))⟩,x.e.below l.o,Fr.I l.o⟩
        .have bw:f_ (Sp (e_ d s) e d (e_ d r 0)):=a_ (l.j.1 rfl);have aR:=l.g rfl;obtain⟨-,-,b4,bb,-⟩:=id aR;simp only[j9,j_,kb,Value.int.injEq,nh,jh]at bb;obtain⟨rfl,rfl,rfl⟩:=bb;have bI:=a_ aR;clear aR;go_wp2_with fail;go_fit (mg (x.e.below l.o));rintro p cf⟨rfl,rfl⟩;obtain⟨a7,aJ⟩:=hQ (ms.countP Option.isNone);have aY:=a_ aJ;rw[<-aJ];clear aJ;by_cases bo:a7=0
         .subst bo;go_wp2;go_ret3;exact⟨_,_,_,ms,nx,rfl,.inr ⟨ae,af,e,d,s,aa,ab,f,i,r,a.f.1,a.f.2.1,a.f.2.2.1,a.g,a.j,a.m,.inr (.inr (.inr (.inl ⟨N.e,t.e,⟨bw.e,_,_,_,_,_,l.f.st,l.f.inv⟩,pv aX aY.e.symm,rfl,rfl,rfl,rfl,rfl⟩)))⟩,x.e.below l.o,Fr.I l.o⟩
         .obtain⟨bT,br⟩:=pV aX (show 0<ms.countP Option.isNone from by have:=aY.e;omega);have ac:=a_ br;have b8:¬((a7:Int)<1):=by omega
          clear br bo;go_wp2_with fail;go_fit (q2 (x.e.below l.o) bI.e ac.e bK);rintro p cc⟨rfl,aZ,bd⟩;have bs:=b_ aZ ((Fr.I l.o).trans bd);clear aZ bd;go_wp2;go_ret3;exact⟨_,_,_,_,nx+1,rfl,.inr ⟨ae,af,e,d,s,aa,ab,f,i,r,a.f.1,a.f.2.1,a.f.2.2.1,a.g,a.j,a.m,.inr (.inr (.inr (.inr ⟨N.e,t.e,⟨bw.e,_,_,_,_,_,l.f.st,l.f.inv⟩,rfl,rfl,rfl,bT,_,⟨o,v,u,y,z,l.f,rfl⟩,ac.e,rfl,rfl⟩)))⟩,bs.f,bs.i⟩
  .have aM:=a_ an;clear an;go_wp2;go_ret3;rw[<-ay.e];exact⟨_,_,_,ms,nx,rfl,.inl ⟨.inr aM.e,rfl,rfl,rfl,rfl,rfl⟩,x.e.below n.j,Fr.I n.j⟩
 .have aM:=a_ an;clear an;go_wp2;go_ret3;rw[<-ay.e];exact⟨_,_,_,ms,nx,rfl,.inl ⟨.inl aM.e,rfl,rfl,rfl,rfl,rfl⟩,x.e.below n.j,Fr.I n.j⟩
def oc(w:World)(ms:List Hm)(g h:Int)(m n:Value)(e:Int):Prop:=
 (((∀b,b<24->∀d,ms.getD b none=some d->(d.1:Int)≠g)\/(∀b,b<24->∀d,ms.getD b none=some d->(d.1:Int)≠h))/\e=2)\/∃b l k a f p o i c j,b<24/\ms.getD b none=some (l,k,a,f)/\((l:Nat):Int)=g/\p<24/\ms.getD p none=some (o,i,c,j)/\((o:Nat):Int)=h/\((a≠c/\e=3)\/(a=c/\¬(hW k a f/\hW i c j)/\e=4)\/(a=c/\(hW k a f/\hW i c j)/\e=0/\i_ w m k a f 2/\i_ w n i a j 2))
theorem wX{b:Nat}{g h:Int}{ms:List Hm}{nx:Nat}(a2:jf w b ms nx):Calls Tryz.prog 81 #[.pointer (some ⟨b,0,none⟩),.int .i64 g,.int .i64 h] w λaz j=>∃(L K bd aO:Int) (aW aX:Option Addr) (aB ax aI aQ:Nat) (H:Int),az=.returned (.tuple #[.agg #[.int .i64 L,.int .i64 K,.slice aW aB aI],.agg #[.int .i64 bd,.int .i64 aO,.slice aX ax aQ],.int .i64 H])/\oc j ms g h (.agg #[.int .i64 L,.int .i64 K,.slice aW aB aI]) (.agg #[.int .i64 bd,.int .i64 aO,.slice aX ax aQ]) H/\Below w.heap.size w j:=by
 have bi:=a_ a2;clear a2;go_in;go_wp2_with fail;obtain⟨u,O⟩:=hQ ((w.alloc (.cells #[.int .i64 0,.int .i64 0,.slice none 0 0] 66)).alloc (.cells #[.int .i64 0,.int .i64 0,.slice none 0 0] 66));have bn:u.heap.size=w.heap.size+1+1:=by rw[O];simp
 have af:Below w.heap.size w u:=by rw[O];repeat(first|exact hP|refine ia ?_ (by simp<;>omega) _)
 have aF:u.heap[w.heap.size]?=some (.cells #[.int .i64 0,.int .i64 0,.slice none 0 0] 66 (0,0)):=by
  rw[O,((kQ (w.alloc (.cells #[.int .i64 0,.int .i64 0,.slice none 0 0] 66)).heap.size _).alloc c_ (.cells #[.int .i64 0,.int .i64 0,.slice none 0 0] 66)).block w.heap.size (by simp)];exact iP w _
 have aE:u.heap[w.heap.size+1]?=some (.cells #[.int .i64 0,.int .i64 0,.slice none 0 0] 66 (0,0)):=by
  rw[O];have:=iP (w.alloc (.cells #[.int .i64 0,.int .i64 0,.slice none 0 0] 66)) (.cells #[.int .i64 0,.int .i64 0,.slice none 0 0] 66);simpa using this
 have aV:=a_ (bi.e.below af);have bm:=hO af aF aE;have D:f_ (∀j,Below u.heap.size u j->(j.cell? ⟨w.heap.size,0,none⟩=some (.int .i64 0)/\j.cell? ⟨w.heap.size,1,none⟩=some (.int .i64 0)/\j.cell? ⟨w.heap.size,2,none⟩=some (.slice none 0 0)/\(∀Z,j.frozen? ⟨w.heap.size,Z,none⟩=false)/\Ty j w.heap.size 66)/\(j.cell? ⟨w.heap.size+1,0,none⟩=some (.int .i64 0)/\j.cell? ⟨w.heap.size+1,1,none⟩=some (.int .i64 0)/\j.cell? ⟨w.heap.size+1,2,none⟩=some (.slice none 0 0)/\(∀Z,j.frozen? ⟨w.heap.size+1,Z,none⟩=false)/\Ty j (w.heap.size+1) 66)/\Below w.heap.size w j):=a_ (λj I=>by
  have aD:=(I.block w.heap.size (by omega)).trans aF;have am:=(I.block (w.heap.size+1) (by omega)).trans aE;refine⟨⟨?_,?_,?_,λZ=>?_,⟨_,_,aD⟩⟩,⟨?_,?_,?_,λZ=>?_,⟨_,_,am⟩⟩,af.trans (I.mono (by omega))⟩<;>first|(simp[World.cell?,aD];done)|(simp[World.cell?,am];done)|(simp[World.frozen?,aD];done)|(simp[World.frozen?,am];done))
 rw[<-O];clear O aF aE af;go_fit (jS aV.e);rintro H z⟨⟨r,o,E,F,G,bs,rfl,bf⟩,au⟩;have aL:=b_ bf au;have bl:=au.size;clear bf au;go_wp2_with fail;have ar:Below u.heap.size u (z.alloc (.cells #[.int .i64 r,.int .i64 o,.slice E F G] 66)):=aL.i.alloc bl _;go_fit (jS (aV.e.below ar));rintro H s⟨⟨p,n,A,B,C,bu,rfl,a3⟩,aa⟩;have ba:jk (z.alloc (.cells #[.int .i64 r,.int .i64 o,.slice E F G] 66)) z.heap.size (.int .i64 r) (.int .i64 o) (.slice E F G):=⟨fa _ _ _ _ _ rfl rfl,fa _ _ _ _ _ rfl rfl,fa _ _ _ _ _ rfl rfl⟩;have al:=hU s (.cells #[.int .i64 p,.int .i64 n,.slice A B C] 66);have a6:=(ba.later aa).later al;have a5:jk (s.alloc (.cells #[.int .i64 p,.int .i64 n,.slice A B C] 66)) s.heap.size (.int .i64 p) (.int .i64 n) (.slice A B C):=⟨fa _ _ _ _ _ rfl rfl,fa _ _ _ _ _ rfl rfl,fa _ _ _ _ _ rfl rfl⟩;have aG:Below u.heap.size u s:=d_ ar aa;have aN:=((aL.f.below (hP.alloc c_ (.cells #[.int .i64 r,.int .i64 o,.slice E F G] 66))).below aa).below al;have a0:=a3.below al;have aU:Below u.heap.size u (s.alloc (.cells #[.int .i64 p,.int .i64 n,.slice A B C] 66)):=aG.alloc aG.size _;have bo:z.heap.size<s.heap.size:=by have:=aa.size;simp at this;omega
 have t:=iu aN a0 aU a6 a5;clear a3 aa ba al a6 a5 aG aN a0 aU ar;obtain⟨J,aq⟩:=hQ (s.alloc (.cells #[.int .i64 p,.int .i64 n,.slice A B C] 66));have N:=a_ aq;rw[<-aq]at t;clear aq;have bp:J.heap.size=s.heap.size+1:=by rw[N.e];simp
 rcases id t.f with⟨rfl,ai,aj,R,a4,aH,be,a7⟩|⟨rfl,X⟩
 .rcases id t.g with⟨rfl,ae,ag,Q,aP,a9,bc,aM⟩|⟨rfl,X⟩
  .have l:=iu (vO a4 aH be a7) aP a9 bc aM;have ak:=a_ (show∀j,Below J.heap.size J j->j.cell? ⟨z.heap.size,0,none⟩=some (.int .i64 r)/\j.cell? ⟨z.heap.size,1,none⟩=some (.int .i64 o)/\j.cell? ⟨z.heap.size,2,none⟩=some (.slice E F G)/\j.cell? ⟨s.heap.size,0,none⟩=some (.int .i64 p)/\j.cell? ⟨s.heap.size,1,none⟩=some (.int .i64 n)/\j.cell? ⟨s.heap.size,2,none⟩=some (.slice A B C)from λj I=>⟨(t.m.later I).1,(t.m.later I).2.1,(t.m.later I).2.2,(t.x.later I).1,(t.x.later I).2.1,(t.x.later I).2.2⟩);clear a4 aH be a7 aP a9 bc aM;obtain⟨aZ,aK⟩:=hQ (((o:Int)==(n:Int)));have aC:=a_ aK;go_upto_region 5 with fail
   rw[<-N.e];go_cut [37]from 33 to 37 (λaz bg=>az=.bool (!aZ)/\Below J.heap.size J bg)
   case first=>
    go_region_held3 (λj=>j.cell? ⟨z.heap.size,0,none⟩=some (.int .i64 r)/\j.cell? ⟨z.heap.size,1,none⟩=some (.int .i64 o)/\j.cell? ⟨z.heap.size,2,none⟩=some (.slice E F G)/\j.cell? ⟨s.heap.size,0,none⟩=some (.int .i64 p)/\j.cell? ⟨s.heap.size,1,none⟩=some (.int .i64 n)/\j.cell? ⟨s.heap.size,2,none⟩=some (.slice A B C)) (exact ak.e _ (by first|exact hP.drew|exact(hS).drew|exact((hS).alloc (by simp) _).drew)) (first
      |(go_at_call 84;refine(oq).mono ?_;rintro H j⟨rfl,rfl⟩)
      |(go_at_call 85;refine(oo).mono ?_;rintro H j⟨rfl,rfl⟩))
    all_goals
     go_wp2_with fail;go_meet
     case rel=>
      exact⟨by rw[aC.e];rfl,((hS).alloc (by simp) _).drew⟩
   case rest=>
    obtain⟨rfl,V⟩:=hcut;have aR:Below u.heap.size u wc:=d_ t.j V;obtain⟨Y,L,K,U,T,ac⟩:=ak.e wc V;have av:=b_ V aR;have bj:=V.size;clear V aR aK
    cases aZ
    .have bh:f_ (o≠n):=a_ (λH=>by have:=aC.e;rw[H]at this;simp at this);obtain⟨⟨i,a,c,y,-⟩,⟨e,f,d,x,-⟩,q⟩:=D.e _ av.i;have m:=b_ q (lI (lL i a c) (lL e f d) (qQ (nb _)) (.int .i64 0) (.int .i64 0) (.slice none 0 0) (.int .i64 0) (.int .i64 0) (.slice none 0 0));clear q;go_wp2_with fail;clear i a c y e f d x;obtain⟨⟨i,a,c⟩,e,f,d⟩:=id m.i;have k:=a_ (kV m.f c_ (nY _) (.int .i64 0) (.int .i64 0) (.slice none 0 0) (.int .i64 0) (.int .i64 0) (.slice none 0 0));clear m;unfold u1 at i a c e f d k;generalize World.setCell _ _ _=M at i a c e f d k|-;refine ig (v:=.tuple #[.agg #[.int .i64 0,.int .i64 0,.slice none 0 0],.agg #[.int .i64 0,.int .i64 0,.slice none 0 0],.int .i64 3]) ?_ rfl ?_
     .clear D k;(simp[results,Tryz.results81,go_sem,i,a,c,e,f,d];done)
     .exact⟨0,0,0,0,none,none,0,0,0,0,3,rfl,.inr ⟨ai,aj,r,o,R,ae,ag,p,n,Q,l.f.1,l.f.2.1,l.f.2.2.1,l.g,l.j,l.m,.inl ⟨bh.e,rfl⟩⟩,k.e⟩
    .have aS:o=n:=by have:=aC.e;have am:=jY.1 this.symm;omega
     have ao:=a_ aS;clear aS;go_wp2_with fail;go_fit (jl (l.f.2.2.2.below av.f) (by omega));rintro H bb⟨aA,rfl,W,aJ⟩;have S:Below J.heap.size J bb:=av.f.trans (aJ.mono bj);clear Y L K U T ac;obtain⟨Y,L,K,U,T,ac⟩:=ak.e bb S;have bk:=S.size;have ad:=hO S (d_ t.j S) W;clear aJ S W
     cases aA
     .have ap:f_ (¬hW r o R):=a_ (λh=>by have:=ad.l.2 h;cases this);obtain⟨⟨i,a,c,y,-⟩,⟨e,f,d,x,-⟩,q⟩:=D.e _ ad.g;have m:=b_ q (lI (lL i a c) (lL e f d) (qQ (nb _)) (.int .i64 0) (.int .i64 0) (.slice none 0 0) (.int .i64 0) (.int .i64 0) (.slice none 0 0));clear q;go_wp2_with fail;clear i a c y e f d x;obtain⟨⟨i,a,c⟩,e,f,d⟩:=id m.i;have k:=a_ (kV m.f c_ (nY _) (.int .i64 0) (.int .i64 0) (.slice none 0 0) (.int .i64 0) (.int .i64 0) (.slice none 0 0));clear m;unfold u1 at i a c e f d k;generalize World.setCell _ _ _=M at i a c e f d k|-;refine ig (v:=.tuple #[.agg #[.int .i64 0,.int .i64 0,.slice none 0 0],.agg #[.int .i64 0,.int .i64 0,.slice none 0 0],.int .i64 4]) ?_ rfl ?_
      .clear D k;(simp[results,Tryz.results81,go_sem,i,a,c,e,f,d];done)
      .exact⟨0,0,0,0,none,none,0,0,0,0,4,rfl,.inr ⟨ai,aj,r,o,R,ae,ag,p,n,Q,l.f.1,l.f.2.1,l.f.2.2.1,l.g,l.j,l.m,.inr (.inl ⟨ao.e,λh=>ap.e h.1,rfl⟩)⟩,k.e⟩
     .go_wp2_with fail;go_fit (jl (l.x.below ad.f) (by omega));rintro H an⟨aA,rfl,W,aY⟩;have ab:Below J.heap.size J an:=ad.f.trans (aY.mono bk);clear Y L K U T ac;obtain⟨Y,L,K,U,T,ac⟩:=ak.e an ab;have br:=ab.size;have P:=hO ab (d_ t.j ab) W;clear aY ab W
      cases aA
      .have ap:f_ (¬hW p n Q):=a_ (λh=>by have:=P.l.2 h;cases this);obtain⟨⟨i,a,c,y,-⟩,⟨e,f,d,x,-⟩,q⟩:=D.e _ P.g;have m:=b_ q (lI (lL i a c) (lL e f d) (qQ (nb _)) (.int .i64 0) (.int .i64 0) (.slice none 0 0) (.int .i64 0) (.int .i64 0) (.slice none 0 0));clear q;go_wp2_with fail;clear i a c y e f d x;obtain⟨⟨i,a,c⟩,e,f,d⟩:=id m.i;have k:=a_ (kV m.f c_ (nY _) (.int .i64 0) (.int .i64 0) (.slice none 0 0) (.int .i64 0) (.int .i64 0) (.slice none 0 0));clear m;unfold u1 at i a c e f d k;generalize World.setCell _ _ _=M at i a c e f d k|-;refine ig (v:=.tuple #[.agg #[.int .i64 0,.int .i64 0,.slice none 0 0],.agg #[.int .i64 0,.int .i64 0,.slice none 0 0],.int .i64 4]) ?_ rfl ?_
       .clear D k;(simp[results,Tryz.results81,go_sem,i,a,c,e,f,d];done)
       .exact⟨0,0,0,0,none,none,0,0,0,0,4,rfl,.inr ⟨ai,aj,r,o,R,ae,ag,p,n,Q,l.f.1,l.f.2.1,l.f.2.2.1,l.g,l.j,l.m,.inr (.inl ⟨ao.e,λh=>ap.e h.2,rfl⟩)⟩,k.e⟩
      .have ay:f_ (hW r o R/\hW p n Q):=a_ ⟨ad.l.1 rfl,P.l.1 rfl⟩;obtain⟨⟨i,a,c,y,a1⟩,⟨e,f,d,x,aT⟩,q⟩:=D.e _ P.g;have m:=hY q a1 aT (lI (lL i a c) (lL e f d) (qQ (nb _)) (.int .i64 r) (.int .i64 o) (.slice E F G) (.int .i64 p) (.int .i64 n) (.slice A B C));have aB:w.heap.size≠z.heap.size:=by omega
       have ax:w.heap.size≠s.heap.size:=by omega
       have bq:w.heap.size+1≠z.heap.size:=by omega
       have bt:w.heap.size+1≠s.heap.size:=by omega
       clear q a1 aT;go_wp2_with fail;go_region_with fail;all_goals
        go_wp2_with fail;clear i a c y e f d x Y L K U T ac;obtain⟨⟨i,a,c⟩,e,f,d⟩:=id m.o;have k:=b_ (kV m.f c_ (nY _) (.int .i64 r) (.int .i64 o) (.slice E F G) (.int .i64 p) (.int .i64 n) (.slice A B C)) (C2 m.g m.j (by decide) (by decide) (by decide) (by decide) (.int .i64 r) (.int .i64 o) (.slice E F G) (.int .i64 p) (.int .i64 n) (.slice A B C));clear m;unfold u1 at i a c e f d k;generalize World.setCell _ _ _=M at i a c e f d k|-;have ah:f_ (Below w.heap.size w M.drew/\KT an M.drew):=b_ k.f.drew k.i;refine ig (v:=.tuple #[.agg #[.int .i64 r,.int .i64 o,.slice E F G],.agg #[.int .i64 p,.int .i64 n,.slice A B C],.int .i64 0]) ?_ rfl ?_
        .clear D k ah;(simp[results,Tryz.results81,go_sem,i,a,c,e,f,d];done)
        .have a8:o=n:=ao.e;refine⟨r,o,p,n,E,A,F,B,G,C,0,rfl,.inr ⟨ai,aj,r,o,R,ae,ag,p,n,Q,l.f.1,l.f.2.1,l.f.2.2.1,l.g,l.j,l.m,.inr (.inr ⟨a8,ay.e,rfl,?_,?_⟩)⟩,ah.f⟩
         .exact((l.f.2.2.2.below P.f).tight ay.f).oJ ah.i
         .rw[a8];exact((l.x.below P.f).tight ay.i).oJ ah.i
  .have aw:=a_ X;clear X;obtain⟨⟨i,a,c,y,-⟩,⟨e,f,d,x,-⟩,q⟩:=D.e _ t.j;have m:=b_ q (lI (lL i a c) (lL e f d) (qQ (nb _)) (.int .i64 0) (.int .i64 0) (.slice none 0 0) (.int .i64 0) (.int .i64 0) (.slice none 0 0));clear q;rw[N.e]at i a c y e f d x;go_wp2_with fail;clear i a c y e f d x;rw[<-N.e];obtain⟨⟨i,a,c⟩,e,f,d⟩:=id m.i;have k:=a_ (kV m.f c_ (nY _) (.int .i64 0) (.int .i64 0) (.slice none 0 0) (.int .i64 0) (.int .i64 0) (.slice none 0 0));clear m;unfold u1 at i a c e f d k;generalize World.setCell _ _ _=M at i a c e f d k|-;refine ig (v:=.tuple #[.agg #[.int .i64 0,.int .i64 0,.slice none 0 0],.agg #[.int .i64 0,.int .i64 0,.slice none 0 0],.int .i64 2]) ?_ rfl ?_
   .clear D k;(simp[results,Tryz.results81,go_sem,i,a,c,e,f,d];done)
   .exact⟨0,0,0,0,none,none,0,0,0,0,2,rfl,.inl ⟨.inr aw.e,rfl⟩,k.e⟩
 .have aw:=a_ X;clear X;obtain⟨⟨i,a,c,y,-⟩,⟨e,f,d,x,-⟩,q⟩:=D.e _ t.j;have m:=b_ q (lI (lL i a c) (lL e f d) (qQ (nb _)) (.int .i64 0) (.int .i64 0) (.slice none 0 0) (.int .i64 0) (.int .i64 0) (.slice none 0 0));clear q;rw[N.e]at i a c y e f d x;go_wp2_with fail;clear i a c y e f d x;rw[<-N.e];obtain⟨⟨i,a,c⟩,e,f,d⟩:=id m.i;have k:=a_ (kV m.f c_ (nY _) (.int .i64 0) (.int .i64 0) (.slice none 0 0) (.int .i64 0) (.int .i64 0) (.slice none 0 0));clear m;unfold u1 at i a c e f d k;generalize World.setCell _ _ _=M at i a c e f d k|-;refine ig (v:=.tuple #[.agg #[.int .i64 0,.int .i64 0,.slice none 0 0],.agg #[.int .i64 0,.int .i64 0,.slice none 0 0],.int .i64 2]) ?_ rfl ?_
  .clear D k;(simp[results,Tryz.results81,go_sem,i,a,c,e,f,d];done)
  .exact⟨0,0,0,0,none,none,0,0,0,0,2,rfl,.inl ⟨.inl aw.e,rfl⟩,k.e⟩
def Jv(A B:Nat->Nat->Int)(r r' c:Nat):Prop:=(∀a,a<r->Sp B r' c (A a))/\∀a,a<r'->Sp A r c (B a)
theorem Sp.like{k c:Nat}{v:Nat->Int}(h:Sp A k c v)(f:∀b a,b<k->a<c->A b a=B b a):Sp B k c v:=by
 obtain⟨i,e⟩:=h;exact⟨i,λa d=>(e a d).trans (iq k λj g=>by rw[f j a g d])⟩
theorem x7{A B U W u x:Nat->Nat->Int}{r r' c k:Nat}{pc:Nat->Nat}(h:iJ r c k pc F)(w:jw A F U W r c)(e:iJ r' c i o G)(q:jw B G u x r' c):(k=i/\∀a d,a<k->d<c->F a d=G a d)↔Jv A B r r' c:=by
 obtain⟨m,n⟩:=nJ h w;obtain⟨l,p⟩:=nJ e q;have z:=h.le;have y:=e.le;constructor
 .rintro⟨rfl,j⟩;exact⟨λf g=>((m f g).like j).trans (λa b=>p a (by omega)),λf g=>((l f g).like (λa d b v=>(j a d b v).symm)).trans (λa b=>n a (by omega))⟩
 .rintro⟨s,t⟩;exact h.uniq e (λa b=>((n a (by omega)).trans s).trans l) (λa b=>((p a (by omega)).trans t).trans m)
def uC(ms:List Hm)(g h:Int)(y:Bool)(e:Int):Prop:=
 (((∀b,b<24->∀k,ms.getD b none=some k->(k.1:Int)≠g)\/(∀b,b<24->∀k,ms.getD b none=some k->(k.1:Int)≠h))/\y=false/\e=2)\/∃b l j a d n m f c i,b<24/\ms.getD b none=some (l,j,a,d)/\((l:Nat):Int)=g/\n<24/\ms.getD n none=some (m,f,c,i)/\((m:Nat):Int)=h/\((a≠c/\y=false/\e=3)\/(a=c/\¬(hW j a d/\hW f c i)/\y=false/\e=4)\/(a=c/\(hW j a d/\hW f c i)/\e=0/\(y=true↔Jv (e_ a d) (e_ a i) j f a)/\na (e_ a d) j a/\na (e_ a i) f a))
theorem oc.bad{w:World}{ms:List Hm}{g h:Int}{m n:Value}{e:Int}(u:oc w ms g h m n e)(c:e≠0):uC ms g h false e:=by
 rcases u with⟨b,rfl⟩|⟨o,p,l,q,v,r,k,i,t,d,b,z,f,y,j,s,A⟩
 .exact .inl ⟨b,rfl,rfl⟩
 .refine .inr ⟨o,p,l,q,v,r,k,i,t,d,b,z,f,y,j,s,?_⟩;rcases A with⟨a,rfl⟩|⟨a,x,rfl⟩|⟨-,-,a,-⟩
  .exact .inl ⟨a,rfl,rfl⟩
  .exact .inr (.inl ⟨a,x,rfl,rfl⟩)
  .exact absurd a c
theorem oc.ok{w:World}{ms:List Hm}{g h:Int}(A:oc w ms g h (.agg #[.int .i64 a,.int .i64 b,x]) (.agg #[.int .i64 c,.int .i64 d,y]) 0):∃m n i e k o l f j,(m<24/\ms.getD m none=some (n,i,e,k)/\((n:Nat):Int)=g/\o<24/\ms.getD o none=some (l,f,e,j)/\((l:Nat):Int)=h)/\(hW i e k/\hW f e j)/\a=i/\b=e/\c=f/\d=e/\i_ w (.agg #[.int .i64 i,.int .i64 e,x]) i e k 2/\i_ w (.agg #[.int .i64 f,.int .i64 e,y]) f e j 2:=by
 rcases A with⟨s,h⟩|⟨m,n,i,e,k,o,l,f,I,j,s,D,u,C,v,z,F⟩
 .cases h
 .rcases F with⟨E,h⟩|⟨E,J,h⟩|⟨rfl,B,-,t,q⟩
  .cases h
  .cases h
  .obtain⟨-,-,G,p,-⟩:=id t;obtain⟨-,-,H,r,-⟩:=id q;simp only[j9,j_,kb,Value.int.injEq,nh,jh]at p r;obtain⟨rfl,rfl,rfl⟩:=p;obtain⟨rfl,rfl,rfl⟩:=r;exact⟨m,n,i,e,k,o,l,f,j,⟨s,D,u,C,v,z⟩,B,rfl,rfl,rfl,rfl,t,q⟩
theorem wN{b:Nat}{g h:Int}{ms:List Hm}{nx:Nat}(am:jf w b ms nx):Calls Tryz.prog 47 #[.pointer (some ⟨b,0,none⟩),.int .i64 g,.int .i64 h] w λah aN=>∃(af:Bool) (d:Int),ah=.returned (.tuple #[.bool af,.int .i64 d])/\uC ms g h af d/\Below w.heap.size w aN:=by
 have aM:=a_ am;clear am;go_in;go_wp2_with fail;go_fit (wX aM.e);rintro ah m⟨aJ,aA,aQ,aB,F,z,H,v,D,s,d,rfl,aa,N⟩;have E:=b_ aa N;have ar:=N.size;clear aa N;by_cases T:d=0
 .subst T;obtain⟨aE,aF,I,a,aR,e,ay,t,aO,av,Z,rfl,rfl,rfl,rfl,au,aq⟩:=E.f.ok;have k:=(hU m (.cells #[.int .i64 I,.int .i64 a,.slice F H D] 66)).alloc (by simp) (.cells #[.int .i64 t,.int .i64 a,.slice z v s] 66);have c:=hY av Z (au.below k) (aq.below k);have u:=a_ (E.i.trans (k.mono ar));have ap:jk ((m.alloc (.cells #[.int .i64 I,.int .i64 a,.slice F H D] 66)).alloc (.cells #[.int .i64 t,.int .i64 a,.slice z v s] 66)) (m.heap.size+1) (.int .i64 t) (.int .i64 a) (.slice z v s):=⟨by simp,by simp,by simp⟩;have ag:=a_ ap;clear av Z au aq k ap;go_wp2_with fail;obtain⟨O,M⟩:=hQ ((m.alloc (.cells #[.int .i64 I,.int .i64 a,.slice F H D] 66)).alloc (.cells #[.int .i64 t,.int .i64 a,.slice z v s] 66));have aY:O.heap.size=m.heap.size+2:=by rw[M];simp
  rw[<-M]at c u ag|-;clear M;go_fit (oe c.j c.g.1.1 c.g.1.2.1 c.g.1.e_ (by omega));rintro d bl⟨bk,p,bd,bc,bn,aU,rfl,l,i,y,-,ab,-⟩;have J:=b_ i y;have az:=i.le;obtain⟨ax,aS,aH,rfl,x,r,A⟩:=id l;obtain⟨bi,ba,rfl⟩:=x.slice;obtain⟨bo,a6,rfl⟩:=r.slice;obtain⟨aW,bg,rfl⟩:=A.slice;clear x r A i y;have f:=b_ l ab;clear l ab;go_wp2_with fail;go_fit (ud f.f az);rintro d C⟨bp,aV,rfl,L,ac,aj⟩;have V:Below O.heap.size O C:=d_ f.i aj;obtain⟨-,-,a3,rfl,X⟩:=id L;obtain⟨S,K,rfl,-⟩:=X.shape;have aL:=V.size;have R:=hU C (.cells #[.int .i64 p,.int .i64 a,.slice S (p*a) K] 66);have P:=V.trans (R.mono aL);have an:jk (C.alloc (.cells #[.int .i64 p,.int .i64 a,.slice S (p*a) K] 66)) C.heap.size (.int .i64 p) (.int .i64 a) (.slice S (p*a) K):=⟨fa _ _ _ _ _ rfl rfl,fa _ _ _ _ _ rfl rfl,fa _ _ _ _ _ rfl rfl⟩;obtain⟨ad,Y,aw⟩:=ag.e.later P;have j:=hY (L.below R) ac P an;clear X L ac aj V R P an f;go_wp2_with fail;go_fit (oe (c.o.below j.j) c.g.2.1 c.g.2.2.1 c.g.2.e_ (by omega));rintro d a8⟨a4,ao,bb,a5,aT,a9,rfl,l,i,y,-,ae,-⟩;have B:=b_ i y;have aG:=i.le;obtain⟨ax,aS,aH,rfl,x,r,A⟩:=id l;obtain⟨a0,bq,rfl⟩:=x.slice;obtain⟨bh,aZ,rfl⟩:=r.slice;obtain⟨bm,be,rfl⟩:=A.slice;clear x r A i y ad Y aw;have f:=b_ l ae;clear l ae;go_wp2_with fail;go_fit (ud f.f aG);rintro d aP⟨a2,a7,rfl,W,ak,Q⟩;have aX:=f.i.size;have ai:=d_ f.i Q;obtain⟨-,-,a1,rfl,al⟩:=id W;obtain⟨aI,aK,rfl,-⟩:=al.shape;have U:=hU aP (.cells #[.int .i64 ao,.int .i64 a,.slice aI (ao*a) aK] 66);have G:=d_ ai U;obtain⟨ad,Y,aw⟩:=j.o.later G;have bf:=Q.size;have n:=hY (W.below U) ak (u.e.trans ((d_ j.j G).mono u.e.size)) (j.f.below G);clear al W ak Q ai U G f;go_wp2_with fail;go_fit (DJ n.o n.f);rintro d bj⟨rfl,aC⟩;go_wp2;go_ret2;refine⟨_,0,rfl,.inr ⟨aE,aF,I,a,aR,e,ay,t,a,aO,c.f.1,c.f.2.1,c.f.2.2.1,c.f.2.2.2.1,c.f.2.2.2.2.1,c.f.2.2.2.2.2,.inr (.inr ⟨rfl,c.g,rfl,?_,⟨_,_,_,_,_,J.f,J.i⟩,⟨_,_,_,_,_,B.f,B.i⟩⟩)⟩,d_ n.j aC⟩;rw[<-x7 J.f J.i B.f B.i,Bool.and_eq_true,decide_eq_true_iff,decide_eq_true_iff];constructor
  .rintro⟨rfl,d⟩;refine⟨rfl,λb e q o=>?_⟩;rw[<-j.g b e q o,d];exact n.g b e q o
  .rintro⟨rfl,d⟩;refine⟨rfl,iR j.f.len n.f.len λb e q o=>?_⟩;rw[j.g b e q o,d b e q o];exact(n.g b e q o).symm
 .have aD:=a_ T;have br:(d==0)=false:=by simpa using T
  have k:=(hU m (.cells #[.int .i64 aJ,.int .i64 aA,.slice F H D] 66)).alloc (by simp) (.cells #[.int .i64 aQ,.int .i64 aB,.slice z v s] 66);have u:=a_ (E.i.trans (k.mono ar));clear k;go_wp2;go_ret2;exact⟨false,d,rfl,E.f.bad aD.e,u.e⟩
theorem Iy{r c:Nat}(d:r<=8)(b:c<=4):hB r 48 c<=32*20000/\uB r 48 c<=32*20000:=by
 have a:∀r:Fin 9,∀c:Fin 5,hB r.val 48 c.val<=32*20000/\uB r.val 48 c.val<=32*20000:=by decide
 exact a ⟨r,by omega⟩ ⟨c,by omega⟩
theorem Dd{r c:Nat}{zs:List Int}(ys:List Int)(d:zs.length=r*c){i j:Nat}(a:i<r)(b:j<c):e_ c (zs++ys) i j=e_ c zs i j:=by
 have:=jq a b;unfold e_;rw[List.getD,List.getD,lQ (by omega)]
theorem Ds{r c:Nat}{zs:List Int}(ys:List Int)(a:zs.length=r*c)(i j:Nat):e_ c (zs++ys) (r+i) j=e_ c ys i j:=by
 have:(r+i)*c+j=r*c+(i*c+j):=by rw[jV];omega
 unfold e_;rw[this,List.getD,List.getD,uP (by omega),a,w4]
def oL(r c:Nat)(zs:List Int)(k:Nat)(e:List Int):Prop:=
 e.length=k*c/\∃h a g f,iJ r c k h (e_ c a)/\jw (e_ c zs) (e_ c a) (e_ r g) (e_ r f) r c/\∀d b,d<k->b<c->e_ c e d b=e_ c a d b
theorem oL.uniq{r c:Nat}{zs:List Int}{k:Nat}(a:oL r c zs k e)(b:oL r c zs i f):k=i/\e=f:=by
 obtain⟨o,z,y,A,x,l,u,t⟩:=a;obtain⟨s,w,B,v,C,m,q,p⟩:=b;obtain⟨rfl,n⟩:=(x7 l u m q).2 ⟨λg d=>Sp.row _ c d,λg d=>Sp.row _ c d⟩;exact⟨rfl,iR o s λg h d j=>by rw[t g h d j,n g h d j,p g h d j]⟩
def qA(ms:List Hm)(nx:Nat)(g h k e:Int)(m:List Hm)(j:Nat):Prop:=
 (((∀a,a<24->∀l,ms.getD a none=some l->(l.1:Int)≠g)\/(∀a,a<24->∀l,ms.getD a none=some l->(l.1:Int)≠h))/\k=-1/\e=2/\m=ms/\j=nx)\/∃a o n b f q p d c i,a<24/\ms.getD a none=some (o,n,b,f)/\((o:Nat):Int)=g/\q<24/\ms.getD q none=some (p,d,c,i)/\((p:Nat):Int)=h/\((b≠c/\k=-1/\e=3/\m=ms/\j=nx)\/(b=c/\¬(hW n b f/\hW d c i)/\k=-1/\e=4/\m=ms/\j=nx)\/(b=c/\(hW n b f/\hW d c i)/\(∀a,a<24->ms.getD a none≠none)/\k=-1/\e=5/\m=ms/\j=nx)\/(b=c/\(hW n b f/\hW d c i)/\k=(nx:Int)/\e=0/\∃s t r,oL (n+d) b (f++i) t r/\ke ms s/\m=ms.set s (some (nx,t,b,r))/\j=nx+1))
theorem oc.K0{w:World}{ms:List Hm}{g h:Int}{m n:Value}{e:Int}(nx:Nat)(u:oc w ms g h m n e)(c:e≠0):qA ms nx g h (-1) e ms nx:=by
 rcases u with⟨b,rfl⟩|⟨o,p,l,q,v,r,k,i,t,d,b,z,f,y,j,s,A⟩
 .exact .inl ⟨b,rfl,rfl,rfl,rfl⟩
 .refine .inr ⟨o,p,l,q,v,r,k,i,t,d,b,z,f,y,j,s,?_⟩;rcases A with⟨a,rfl⟩|⟨a,x,rfl⟩|⟨-,-,a,-⟩
  .exact .inl ⟨a,rfl,rfl,rfl,rfl⟩
  .exact .inr (.inl ⟨a,x,rfl,rfl,rfl,rfl⟩)
  .exact absurd a c
theorem Ac{b:Nat}{g h:Int}{ms:List Hm}{nx:Nat}(I:jf w b ms nx)(aM:nx<1000000):Calls Tryz.prog 218 #[.pointer (some ⟨b,0,none⟩),.int .i64 g,.int .i64 h] w λal aq=>∃n f an aD,al=.returned (.tuple #[.int .i64 n,.int .i64 f])/\qA ms nx g h n f an aD/\jf aq b an aD/\Fr b w aq:=by
 have O:=I.1;have v:=a_ I;clear I;go_in;go_wp2_with fail;go_fit (wX v.e);rintro al j⟨aV,aN,a0,aO,s,t,u,r,p,q,f,rfl,V,E⟩;have y:=b_ V E;have aA:=E.size;clear V E;by_cases H:f=0
 .subst H;obtain⟨i,af,d,c,x,k,R,e,m,aG,S,rfl,rfl,rfl,rfl,aE,ay⟩:=y.f.ok;have o:=(hU j (.cells #[.int .i64 d,.int .i64 c,.slice s u p] 66)).alloc (by simp) (.cells #[.int .i64 e,.int .i64 c,.slice t r q] 66);have a:=hY aG S (aE.below o) (ay.below o);have l:=a_ (y.i.trans (o.mono aA));have az:jk ((j.alloc (.cells #[.int .i64 d,.int .i64 c,.slice s u p] 66)).alloc (.cells #[.int .i64 e,.int .i64 c,.slice t r q] 66)) j.heap.size (.int .i64 d) (.int .i64 c) (.slice s u p):=⟨by simp,by simp,by simp⟩;have av:jk ((j.alloc (.cells #[.int .i64 d,.int .i64 c,.slice s u p] 66)).alloc (.cells #[.int .i64 e,.int .i64 c,.slice t r q] 66)) (j.heap.size+1) (.int .i64 e) (.int .i64 c) (.slice t r q):=⟨by simp,by simp,by simp⟩;have ak:=b_ az av;clear aG S aE ay o az av;go_wp2_with fail;obtain⟨z,C⟩:=hQ ((j.alloc (.cells #[.int .i64 d,.int .i64 c,.slice s u p] 66)).alloc (.cells #[.int .i64 e,.int .i64 c,.slice t r q] 66));have a8:z.heap.size=j.heap.size+2:=by rw[C];simp
  rw[<-C]at a l ak|-;clear C;go_fit (mg (v.e.below l.e));rintro f z⟨rfl,rfl⟩;obtain⟨ac,F⟩:=hQ (ms.countP Option.isNone);have P:=a_ F;rw[<-F];clear F;by_cases au:ac=0
  .subst au;go_wp2;go_ret2;exact⟨_,_,ms,nx,rfl,.inr ⟨i,af,d,c,x,k,R,e,c,m,a.f.1,a.f.2.1,a.f.2.2.1,a.f.2.2.2.1,a.f.2.2.2.2.1,a.f.2.2.2.2.2,.inr (.inr (.inl ⟨rfl,a.g,pv O P.e.symm,rfl,rfl,rfl,rfl⟩))⟩,v.e.below l.e,Fr.I l.e⟩
  .obtain⟨aY,aw⟩:=pV O (show 0<ms.countP Option.isNone from by have:=P.e;omega);have W:=a_ aw;have a9:¬((ac:Int)<1):=by omega
   clear aw au;obtain⟨⟨aQ,aI,a3⟩,aT,aU,aP⟩:=id ak.e;have a4:=a.g.1.1;have bh:=a.g.2.1;have Y:=a.g.1.2.1;go_wp2_with fail;go_fit (AR a.j a.o (by omega));rintro f aZ⟨a2,rfl,-,aB,X⟩;have ar:=a.j.len;have bk:=a.o.len;have aC:i_ aZ (.agg #[.int .i64 ((d+e:Nat):Int),.int .i64 c,.slice (some ⟨a2,0,none⟩) ((d+e)*c) ((d+e)*c)]) (d+e) c (x++m) 2:=⟨by omega,by omega,_,rfl,aB⟩;have ae:∀i k,i<d+e->k<c->(e_ c (x++m) i k).natAbs<2^48:=λi k bf K=>by
    by_cases h:i<d
    .rw[Dd m ar h K];exact a.g.1.e_ i k h K
    .rw[show i=d+(i-d) by omega,Ds m ar];exact a.g.2.e_ _ k (by omega) K
   have G:=hO aC ae X;clear aB X aC ae aQ aI a3 aT aU aP;go_wp2_with fail;go_fit (sN (G.f.mono (by omega)) (by omega) (by omega) G.g (by omega) (Iy (by omega) Y).1 (Iy (by omega) Y).2);rintro f a6⟨bm,n,aX,aW,a1,aH,rfl,L,J,ai,-,am,-⟩;have ao:=b_ J ai;have aK:=J.le;obtain⟨a5,bn,bd,rfl,ag,aa,ap⟩:=id L;obtain⟨bj,be,rfl⟩:=ag.slice;obtain⟨bl,bb,rfl⟩:=aa.slice;obtain⟨a7,bg,rfl⟩:=ap.slice;clear ag aa ap J ai;have M:=b_ L (d_ G.l am);clear L am;go_wp2_with fail;go_fit (ud M.f aK);rintro f aj⟨ba,T,rfl,B,ad,ah⟩;have Z:Below z.heap.size z aj:=d_ M.i ah;obtain⟨-,-,bc,rfl,aF⟩:=id B;obtain⟨aJ,aL,rfl,-⟩:=aF.shape;have A:=hO B (show oL (d+e) c (x++m) n T from⟨B.len,aX,aW,a1,aH,ao.f,ao.i,ad⟩) (d_ l.e Z);clear aF B ad ah Z M;obtain⟨aS,ab⟩:=hQ (n*c);rw[<-ab]at A|-;clear ab;go_wp2_with fail;have N:=hU aj (.cells #[.int .i64 n,.int .i64 c,.slice aJ aS aL] 66);have D:=d_ A.l N;go_fit (q2 (v.e.below D) ((A.f.below N).mono (by omega)) W.e aM);rintro f bi⟨rfl,Q,U⟩;have ax:=b_ Q ((Fr.I D).trans U);clear Q U D N;go_wp2;go_ret2;exact⟨_,_,_,nx+1,rfl,.inr ⟨i,af,d,c,x,k,R,e,c,m,a.f.1,a.f.2.1,a.f.2.2.1,a.f.2.2.2.1,a.f.2.2.2.2.1,a.f.2.2.2.2.2,.inr (.inr (.inr ⟨rfl,a.g,rfl,rfl,aY,n,T,A.g,W.e,rfl,rfl⟩))⟩,ax.f,ax.i⟩
 .have aR:=a_ H;have bo:(f==0)=false:=by simpa using H
  have o:=(hU j (.cells #[.int .i64 aV,.int .i64 aN,.slice s u p] 66)).alloc (by simp) (.cells #[.int .i64 a0,.int .i64 aO,.slice t r q] 66);have l:=a_ (y.i.trans (o.mono aA));clear o;go_wp2;go_ret2;exact⟨-1,f,ms,nx,rfl,y.f.K0 nx aR.e,v.e.below l.e,Fr.I l.e⟩
variable{M:List Hm}
theorem qA.uniq{ms:List Hm}{nx:Nat}{g h k e:Int}{H:List Hm}(hd:pq ms)(a:qA ms nx g h k e M i)(b:qA ms nx g h c d H j):k=c/\e=d/\M=H/\i=j:=by
 rcases a with⟨p,rfl,rfl,rfl,rfl⟩|⟨s,F,Q,S,V,u,G,K,U,I,x,v,A,y,r,B,p⟩
 .rcases b with⟨m,rfl,rfl,rfl,rfl⟩|⟨s,F,Q,S,V,u,G,K,U,I,x,v,A,y,r,B,m⟩
  .exact⟨rfl,rfl,rfl,rfl⟩
  .rcases p with p|p
   .exact absurd A (p s x _ v)
   .exact absurd B (p u y _ r)
 .rcases b with⟨m,rfl,rfl,rfl,rfl⟩|⟨D,T,aa,X,af,E,L,Y,ae,ab,O,w,ai,J,z,W,m⟩
  .rcases m with m|m
   .exact absurd A (m s x _ v)
   .exact absurd B (m u y _ r)
  .have N:s=D:=hd s D _ _ x O v w (by show F=T;omega);have d:u=E:=hd u E _ _ y J r z (by show G=L;omega);subst N;subst d;rw[v]at w;rw[r]at z;simp only[iH,lN]at w z;obtain⟨rfl,rfl,rfl,rfl⟩:=w;obtain⟨rfl,rfl,rfl,rfl⟩:=z;rcases p with⟨n,rfl,rfl,rfl,rfl⟩|⟨n,q,rfl,rfl,rfl,rfl⟩|⟨n,q,t,rfl,rfl,rfl,rfl⟩|⟨n,q,rfl,rfl,C,Z,ac,R,t,rfl,rfl⟩
   .rcases m with⟨f,rfl,rfl,rfl,rfl⟩|⟨f,_⟩|⟨f,_⟩|⟨f,_⟩
    .exact⟨rfl,rfl,rfl,rfl⟩
    .exact absurd f n
    .exact absurd f n
    .exact absurd f n
   .rcases m with⟨f,_⟩|⟨f,l,rfl,rfl,rfl,rfl⟩|⟨f,l,_⟩|⟨f,l,_⟩
    .exact absurd n f
    .exact⟨rfl,rfl,rfl,rfl⟩
    .exact absurd l q
    .exact absurd l q
   .rcases m with⟨f,_⟩|⟨f,l,_⟩|⟨f,l,o,rfl,rfl,rfl,rfl⟩|⟨f,l,_,_,C,_,_,_,o,_⟩
    .exact absurd n f
    .exact absurd q l
    .exact⟨rfl,rfl,rfl,rfl⟩
    .exact absurd o.2.1 (t C o.1)
   .rcases m with⟨f,_⟩|⟨f,l,_⟩|⟨f,l,o,_⟩|⟨f,l,rfl,rfl,ah,ag,ad,P,o,rfl,rfl⟩
    .exact absurd n f
    .exact absurd q l
    .exact absurd t.2.1 (o C t.1)
    .obtain⟨rfl,rfl⟩:=R.uniq P;rw[t.uniq o];exact⟨rfl,rfl,rfl,rfl⟩
theorem uC.uniq{ms:List Hm}{g h:Int}{y:Bool}{e:Int}(hd:pq ms)(a:uC ms g h y e)(b:uC ms g h u c):y=u/\e=c:=by
 rcases a with⟨i,rfl,rfl⟩|⟨m,A,J,L,O,n,B,E,N,C,q,o,v,r,l,w,i⟩
 .rcases b with⟨f,rfl,rfl⟩|⟨m,A,J,L,O,n,B,E,N,C,q,o,v,r,l,w,f⟩
  .exact⟨rfl,rfl⟩
  .rcases i with i|i
   .exact absurd v (i m q _ o)
   .exact absurd w (i n r _ l)
 .rcases b with⟨f,rfl,rfl⟩|⟨x,M,S,Q,V,z,F,R,U,T,H,p,W,D,s,P,f⟩
  .rcases f with f|f
   .exact absurd v (f m q _ o)
   .exact absurd w (f n r _ l)
  .have G:m=x:=hd m x _ _ q H o p (by show A=M;omega);have c:n=z:=hd n z _ _ r D l s (by show B=F;omega);subst G;subst c;rw[o]at p;rw[l]at s;simp only[iH,lN]at p s;obtain⟨rfl,rfl,rfl,rfl⟩:=p;obtain⟨rfl,rfl,rfl,rfl⟩:=s;rcases i with⟨j,rfl,rfl⟩|⟨j,t,rfl,rfl⟩|⟨j,t,rfl,K⟩
   .rcases f with⟨d,rfl,rfl⟩|⟨d,_⟩|⟨d,_⟩
    .exact⟨rfl,rfl⟩
    .exact absurd d j
    .exact absurd d j
   .rcases f with⟨d,_⟩|⟨d,k,rfl,rfl⟩|⟨d,k,_⟩
    .exact absurd j d
    .exact⟨rfl,rfl⟩
    .exact absurd k t
   .rcases f with⟨d,_⟩|⟨d,k,_⟩|⟨d,k,rfl,I⟩
    .exact absurd j d
    .exact absurd t k
    .exact⟨r4.2 (K.1.trans I.1.symm),rfl⟩
theorem sf.uniq{ms:List Hm}{nx:Nat}{g h:Int}{y:Bool}{k e:Int}{O:List Hm}(hd:pq ms)(a:sf ms nx g h y k e M i)(b:sf ms nx g h u c d O j):y=u/\k=c/\e=d/\M=O/\i=j:=by
 rcases a with⟨q,rfl,rfl,rfl,rfl,rfl⟩|⟨s,L,V,W,Z,v,N,R,Y,P,A,w,E,B,r,G,q⟩
 .rcases b with⟨m,rfl,rfl,rfl,rfl,rfl⟩|⟨s,L,V,W,Z,v,N,R,Y,P,A,w,E,B,r,G,m⟩
  .exact⟨rfl,rfl,rfl,rfl,rfl⟩
  .rcases q with q|q
   .exact absurd E (q s A _ w)
   .exact absurd G (q v B _ r)
 .rcases b with⟨m,rfl,rfl,rfl,rfl,rfl⟩|⟨J,X,ae,ab,ai,K,S,ac,ah,af,U,x,ak,Q,D,aa,m⟩
  .rcases m with m|m
   .exact absurd E (m s A _ w)
   .exact absurd G (m v B _ r)
  .have T:s=J:=hd s J _ _ A U w x (by show L=X;omega);have d:v=K:=hd v K _ _ B Q r D (by show N=S;omega);subst T;subst d;rw[w]at x;rw[r]at D;simp only[iH,lN]at x D;obtain⟨rfl,rfl,rfl,rfl⟩:=x;obtain⟨rfl,rfl,rfl,rfl⟩:=D;rcases q with⟨o,rfl,rfl,rfl,rfl,rfl⟩|⟨o,p,rfl,rfl,rfl,rfl,rfl⟩|⟨o,p,t,rfl,rfl,rfl,rfl,rfl⟩|⟨o,p,t,F,rfl,rfl,rfl,rfl,rfl⟩|⟨o,p,t,rfl,rfl,rfl,I,ad,F,H,rfl,rfl⟩
   .rcases m with⟨f,rfl,rfl,rfl,rfl,rfl⟩|⟨f,_⟩|⟨f,_⟩|⟨f,_⟩|⟨f,_⟩
    .exact⟨rfl,rfl,rfl,rfl,rfl⟩
    all_goals exact absurd f o
   .rcases m with⟨f,_⟩|⟨f,l,rfl,rfl,rfl,rfl,rfl⟩|⟨f,l,_⟩|⟨f,l,_⟩|⟨f,l,_⟩
    .exact absurd o f
    .exact⟨rfl,rfl,rfl,rfl,rfl⟩
    all_goals exact absurd l p
   .rcases m with⟨f,_⟩|⟨f,l,_⟩|⟨f,l,n,rfl,rfl,rfl,rfl,rfl⟩|⟨f,l,n,_⟩|⟨f,l,n,_⟩
    .exact absurd o f
    .exact absurd p l
    .exact⟨rfl,rfl,rfl,rfl,rfl⟩
    all_goals exact absurd n.1 t.1
   .rcases m with⟨f,_⟩|⟨f,l,_⟩|⟨f,l,n,_⟩|⟨f,l,n,z,rfl,rfl,rfl,rfl,rfl⟩|⟨f,l,n,_,_,_,I,_,_,C,_⟩
    .exact absurd o f
    .exact absurd p l
    .exact absurd t.1 n.1
    .exact⟨rfl,rfl,rfl,rfl,rfl⟩
    .exact absurd C.2.1 (F I C.1)
   .rcases m with⟨f,_⟩|⟨f,l,_⟩|⟨f,l,n,_⟩|⟨f,l,n,z,_⟩|⟨f,l,n,rfl,rfl,rfl,aj,ag,z,C,rfl,rfl⟩
    .exact absurd o f
    .exact absurd p l
    .exact absurd t.1 n.1
    .exact absurd H.2.1 (z I H.1)
    .rw[F.uniq z,H.uniq C];exact⟨rfl,rfl,rfl,rfl,rfl⟩
theorem DS{B c e d:Nat}{g h:Int}{ms:List Hm}{nx:Nat}{w:World}(t:nu B w c e d ms nx)(hd:pq ms)(J:nx<1000000):Calls Tryz.prog 178 #[.pointer (some ⟨c,0,none⟩),.int .i64 g,.int .i64 h] w λq p=>∃k l i j,q=.returned (.tuple #[.int .i64 k,.int .i64 l])/\qA ms nx g h k l i j/\nu B p c e d i j/\j5 (tN e d) w p:=by
 obtain⟨u,v,s,-⟩:=t.1.cells;have b:=b_ t hd;clear t hd;go_in;go_wp2_with fail;go_fit (Ac b.f.2.1 J);rintro q n⟨k,l,i,j,rfl,hrel,A,m⟩;have M:c≠e:=b.f.1.ne b.f.2.1.ty;have r:Tw n c e d false:=b.f.1.J (m.1.block c b.f.1.lt (by simpa using M));have G:jf n d ms nx:=b.f.2.2.1.fr m (Ne.symm b.f.2.2.2.1);clear u v s;obtain⟨u,v,s,-⟩:=r.cells;have a:=iu A m r G hrel;clear A m r G hrel;go_wp2_with fail;go_fit (Ac a.m J);rintro q F⟨S,Q,T,R,rfl,x,D,o⟩;obtain⟨rfl,rfl,rfl,rfl⟩:=qA.uniq b.i a.x x;have K:c≠d:=a.j.ne a.m.ty;have H:Tw F c e d false:=a.j.J (o.1.block c a.j.lt (by simpa using K));have z:jf F e i j:=a.f.fr o b.f.2.2.2.1;have f:=hY D o H z;clear D o H z u v s x;go_wp2_with fail;go_fit (s7);rintro q p⟨rfl,rfl⟩;go_wp2;go_ret2;obtain⟨y,-,-,N,L,O,C,E⟩:=b.f;have I:Below B w n:=a.g.ni C (by have:=y.lt;omega);have P:Below B n p:=f.g.ni E (by have:=I.size;have:=y.lt;omega);exact⟨k,l,i,j,rfl,a.x,⟨f.j,f.o,f.f,N,(L.below I).below P,O,C,E⟩,(j5.p_ a.g (.inl rfl)).trans (j5.p_ f.g (.inr rfl))⟩
theorem yy{B c e d:Nat}{g h:Int}{ms:List Hm}{nx:Nat}{w:World}(u:nu B w c e d ms nx)(hd:pq ms)(K:nx<1000000):Calls Tryz.prog 175 #[.pointer (some ⟨c,0,none⟩),.int .i64 g,.int .i64 h] w λr q=>∃j f i l m,r=.returned (.tuple #[.bool j,.int .i64 f,.int .i64 i])/\sf ms nx g h j f i l m/\nu B q c e d l m/\j5 (tN e d) w q:=by
 obtain⟨v,x,t,-⟩:=u.1.cells;have b:=b_ u hd;clear u hd;go_in;go_wp2_with fail;go_fit (uL b.f.2.1 K);rintro r o⟨j,f,i,l,m,rfl,hrel,C,n⟩;have N:c≠e:=b.f.1.ne b.f.2.1.ty;have s:Tw o c e d false:=b.f.1.J (n.1.block c b.f.1.lt (by simpa using N));have H:jf o d ms nx:=b.f.2.2.1.fr n (Ne.symm b.f.2.2.2.1);clear v x t;obtain⟨v,x,t,-⟩:=s.cells;have a:=iu C n s H hrel;clear C n s H hrel;go_wp2_with fail;go_fit (uL a.m K);rintro r G⟨R,W,T,Y,V,rfl,y,E,p⟩;obtain⟨rfl,rfl,rfl,rfl,rfl⟩:=sf.uniq b.i a.x y;have L:c≠d:=a.j.ne a.m.ty;have I:Tw G c e d false:=a.j.J (p.1.block c a.j.lt (by simpa using L));have A:jf G e l m:=a.f.fr p b.f.2.2.2.1;have k:=hY E p I A;clear E p I A v x t y;have S:(j==j)=true:=by simp
 have U:(f==f)=true:=by simp
 have X:(i==i)=true:=by simp
 go_wp2_with fail;go_fit (ma);rintro r q⟨rfl,rfl⟩;go_wp2;go_ret3;obtain⟨z,-,-,O,M,P,D,F⟩:=b.f;have J:Below B w o:=a.g.ni D (by have:=z.lt;omega);have Q:Below B o q:=k.g.ni F (by have:=J.size;have:=z.lt;omega);exact⟨j,f,i,l,m,rfl,a.x,⟨k.j,k.o,k.f,O,(M.below J).below Q,P,D,F⟩,(j5.p_ a.g (.inl rfl)).trans (j5.p_ k.g (.inr rfl))⟩
theorem Au{B:Nat}{g h:Int}{ms:List Hm}{nx:Nat}{w:World}(l:nu B w i j k ms nx)(hd:pq ms):Calls Tryz.prog 176 #[.pointer (some ⟨i,0,none⟩),.int .i64 g,.int .i64 h] w λe r=>∃b a,e=.returned (.tuple #[.bool b,.int .i64 a])/\uC ms g h b a/\Below w.heap.size w r:=by
 obtain⟨m,o,f,-⟩:=l.1.cells;have c:=b_ l hd;clear l hd;go_in;go_wp2_with fail;go_fit (wN c.f.2.1);rintro e u⟨b,a,rfl,hrel,n⟩;have q:Tw u i j k false:=c.f.1.J (n.block i c.f.1.lt);clear m o f;obtain⟨m,o,f,-⟩:=q.cells;have d:=b_ n hrel;clear n q hrel;go_wp2_with fail;go_fit (wN (c.f.2.2.1.below d.f));rintro e z⟨v,y,rfl,p,s⟩;obtain⟨rfl,rfl⟩:=uC.uniq c.i d.i p;have t:=a_ s;clear s p m o f;have x:(b==b)=true:=by simp
 have A:(a==a)=true:=by simp
 go_wp2_with fail;go_fit (ma);rintro e r⟨rfl,rfl⟩;go_wp2;go_ret2;exact⟨b,a,rfl,d.i,d_ d.f t.e⟩
namespace R
theorem td{k n:Nat}(c:X∈ik k n)(h:∀e∈X,e<k):X=List.range k:=by
 have:X∈ik k k:=by
  cases k with
  |zero=>exact c
  |succ k=>
   obtain⟨f,a,b,d,i,g⟩:=sX c;have:a=k:=by have:=h a (by rw[b];simp);omega
   subst this;rw[b];exact pL d (by omega)
 rw[nv,rM]at this;exact this
def tr(X:Nat->Nat->Int):Nat->Nat->Int:=λa b=>X b a
theorem x_(X:Nat->Nat->Int){a C:List Nat}(g:a.length=C.length)(f:a.length<=4):mv (a.map (tr X)) C=mv (C.map X) a:=by
 match a,C,g,f with
 |[],[],_,_=>rfl
 |[b],[c],_,_=>simp[mv,jP,signed,tr]
 |[b,d],[c,e],_,_=>simp[mv,jP,signed,tr];grind
 |[b,d,i],[c,e,h],_,_=>simp[mv,jP,signed,tr];grind
 |[b,d,i,k],[c,e,h,j],_,_=>simp[mv,jP,signed,tr];grind
theorem qD{m n:Nat}{d:Int}{f:Nat->Nat->Int}{r:Nat}(l:m<=4)(h:∀C∈ik m n,yY d f r C){C:List Nat}(j:X.length=m)(e:∀a∈X,a<r)(i:C.length=m)(g:∀a∈C,a<n):d∣mv (X.map f) C:=by
 have:=@n1 d (tr f) X (by omega) m n [] (by simp[j]) (λb c=>by
  have k:=jI c;rw[rV,@x_ f b X (by omega) (by omega)];exact h b c X (by omega) e) C i g
 rw[rV,@x_ f C X (by omega) (by omega)]at this;exact this
theorem sa(f:Nat->Nat->Int)(r c m:Nat)(a:m<=4):iU (tr f) c r m=iU f r c m:=by
 have b:∀(f:Nat->Nat->Int) (r c:Nat),iU f r c m∣iU (tr f) c r m:=λf r c=>by
  rw[la _ (tr f) c r m a];intro j g i h e;have d:=jI g;rw[x_ f h (by omega)];exact qD a ((la _ f r c m a).1 (uk _)) d.1 d.2 (by omega) e
 exact Nat.dvd_antisymm (b (tr f) c r) (b f r c)
def pr(X:Nat->Nat->Int)(o:Nat):Nat->Int
 |0=>1
 |a+1=>X o o*pr X (o+1) a
theorem sO(X:Nat->Nat->Int):∀a b,pr X b (a+1)=pr X b a*X (b+a) (b+a):=by
 intro a;induction a with
 |zero=>intro b;simp[pr]
 |succ a c=>
  intro b;rw[pr,c (b+1),pr,show b+1+a=b+(a+1)from by omega,Int.mul_assoc]
theorem uE(X:Nat->Nat->Int):∀a b,pr (tr X) b a=pr X b a:=by
 intro a;induction a with
 |zero=>intro b;rfl
 |succ a c=>intro b;rw[pr,pr,c];rfl
theorem EN{X:Nat->Nat->Int}:∀b a,(∀c d,d<c->c<a+b->X c d=0)->mv ((List.range' a b).map X) (List.range' a b)=pr X a b:=by
 intro b;induction b with
 |zero=>intro a _;simp[mv,pr]
 |succ b l=>
  intro a f;rw[zC,nr,mv,j3,z_ _ _ (λe o h=>?_)]
  .have j:signed 0 (X a ((a::List.range' (a+1) b).getD 0 0)*mv ((List.range' (a+1) b).map X) ((a::List.range' (a+1) b).eraseIdx 0))=X a a*mv ((List.range' (a+1) b).map X) (List.range' (a+1) b):=by simp[signed]
   rw[j,l (a+1) (λc d i p=>f c d i (by omega)),pr]
  .have n:mv ((List.range' (a+1) b).map X) ((a::List.range' (a+1) b).eraseIdx e)=0:=by
    refine qJ a _ _ (λr k=>?_) ?_ ?_
    .obtain⟨m,g,rfl⟩:=kt.1 k;have q:=x6.1 g;exact f m a (by omega) (by omega)
    .match e,o with
     |e+1,_=>simp
    .rw[uv,if_pos (by simpa using h)];simp
   rw[n];unfold signed;split<;>simp
theorem KA{X:Nat->Nat->Int}:∀c b,pr X b c≠0->∀a,b<=a->a<b+c->X a a≠0:=by
 intro c;induction c with
 |zero=>intro b _ a g h;omega
 |succ c f=>
  intro b d a g h;rw[pr]at d;by_cases i:a=b
  .subst i;intro e;rw[e]at d;simp at d
  .exact f (b+1) (λe=>d (by rw[e];simp)) a (by omega) (by omega)
theorem lF{X:Nat->Nat->Int}:∀c a,(∀b,a<=b->b<a+c->0<X b b)->0<pr X a c:=by
 intro c;induction c with
 |zero=>intro a _;simp[pr]
 |succ c e=>intro a d;rw[pr];exact Int.mul_pos (d a (by omega) (by omega)) (e (a+1) (λb f g=>d b (by omega) (by omega)))
theorem iJ.low{r c k:Nat}{pc:Nat->Nat}(h:iJ r c k pc A):∀b d,d<b->b<r->d<c->A b d=0:=by
 intro b d i f m;rcases iX b k with e|e
 .have g:∀a,a<k->a<=pc a:=by
   intro a;induction a with
   |zero=>intro _;omega
   |succ a j=>intro l;have i:=j (by omega);have f:=h.up a (a+1) (by omega) l;omega
  exact h.left b e d (by have:=g b e;omega)
 .exact h.rest b e f d m
theorem JC{X:Nat->Nat->Int}{r m:Nat}(t:m<=4)(y:m<=r)(k:∀c b,b<c->c<r->b<m->X c b=0):yY (pr X 0 m) X r (List.range m):=by
 intro u s p;have:=@n1 (pr X 0 m) X (List.range m) (by simpa using t) m r [] (by simp) (λh i=>by
  rw[rV];obtain⟨z,v⟩:=jI i;by_cases l:∀a∈h,a<m
  .have:=td i l;rw[this,rO,EN m 0 (λc b w x=>k c b w (by omega) (by omega))];exact Int.dvd_refl _
  .have o:∃a,a∈h/\m<=a:=qe (λq=>l (λa d=>Nat.lt_of_not_le (λj=>q ⟨a,d,j⟩)));obtain⟨a,d,j⟩:=o;obtain⟨g,f,e⟩:=wU d;have A:g.length+f.length+1=m:=by have:=kX List.length e;simp at this;omega
   rw[e,kT,nr,qX (X a) (f.map X) (g.map X) (List.range m) (λb n=>k a b (by have:=jB.1 n;omega) (v a d) (jB.1 n)) (by simp;omega)];exact uo _) u (by simpa using s) p
 simpa using this
theorem xq{r c k:Nat}{pc:Nat->Nat}{D U W:Nat->Nat->Int}(h:iJ r c i pc A)(v:jw D A U W r c)(V:k<=c)(J:k<=4)(I:∀b d,b<r->k<=d->d<c->D b d=0)(t:∀g,g<=k->∃e:List Nat,e.length=g/\(∀m∈e,m<r)/\mv (e.map D) (List.range g)≠0):i=k/\(∀a,a<k->pc a=a)/\(∀b d,b<r->k<=d->d<c->A b d=0)/\∀g,g<=k->∀e:List Nat,e.length=g->(∀m∈e,m<r)->pr A 0 g∣mv (e.map D) (List.range g):=by
 have z:∀b d,b<r->k<=d->d<c->A b d=0:=λb d o f j=>by
  rw[<-v.ua b d o j,iD];exact nH r (λF N=>by rw[I F d N f j,uH])
 have S:=h.le;have M:∀a,a<i->pc a<k:=λa l=>by
  rcases iX (pc a) k with f|f
  .exact f
  .have j:=h.zr a l;rw[z a (pc a) (by omega) f (h.lY a l)]at j;omega
 have w:∀a,a<i->a<=pc a:=by
  intro a;induction a with
  |zero=>intro _;omega
  |succ a O=>intro l;have f:=O (by omega);have j:=h.up a (a+1) (by omega) l;omega
 have T:i<=k:=by
  rcases kl i with q|q
  .omega
  .have f:=M (i-1) (by omega);have j:=w (i-1) (by omega);omega
 have x:∀g,g<=k->g<=r->∀e:List Nat,e.length=g->(∀m∈e,m<r)->pr A 0 g∣mv (e.map D) (List.range g):=λg u E e G B=>by
  have f:=JC (X:=A) (by omega) E (λb d P a Q=>iJ.low h b d P a (by omega));have j:=k_ f (λb o=>oR (c:=c) (λm K=>by have:=jB.1 K;omega) (λd L=>v.wh b d o L));exact j e (by simpa using G) B
 have H:k<=r:=by
  obtain⟨e,f,j,p⟩:=t k c_;rcases iX r k with n|n
  .exfalso;have:(0:Int)∣mv (e.map D) (List.range k):=by
    have:=@n1 0 D (List.range k) (by simpa using J) k r [] (by simp) (λR s=>by rw[sP n]at s;simp at s) e f j;simpa using this
   exact p (uK.1 this)
  .exact n
 have y:∀b,b<k->A b b≠0:=λb o=>by
  obtain⟨e,f,j,p⟩:=t k c_;have n:=x k c_ H e f j;exact KA k 0 (λq=>p (by rw[q]at n;exact uK.1 n)) b (by omega) (by omega)
 have C:i=k:=by
  rcases iX i k with f|f
  .exact absurd (h.rest i c_ (by omega) i (by omega)) (y i f)
  .omega
 subst C;refine⟨rfl,λa l=>?_,z,λg u=>x g u (by omega)⟩;have f:=w a l;rcases iX a (pc a)with j|j
 .exact absurd (h.left a l a j) (y a l)
 .omega
structure lz (r c k:Nat) (D:Nat->Nat->Int):Prop where
 kr:k<=r
 kc:k<=c
 up:∀i j,i<r->j<c->i<j->D i j=0
 out:∀i j,i<r->j<c->(k<=i\/k<=j)->D i j=0
 pos:∀i,i<k->0<D i i
theorem rp{r c k m:Nat}{D:Nat->Nat->Int}(h:lz r c k D)(j:m<=k)(i:k<=4):mv ((List.range m).map D) (List.range m)=pr D 0 m:=by
 have a:=@x_ (tr D) (List.range m) (List.range m) rfl (by simp;omega);have d:tr (tr D)=D:=rfl;rw[d]at a;have l:=h.kr;have n:=h.kc;rw[a,rO,EN (X:=tr D) m 0 (λf b e g=>h.up b f (by omega) (by omega) e),uE]
theorem lz.lF{r c k m:Nat}{D:Nat->Nat->Int}(h:lz r c k D)(b:m<=k):0<pr D 0 m:=R.lF m 0 (λa _ d=>h.pos a (by omega))
structure xR (r c k:Nat) (D H:Nat->Nat->Int):Prop where
 low:lz c r k (tr H)
 red:∀i b,i<b->b<k->0<=H i b/\H i b<H b b
 dvd:∀m,m<=k->pr H 0 m∣pr D 0 m
theorem AE{r c k:Nat}{pc:Nat->Nat}(h:iJ r c k pc A)(o:∀a d,a<r->k<=d->d<c->A a d=0)(i:∀b,b<k->pc b=b)(m:k<=c):lz c r k (tr A)/\∀a b,a<b->b<k->0<=A a b/\A a b<A b b:=by
 refine⟨⟨m,h.le,λa d e g n=>iJ.low h d a n g e,λa d e g f=>?_,λa e=>?_⟩,λa b l j=>?_⟩
 .rcases f with f|f
  .exact o d a g f e
  .exact h.rest d f g a e
 .have:=h.zr a e;rw[i a e]at this;exact this
 .have:=h.qp b j a l;rw[i b j]at this;exact this
theorem tG{r c k:Nat}{pc:Nat->Nat}{D U W:Nat->Nat->Int}(a:lz r c k D)(g:k<=4)(h:iJ r c i pc A)(v:jw D A U W r c):i=k/\(∀e,e<k->pc e=e)/\xR r c k D A:=by
 have x:=a.kr;obtain⟨rfl,j,n,o⟩:=xq h v a.kc g (λp s t q u=>a.out p s t u (.inr q)) (λd b=>⟨List.range d,by simp,λw f=>by have:=jB.1 f;omega,by
  rw[rp a b g];have:=a.lF b;omega⟩)
 obtain⟨m,l⟩:=AE h n j a.kc;refine⟨rfl,j,m,l,λd b=>?_⟩;have:=o d b (List.range d) (by simp) (λw f=>by have:=jB.1 f;omega);rw[rp a b g]at this;exact this
theorem Cz{r c k:Nat}{pc:Nat->Nat}{E U W:Nat->Nat->Int}(h:iJ r c k pc A)(y:k<=4)(f:iJ c r i o E)(x:jw (tr A) E U W c r):i=k/\(∀a,a<k->o a=a)/\lz r c k (tr E)/\∀d a,d<a->a<k->0<=E d a/\E d a<E a a:=by
 have D:=h.le;have j:JT A r c k pc:=⟨h.le,h.lY,h.up,λa b=>by have:=h.zr a b;omega,λz a b q B=>h.below a b z q B,h.rest⟩;obtain⟨rfl,g,p,C⟩:=xq f x h.le y (λd t u s v=>h.rest t s v d u) (λe F=>⟨(List.range e).map pc,by simp,λG w=>by
  obtain⟨a,b,rfl⟩:=kt.1 w;exact h.lY a (by have:=jB.1 b;omega),by
  have:=lX j e 0 (by omega);rw[<-rO]at this;have m:=@x_ A ((List.range e).map pc) (List.range e) (by simp) (by simp;omega);rw[m];exact this⟩)
 obtain⟨n,l⟩:=AE f p g h.le;exact⟨rfl,g,n,l⟩
theorem G4{D:Nat->Nat->Int}{k:Nat}(c:∀b,b<=k->pr A 0 b=pr D 0 b)(e:∀b,b<=k->0<pr A 0 b):∀a,a<k->A a a=D a a:=λa f=>by
 have d:=c (a+1) f;rw[sO,sO,c a (by omega),jF]at d;have:=e a (by omega);rw[c a (by omega)]at this;exact Int.eq_of_mul_eq_mul_left (by omega) d
theorem xE{r c k:Nat}{pc:Nat->Nat}{D U W:Nat->Nat->Int}(v:lz r c k D)(h:iJ r c k pc A)(Q:jw D A U W r c)(L:∀e,e<k->pc e=e)(G:xR r c k D A)(T:∀i,i<=k->pr A 0 i=pr D 0 i):(∀b a,b<r->a<c->b≠a->A b a=0)/\(∀b a,b<k->a<k->D a a∣D b a):=by
 have ab:=v.kr;have ac:=v.kc;have O:=G.low;have E:=G4 T (λi F=>by have:=O.lF F;rw[uE]at this;exact this);obtain⟨B,-⟩:=nJ h Q;have M:∀i,i<=k->∀b a,b<i->a<c->b≠a->A b a=0:=by
  intro i;induction i with
  |zero=>intro _ b a q;omega
  |succ i X=>
   intro F b a q f p;have o:=X (by omega);by_cases S:b=i
   .subst S;obtain⟨j,s⟩:=B b (by omega);have J:Sp A k c (λa=>if a=b then D b b else 0):=by
     refine⟨λd=>if d<b then 0 else j d,λa f=>?_⟩;have I:sm (λd=>(if d<b then 0 else j d)*A d a) k=D b a-sm (λd=>if d<b then j d*A d a else 0) k:=by
      rw[s a f,yH];exact iq k (λd t=>by split<;>grind)
     have N:sm (λd=>if d<b then j d*A d a else 0) k=if a<b then j a*A a a else 0:=by
      split
      .rename_i n;rw[ml k a (by omega) (λd t l=>by
        split
        .rename_i m;rw[o d a m f l,uH]
        .rfl),if_pos n]
      .rename_i n;exact nH k (λd t=>by
        split
        .rename_i m;rw[o d a m f (by omega),uH]
        .rfl)
     show(if a=b then D b b else 0)=_;rw[I,N];by_cases n:a<b
     .rw[if_pos n,if_neg (by omega)];have Z:D b a=j a*A a a:=by
       rw[s a f];refine ml k a (by omega) (λd t l=>?_);rcases iX d b with m|m
       .rw[o d a m f l,uH]
       .rw[iJ.low h d a (by omega) (by omega) f,uH]
      omega
     .rw[if_neg n];by_cases C:a=b
      .subst C;rw[if_pos rfl];omega
      .rw[if_neg C,v.up b a (by omega) f (by omega)];omega
    have P:=J.sub (Sp.row A c (show b<k by omega));rcases h.lead P with V|⟨e,z,R,u,w⟩
    .have:=V a f;rw[if_neg (λH=>p H.symm)]at this;omega
    .exfalso;rw[L e z]at R u w;have K:b<e:=by
      rcases mY e b with g|g|g
      .exfalso;apply u;rw[if_neg (by omega),iJ.low h b e g (by omega) (by omega)];rfl
      .exfalso;apply u;subst g;rw[if_pos rfl,E e (by omega)];omega
      .exact g
     rw[if_neg (by omega)]at u w;obtain⟨Y,aa⟩:=G.red b e K z;have g:A e e∣A b e:=by
      have x:=Int.dvd_neg.2 w;rw[show-(0-A b e)=A b e from by omega]at x;exact x
     have ad:=Int.le_of_dvd (by omega) g;omega
   .exact o b a (by omega) f p
 have y:∀b a,b<r->a<c->b≠a->A b a=0:=λb a q f p=>by
  rcases iX b k with g|g
  .exact M k c_ b a g f p
  .exact h.rest b g q a f
 refine⟨y,λb a q f=>?_⟩;obtain⟨j,s⟩:=B b (by omega);rw[<-E a f,s a (by omega)];refine Gr k (λd t=>?_);by_cases l:d=a
 .rw[l];exact AV _ _
 .rw[y d a (by omega) (by omega) l,uH];exact uo _
theorem yK{r c k:Nat}{D:Nat->Nat->Int}(h:lz r c k D)(f:k<=4):iU D r c k=(pr D 0 k).natAbs:=by
 have P:=h.kc;have O:=h.kr;have E:List.range k∈ik k c:=by
  have:=wE (pc:=id) (p:=k) (λR u z _=>z) k c c_ (λu L=>by show u<c;omega);simpa using this
 refine Nat.dvd_antisymm ?_ ?_
 .have i:=(la _ D r c k f).1 (uk _) _ E (List.range k) rfl (λa b=>by have:=jB.1 b;omega);rw[rp h c_ f]at i;exact Df.1 i
 .rw[la _ D r c k f];intro m y x C q;obtain⟨Q,A⟩:=jI y;by_cases w:∀a∈m,a<k
  .have B:=td y w;subst B;have i:∀e∈ik k r,((pr D 0 k).natAbs:Int)∣mv (e.map D) (List.range k):=λe g=>by
    obtain⟨K,H⟩:=jI g;by_cases s:∀a∈e,a<k
    .have:=td g s;rw[this,rp h c_ f,Int.natAbs_dvd];exact Int.dvd_refl _
    .have j:∃a,a∈e/\k<=a:=qe (λl=>s (λa b=>Nat.lt_of_not_le (λd=>l ⟨a,b,d⟩)));obtain⟨a,b,d⟩:=j;obtain⟨t,o,n⟩:=wU b;have N:t.length+o.length+1=k:=by have:=kX List.length n;simp at this;omega
     rw[n,kT,nr,qX (D a) (o.map D) (t.map D) (List.range k) (λF J=>h.out a F (H a b) (by have:=jB.1 J;omega) (.inl d)) (by simp;omega)];exact uo _
   have:=@n1 _ D (List.range k) (by simpa using f) k r [] (by simp) (λe g=>by rw[rV];exact i e g) x (by simpa using C) q;simpa using this
  .have j:∃a,a∈m/\k<=a:=qe (λl=>w (λa b=>Nat.lt_of_not_le (λd=>l ⟨a,b,d⟩)));obtain⟨a,b,d⟩:=j;rw[qJ a (x.map D) m (λM G=>by
    obtain⟨v,I,rfl⟩:=kt.1 G;exact h.out v a (q v I) (A a b) (.inr d)) b (by simp;omega)]
   exact uo _
theorem xw{r c k:Nat}{pc:Nat->Nat}{D U W E:Nat->Nat->Int}(n:lz r c k D)(v:k<=4)(h:iJ r c i pc A)(u:jw D A U W r c)(t:iJ c r j o E)(q:jw (tr A) E B F c r):xR r c k D A/\xR c r k (tr A) E/\(∀a,a<=k->pr (tr E) 0 a∣pr D 0 a)/\((∀a,a<=k->pr (tr E) 0 a=pr D 0 a)->(∀e d,e<r->d<c->e≠d->tr E e d=0)/\∀e d,e<k->d<k->D d d∣D e d):=by
 obtain⟨rfl,I,f⟩:=tG n v h u;obtain⟨rfl,C,m⟩:=tG f.low v t q;refine⟨f,m,λa b=>?_,λw=>?_⟩
 .rw[uE];have g:=m.dvd a b;rw[uE]at g;exact Int.dvd_trans g (f.dvd a b)
 .have s:∀a,a<=j->pr A 0 a=pr D 0 a:=λa b=>by
   have g:=m.dvd a b;have x:=f.dvd a b;have l:=w a b;rw[uE]at g l;rw[l]at g;have H:=n.lF b;have p:=f.low.lF b;rw[uE]at p;have P:=Int.le_of_dvd p g;have N:=Int.le_of_dvd H x;omega
  have z:∀a,a<=j->pr E 0 a=pr (tr A) 0 a:=λa b=>by
   have l:=w a b;rw[uE]at l|-;rw[l,s a b]
  obtain⟨O,J⟩:=xE n h u I f s;obtain⟨G,-⟩:=xE f.low t q C m z;exact⟨λe d L M K=>G d e M L (λy=>K y.symm),J⟩
def mT(D:Nat->Nat->Int)(a:Nat):Nat->Nat->Int:=λb c=>if c=a then D b a+D b (a+1)else D b c
theorem pM{r c k a:Nat}{D:Nat->Nat->Int}(g:lz r c k D)(x:a+1<k)(hd:∀b d,b<r->d<c->b≠d->D b d=0)(o:¬D a a∣D (a+1) (a+1)):lz r c k (mT D a)/\(∀j,pr (mT D a) 0 j=pr D 0 j\/k<j)/\¬∀b d,b<k->d<k->mT D a d d∣mT D a b d:=by
 have s:=g.kr;have t:=g.kc;have m:∀b,b<k->mT D a b b=D b b:=λb e=>by
  unfold mT;split
  .rename_i f;subst f;rw[hd b (b+1) (by omega) (by omega) (by omega)];omega
  .rfl
 refine⟨⟨s,t,λb d e l u=>?_,λb d e l n=>?_,λb e=>by rw[m b e];exact g.pos b e⟩,λj=>?_,λq=>o ?_⟩
 .unfold mT;split
  .rename_i f;subst f;rw[hd b d e l (by omega),hd b (d+1) e (by omega) (by omega)];rfl
  .exact g.up b d e l u
 .unfold mT;split
  .rename_i f;subst f;rw[g.out b d e l n,g.out b (d+1) e (by omega) (.inl (by omega))];rfl
  .exact g.out b d e l n
 .by_cases y:j<=k
  .refine .inl ?_;have p:∀i h,h+i<=k->pr (mT D a) h i=pr D h i:=by
    intro i;induction i with
    |zero=>intro h _;rfl
    |succ i v=>intro h w;rw[pr,pr,v (h+1) (by omega),m h (by omega)]
   exact p j 0 (by omega)
  .exact .inr (by omega)
 .have:=q (a+1) a (by omega) (by omega);rw[m a (by omega)]at this;have f:mT D a (a+1) a=D (a+1) (a+1):=by
   unfold mT;rw[if_pos rfl,hd (a+1) a (by omega) (by omega) (by omega)];omega
  rw[f]at this;exact this
def nD(D:Nat->Nat->Int):Nat->Nat
 |0=>0
 |a+1=>nD D a+Nat.log2 (pr D 0 (a+1)).natAbs
theorem HJ{a b:Nat}(h:a∣b)(f:0<b):Nat.log2 a<=Nat.log2 b/\(a≠b->Nat.log2 a<Nat.log2 b):=by
 obtain⟨c,rfl⟩:=h;have k:0<a:=Nat.pos_of_mul_pos_right f;have i:0<c:=Nat.pos_of_mul_pos_left f;have e:2^Nat.log2 a<=a:=Nat.log2_self_le (by omega);refine⟨(Nat.le_log2 (by omega)).2 (iy e (Nat.le_mul_of_pos_right a i)),λj=>?_⟩;have g:2<=c:=by
  rcases iX c 2 with d|d
  .have:c=1:=by omega
   subst this;simp at j
  .exact d
 refine(Nat.le_log2 (by omega)).2 ?_;rw[jx];exact jR e g
theorem KF{D E:Nat->Nat->Int}{k:Nat}(h:∀a,a<=k->pr E 0 a∣pr D 0 a)(f:∀a,a<=k->0<pr D 0 a)(n:∀a,a<=k->0<pr E 0 a):∀a,a<=k->nD E a<=nD D a/\(nD E a=nD D a->∀b,b<=a->pr E 0 b=pr D 0 b):=by
 intro a;induction a with
 |zero=>intro _;exact⟨c_,λ_ b e=>by rw[show b=0 from by omega];rfl⟩
 |succ a j=>
  intro c;obtain⟨q,l⟩:=j (by omega);have i:=h (a+1) c;have r:=f (a+1) c;have s:=n (a+1) c;obtain⟨p,m⟩:=HJ (Dj.2 i) (by omega);rw[nD,nD];refine⟨by omega,λo b e=>?_⟩;by_cases g:b=a+1
  .subst g;rcases Decidable.em ((pr E 0 (a+1)).natAbs=(pr D 0 (a+1)).natAbs)with d|d
   .omega
   .have:=m d;omega
  .exact l (by omega) b (by omega)
theorem ES{D:Nat->Nat->Int}{k B:Nat}(h:∀a,a<=k->(pr D 0 a).natAbs<2^B)(c:∀a,a<=k->0<pr D 0 a):∀a,a<=k->nD D a<=a*B:=by
 intro a;induction a with
 |zero=>intro _;exact hR
 |succ a d=>
  intro b;have e:=d (by omega);have f:=(Nat.log2_lt (by have:=c (a+1) b;omega)).2 (h (a+1) b);rw[nD,rG];omega
theorem CG{X:Nat->Nat->Int}{k:Nat}(d:∀c,c<k->0<X c c):∀b a,a+b<=k->pr X 0 a<=pr X 0 (a+b):=by
 intro b;induction b with
 |zero=>intro a _;exact xz _
 |succ b e=>
  intro a h;have f:=e a (by omega);have g:0<pr X 0 (a+b):=lF (a+b) 0 (λc _ i=>d c (by omega));have j:=d (a+b) (by omega);rw[<-zz,sO,jF];have:pr X 0 (a+b)*1<=pr X 0 (a+b)*X (a+b) (a+b):=Gw (by omega) (by omega);omega
theorem GX{X:Nat->Nat->Int}{k i:Nat}(a:∀i,i<k->0<X i i)(d:i<k):X i i<=pr X 0 k:=by
 have c:=CG a (k-(i+1)) (i+1) (by omega);rw[show i+1+(k-(i+1))=k from by omega,sO,jF]at c;have f:0<pr X 0 i:=lF i 0 (λb _ e=>a b (by omega));have g:=a i d;have:1*X i i<=pr X 0 i*X i i:=sC (by omega) (by omega);omega
def mm(n:Nat)(X a:Nat->Nat->Int):Nat->Nat->Int:=λb c=>dot X a b c n
theorem CV(f:Nat->Int)(z:Int)(n:Nat):sm f n*z=sm (λb=>f b*z) n:=by
 induction n with
 |zero=>simp[sm]
 |succ n a=>rw[sm,sm,Int.add_mul,a]
theorem GC(f g:Nat->Int)(n:Nat):sm f n+sm g n=sm (λa=>f a+g a) n:=by
 induction n with
 |zero=>rfl
 |succ n b=>rw[sm,sm,sm,<-b];omega
theorem Hr(f:Nat->Nat->Int)(m:Nat):∀a,sm (λc=>sm (λb=>f c b) m) a=sm (λb=>sm (λc=>f c b) a) m:=by
 intro a;induction a with
 |zero=>simp only[sm];rw[nH m (λ_ _=>rfl)]
 |succ a d=>
  rw[sm,d,GC];exact iq m (λb _=>by rw[sm])
theorem mP(m n:Nat)(X b c:Nat->Nat->Int):mm m (mm n X b) c=mm n X (mm m b c):=by
 funext i j;show dot (mm n X b) c i j m=dot X (mm m b c) i j n;rw[iD,iD];have e:sm (λa=>mm n X b i a*c a j) m=sm (λa=>sm (λd=>X i d*b d a*c a j) n) m:=iq m (λa _=>by
  show dot X b i a n*c a j=_;rw[iD,CV])
 rw[e,Hr];refine iq n (λd _=>?_);show _=X i d*dot b c d j m;rw[iD,wa,CV];exact iq m (λa _=>by grind)
theorem Ix(n:Nat)(X a:Nat->Nat->Int):tr (mm n X a)=mm n (tr a) (tr X):=by
 funext i j;show dot X a j i n=dot (tr a) (tr X) i j n;rw[iD,iD];exact iq n (λb _=>wa _ _)
theorem ln{n:Nat}{X X':Nat->Nat->Int}{i j:Nat}(b:∀a,a<n->X i a=X' i a)(c:∀a,a<n->A a j=B a j):mm n X A i j=mm n X' B i j:=k8 n b c
theorem w_{n:Nat}{X:Nat->Nat->Int}{i j:Nat}(c:i<n):mm n kd X i j=X i j:=by
 show dot kd X i j n=X i j;rw[iD,ml n i c (λd _ a=>by unfold kd;rw[if_neg (λb=>a b.symm)];simp)];unfold kd;rw[if_pos rfl];simp
theorem HY{n:Nat}{X:Nat->Nat->Int}{i j:Nat}(b:j<n):mm n X kd i j=X i j:=by
 show dot X kd i j n=X i j;rw[iD,ml n j b (λc _ a=>by unfold kd;rw[if_neg a];simp)];unfold kd;rw[if_pos rfl];simp
structure mi (A D U S V T:Nat->Nat->Int) (r c:Nat):Prop where
 d:∀i j,i<r->j<c->mm c (mm r U A) V i j=D i j
 us:∀i j,i<r->j<r->mm r U S i j=kd i j
 vt:∀i j,i<c->j<c->mm c V T i j=kd i j
theorem mi.start(A:Nat->Nat->Int)(r c:Nat):mi A A kd kd kd kd r c:=
 ⟨λb d a e=>by rw[HY e,w_ a],λb d a _=>w_ a,λb d a _=>w_ a⟩
theorem mi.rows{A D U S k j:Nat->Nat->Int}{r c:Nat}(h:mi A D U S B F r c)(i:jw D G k j r c):mi A G (mm r k U) (mm r S j) B F r c:=by
 refine⟨λg b f d=>?_,λg b f d=>?_,h.vt⟩
 .rw[mP r r,mP c r,<-i.ua g b f d];exact ln (λ_ _=>rfl) (λe a=>h.d e b a d)
 .rw[mP r r,<-i.uw g b f d];refine ln (λ_ _=>rfl) (λe a=>?_);rw[<-mP r r];exact(ln (λm l=>h.us e m a l) (λ_ _=>rfl)).trans (w_ a)
theorem mi.D2{A D U S E e:Nat->Nat->Int}{r c:Nat}(h:mi A D U S B F r c)(l:jw (tr D) E G e c r):mi A (tr E) U S (mm c B (tr G)) (mm c (tr e) F) r c:=by
 refine⟨λd b i k=>?_,h.us,λd b i k=>?_⟩
 .rw[<-mP c c];have j:mm c (mm c (mm r U A) B) (tr G) d b=mm c D (tr G) d b:=ln (λa g=>h.d d a i g) (λ_ _=>rfl);rw[j];show mm c D (tr G) d b=E b d;rw[<-l.ua b d k i];have:=congrFun (congrFun (Ix c G (tr D)) d) b;exact this.symm
 .rw[mP c c,<-mP c c (tr G)];have j:∀a,a<c->mm c (mm c (tr G) (tr e)) F a b=F a b:=λa g=>by
   rw[<-Ix];refine(ln (X':=kd) (λf m=>?_) (λ_ _=>rfl)).trans (w_ g);have:=l.wu f a m g;show mm c e G f a=kd a f;rw[show mm c e G f a=dot e G f a c from rfl,this];unfold kd;by_cases h:f=a
   .rw[if_pos h,if_pos h.symm]
   .rw[if_neg h,if_neg (λn=>h n.symm)]
  exact(ln (λ_ _=>rfl) j).trans (h.vt d b i k)
def GI(c:Nat->Nat->Int)(a:Nat):Nat->Nat->Int:=λd b=>if d=a+1 then c (a+1) b-c a b else c d b
theorem Ha(n a:Nat)(X b:Nat->Nat->Int):mm n X (mT b a)=mT (mm n X b) a:=by
 funext i j;unfold mT;show dot X (λi j=>if j=a then b i a+b i (a+1)else b i j) i j n=if j=a then dot X b i a n+dot X b i (a+1) n else dot X b i j n
 by_cases c:j=a
 .rw[if_pos c,iD,iD,iD,GC];exact iq n (λd _=>by rw[if_pos c];grind)
 .rw[if_neg c,iD,iD];exact iq n (λd _=>by rw[if_neg c])
theorem Fs{n a:Nat}(d c:Nat->Nat->Int)(e:a+1<n)(i j:Nat):mm n (mT d a) (GI c a) i j=mm n d c i j:=by
 show dot (mT d a) (GI c a) i j n=dot d c i j n;rw[iD,iD];refine zh (a:=a) (b:=a+1) (by omega) e (by omega) (λh k f g=>?_) ?_
 .unfold mT GI;rw[if_neg f,if_neg g]
 .unfold mT GI;rw[if_pos rfl,if_neg (show¬a=a+1 by omega),if_neg (show¬a+1=a by omega),if_pos rfl];grind
theorem mi.mix{A D U S:Nat->Nat->Int}{r c a:Nat}(h:mi A D U S B F r c)(i:a+1<c):mi A (mT D a) U S (mT B a) (GI F a) r c:=by
 refine⟨λd f b g=>?_,h.us,λd f b g=>by rw[Fs B F i];exact h.vt d f b g⟩;rw[Ha];unfold mT;by_cases e:f=a
 .rw[if_pos e,if_pos e,h.d d a b (by omega),h.d d (a+1) b i]
 .rw[if_neg e,if_neg e,h.d d f b g]
theorem s5{A U W:Nat->Nat->Int}{r c m:Nat}(h:jw A B U W r c)(f:m<=4):iU B r c m=iU A r c m:=
 oa (λa d=>⟨U a,λb e=>by rw[<-h.ua a b d e,iD]⟩) (λa d=>⟨W a,λb e=>by rw[<-h.wh a b d e,iD]⟩) f
end R
section
open R
theorem R.ug{A U W N:Nat->Nat->Int}{r n c k:Nat}{pc:Nat->Nat}(h:iJ r c k pc B)(f:jw A B U W r c)(g:c<=4)(b:iF A r c k):(∃a,iF A r c a/\iF (ov r A N) (r+n) c a/\iU (ov r A N) (r+n) c a=iU A r c a)↔∀i,i<n->Sp A r c (N i):=by
 constructor
 .rintro⟨a,d,e,l⟩;obtain rfl:=kf b d;exact(xY h f g b).2 ⟨e,l⟩
 .intro j;obtain⟨d,e⟩:=(xY h f g b).1 j;exact⟨k,b,d,e⟩
theorem na.say{A N:Nat->Nat->Int}{r n c:Nat}(h:na A r c)(g:r<=4)(b:c<=4):(∃a,iF A r c a/\iF (ov r A N) (r+n) c a/\iU (ov r A N) (r+n) c a=iU A r c a)↔∀f,f<n->Sp A r c (N f):=by
 obtain⟨i,j,m,l,k,d,e⟩:=h;exact ug d e b (ot d e g b)
theorem Jj(f:Nat->Int)(m:Nat):∀a,m<=a->(∀b,m<=b->b<a->f b=0)->sm f a=sm f m:=by
 intro a;induction a with
 |zero=>intro d _;rw[show m=0 by omega]
 |succ a e=>
  intro d c;by_cases h:m=a+1
  .rw[h]
  .rw[sm,e (by omega) (λb g i=>c b g (by omega)),c a (by omega) (by omega)];omega
theorem Gd(a:Nat->Nat->Int)(pc:Nat->Nat)(v:Nat->Int){r k t:Nat}(b:t<r):(Aj a pc v r k).getD t 0=if t<k then GR a pc v t else 0:=by
 unfold Aj;rw[List.getD,wg,vG b];rfl
theorem uF.back{r c:Nat}{zs vs xs:List Int}(h:uF r c zs vs xs)(q:Sp (e_ c zs) r c (e_ c vs 0)):∀i b,i<1->b<c->dot (fz r xs) (fz c zs) i b r=fz c vs i b:=by
 obtain⟨g,l,f,m,v,j,rfl⟩:=h;intro i b w n;obtain rfl:i=0:=by omega
 obtain⟨e,k⟩:=hQ (Aj (e_ c f) l (e_ c vs 0) r g);have o:dot (fz r (kL 1 r r (Aj (e_ c f) l (e_ c vs 0) r g) m)) (fz c zs) 0 b r=mm r (mm r (fz r e) (fz r m)) (fz c zs) 0 b:=by
  refine k8 r (λa d=>?_) (λa d=>rfl);rw[<-k];exact s6 (by omega) d
 rw[o,mP];have u:mm r (fz r e) (mm r (fz r m) (fz c zs)) 0 b=dot (fz r e) (e_ c f) 0 b r:=k8 r (λa d=>rfl) (λa d=>j.inv.ua a b d n);rw[u,iD];have t:=j.st.le;have s:sm (λa=>fz r e 0 a*e_ c f a b) r=sm (λa=>GR (e_ c f) l (e_ c vs 0) a*e_ c f a b) g:=by
  rw[Jj _ g r t (λa x p=>by
   show e.getD (0*r+a) 0*_=0;rw[pS,jF,k,Gd _ _ _ p,if_neg (by omega)];simp)]
  refine iq g (λa d=>?_);show e.getD (0*r+a) 0*_=_;rw[pS,jF,k,Gd _ _ _ (by omega),if_pos d]
 rw[s];exact(CR ((mem_iff j.st j.inv).2 q) b n).symm
theorem oL.say{r r' c k:Nat}{zs ys:List Int}(h:oL (r+r') c (zs++ys) k e)(y:zs.length=r*c)(n:c<=4):k<=c/\(∃o,Jh (fz c e) k c k o)/\iF (ov r (fz c zs) (fz c ys)) (r+r') c k/\(∃i,iF (fz c e) k c i/\iF (ov k (fz c e) (ov r (fz c zs) (fz c ys))) (k+(r+r')) c i/\iU (ov k (fz c e) (ov r (fz c zs) (fz c ys))) (k+(r+r')) c i=iU (fz c e) k c i)/\(∃i,iF (ov r (fz c zs) (fz c ys)) (r+r') c i/\iF (ov (r+r') (ov r (fz c zs) (fz c ys)) (fz c e)) (r+r'+k) c i/\iU (ov (r+r') (ov r (fz c zs) (fz c ys)) (fz c e)) (r+r'+k) c i=iU (ov r (fz c zs) (fz c ys)) (r+r') c i):=by
 obtain⟨b,o,w,G,D,f,C,p⟩:=h;have J:=f.le;have x:=f.te;have u:jw (ov r (fz c zs) (fz c ys)) (e_ c w) (e_ (r+r') G) (e_ (r+r') D) (r+r') c:=C.congr (λa g j l=>by
  unfold ov;by_cases h:a<r
  .rw[if_pos h];exact(Dd ys y h l).symm
  .rw[if_neg h,show a=r+(a-r) by omega,Ds ys y,w4];rfl) (λ_ _ _ _=>rfl) (λ_ _ _ _=>rfl) (λ_ _ _ _=>rfl)
 have q:iJ k c k o (fz c e):=by
  have m:∀a g,a<k->g<c->fz c e a g=e_ c w a g:=p;refine⟨c_,x,f.lY,f.up,λd b=>?_,λd b g l=>?_,λd b a j s=>?_,λd b a j=>?_,λa j s=>by omega⟩
  .rw[m d _ b (f.lY d b)];exact f.zr d b
  .rw[m d g b (by have:=f.lY d b;omega)];exact f.left d b g l
  .rw[m a _ s (f.lY d b)];exact f.below d b a j (by omega)
  .rw[m a _ (by omega) (f.lY d b),m d _ b (f.lY d b)];exact f.qp d b a j
 have A:=jw.start (fz c e) k c;have z:iF (fz c e) k c k:=ot q A (by omega) n;obtain⟨E,F⟩:=nJ f u;have v:∀a,a<k->Sp (ov r (fz c zs) (fz c ys)) (r+r') c (fz c e a):=λa j=>by
  obtain⟨I,H⟩:=F a (by omega);exact⟨I,λg l=>(p a g j l).trans (H g l)⟩
 have B:∀a,a<r+r'->Sp (fz c e) k c (ov r (fz c zs) (fz c ys) a):=λa j=>(E a j).like (λd g b l=>(p d g b l).symm);have t:iF (ov r (fz c zs) (fz c ys)) (r+r') c k:=q_ v B n z;exact⟨x,⟨o,q.Ka⟩,t,(ug q A n z).2 B,(ug f u n t).2 v⟩
theorem jf.bits{w:World}{b:Nat}{ms:List Hm}{nx:Nat}(h:jf w b ms nx){k hd r c:Nat}{zs:List Int}(q:k<24)(t:ms.getD k none=some (hd,r,c,zs)){m:Nat}(C:400000000<=m):∀d,d<r*c->(zs.getD d 0).natAbs<2^(16*m):=by
 obtain⟨-,-,p,-,x⟩:=h;have a:=x k q;rw[t]at a
 cases hs:p.getD k none with
 |none=>rw[hs]at a;exact a.elim
 |some D=>
  rw[hs]at a;obtain⟨-,-,-,F,A,z,-,E,y,-,s⟩:=a;intro d u;obtain⟨G,b,-,-,B,l,-,o,n,f,-⟩:=s d u;have g:=j8 o.1;rw[n]at g;refine l_ g ?_;obtain⟨e,i⟩:=hQ 200000000;rw[<-i]at f;have v:(4294967296:Nat)^l.length<=4294967296^e:=jb (by decide) f;refine iy v ?_;have j:(4294967296:Nat)^e=2^(32*e):=by rw[qb]
  rw[j];exact jb (by decide) (by omega)
theorem jf.fine{w:World}{b:Nat}{ms:List Hm}{nx:Nat}(h:jf w b ms nx){k hd r c:Nat}{zs:List Int}(d:k<24)(a:ms.getD k none=some (hd,r,c,zs))(e:r<=4)(f:c<=4):mK r c zs:=by
 obtain⟨g,j⟩:=hQ 399999999;have i:=h.bits d a (m:=g+1) (by omega);exact ks e f (tK h d a).2.2 i (by omega)
variable{E:List o4}
theorem mJ.find{w:World}{i:Nat->Prop}(d:mJ w E i){e:o4}(g:e∈E){r c:Nat}{zs:List Int}(h:e.2.1=lk r c zs)(f:mK r c zs):∃a b,kH w a b e.2.2 r c (fz c zs):=by
 obtain⟨o,n,m,a,b,j,k,l,-⟩:=d e g;obtain⟨rfl,rfl,rfl⟩:=yA k f (by rw[<-j,h]);exact⟨a,b,l⟩
def xA(f g:Nat->Nat->Int)(r n c:Nat):Prop:=∃a,iF f r c a/\iF (ov r f g) (r+n) c a/\iU (ov r f g) (r+n) c a=iU f r c a
theorem AA{b b' r q c:Nat}{v z:Nat->Nat}{f a:Nat->Nat->Int}{B x L:Nat}{w:World}(h:jO B w b r c v f L)(k:jO x w b' q c z a L)(u:r+q<=12)(n:c<=4)(o:L<=1000000000):Calls Tryz.prog 177 #[.pointer (some ⟨b,0,none⟩),.pointer (some ⟨b',0,none⟩)] w λj y=>∃e:Bool,j=.returned (.bool e)/\(e=true↔xA f a r q c/\xA a f q r c)/\Below w.heap.size w y:=by
 have i:=b_ h k;clear h k;go_in;go_wp2_with fail;go_fit (o9 i.f i.i u n o);rintro j A⟨e,rfl,l,p⟩;have d:=b_ (show e=true↔xA f a r q c from l) p;clear l p;go_wp2_with fail;go_fit (o9 (i.i.hV (KR.I d.i)) (i.f.hV (KR.I d.i)) (by omega) n o);rintro j C⟨m,rfl,s,t⟩;have g:=b_ (show m=true↔xA a f q r c from s) (d_ d.i t);clear s t
 cases e
 .go_wp2;go_ret;exact⟨false,rfl,⟨λh=>(by cases h),λh=>(d.f.2 h.1)⟩,g.i⟩
 .go_wp2;go_ret;exact⟨m,rfl,⟨λh=>⟨d.f.1 (by trivial),g.f.1 h⟩,λh=>g.f.2 h.2⟩,g.i⟩
theorem A1{B W j m i n r c nx:Nat}{ms:List Hm}{o:List o4}{zs:List Int}{a:World}(an:nu B a j m i (ms.set n (some (nx,r,c,zs))) (nx+1))(L:xB B a W j m i nx o)(q:Rel o ms nx)(k:ke ms n)(y:mK r c zs)(ay:nx<1000000)(V:o.length<=24)(ae:B<=a.heap.size):Calls Tryz.prog 152 #[.pointer (some ⟨W,0,none⟩),.slice (some ⟨a.heap.size,0,none⟩) 1 1,.int .i64 1] (a.alloc (.cells #[.int .i64 (nx:Nat)] 3)) λG h=>∃p f t,G=.returned (.slice (some ⟨p,0,none⟩) 1 f)/\1<=f/\f<=9223372036854775807/\h.cell? ⟨p,0,none⟩=some (.pointer (some ⟨t,0,none⟩))/\(∃X P,jO X h t r c P (fz c zs) 40000000001)/\jL B h W j m i (ms.set n (some (nx,r,c,zs))) (nx+1) (o++[(nx,lk r c zs,t)])/\Below B a h:=by
 obtain⟨aw,ah,J,al,s,F,D,x,A,U,au,Q,T⟩:=L;obtain⟨l,g⟩:=hQ (a.alloc (.cells #[.int .i64 (nx:Nat)] 3));have d:Below a.heap.size a l:=by rw[g];exact hS
 have Y:l.heap.size=a.heap.size+1:=by rw[g];simp
 have ab:l.heap[a.heap.size]?=some (.cells #[.int .i64 (nx:Nat)] 3 (0,0)):=by rw[g];exact iP a _
 rw[<-g];clear g;have w:nu B l j m i (ms.set n (some (nx,r,c,zs))) (nx+1):=an.below d;have ag:(ms.set n (some (nx,r,c,zs))).getD n none=some (nx,r,c,zs):=by rw[lU (by rw[q.len];exact k.1),if_pos rfl]
 have H:=q.push k r c zs;have R:∀e,S4 W ah J al e->e<a.heap.size:=λe b=>by
  rcases b with b|b|b|b
  .rw[b];exact s.lt
  .exact(F.own e b).1
  .exact(D.own e b).1
  .exact(x.own e b).1
 have z:=s.J (d.block W s.lt);have C:=F.below d;have u:=D.below d;have v:=x.below d;go_fit (vI n w z C u v A (by omega) k.1 ag (H 0).dst y V ab (λN=>by have:=R _ N;omega));rintro G h⟨ar,rfl,M,aq,ax,az,p,f,rfl,af,ao,Z,O,ad,ak,ai,aj,E,aa⟩;obtain⟨S,av,-,K,-⟩:=id E;obtain⟨am,ap⟩:=K.qk;obtain⟨I,ac⟩:=we w z C u v A (U.below d) (Q.below d) T q k y (by rw[Y];omega) O ad ak ai aj E aa;exact⟨p,f,M,rfl,af,ao,Z,⟨S,am,ap⟩,I,(d.mono ae).trans ac⟩
def Jk(ms:List Hm)(nx:Nat)(r q:Nat)(zs ys:List Int)(y:Bool)(k e:Int)(b:List Hm)(a:Nat):Prop:=
 ((¬Sp (e_ q zs) r q (e_ q ys 0)/\na (e_ q zs) r q)/\y=false/\k=-1/\e=0/\b=ms/\a=nx)\/((Sp (e_ q zs) r q (e_ q ys 0)/\na (e_ q zs) r q)/\(∀d,d<24->ms.getD d none≠none)/\y=false/\k=-1/\e=5/\b=ms/\a=nx)\/((Sp (e_ q zs) r q (e_ q ys 0)/\na (e_ q zs) r q)/\y=true/\k=(nx:Int)/\e=0/\∃c f,uF r q zs ys f/\ke ms c/\b=ms.set c (some (nx,1,r,f))/\a=nx+1)
variable{E:List o4}
theorem A0{ms:List Hm}{nx:Nat}{g h k e:Int}{a b:Value}{y:Bool}(hd:pq ms)(v:rN (λ_ j H G=>H=1/\G=j) E ms g h a b c)(u:sf ms nx g h y k e M i):((c=2\/c=3\/c=4)/\e=c/\y=false/\k=-1/\M=ms/\i=nx)\/(c=0/\∃m o q n j p r l,m∈E/\o∈E/\q<24/\ms.getD q none=some (m.1,n,j,p)/\r<24/\ms.getD r none=some (o.1,1,j,l)/\hW n j p/\hW 1 j l/\a=.pointer (some ⟨m.2.2,0,none⟩)/\b=.pointer (some ⟨o.2.2,0,none⟩)/\Jk ms nx n j p l y k e M i):=by
 rcases u with⟨F,rfl,rfl,rfl,rfl,rfl⟩|⟨q,K,n,j,p,r,N,L,G,l,z,B,I,A,x,J,u⟩
 .exact .inl ⟨.inl (v.no F),(v.no F).symm,rfl,rfl,rfl,rfl⟩
 .obtain⟨m,o,D,C,rfl,rfl,v⟩:=v.yes hd z B I A x J;rcases v with⟨t,rfl⟩|⟨t,d,rfl⟩|⟨t,d,rfl,rfl,rfl⟩
  .rcases u with⟨-,rfl,rfl,rfl,rfl,rfl⟩|⟨f,-⟩|⟨f,-⟩|⟨f,-⟩|⟨f,-⟩
   .exact .inl ⟨.inr (.inl rfl),rfl,rfl,rfl,rfl,rfl⟩
   all_goals exact absurd f t
  .rcases u with⟨f,-⟩|⟨-,-,rfl,rfl,rfl,rfl,rfl⟩|⟨-,w,-⟩|⟨-,w,-⟩|⟨-,w,-⟩
   .exact absurd t f
   .exact .inl ⟨.inr (.inr rfl),rfl,rfl,rfl,rfl,rfl⟩
   all_goals exact absurd w d
  .rcases u with⟨f,-⟩|⟨-,w,-⟩|⟨⟨rfl,rfl⟩,-,s⟩|⟨⟨rfl,rfl⟩,-,s⟩|⟨⟨rfl,rfl⟩,-,s⟩
   .exact absurd t f
   .exact absurd d w
   .exact .inr ⟨rfl,m,o,q,n,_,p,r,l,D,C,z,B,A,x,d.1,d.2,rfl,rfl,.inl s⟩
   .exact .inr ⟨rfl,m,o,q,n,_,p,r,l,D,C,z,B,A,x,d.1,d.2,rfl,rfl,.inr (.inl s)⟩
   .exact .inr ⟨rfl,m,o,q,n,_,p,r,l,D,C,z,B,A,x,d.1,d.2,rfl,rfl,.inr (.inr s)⟩
theorem BJ{B W:Nat}{ms:List Hm}{nx:Nat}{g h:Int}{w:World}(T:jL B w W i j k ms nx E)(aH:nx<1000000):Calls Tryz.prog 117 #[.pointer (some ⟨W,0,none⟩),.int .i64 g,.int .i64 h] w λe R=>e=.returned (.bool true)/\ie B w R W i j k nx:=by
 have bC:=T.size;have ad:=T.uZ;have d:=a_ T;clear T;go_in;go_wp2_with fail;refine(@qv B W i j k ms nx E g h 10 _ _ d.e (.inr (.inl ⟨rfl,rfl⟩))).mono ?_;rintro e bN⟨⟨b8,bT,b0,rfl,aF⟩,M⟩;have D:=d.e.below M;obtain⟨b1,b4,b2,ce,bM,bG,-⟩:=D.il;have y:=hO aF M D;have cd:=M.size;clear aF M D;go_wp2_with fail;refine(@yy B i j k g h ms nx _ y.j d.l.dst aH).mono ?_;rintro e O⟨bW,cc,aW,bz,ba,rfl,hrel,a2,aw⟩;have aS:=A0 d.l.dst y.f hrel;have ay:Below B w O:=(y.g.mono bC).trans (aw.below (tN.le d.f.2.2.2.2.2.2.1 d.f.2.2.2.2.2.2.2) (by omega));have aK:=y.l.pK aw;have cb:=ay.size;have c:=hY a2 aK ay aS;clear hrel a2 aw aS ay aK bG;have aQ:=d.l.num;have aM:=sF d.l.len;have U:=b_ aQ aM;clear aQ aM;rcases c.o with⟨bI,rfl,rfl,rfl,rfl,rfl⟩|⟨rfl,bw,bA,P,a,f,Y,aE,ar,X,V,C,ax,J,ai,K,aq,rfl,rfl,aY⟩
 .have q:f_ (ie B w O W i j k ba):=a_ ⟨⟨bz,ba,E,⟨c.f,c.g,d.l⟩,by omega⟩,c.j⟩;rcases bI with rfl|rfl|rfl
  .go_wp2_with fail;go_ret;exact⟨rfl,q.e⟩
  .go_wp2_with fail;go_ret;exact⟨rfl,q.e⟩
  .go_wp2_with fail;go_ret;exact⟨rfl,q.e⟩
 .have bD:=c.g;obtain⟨b6,bQ,bJ,b9,a1,D,-,-,-,ap,-⟩:=bD;obtain⟨a5,aJ,-⟩:=y.l.entry X C ax rfl;obtain⟨aI,aB,-⟩:=y.l.entry V J ai rfl;obtain⟨bx,bP,bd⟩:=ap.find X a5 aJ;obtain⟨bv,b3,aU⟩:=ap.find V aI aB;obtain⟨bh,af⟩:=bd.qk;obtain⟨bf,aj⟩:=aU.qk;have az:=K.1;have bl:=K.2.1;have z:=b_ a1 D;have o:=C_ X V C ax J ai K aq aY;obtain⟨aD,aa⟩:=hQ bw.2.2;obtain⟨aO,av⟩:=hQ bA.2.2;rw[<-aa]at af|-;rw[<-av]at aj|-;have aG:=b_ aa av;have aZ:=b_ (af.tight (jT K)) (aj.tight (jT aq));clear ap a1 D X V C ax J ai K aq bd aU af aj aa av a5 aI aJ aB aY;go_wp2_with fail;refine(@o9 aD aO a 1 f bh bf (fz f Y) (fz f ar) bx bv 4 _ aZ.f aZ.i (by omega) (by omega) (by omega)).mono ?_;rintro e a7⟨H,rfl,a3,ag⟩;have bc:na (e_ f Y) a f->(H=true↔Sp (e_ f Y) a f (e_ f ar 0)):=λbH=>by
   rw[a3];refine(na.say (N:=fz f ar) (n:=1) bH az bl).trans ⟨λh=>h 0 (by omega),λh P C=>?_⟩;obtain rfl:P=0:=by omega
   exact h
  have b:=b_ bc ag;have ca:=ag.size;clear a3 bc ag;rcases o.M with⟨⟨p,u⟩,rfl,rfl,rfl,v,r⟩|⟨⟨p,u⟩,aC,rfl,rfl,rfl,v,r⟩|⟨⟨p,u⟩,rfl,rfl,rfl,A,x,a0,aL,v,r⟩
  .have q:f_ (ie B w a7 W i j k nx):=a_ (by
    have s:=c.f;rw[v,r]at s;exact⟨⟨ms,nx,E,(show jL B O W i j k ms nx E from⟨s,c.g,d.l⟩).below b.i,by omega⟩,c.j.trans (b.i.mono (by omega))⟩)
   obtain rfl:H=false:=by
    cases H
    .rfl
    .exact absurd ((b.f u).1 rfl) p
   clear p u v r;go_wp2_with fail;go_ret;exact⟨rfl,q.e⟩
  .obtain rfl:H=true:=(b.f u).2 p;have q:f_ (ie B w a7 W i j k nx):=a_ (by
    have s:=c.f;rw[v,r]at s;exact⟨⟨ms,nx,E,(show jL B O W i j k ms nx E from⟨s,c.g,d.l⟩).below b.i,by omega⟩,c.j.trans (b.i.mono (by omega))⟩)
   have bm:=a_ aC;clear p u v r aC;go_wp2_with fail;refine(@lq W i nx 1 _ _ _ _ E _ (by omega) (z.f.J (b.i.block W z.f.lt)) (z.i.below b.i) ad).mono ?_;rintro e R⟨rfl,rfl⟩;have I:decide (24<E.length+1)=true:=decide_eq_true (by have b7:=U.f;have cg:=U.i.2 bm.e;omega);rw[I];clear I;go_wp2_with fail;go_ret;exact⟨rfl,q.e⟩
  .obtain rfl:H=true:=(b.f u).2 p;have l:=iu p a0 aL v r;clear p u a0 aL v r;go_wp2_with fail;refine(@lq W i nx 1 _ _ _ _ E _ (by omega) (z.f.J (b.i.block W z.f.lt)) (z.i.below b.i) ad).mono ?_;rintro e R⟨rfl,rfl⟩;have bg:E.length≠24:=λh=>absurd l.j.2.1 ((U.i.1 (by rw[<-U.f];exact h)) A l.j.1);have I:decide (24<E.length+1)=false:=decide_eq_false (by omega);rw[I];clear I bg;go_wp2_with fail;have S:nu B R i j k (ms.set A (some (nx,1,a,x))) (nx+1):=by
    have s:=c.f;rw[l.m,l.x]at s;exact s.below b.i
   have ah:(ms.set A (some (nx,1,a,x))).getD A none=some (nx,1,a,x):=by rw[lU (by rw[d.l.len];exact l.j.1),if_pos rfl]
   have aA:mK 1 a x:=S.2.1.fine l.j.1 ah (by omega) az;refine(@A1 B W i j k A 1 a nx ms E x _ S (c.g.below b.i) d.l l.j aA aH ad (by omega)).mono ?_;rintro e t⟨bn,bq,aX,rfl,bV,bX,bk,⟨a8,aV,be⟩,Q,bb⟩;obtain⟨F,bs⟩:=hQ 400000000;have a9:=S.2.1.bits l.j.1 ah (m:=F) (by omega);have ae:jO a8 t aX 1 a aV (fz a x) (2*F):=be.fit (λP aE C J=>a9 _ (jq C J));have al:∀ac e,ms.getD ac none=some e->(ms.set A (some (nx,1,a,x))).getD ac none=some e:=λac e ao=>by
    rw[lU (by rw[d.l.len];exact l.j.1),if_neg (λaW=>by rw[aW,l.j.2.1]at ao;cases ao)];exact ao
   obtain⟨-,-,bB,bU,a4⟩:=Q.entry (List.mem_append.2 (.inl o.f)) o.j (al P _ o.m) rfl;obtain⟨-,-,bj,cf,aT⟩:=Q.entry (List.mem_append.2 (.inl o.g)) o.r (al aE _ o.y) rfl;obtain⟨bp,Z⟩:=a4.qk;obtain⟨bo,ab⟩:=aT.qk;rw[<-aG.f]at Z;rw[<-aG.i]at ab;have au:Below B w t:=c.j.trans ((b.i.mono (by omega)).trans bb);have bO:=au.size;obtain⟨-,bR,bK,br,bi,-⟩:=ae.open_;obtain⟨-,bY,b5,bt,bu,-⟩:=Z.open_;have G:=iu ae (Z.tight (jT o.A)) (ab.tight (jT o.B)) Q au;have bL:F<=400000000:=by omega
   clear S ah aA a9 be ae al a4 aT Z ab Q bb au bs;have bZ:=oP ⟨bn,0,none⟩ 1 bq;have bS:((a:Int)!=(a:Int))=false:=by simp
   go_wp2_with fail;try go_quiet (fail)
   try go_wp2_with fail
   have L:=below_drewN (Below.refl t.heap.size t) nq;refine(@kn (2*F) 4 aX 1 a aV (fz a x) a8 aD f bp (fz f Y) bB _ (G.f.hV (KR.I L)) (G.g.hV (KR.I L)) (by omega) (by omega) (by omega) (by omega)).mono ?_;rintro e bE⟨rfl,⟨bF,aR⟩,aP⟩;have am:Below t.heap.size t bE:=d_ L aP;have an:=hO aR ((G.j.hV (KR.I am)).mono (show 4<=2*F+4+12 by omega)) am;clear aR aP am L br bi bt bu bk;go_wp2_with fail;refine(@lM _ 1 f bF _ 0 aO bo _ bj (2*F+4+12) _ an.f an.g (l.g.back l.f) (by omega) (by omega) (by omega)).mono ?_;rintro e a6⟨rfl,aN⟩;have ak:Below t.heap.size t a6:=d_ an.l aN;have q:f_ (ie B w a6 W i j k nx):=a_ ⟨⟨_,_,_,G.m.below ak,by omega⟩,G.x.trans (ak.mono (by omega))⟩;clear aN ak;go_wp2_with fail;go_ret;exact⟨rfl,q.e⟩
end
end Go.Proofs.YtfjbijpagaipnabGreatDoor
