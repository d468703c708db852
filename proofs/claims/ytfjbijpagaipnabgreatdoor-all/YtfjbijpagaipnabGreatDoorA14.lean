import Derived.Test.YtfjbijpagaipnabGreatDoorA13
set_option maxRecDepth 100000
set_option maxHeartbeats 8000000
namespace Go.Proofs.YtfjbijpagaipnabGreatDoor
open Go.RowKit
variable{i j k l m n p q r s:Nat}{w v W:World}{x y z:Value}{A B F G:Nat->Nat->Int}{a b c d:Int}{e f g:List Int}{O:Option Addr}
section
open R
variable{E:List o4}
theorem Cx{ms:List Hm}{g h e:Int}{a b:Value}{y:Bool}(hd:pq ms)(r:rN (λ_ d _ z=>d=z) E ms g h a b c)(q:uC ms g h y e):((c=2\/c=3\/c=4)/\e=c/\y=false)\/(c=0/\e=0/\∃n p s k d m t j i,n∈E/\p∈E/\s<24/\ms.getD s none=some (n.1,k,d,m)/\t<24/\ms.getD t none=some (p.1,j,d,i)/\hW k d m/\hW j d i/\a=.pointer (some ⟨n.2.2,0,none⟩)/\b=.pointer (some ⟨p.2.2,0,none⟩)/\(y=true↔Jv (e_ d m) (e_ d i) k j d)/\na (e_ d m) k d/\na (e_ d i) j d):=by
 rcases q with⟨v,rfl,rfl⟩|⟨s,K,k,d,m,t,L,j,z,i,x,B,C,A,w,J,q⟩
 .exact .inl ⟨.inl (r.no v),(r.no v).symm,rfl⟩
 .obtain⟨n,p,I,D,rfl,rfl,r⟩:=r.yes hd x B C A w J;rcases r with⟨l,rfl⟩|⟨l,o,rfl⟩|⟨l,o,rfl,rfl,rfl⟩
  .rcases q with⟨-,rfl,rfl⟩|⟨f,-⟩|⟨f,-⟩
   .exact .inl ⟨.inr (.inl rfl),rfl,rfl⟩
   .exact absurd f l
   .exact absurd f l
  .rcases q with⟨f,-⟩|⟨-,-,rfl,rfl⟩|⟨-,u,-⟩
   .exact absurd l f
   .exact .inl ⟨.inr (.inr rfl),rfl,rfl⟩
   .exact absurd u o
  .rcases q with⟨f,-⟩|⟨-,u,-⟩|⟨rfl,-,rfl,F,G,H⟩
   .exact absurd l f
   .exact absurd o u
   .exact .inr ⟨rfl,rfl,n,p,s,k,d,m,t,j,i,I,D,x,B,A,w,o.1,o.2,rfl,rfl,F,G,H⟩
theorem DI{B W:Nat}{ms:List Hm}{nx:Nat}{g h:Int}{w:World}(A:jL B w W i j k ms nx E):Calls Tryz.prog 118 #[.pointer (some ⟨W,0,none⟩),.int .i64 g,.int .i64 h] w λo ah=>o=.returned (.bool true)/\ie B w ah W i j k nx:=by
 have S:=A.size;have e:=a_ A;clear A;go_in;go_wp2_with fail;go_fit (qv e.e (.inr (.inr (.inr ⟨by decide,rfl⟩))));rintro o au⟨⟨aH,ay,aA,rfl,H⟩,m⟩;have C:=e.e.below m;obtain⟨aB,aJ,aE,aI,ar,al,-⟩:=C.il;have v:=hO H m C;have ak:=m.size;clear H m C;go_wp2_with fail;go_fit (Au v.j e.l.dst);rintro o G⟨y,aC,rfl,hrel,M⟩;have K:=Cx e.l.dst v.f hrel;have l:Below w.heap.size w G:=v.g.trans (M.mono ak);have b:=hO K l (e.e.below l);have aj:=l.size;clear hrel M K l al;rcases b.f with⟨am,rfl,rfl⟩|⟨rfl,rfl,ad,ae,c,p,a,s,av,n,q,Y,U,Q,Z,R,I,r,z,rfl,rfl,X,N,J⟩
 .have f:f_ (ie B w G W i j k nx):=a_ ⟨⟨ms,nx,E,b.l,by omega⟩,b.g.mono S⟩;rcases am with rfl|rfl|rfl
  .go_wp2;go_ret;exact⟨rfl,f.e⟩
  .go_wp2;go_ret;exact⟨rfl,f.e⟩
  .go_wp2;go_ret;exact⟨rfl,f.e⟩
 .obtain⟨-,-,aG,aw,aa⟩:=b.l.entry Y Q Z rfl;obtain⟨-,-,az,aF,L⟩:=b.l.entry U R I rfl;obtain⟨ap,t⟩:=aa.qk;obtain⟨ao,x⟩:=L.qk;obtain⟨aq,D⟩:=hQ ad.2.2;obtain⟨ax,T⟩:=hQ ae.2.2;rw[<-D]at t|-;rw[<-T]at x|-;have ab:=r.1;have ai:=z.1;have F:=r.2.1;have d:=iu (t.tight (jT r)) (x.tight (jT z)) X N J;clear Y U Q Z R I r z X N J aa L t x D T;go_wp2_with fail;go_fit (AA d.f d.g (by omega) (by omega) (by omega));rintro o V⟨ac,rfl,P,u⟩;have af:y=ac:=by
   refine r4.2 (d.j.trans ?_);rw[P];have ag:xA (fz a s) (fz a q) p n a↔∀c,c<n->Sp (fz a s) p a (fz a q c):=na.say d.m ab F;have an:xA (fz a q) (fz a s) n p a↔∀c,c<p->Sp (fz a q) n a (fz a s c):=na.say d.x ai F;rw[ag,an];exact And.comm
  subst af;have O:Below w.heap.size w V:=b.g.trans (u.mono aj);have f:f_ (ie B w V W i j k nx):=a_ ⟨⟨ms,nx,E,b.l.below u,by omega⟩,O.mono S⟩;clear u O P;have aD:(y==y)=true:=by simp
  go_wp2;go_ret;exact⟨rfl,f.e⟩
variable{M:List Hm}{E:List o4}
theorem Gp{ms:List Hm}{nx:Nat}{g h k e:Int}{a b:Value}(hd:pq ms)(u:rN (λ_ d _ D=>d=D) E ms g h a b c)(t:qA ms nx g h k e M i):((c=2\/c=3\/c=4)/\e=c/\k=-1/\M=ms/\i=nx)\/(c=0/\e=5/\k=-1/\M=ms/\i=nx/\∀j,j<24->ms.getD j none≠none)\/(c=0/\e=0/\k=(nx:Int)/\∃m r j p d s x o l y v w,m∈E/\r∈E/\j<24/\ms.getD j none=some (m.1,p,d,s)/\x<24/\ms.getD x none=some (r.1,o,d,l)/\hW p d s/\hW o d l/\a=.pointer (some ⟨m.2.2,0,none⟩)/\b=.pointer (some ⟨r.2.2,0,none⟩)/\ke ms y/\M=ms.set y (some (nx,v,d,w))/\i=nx+1/\oL (p+o) d (s++l) v w):=by
 rcases t with⟨A,rfl,rfl,rfl,rfl⟩|⟨j,P,p,d,s,x,Q,o,D,l,C,G,H,F,B,O,t⟩
 .exact .inl ⟨.inl (u.no A),(u.no A).symm,rfl,rfl,rfl⟩
 .obtain⟨m,r,N,I,rfl,rfl,u⟩:=u.yes hd C G H F B O;rcases u with⟨q,rfl⟩|⟨q,n,rfl⟩|⟨q,n,rfl,rfl,rfl⟩
  .rcases t with⟨-,rfl,rfl,rfl,rfl⟩|⟨f,-⟩|⟨f,-⟩|⟨f,-⟩
   .exact .inl ⟨.inr (.inl rfl),rfl,rfl,rfl,rfl⟩
   all_goals exact absurd f q
  .rcases t with⟨f,-⟩|⟨-,-,rfl,rfl,rfl,rfl⟩|⟨-,z,-⟩|⟨-,z,-⟩
   .exact absurd q f
   .exact .inl ⟨.inr (.inr rfl),rfl,rfl,rfl,rfl⟩
   all_goals exact absurd z n
  .rcases t with⟨f,-⟩|⟨-,z,-⟩|⟨-,-,J,rfl,rfl,rfl,rfl⟩|⟨rfl,-,rfl,rfl,y,v,w,K,L,rfl,rfl⟩
   .exact absurd q f
   .exact absurd n z
   .exact .inr (.inl ⟨rfl,rfl,rfl,rfl,rfl,J⟩)
   .exact .inr (.inr ⟨rfl,rfl,rfl,m,r,j,p,d,s,x,o,l,y,v,w,N,I,C,G,F,B,n.1,n.2,rfl,rfl,L,rfl,rfl,K⟩)
theorem BM{B W:Nat}{ms:List Hm}{nx:Nat}{g h:Int}{w:World}(X:jL B w W i j k ms nx E)(aN:nx<1000000):Calls Tryz.prog 119 #[.pointer (some ⟨W,0,none⟩),.int .i64 g,.int .i64 h] w λc L=>c=.returned (.bool true)/\ie B w L W i j k nx:=by
 have bA:=X.size;have aE:=X.uZ;have b:=a_ X;clear X;go_in;go_wp2_with fail;refine(@qv B W i j k ms nx E g h 12 _ _ b.e (.inr (.inr (.inr ⟨by decide,rfl⟩)))).mono ?_;rintro c bL⟨⟨b6,bQ,bY,rfl,aJ⟩,T⟩;have z:=b.e.below T;obtain⟨bZ,b1,b0,cb,bK,bD,-⟩:=z.il;have S:=hO aJ T z;have ca:=T.size;clear aJ T z;go_wp2_with fail;refine(@DS B i j k g h ms nx _ S.j b.l.dst aN).mono ?_;rintro c bh⟨s,aX,aY,Z,rfl,hrel,a4,ax⟩;have aV:=Gp b.l.dst S.f hrel;have az:Below B w bh:=(S.g.mono bA).trans (ax.below (tN.le b.f.2.2.2.2.2.2.1 b.f.2.2.2.2.2.2.2) (by omega));have ag:=S.l.pK ax;obtain⟨b3,bO,bH,b5,a0,z,-⟩:=id ag;have b8:=az.size;have e:=ju a4 ag az aV a0 z;clear hrel a4 ax aV az ag a0 z bD;go_wp2_with fail;refine(@lq W i nx 1 _ _ _ _ E _ (by omega) e.r e.z aE).mono ?_;rintro c L⟨rfl,rfl⟩;have aQ:=b.l.num;have aO:=sF b.l.len;have Y:=b_ aQ aO;clear aQ aO;rcases e.m with⟨bE,rfl,rfl,rfl,rfl⟩|⟨rfl,rfl,rfl,rfl,rfl,aB⟩|⟨rfl,rfl,rfl,bu,bx,aU,J,a,ay,aF,ah,a5,v,o,n,O,N,q,A,r,p,t,y,rfl,rfl,d,M,D,a3⟩
 .have u:f_ (ie B w L W i j k Z):=a_ ⟨⟨aY,Z,E,⟨e.f,e.g,b.l⟩,by omega⟩,e.j⟩;rcases bE with rfl|rfl|rfl
  .go_wp2_with fail;go_ret;exact⟨rfl,u.e⟩
  .go_wp2_with fail;go_ret;exact⟨rfl,u.e⟩
  .go_wp2_with fail;go_ret;exact⟨rfl,u.e⟩
 .have u:f_ (ie B w L W i j k Z):=a_ ⟨⟨aY,Z,E,⟨e.f,e.g,b.l⟩,by omega⟩,e.j⟩;have K:decide (24<E.length+1)=true:=decide_eq_true (by have b4:=Y.f;have cf:=Y.i.2 aB;omega);rw[K];clear aB K;go_wp2_with fail;go_ret;exact⟨rfl,u.e⟩
 .have bd:E.length≠24:=λh=>absurd d.2.1 ((Y.i.1 (by rw[<-Y.f];exact h)) v d.1);have K:decide (24<E.length+1)=false:=decide_eq_false (by omega);rw[K];have bG:=t.1;have b7:=y.1;have aI:=t.2.1;have a1:ay.length=J*a:=(tK b.f.2.1 q A).2.2;have F:=a3.say a1 aI;have b9:=F.1;have C:=zf O N q A r p t y d M D F;obtain⟨bf,ab⟩:=hQ bu.2.2;obtain⟨bl,au⟩:=hQ bx.2.2;have aM:=b_ ab au;rw[<-ab,<-au];clear O N q A r p t y d M D K ab au a1 F a3 bd;go_wp2_with fail;have bF:=C.e;obtain⟨O,N,q,A,r,p,t,y,d,M,D,F⟩:=bF;have V:nu B L i j k (ms.set v (some (nx,o,a,n))) (nx+1):=by
   have aS:=e.f;rw[M,D]at aS;exact aS
  have af:(ms.set v (some (nx,o,a,n))).getD v none=some (nx,o,a,n):=by rw[lU (by rw[b.l.len];exact d.1),if_pos rfl]
  have aA:mK o a n:=V.2.1.fine d.1 af (by omega) aI;refine(@A1 B W i j k v o a nx ms E n _ V e.g b.l d aA aN aE (by omega)).mono ?_;rintro c f⟨bi,bn,al,rfl,bT,bV,aG,⟨aw,aj,bc⟩,U,bb⟩;obtain⟨l,bo⟩:=hQ 400000000;have a9:=V.2.1.bits d.1 af (m:=l) (by omega);have bJ:l<=400000000:=by omega
  have cc:2<=l:=by omega
  have ae:jO aw f al o a aj (fz a n) (2*l):=bc.fit (λaU aF q r=>a9 _ (jq q r));have ak:∀ad c,ms.getD ad none=some c->(ms.set v (some (nx,o,a,n))).getD ad none=some c:=λad c ap=>by
   rw[lU (by rw[b.l.len];exact d.1),if_neg (λaX=>by rw[aX,d.2.1]at ap;cases ap)];exact ap
  obtain⟨-,-,bz,bS,a7⟩:=U.entry (List.mem_append.2 (.inl O)) q (ak aU _ A) rfl;obtain⟨-,-,bg,cd,aW⟩:=U.entry (List.mem_append.2 (.inl N)) r (ak aF _ p) rfl;obtain⟨bm,aa⟩:=a7.qk;obtain⟨bj,ac⟩:=aW.qk;rw[<-aM.f]at aa;rw[<-aM.i]at ac;have ar:Below B w f:=e.j.trans bb;have bN:=ar.size;obtain⟨-,bP,bI,aT,be,-⟩:=ae.open_;obtain⟨-,bW,b2,bq,bs,-⟩:=aa.open_;have x:=iu ae ((aa.tight (jT t)).mono (show 4<=2*l by omega)) ((ac.tight (jT y)).mono (show 4<=2*l by omega)) U ar;clear V af aA a9 bc ae ak a7 aW aa ac U bb ar bo O N q A r p t y d M D F;have bX:=oP ⟨bi,0,none⟩ 1 bn;have ce:((a:Int)!=(a:Int))=false:=by simp
  go_wp2_with fail;try go_quiet (fail)
  try go_wp2_with fail
  have P:=below_drewN (Below.refl f.heap.size f) nq;refine(@R.An bf bl J ah a bm bj (fz a ay) (fz a a5) bz bg (2*l) _ (x.g.hV (KR.I P)) (x.j.hV (KR.I P)) (by omega) (by omega)).mono ?_;rintro c bB⟨rfl,⟨ba,aD⟩,aP⟩;have I:Below f.heap.size f bB:=d_ P aP;have am:=b_ aD I;have a6:=cell_later I aG;have a2:=cell_later I aT;have bw:=I.size;clear aD aP I P aT be bq bs aG;go_wp2_with fail;refine(@mW _ (J+ah) a ba _ 0 (2*l) _ am.f (by omega) (by omega) (by omega)).mono ?_;rintro c bC⟨s,rfl,aZ,G⟩;obtain rfl:s=o:=kf aZ C.L;have ai:Below f.heap.size f bC:=am.i.trans (G.mono bw);have aq:=b_ (am.f.hV (KR.I G)) ai;have aH:=cell_later G a6;have a8:=cell_later G a2;have bp:=ai.size;clear aZ G ai a6 a2;go_wp2_with fail;obtain⟨bv,aC⟩:=C.O;refine(@ux al s a aj (fz a n) aw (2*l) s bv _ (x.f.hV (KR.I aq.i)) aC (by omega) (by omega) (by omega)).mono ?_;rintro c bt⟨rfl,H⟩;have an:Below f.heap.size f bt:=aq.i.trans (H.mono bp);have ao:=b_ (aq.f.hV (KR.I H)) an;have aK:=cell_later H aH;have aL:=cell_later H a8;have bk:=an.size;clear H an aH a8 aC;go_wp2_with fail;refine(@AA al _ s (J+ah) a aj ba (fz a n) (ov J (fz a ay) (fz a a5)) aw 0 (2*l) _ (x.f.hV (KR.I ao.i)) ao.f (by omega) (by omega) (by omega)).mono ?_;rintro c aR⟨br,rfl,p,Q⟩;obtain rfl:br=true:=p.2 ⟨C.P,C.JG⟩;have av:Below f.heap.size f aR:=ao.i.trans (Q.mono bk);have bM:=cell_later Q aK;have bU:=cell_later Q aL;have u:f_ (ie B w aR W i j k nx):=a_ ⟨⟨_,_,_,x.m.below av,by omega⟩,x.x.trans (av.mono (by omega))⟩;have bR:((s:Int)==(s:Int))=true:=by simp
  clear Q av aK aL p;go_wp2_with fail;go_ret;exact⟨rfl,u.e⟩
end
def sS(r c:Nat)(zs:List Int)(e:Ending):Prop:=∃d:Bool,e=.returned (.bool d)/\(d=true↔∀b a,b<r->a<c->b≠a->e_ c zs b a=0)
theorem sS.mk{r c:Nat}{zs:List Int}{e:Ending}(y:Bool)(h:e=.returned (.bool y))(d:y=true↔∀a b,a<r->b<c->a≠b->e_ c zs a b=0):sS r c zs e:=⟨y,h,d⟩
def tJ(r c:Nat)(zs:List Int)(e:Ending):Prop:=∃d:Int,e=.returned (.int .i64 d)/\((d=-1/\∀a,a+1<r->a+1<c->e_ c zs a a∣e_ c zs (a+1) (a+1))\/∃b:Nat,d=b/\b+1<r/\b+1<c/\¬e_ c zs b b∣e_ c zs (b+1) (b+1)/\∀a,a<b->e_ c zs a a∣e_ c zs (a+1) (a+1))
theorem tJ.mk{r c:Nat}{zs:List Int}{e:Ending}(z:Int)(h:e=.returned (.int .i64 z))(d:(z=-1/\∀a,a+1<r->a+1<c->e_ c zs a a∣e_ c zs (a+1) (a+1))\/∃b:Nat,z=b/\b+1<r/\b+1<c/\¬e_ c zs b b∣e_ c zs (b+1) (b+1)/\∀a,a<b->e_ c zs a a∣e_ c zs (a+1) (a+1)):tJ r c zs e:=⟨z,h,d⟩
theorem Cg{v:Value}{r c:Nat}{zs:List Int}{L:Nat}{w:World}(G:i_ w v r c zs L):Calls Tryz.prog 73 #[v] w λb W=>sS r c zs b/\Below w.heap.size w W:=by
 have x:=a_ G;obtain⟨ab,af,ai,rfl,M⟩:=G;obtain⟨z,N,rfl,-⟩:=M.shape;clear M;obtain⟨I,J⟩:=hQ (r*c);rw[<-J]at x|-;clear J;go_in;go_wp2_with fail;obtain⟨h,j⟩:=hQ (w.alloc (.cells #[.int .i64 r,.int .i64 c,.slice z I N] 66));have ad:h.heap.size=w.heap.size+1:=by rw[j];simp
 have B:Below w.heap.size w h:=by rw[j];exact hS
 have A:jk h w.heap.size (.int .i64 r) (.int .i64 c) (.slice z I N):=by
  rw[j];exact⟨fa _ _ _ _ _ rfl rfl,fa _ _ _ _ _ rfl rfl,fa _ _ _ _ _ rfl rfl⟩
 have l:=b_ B A;rw[<-j];clear B A j;go_loopw [3] (λd wr=>∃e:Nat,e<=r/\d=.int .i64 e/\f_ (Below h.heap.size h wr/\∀d a,d<e->a<c->d≠a->e_ c zs d a=0)) (λd _=>r-(intOf d).toNat)
 case atStart=>exact⟨0,hR,rfl,a_ ⟨hP,λd a i=>by omega⟩⟩
 case round=>
  rename World=>aj;obtain⟨e,ag,rfl,m⟩:=hrel;obtain⟨u,p,q⟩:=l.i.later m.f;by_cases y:e<r
  .have P:(e:Int)<(r:Int):=by omega
   go_wp2_with fail;clear u p q;go_loopw [4] (λd wr=>∃b:Nat,b<=c/\d=.int .i64 b/\f_ (Below h.heap.size h wr/\∀a,a<b->e≠a->e_ c zs e a=0)) (λd _=>c-(intOf d).toNat)
   case atStart=>exact⟨0,hR,rfl,a_ ⟨m.f,λa i=>by omega⟩⟩
   case round=>
    rename World=>ah;obtain⟨b,aa,rfl,f⟩:=hrel;obtain⟨u,p,q⟩:=l.i.later f.f;have Z:=f.f.size;by_cases E:b<c
    .have S:(b:Int)<(c:Int):=by omega
     by_cases o:e=b
     .have X:((e:Int)!=(b:Int))=false:=by simp[o]
      have R:=a_ o;clear o;go_wp2;go_roundw;exact⟨b+1,by omega,by go_num,a_ ⟨f.f,λa k g=>f.i a (by have:=R.e;omega) g⟩⟩;simp[intOf];omega
     .have X:((e:Int)!=(b:Int))=true:=by simp;omega
      go_wp2_with fail;go_fit (jy ((x.e.below l.f).below f.f) y E);rintro T ak⟨ac,rfl,H,K⟩;have t:=f.f.trans (K.mono Z);have C:=b_ H t;have O:=t.size;clear H K t;go_wp2_with fail;go_fit (n_ C.f);rintro T ae⟨rfl,F⟩;have D:=C.i.trans (F.mono O);obtain⟨Y,s⟩:=hQ (decide (zs.getD (e*c+b) 0=0));rw[<-s];have n:=b_ D s;clear F D s u p q
      cases Y
      .go_wp2;go_ret;exact⟨sS.mk false rfl ⟨λi=>(by cases i),λi=>absurd (i e b y E o) (t_ n.i.symm)⟩,l.f.trans (n.f.mono (by omega))⟩
      .go_wp2;go_roundw
       .refine⟨b+1,by omega,by go_num,a_ ⟨n.f,λa k g=>?_⟩⟩;by_cases Q:a=b
        .subst Q;exact yO n.i.symm
        .exact f.i a (by omega) g
       simp[intOf];omega
    .have S:¬(b:Int)<(c:Int):=by omega
     go_wp2;go_roundw
     .refine⟨e+1,by omega,by go_num,a_ ⟨f.f,λd a V k g=>?_⟩⟩;by_cases U:d=e
      .subst U;exact f.i a (by omega) g
      .exact m.i d a (by omega) k g
     simp[intOf];omega
  .have P:¬(e:Int)<(r:Int):=by omega
   go_wp2;go_ret;exact⟨sS.mk true rfl ⟨λ_ d a V k g=>m.i d a (by omega) k g,λ_=>rfl⟩,l.f.trans (m.f.mono (by omega))⟩
theorem yv{v:Value}{r c:Nat}{zs:List Int}{L:Nat}{w:World}(X:i_ w v r c zs L)(S:L<=400000000):Calls Tryz.prog 106 #[v] w λaf d=>tJ r c zs af/\Below w.heap.size w d:=by
 have F:=a_ X;obtain⟨ao,av,aw,rfl,ac⟩:=X;obtain⟨u,D,rfl,-⟩:=ac.shape;clear ac;obtain⟨A,ab⟩:=hQ (r*c);rw[<-ab]at F|-;clear ab;go_in;go_wp2_with fail;obtain⟨o,s⟩:=hQ (w.alloc (.cells #[.int .i64 r,.int .i64 c,.slice u A D] 66));have aq:o.heap.size=w.heap.size+1:=by rw[s];simp
 have Q:Below w.heap.size w o:=by rw[s];exact hS
 have O:jk o w.heap.size (.int .i64 r) (.int .i64 c) (.slice u A D):=by
  rw[s];exact⟨fa _ _ _ _ _ rfl rfl,fa _ _ _ _ _ rfl rfl,fa _ _ _ _ _ rfl rfl⟩
 have n:=b_ Q O;rw[<-s];clear Q O s;go_loopw [3] (λa wr=>∃l b:Nat,f_ (b=l+1)/\b<=100/\a=.int .i64 b/\f_ (Below o.heap.size o wr/\∀a,a<l->a+1<r->a+1<c->e_ c zs a a∣e_ c zs (a+1) (a+1))) (λa _=>100-(intOf a).toNat)
 case atStart=>exact⟨0,1,a_ rfl,by omega,rfl,a_ ⟨hP,λa E=>by omega⟩⟩
 case round=>
  rename World=>aA;obtain⟨l,b,e,au,rfl,g⟩:=hrel;obtain⟨C,x,z⟩:=n.i.later g.f;have ai:=g.f.size;have an:(b:Int)-1=(l:Int):=by have:=e.e;omega
  by_cases ae:b<r
  .have ad:(b:Int)<(r:Int):=by omega
   by_cases ah:b<c
   .have al:(b:Int)<(c:Int):=by omega
    go_wp2_with fail;go_fit (jy ((F.e.below n.f).below g.f) (by have:=e.e;omega) (by have:=e.e;omega));rintro V f⟨ap,rfl,H,J⟩;obtain⟨i,h,k,j,rfl⟩:=H.shape;have I:=hU f (.cells #[.bool i,.slice h k j] 79);have W:=(g.f.trans (J.mono ai)).trans (I.mono (by have:=J.size;omega));have Z:(f.alloc (.cells #[.bool i,.slice h k j] 79)).cell? ⟨f.heap.size,0,none⟩=some (.bool i):=fa _ _ _ _ _ rfl rfl;have aa:(f.alloc (.cells #[.bool i,.slice h k j] 79)).cell? ⟨f.heap.size,1,none⟩=some (.slice h k j):=fa _ _ _ _ _ rfl rfl;have m:=hY (H.below I) W Z aa;clear H J I W C x z;obtain⟨C,x,z⟩:=n.i.later m.g;obtain⟨am,P⟩:=hQ (decide (zs.getD (l*c+l) 0∣zs.getD (b*c+b) 0));have R:=a_ P;have M:=a_ (show∀d,Below (f.alloc (.cells #[.bool i,.slice h k j] 79)).heap.size (f.alloc (.cells #[.bool i,.slice h k j] 79)) d->d.cell? ⟨w.heap.size,0,none⟩=some (.int .i64 r)/\d.cell? ⟨w.heap.size,1,none⟩=some (.int .i64 c)/\d.cell? ⟨w.heap.size,2,none⟩=some (.slice u A D)/\d.cell? ⟨f.heap.size,0,none⟩=some (.bool i)/\d.cell? ⟨f.heap.size,1,none⟩=some (.slice h k j)from λd p=>⟨g_ p C,g_ p x,g_ p z,g_ p m.j,g_ p m.o⟩);have K:=m.g.size;clear P C x z Z aa;go_wp2_with fail;obtain⟨B,U⟩:=hQ (f.alloc (.cells #[.bool i,.slice h k j] 79));rw[<-U]at m M K|-;clear U;go_region_held3 (λd=>d.cell? ⟨w.heap.size,0,none⟩=some (.int .i64 r)/\d.cell? ⟨w.heap.size,1,none⟩=some (.int .i64 c)/\d.cell? ⟨w.heap.size,2,none⟩=some (.slice u A D)/\d.cell? ⟨f.heap.size,0,none⟩=some (.bool i)/\d.cell? ⟨f.heap.size,1,none⟩=some (.slice h k j)) (exact M.e _ (by first|exact hbV|exact hbW|exact hP.drew|exact hP)) (first
      |(go_at_call 64;refine(jy (((F.e.below n.f).below m.g).below (hP.drew)) ae ah).mono ?_;rintro V aj⟨aB,rfl,G,T⟩;obtain⟨ay,ar,ax,az,rfl⟩:=G.shape;have hbW:Below B.heap.size B aj:=(hP.drew).trans T;clear T)
      |(go_at_call 144;refine(vB G (m.f.below hbW) S S).mono ?_;rintro V ag⟨rfl,N⟩;rw[<-R.e];have hbV:Below B.heap.size B ag:=d_ hbW N;clear N hbW G))
    all_goals
     have y:=b_ (m.g.trans (hbV.mono K)) R.e;clear hbV
     cases am
     .go_wp2;go_ret;refine⟨tJ.mk l rfl (.inr ⟨l,rfl,by have:=e.e;omega,by have:=e.e;omega,λE=>?_,λa Y=>g.i a Y (by have:=e.e;omega) (by have:=e.e;omega)⟩),n.f.trans (y.f.mono (by omega))⟩;rw[<-e.e]at E;exact t_ y.i.symm E
     .go_wp2;go_roundw
      .refine⟨b,b+1,a_ rfl,by omega,by go_num,a_ ⟨y.f,λa Y q t=>?_⟩⟩;by_cases ak:a=l
       .subst ak;rw[<-e.e];exact yO y.i.symm
       .exact g.i a (by have:=e.e;omega) q t
      simp[intOf];omega
   .have al:¬(b:Int)<(c:Int):=by omega
    go_wp2;go_ret;exact⟨tJ.mk (-1) rfl (.inl ⟨rfl,λa q t=>g.i a (by have:=e.e;omega) q t⟩),n.f.trans (g.f.mono (by omega))⟩
  .have ad:¬(b:Int)<(r:Int):=by omega
   go_wp2;go_ret;exact⟨tJ.mk (-1) rfl (.inl ⟨rfl,λa q t=>g.i a (by have:=e.e;omega) q t⟩),n.f.trans (g.f.mono (by omega))⟩
def ox(w:World)(p r c:Nat)(f d b e a:Value):Prop:=w.heap[p]?=some (.cells #[.int .i64 r,.int .i64 c,f,.int .i64 r,.int .i64 r,d,.int .i64 r,.int .i64 r,b,.int .i64 c,.int .i64 c,e,.int .i64 c,.int .i64 c,a] 83 (0,0))
theorem ox.lt{w:World}{p r c:Nat}{b a:Value}(h:ox w p r c x y z b a):p<w.heap.size:=(jt.1 h).1
theorem ox.ty{w:World}{p r c:Nat}{b a:Value}(h:ox w p r c x y z b a):Ty w p 83:=⟨_,_,h⟩
theorem ox.below{w:World}{p r c n:Nat}{b a:Value}(h:ox w p r c x y z b a)(e:Below n w v)(d:p<n):ox v p r c x y z b a:=(e.block p d).trans h
theorem ox.cells{w:World}{p r c:Nat}{b a:Value}(h:ox w p r c x y z b a):w.cell? ⟨p,0,none⟩=some (.int .i64 r)/\w.cell? ⟨p,1,none⟩=some (.int .i64 c)/\w.cell? ⟨p,2,none⟩=some (x)/\w.cell? ⟨p,3,none⟩=some (.int .i64 r)/\w.cell? ⟨p,4,none⟩=some (.int .i64 r)/\w.cell? ⟨p,5,none⟩=some (y)/\w.cell? ⟨p,6,none⟩=some (.int .i64 r)/\w.cell? ⟨p,7,none⟩=some (.int .i64 r)/\w.cell? ⟨p,8,none⟩=some (z)/\w.cell? ⟨p,9,none⟩=some (.int .i64 c)/\w.cell? ⟨p,10,none⟩=some (.int .i64 c)/\w.cell? ⟨p,11,none⟩=some (b)/\w.cell? ⟨p,12,none⟩=some (.int .i64 c)/\w.cell? ⟨p,13,none⟩=some (.int .i64 c)/\w.cell? ⟨p,14,none⟩=some (a)/\∀d,w.frozen? ⟨p,d,none⟩=false:=by
 unfold ox at h;refine⟨?_,?_,?_,?_,?_,?_,?_,?_,?_,?_,?_,?_,?_,?_,?_,λd=>?_⟩<;>simp[World.cell?,World.frozen?,h]
abbrev nj(w:World)(p o:Nat)(x y z:Value):World:=((w.setCell ⟨p,o,none⟩ x).setCell ⟨p,o+1,none⟩ y).setCell ⟨p,o+2,none⟩ z
theorem n2{w:World}{p o:Nat}{xs:Array Value}{t:TypeId}(h:w.heap[p]?=some (.cells xs t (0,0)))(x y z:Value):(nj w p o x y z).heap[p]?=some (.cells (((xs.setIfInBounds o x).setIfInBounds (o+1) y).setIfInBounds (o+2) z) t (0,0)):=by
 rw[ja _ _ _ _ _ _ (ja _ _ _ _ _ _ (ja _ _ _ _ _ _ h))]
theorem oA{w:World}{p:Nat}{t:TypeId}(b:Ty w p t)(c:t≠144)(a:t≠79)(o:Nat)(x y z:Value):Fr p w (nj w p o x y z):=
 ⟨hZ (hZ (iE _ _ _ _) (iE _ _ _ _)) (iE _ _ _ _),KT.setCell (KT.setCell (KT.setCell (KT.refl _) b c a x) (b.setCell ⟨p,o,none⟩ x) c a y) ((b.setCell ⟨p,o,none⟩ x).setCell ⟨p,o+1,none⟩ y) c a z⟩
theorem ox.JX{w:World}{p r c:Nat}{b a:Value}(h:ox w p r c x y z b a)(s:Value):ox (nj w p 0 (.int .i64 r) (.int .i64 c) s) p r c s y z b a:=(n2 h _ _ _).trans rfl
theorem ox.KZ{w:World}{p r c:Nat}{b a:Value}(h:ox w p r c x y z b a)(s:Value):ox (nj w p 3 (.int .i64 r) (.int .i64 r) s) p r c x s z b a:=(n2 h _ _ _).trans rfl
theorem ox.KV{w:World}{p r c:Nat}{b a:Value}(h:ox w p r c x y z b a)(s:Value):ox (nj w p 6 (.int .i64 r) (.int .i64 r) s) p r c x y s b a:=(n2 h _ _ _).trans rfl
theorem ox.K9{w:World}{p r c:Nat}{b a:Value}(h:ox w p r c x y z b a)(s:Value):ox (nj w p 9 (.int .i64 c) (.int .i64 c) s) p r c x y z s a:=(n2 h _ _ _).trans rfl
theorem ox.KS{w:World}{p r c:Nat}{a b:Value}(h:ox w p r c x y z a b)(s:Value):ox (nj w p 12 (.int .i64 c) (.int .i64 c) s) p r c x y z a s:=(n2 h _ _ _).trans rfl
def vy(w:World)(q r c k:Nat)(d a b:Value):Prop:=w.heap[q]?=some (.cells #[.int .i64 r,.int .i64 c,d,.int .i64 r,.int .i64 r,a,.int .i64 r,.int .i64 r,b,.int .i64 k] 74 (0,0))
theorem vy.lt{w:World}{q r c k:Nat}(h:vy w q r c k x y z):q<w.heap.size:=(jt.1 h).1
theorem vy.below{w:World}{q r c k n:Nat}(h:vy w q r c k x y z)(b:Below n w v)(a:q<n):vy v q r c k x y z:=(b.block q a).trans h
theorem vy.fr{w:World}{p q r c k:Nat}(h:vy w q r c k x y z)(a:Fr p w v)(b:q≠p):vy v q r c k x y z:=(a.1.block q h.lt (by simpa using b)).trans h
theorem vy.cells{w:World}{q r c k:Nat}(h:vy w q r c k x y z):w.cell? ⟨q,0,none⟩=some (.int .i64 r)/\w.cell? ⟨q,1,none⟩=some (.int .i64 c)/\w.cell? ⟨q,2,none⟩=some x/\w.cell? ⟨q,3,none⟩=some (.int .i64 r)/\w.cell? ⟨q,4,none⟩=some (.int .i64 r)/\w.cell? ⟨q,5,none⟩=some y/\w.cell? ⟨q,6,none⟩=some (.int .i64 r)/\w.cell? ⟨q,7,none⟩=some (.int .i64 r)/\w.cell? ⟨q,8,none⟩=some z:=by
 unfold vy at h;refine⟨?_,?_,?_,?_,?_,?_,?_,?_,?_⟩<;>simp[World.cell?,h]
theorem i_.fr{w:World}{v:Value}{r c L p:Nat}{zs:List Int}(h:i_ w v r c zs L)(a:Fr p w W):i_ W v r c zs L:=h.oJ a.2
theorem i_.uY{w:World}{v:Value}{r c L:Nat}{zs:List Int}(h:i_ w v r c zs L):zs.length=r*c:=by
 obtain⟨_,_,b,_,a⟩:=h;exact a.1
theorem ox.put{w:World}{p r c:Nat}{f d b e a:Value}(h:ox w p r c f d b e a)(o:Nat)(x y z:Value):Fr p w (nj w p o x y z):=oA h.ty (by decide) (by decide) o x y z
theorem s3{X:Nat->Nat->Int}{i j u x:Nat}:∀b,b<=8->(∀c,c<b->(X i c).natAbs<2^u)->(∀c,c<b->(A c j).natAbs<2^x)->(dot X A i j b).natAbs<2^(x+u+4):=by
 intro b h f g;have d:∀a,a<=b->(dot X A i j a).natAbs<=a*2^(x+u):=by
  intro a;induction a with
  |zero=>intro _;simp[dot]
  |succ a e=>
   intro o;rw[dot,rG];have p:=e (by omega);have l:(X i a*A a j).natAbs<=2^(x+u):=by
    rw[np,kg,ij];exact jR (nf (g a (by omega))) (nf (f a (by omega)))
   omega
 have q:=d b c_;have m:b*2^(x+u)<=8*2^(x+u):=jo _ h;have k:2^(x+u+4)=16*2^(x+u):=by rw[kg];omega
 have n:0<2^(x+u):=kx (by decide);omega
def yn(n:Nat)(xs ys:List Int)(u:Nat):Prop:=∀c,(∀a b,a<n->b<n->(e_ n xs a b).natAbs<2^c)->∀a b,a<n->b<n->(e_ n ys a b).natAbs<2^(c+u+4)
theorem iW{z u v:Nat}(h:z<2^u)(a:u<=v):z<2^v:=l_ h (jb (by decide) a)
def oT(r c:Nat)(h i j d g f:List Int):Prop:=∃e b a,pR r c (e_ c h) c e (e3 r c d b a)/\b.length=r*r/\a.length=r*r/\d.length=r*c/\g.length=r*r/\f.length=r*r/\nZ r r r b i g/\nZ r r r j a f/\
 (∃k,iJ r c e k (e_ c d))/\jw (e_ c h) (e_ c d) (e_ r b) (e_ r a) r c
theorem yC{p r c:Nat}{aE ay:Option Addr}{L K:Nat}{w:World}(Y:ox w p r c (.slice O i l) (.slice aE j m) (.slice ay k n) x y)(be:i_ w (.agg #[.int .i64 r,.int .i64 c,.slice O i l]) r c e L)(aU:i_ w (.agg #[.int .i64 r,.int .i64 r,.slice aE j m]) r r f K)(aM:i_ w (.agg #[.int .i64 r,.int .i64 r,.slice ay k n]) r r g K)(aw:r<=8)(bD:c<=8)(br:∀d b,d<r->b<c->(e_ c e d b).natAbs<2^q)(bm:L<=60000000)(bu:hB r q c<=32*L)(bI:uB r q c<=32*L)(aK:L<=K)(aZ:K<=200000000):Calls Tryz.prog 71 #[.pointer (some ⟨p,0,none⟩)] w λab o=>ab=.returned (.tuple #[])/\∃(a1 bd aY:Option Addr) (aO a3 ba bh aR a2:Nat) (aH ai ak:List Int),ox o p r c (.slice a1 aO bh) (.slice bd a3 aR) (.slice aY ba a2) x y/\i_ o (.agg #[.int .i64 r,.int .i64 c,.slice a1 aO bh]) r c aH L/\i_ o (.agg #[.int .i64 r,.int .i64 r,.slice bd a3 aR]) r r ai (K+K+1+r)/\i_ o (.agg #[.int .i64 r,.int .i64 r,.slice aY ba a2]) r r ak (K+K+1+r)/\oT r c e f g aH ai ak/\Fr p w o/\(∀d b,d<r->b<c->(e_ c aH d b).natAbs<2^hB r q c)/\yn r f ai (uB r q c)/\yn r g ak (uB r q c):=by
 have aa:=hY Y be aU aM;obtain⟨bo,bl,bF,-⟩:=Y.cells;have bn:=Y.lt;clear Y be aU aM;go_in;go_wp2_with fail;go_fit (sN aa.g aw bD br bm bu bI);rintro ab t⟨bP,N,bt,bs,bg,aL,rfl,bG,a8,a0,a6,al,aW⟩;obtain⟨bK,bL,bQ,rfl,ac,ae,ag⟩:=bG;obtain⟨v,u,rfl⟩:=ac.slice;obtain⟨J,I,rfl⟩:=ae.slice;obtain⟨R,S,rfl⟩:=ag.slice;obtain⟨z,an⟩:=hQ (r*c);obtain⟨s,am⟩:=hQ (r*r);rw[<-an]at ac|-;rw[<-am]at ae ag|-;have bR:=b_ an am;clear an am;have T:=hU t (.cells #[.int .i64 r,.int .i64 c,.slice v z u,.int .i64 r,.int .i64 r,.slice J s I,.int .i64 r,.int .i64 r,.slice R s S,.int .i64 N] 74);have ao:=d_ al T;have bT:=al.size;have U:=aa.f.below ao bn;obtain⟨bq,bk,bH,-,-,-,-,-,-,-,-,-,-,-,-,bA⟩:=U.cells;have a5:p≠t.heap.size:=by omega
 have aN:vy (t.alloc (.cells #[.int .i64 r,.int .i64 c,.slice v z u,.int .i64 r,.int .i64 r,.slice J s I,.int .i64 r,.int .i64 r,.slice R s S,.int .i64 N] 74)) t.heap.size r c N (.slice v z u) (.slice J s I) (.slice R s S):=iP t _;have P:=U.put 0 (.int .i64 r) (.int .i64 c) (.slice v z u);have bc:Fr p w (t.alloc (.cells #[.int .i64 r,.int .i64 c,.slice v z u,.int .i64 r,.int .i64 r,.slice J s I,.int .i64 r,.int .i64 r,.slice R s S,.int .i64 N] 74)):=Fr.I ao;have a:=ju ((ac.below T).fr P) ((ae.below T).fr P) ((ag.below T).fr P) (U.JX (.slice v z u)) (aN.fr P (Ne.symm a5)) (bc.trans P);have A:=hY a8 a0 aW a6;clear ac ae ag a8 a0 aW a6 al T ao U bo bl bF aN P bc;go_wp2_with fail;obtain⟨H,W⟩:=hQ (nj (t.alloc (.cells #[.int .i64 r,.int .i64 c,.slice v z u,.int .i64 r,.int .i64 r,.slice J s I,.int .i64 r,.int .i64 r,.slice R s S,.int .i64 N] 74)) p 0 (.int .i64 r) (.int .i64 c) (.slice v z u));rw[<-W]at a;simp only[nj,jF]at W;rw[<-W];clear W bq bk bH bA;have aC:=a.m.lt;have bw:=a_ (show∀o,Below H.heap.size H o->o.cell? ⟨t.heap.size,3,none⟩=some (.int .i64 r)/\o.cell? ⟨t.heap.size,4,none⟩=some (.int .i64 r)/\o.cell? ⟨t.heap.size,5,none⟩=some (.slice J s I)/\o.cell? ⟨p,3,none⟩=some (.int .i64 r)/\o.cell? ⟨p,4,none⟩=some (.int .i64 r)/\o.cell? ⟨p,5,none⟩=some (.slice aE j m)from λo bf=>by
  obtain⟨-,-,-,ap,aD,aG,-⟩:=(a.m.below bf aC).cells;obtain⟨-,-,-,aI,aj,ar,-⟩:=(a.r.below bf a.r.lt).cells;exact⟨aI,aj,ar,ap,aD,aG⟩)
 obtain⟨aI,aj,ar,ap,aD,aG⟩:=bw.e H hP;go_region_with (go_at_call 86;refine(mn ((a.g.below hP.drew).mono aK) ((aa.j.fr a.z).below hP.drew) aZ).mono ?_;rintro ab X⟨bN,rfl,⟨bb,au,bj⟩,a4⟩;obtain⟨-,-,bO,rfl,aS⟩:=id au;obtain⟨M,G,rfl,-⟩:=aS.shape;have Q:Below H.heap.size H X:=(hP.drew).trans a4;have bz:=(a.m.below Q aC).cells;clear a4 aS);all_goals
  have az:=a.m.below Q aC;have ad:=az.put 3 (.int .i64 r) (.int .i64 r) (.slice M (r*r) G);have bi:=(a.r.below Q a.r.lt).fr ad (Ne.symm a5);have aX:Fr p H (nj X p 3 (.int .i64 r) (.int .i64 r) (.slice M (r*r) G)):=(Fr.I Q).trans ad;have h:=iu (au.fr ad) bj (show ox (nj X p 3 (.int .i64 r) (.int .i64 r) (.slice M (r*r) G)) p r c (.slice v z u) (.slice M (r*r) G) (.slice ay k n) x y from az.KZ _) bi aX;clear au bj Q az ad bi aX bz aI aj ar ap aD aG;go_wp2_with fail;obtain⟨aJ,ah⟩:=hQ (nj X p 3 (.int .i64 r) (.int .i64 r) (.slice M (r*r) G));rw[<-ah]at h;simp only[nj,Nat.reduceAdd]at ah;rw[<-ah];clear ah;have a9:=h.j.lt;obtain⟨-,-,-,-,-,-,bp,bJ,bE,-⟩:=h.j.cells;obtain⟨-,-,-,-,-,-,bx,bB,bC⟩:=h.m.cells;go_region_with (go_at_call 86;refine(mn (((aa.o.fr a.z).fr h.x).below hP.drew) (((a.j.fr h.x).below hP.drew).mono aK) aZ).mono ?_;rintro ab aA⟨bS,rfl,⟨aV,aB,aQ⟩,aP⟩;obtain⟨-,-,bM,rfl,a7⟩:=id aB;obtain⟨Z,V,rfl,-⟩:=a7.shape;have af:Below aJ.heap.size aJ aA:=(hP.drew).trans aP;have bv:=(h.j.below af a9).cells;clear aP a7);all_goals
   have ax:=h.j.below af a9;have aq:=ax.put 6 (.int .i64 r) (.int .i64 r) (.slice Z (r*r) V);have aT:Fr p aJ (nj aA p 6 (.int .i64 r) (.int .i64 r) (.slice Z (r*r) V)):=(Fr.I af).trans aq;have B:=hY (aB.fr aq) aQ (show ox (nj aA p 6 (.int .i64 r) (.int .i64 r) (.slice Z (r*r) V)) p r c (.slice v z u) (.slice M (r*r) G) (.slice Z (r*r) V) x y from ax.KV _) aT;clear aB aQ af ax aq aT bv bx bB bC bp bJ bE;go_wp2;go_end0;refine⟨rfl,_,_,_,_,_,_,_,_,_,bs,bb,aV,B.j,?_,(h.f).fr B.o,B.f,⟨N,bg,aL,A.j,?_,?_,?_,?_,?_,h.g,B.g,⟨bt,A.f⟩,A.g⟩,(a.z.trans h.x).trans B.o,λd b C D=>iW (A.o.h d b C D) (sE r q A.f.te),λav aF d b C D=>?_,λav aF d b C D=>?_⟩
   .exact(a.f.fr h.x).fr B.o
   .exact a.g.uY
   .exact a.j.uY
   .exact a.f.uY
   .exact h.f.uY
   .exact B.f.uY
   .rw[show e_ r bb d b=dot (e_ r bg) (e_ r f) d b r from h.g d b C D];exact s3 r aw (λE F=>iW (A.o.u d E C F) (oK r q A.f.te)) (λE F=>aF E b F D)
   .rw[show e_ r aV d b=dot (e_ r g) (e_ r aL) d b r from B.g d b C D,show av+uB r q c+4=uB r q c+av+4 by omega];exact s3 r aw (λE F=>aF d E C F) (λE F=>iW (A.o.w E b F D) (oK r q A.f.te))
def nW(r c:Nat)(zs ms:List Int):Prop:=ms.length=c*r/\∀a b,a<c->b<r->e_ r ms a b=e_ c zs b a
def pB(r c:Nat)(l vs ts m f i:List Int):Prop:=∃g e a d b h j,nW r c l e/\pR c r (e_ r e) r g (e3 c r a d b)/\a.length=c*r/\d.length=c*c/\b.length=c*c/\nW c r a m/\nW c c d h/\nW c c b j/\f.length=c*c/\i.length=c*c/\nZ c c c vs h f/\nZ c c c j ts i/\
 (∃k,iJ c r g k (e_ r a))/\jw (e_ r e) (e_ r a) (e_ c d) (e_ c b) c r
theorem yZ{p r c:Nat}{bq bz:Option Addr}{vs ts:List Int}{L K:Nat}{w:World}(aC:ox w p r c (.slice O i l) x y (.slice bq j m) (.slice bz k n))(bW:i_ w (.agg #[.int .i64 r,.int .i64 c,.slice O i l]) r c e L)(bL:i_ w (.agg #[.int .i64 c,.int .i64 c,.slice bq j m]) c c vs K)(bG:i_ w (.agg #[.int .i64 c,.int .i64 c,.slice bz k n]) c c ts K)(ch:r<=8)(bk:c<=8)(ci:∀b a,b<r->a<c->(e_ c e b a).natAbs<2^q)(b9:L<=60000000)(cn:hB c q r<=32*L)(cv:uB c q r<=32*L)(bs:L<=K)(bK:K<=200000000):Calls Tryz.prog 72 #[.pointer (some ⟨p,0,none⟩)] w λH ak=>H=.returned (.tuple #[])/\∃(v g o:Nat) (T aT bl:List Int),ox ak p r c (.slice (some ⟨v,0,none⟩) (r*c) (r*c)) x y (.slice (some ⟨g,0,none⟩) (c*c) (c*c)) (.slice (some ⟨o,0,none⟩) (c*c) (c*c))/\iA ak (.slice (some ⟨v,0,none⟩) (r*c) (r*c)) (r*c) T L/\iA ak (.slice (some ⟨g,0,none⟩) (c*c) (c*c)) (c*c) aT (K+K+1+c)/\iA ak (.slice (some ⟨o,0,none⟩) (c*c) (c*c)) (c*c) bl (K+K+1+c)/\(w.heap.size<=v/\v<g/\g<o)/\pB r c e vs ts T aT bl/\Fr p w ak/\(∀b a,b<r->a<c->(e_ c T b a).natAbs<2^hB c q r)/\yn c vs aT (uB c q r)/\yn c ts bl (uB c q r):=by
 have aE:=hY aC bW bL bG;obtain⟨cd,b5,cs,-⟩:=aC.cells;have cb:=aC.lt;clear aC bW bL bG;go_in;go_wp2_with fail;go_fit (ob aE.g);rintro H cy⟨cT,bS,rfl,bT,bf,aZ⟩;have bv:∀b a,b<c->a<r->(e_ r bS b a).natAbs<2^q:=λb a t u=>by rw[bf b a t u];exact ci a b u t
 have Y:=hY bT bf aZ bv;have cr:=aZ.size;clear bT bf aZ bv cd b5 cs;go_wp2_with fail;go_fit (sN Y.f bk ch Y.o b9 cn cv);rintro H F⟨cM,R,cl,ck,cq,b6,rfl,ct,bP,P,bM,a8,bI⟩;obtain⟨cw,cx,cO,rfl,aG,aK,aL⟩:=ct;obtain⟨an,aj,rfl⟩:=aG.slice;obtain⟨ad,aa,rfl⟩:=aK.slice;obtain⟨ah,ai,rfl⟩:=aL.slice;obtain⟨au,a3⟩:=hQ (c*r);obtain⟨A,a1⟩:=hQ (c*c);rw[<-a3]at aG|-;rw[<-a1]at aK aL|-;have cR:=b_ a3 a1;clear a3 a1;have av:=hU F (.cells #[.int .i64 c,.int .i64 r,.slice an au aj,.int .i64 c,.int .i64 c,.slice ad A aa,.int .i64 c,.int .i64 c,.slice ah A ai,.int .i64 R] 74);have bB:Below w.heap.size w (F.alloc (.cells #[.int .i64 c,.int .i64 r,.slice an au aj,.int .i64 c,.int .i64 c,.slice ad A aa,.int .i64 c,.int .i64 c,.slice ah A ai,.int .i64 R] 74)):=Y.j.trans ((d_ a8 av).mono cr);have bH:vy (F.alloc (.cells #[.int .i64 c,.int .i64 r,.slice an au aj,.int .i64 c,.int .i64 c,.slice ad A aa,.int .i64 c,.int .i64 c,.slice ah A ai,.int .i64 R] 74)) F.heap.size c r R (.slice an au aj) (.slice ad A aa) (.slice ah A ai):=iP F _;have s:=iu (aG.below av) (aK.below av) (aL.below av) bH bB;have C:=hY bP P bI bM;have cQ:w.heap.size<=F.heap.size:=by have:=a8.size;omega
 clear aG aK aL bP P bI bM a8 av bB bH;go_wp2_with fail;obtain⟨a0,aV⟩:=hQ (F.alloc (.cells #[.int .i64 c,.int .i64 r,.slice an au aj,.int .i64 c,.int .i64 c,.slice ad A aa,.int .i64 c,.int .i64 c,.slice ah A ai,.int .i64 R] 74));have cC:a0.heap.size=F.heap.size+1:=by rw[aV];simp
 rw[<-aV]at s|-;clear aV;go_fit (ob s.g);rintro H Q⟨cS,b1,rfl,aM,bO,aU⟩;obtain⟨-,-,cz,rfl,bN⟩:=id aM;obtain⟨ab,W,rfl,-⟩:=bN.shape;obtain⟨aw,bZ⟩:=hQ (c*c);rw[<-bZ]at aM|-;have a4:=hU Q (.cells #[.int .i64 c,.int .i64 c,.slice ab aw W] 66);have aR:Below a0.heap.size a0 (Q.alloc (.cells #[.int .i64 c,.int .i64 c,.slice ab aw W] 66)):=d_ aU a4;have bU:jk (Q.alloc (.cells #[.int .i64 c,.int .i64 c,.slice ab aw W] 66)) Q.heap.size (.int .i64 c) (.int .i64 c) (.slice ab aw W):=⟨fa _ _ _ _ _ rfl rfl,fa _ _ _ _ _ rfl rfl,fa _ _ _ _ _ rfl rfl⟩;have cP:=aU.size;have G:=hY (aM.below a4) bO aR bU;obtain⟨ae,ag,Z,ax,V,ac,al,aq,ar⟩:=(s.m.below aR s.m.lt).cells;clear aM bN aU a4 aR bU bO bZ;go_wp2_with fail;obtain⟨bo,bm⟩:=hQ (Q.alloc (.cells #[.int .i64 c,.int .i64 c,.slice ab aw W] 66));have cK:bo.heap.size=Q.heap.size+1:=by rw[bm];simp
 rw[<-bm]at G ae ag Z ax V ac al aq ar|-;clear bm;go_fit (ob (s.j.below G.j));rintro H M⟨cU,bJ,rfl,ay,bE,bb⟩;obtain⟨-,-,cH,rfl,br⟩:=id ay;obtain⟨af,U,rfl,-⟩:=br.shape;obtain⟨ap,b0⟩:=hQ (c*c);rw[<-b0]at ay|-;have a2:=hU M (.cells #[.int .i64 c,.int .i64 c,.slice af ap U] 66);have aI:Below bo.heap.size bo (M.alloc (.cells #[.int .i64 c,.int .i64 c,.slice af ap U] 66)):=d_ bb a2;have bR:jk (M.alloc (.cells #[.int .i64 c,.int .i64 c,.slice af ap U] 66)) M.heap.size (.int .i64 c) (.int .i64 c) (.slice af ap U):=⟨fa _ _ _ _ _ rfl rfl,fa _ _ _ _ _ rfl rfl,fa _ _ _ _ _ rfl rfl⟩;have cL:=bb.size;have be:=d_ G.j aI;have B:=ju (ay.below a2) bE be bR (G.o.later aI) (G.f.below aI);clear ae ag Z ax V ac al aq ar;obtain⟨ae,ag,Z,ax,V,ac,al,aq,ar⟩:=(s.m.below be s.m.lt).cells;clear ay br bb a2 aI be bR bE b0;go_wp2_with fail;obtain⟨cj,ba⟩:=hQ (M.alloc (.cells #[.int .i64 c,.int .i64 c,.slice af ap U] 66));have cJ:cj.heap.size=M.heap.size+1:=by rw[ba];simp
 rw[<-ba]at B ae ag Z ax V ac al aq ar|-;clear ba;go_fit (vW (s.f.below B.j));rintro H aF⟨v,T,rfl,cF,aH,bu,N⟩;obtain⟨z,bg⟩:=hQ (r*c);rw[<-bg]at aH|-;have b2:=a_ bg;clear bg;have cB:=N.size;have cD:=aH.ty.lt;have bC:=d_ B.j N;have aQ:Below w.heap.size w aF:=s.x.trans (bC.mono (by omega));have aJ:=aE.f.below aQ cb;have J:=aJ.put 0 (.int .i64 r) (.int .i64 c) (.slice (some ⟨v,0,none⟩) z z);obtain⟨cg,b4,cu,-,-,-,-,-,-,-,-,-,-,-,-,ao⟩:=aJ.cells;have bw:M.heap.size≠p:=by omega
 have b8:Q.heap.size≠p:=by omega
 have cG:v≠p:=by omega
 have f:=vD (show iA (nj aF p 0 (.int .i64 r) (.int .i64 c) (.slice (some ⟨v,0,none⟩) z z)) (.slice (some ⟨v,0,none⟩) z z) z T L from aH.hV J.2) bu (aJ.JX (.slice (some ⟨v,0,none⟩) z z)) ((B.m.later N).grown J.1 bw) ((B.r.later N).grown J.1 b8) ((B.f.below N).fr J) ((B.z.below N).fr J) ((Fr.I aQ).trans J);have cc:=J.1.size;clear aH bu N bC aQ aJ J ae ag Z ax V ac al aq ar;go_wp2_with fail;obtain⟨aB,aD⟩:=hQ (nj aF p 0 (.int .i64 r) (.int .i64 c) (.slice (some ⟨v,0,none⟩) z z));rw[<-aD]at f cc;simp only[nj,jF]at aD;rw[<-aD];clear aD cg b4 cu ao;obtain⟨-,-,-,-,-,-,-,-,-,cm,ca,b7,aX,aP,a6,ao⟩:=f.j.cells;obtain⟨aY,bh,bp⟩:=f.r;have bt:=f.j.lt;go_region_with (go_at_call 86;refine(rU ((aE.j.fr f.E).below hP.drew) ((f.A.below hP.drew).mono bs) bK).mono ?_;rintro H am⟨g,aW,rfl,bV,aN,bA,bF⟩;have S:Below aB.heap.size aB am:=(hP.drew).trans bF;have ce:=(f.j.below S bt).cells;clear bF);all_goals
  obtain⟨d,a5⟩:=hQ (c*c);rw[<-a5]at aN|-;have aA:=a_ a5;clear a5;have bd:=f.j.below S bt;have X:=bd.put 9 (.int .i64 c) (.int .i64 c) (.slice (some ⟨g,0,none⟩) d d);have bx:Fr p aB (nj am p 9 (.int .i64 c) (.int .i64 c) (.slice (some ⟨g,0,none⟩) d d)):=(Fr.I S).trans X;have cE:aF.heap.size<=g:=by have cp:aB.heap.size<=g:=bV;omega
  have cA:=aN.ty.lt;have co:=X.1.size;have cN:=S.size;have h:=iu (show iA (nj am p 9 (.int .i64 c) (.int .i64 c) (.slice (some ⟨g,0,none⟩) d d)) (.slice (some ⟨g,0,none⟩) d d) d aW (K+K+1+c)from aN.hV X.2) bA (bd.K9 (.slice (some ⟨g,0,none⟩) d d)) ((f.m.later S).grown X.1 bw) bx;clear aN bA S bd X bx ce bV cm ca b7 aX aP a6 ao aY bh bp;go_wp2_with fail;obtain⟨az,P⟩:=hQ (nj am p 9 (.int .i64 c) (.int .i64 c) (.slice (some ⟨g,0,none⟩) d d));rw[<-P]at h co;simp only[nj,Nat.reduceAdd]at P;rw[<-P];clear P;obtain⟨-,-,-,-,-,-,-,-,-,-,-,-,aX,aP,a6,ao⟩:=h.j.cells;obtain⟨aY,bh,bp⟩:=h.m;have bQ:=h.j.lt;go_region_with (go_at_call 86;refine(rU (((f.y.fr h.x).below hP.drew).mono bs) (((aE.o.fr f.E).fr h.x).below hP.drew) bK).mono ?_;rintro H bi⟨o,a7,rfl,bY,bc,b3,bD⟩;have aO:Below az.heap.size az bi:=(hP.drew).trans bD;have cf:=(h.j.below aO bQ).cells;clear bD);all_goals
   rw[<-aA.e]at bc|-;have bj:=h.j.below aO bQ;have aS:=bj.put 12 (.int .i64 c) (.int .i64 c) (.slice (some ⟨o,0,none⟩) d d);have bX:Fr p az (nj bi p 12 (.int .i64 c) (.int .i64 c) (.slice (some ⟨o,0,none⟩) d d)):=(Fr.I aO).trans aS;have cI:am.heap.size<=o:=by have cp:az.heap.size<=o:=bY;omega
   have I:=hY (show iA (nj bi p 12 (.int .i64 c) (.int .i64 c) (.slice (some ⟨o,0,none⟩) d d)) (.slice (some ⟨o,0,none⟩) d d) d a7 (K+K+1+c)from bc.hV aS.2) b3 (bj.KS (.slice (some ⟨o,0,none⟩) d d)) bX;clear bc b3 aO bj aS bX cf bY aX aP a6 ao aY bh bp;go_wp2;go_end0;rw[<-b2.e,<-aA.e];refine⟨rfl,v,g,o,T,aW,a7,I.j,?_,?_,I.f,⟨?_,?_,?_⟩,?_,(f.E.trans h.x).trans I.o,λb a t u=>?_,λa9 bn b a t u=>?_,λa9 bn b a t u=>?_⟩
   .exact(f.f.hV h.z).hV I.x
   .exact h.f.hV I.x
   .omega
   .omega
   .omega
   .refine⟨R,bS,ck,cq,b6,b1,bJ,⟨Y.f.uY,Y.g⟩,C.j,s.f.uY,s.g.uY,s.j.uY,⟨?_,f.g⟩,⟨G.f.uY,G.g⟩,⟨B.f.uY,B.g⟩,?_,?_,h.g,I.g,⟨cl,C.f⟩,C.g⟩
    .rw[<-b2.e];exact f.f.1
    .rw[<-aA.e];exact h.f.1
    .rw[<-aA.e];exact I.f.1
   .rw[f.g b a t u];exact iW (C.o.h a b u t) (sE c q C.f.te)
   .rw[show e_ c aW b a=dot (e_ c vs) (e_ c b1) b a c from h.g b a t u,show a9+uB c q r+4=uB c q r+a9+4 by omega];exact s3 c bk (λD E=>bn b D t E) (λD E=>by rw[G.g D a E u];exact iW (C.o.u a D u E) (oK c q C.f.te))
   .rw[show e_ c a7 b a=dot (e_ c bJ) (e_ c ts) b a c from I.g b a t u];exact s3 c bk (λD E=>by rw[B.g b D t E];exact iW (C.o.w D b E t) (oK c q C.f.te)) (λD E=>bn D a E u)
def AD(r c a:Nat)(e vs ts h f g:List Int):Prop:=h.length=r*c/\f.length=c*c/\g.length=c*c/\(∀b d,b<r->d<c->e_ c h b d=if d=a then e_ c e b a+e_ c e b (a+1)else e_ c e b d)/\(∀b d,b<c->d<c->e_ c f b d=if d=a then e_ c vs b a+e_ c vs b (a+1)else e_ c vs b d)/\
 ∀b d,b<c->d<c->e_ c g b d=if b=a+1 then e_ c ts (a+1) d-e_ c ts a d else e_ c ts b d
def uI(r c a:Nat)(d:List Int):Prop:=a+1<r/\a+1<c/\¬e_ c d a a∣e_ c d (a+1) (a+1)/\∀b,b<a->e_ c d b b∣e_ c d (b+1) (b+1)
def JF(w f:World)(g1 g2 g3:Nat):Prop:=∀b e c d,iA w b e c d->(∀a g h,b=.slice (some a) g h->a.block≠g1/\a.block≠g2/\a.block≠g3)->iA f b e c d
theorem iA.lt{w:World}{a:Addr}{m n L:Nat}{zs:List Int}(h:iA w (.slice (some a) m i) n zs L):a.block<w.heap.size:=by
 obtain⟨j,l,c,k⟩:=h;rcases c.2 with⟨e,_⟩|⟨g,q,p,b,f,d,o⟩
 .simp at e
 .simp only[iC,iH]at b;rw[b.1];exact(jt.1 d).1
def Jd(w a:World)(p r c h g f:Nat)(n m:Value)(d vs ts:List Int)(L K:Nat)(e:Ending):Prop:=
 (e=.returned (.bool false)/\(∀b,b+1<r->b+1<c->e_ c d b b∣e_ c d (b+1) (b+1))/\Below w.heap.size w a)\/(e=.returned (.bool true)/\∃k l i j,uI r c k d/\AD r c k d vs ts l i j/\ox a p r c (.slice (some ⟨h,0,none⟩) (r*c) (r*c)) n m (.slice (some ⟨g,0,none⟩) (c*c) (c*c)) (.slice (some ⟨f,0,none⟩) (c*c) (c*c))/\iA a (.slice (some ⟨h,0,none⟩) (r*c) (r*c)) (r*c) l (L+3)/\iA a (.slice (some ⟨g,0,none⟩) (c*c) (c*c)) (c*c) i (K+3)/\iA a (.slice (some ⟨f,0,none⟩) (c*c) (c*c)) (c*c) j (K+3)/\jv w a h g f/\JF w a h g f)
theorem ox.Ld{w:World}{p r c:Nat}{b a:Value}(h:ox w p r c x y z b a):x4 w p 0 (.int .i64 r) (.int .i64 c) x:=⟨h.cells.1,h.cells.2.1,h.cells.2.2.1⟩
theorem ox.K6{w:World}{p r c:Nat}{a d:Value}(h:ox w p r c x y z a d):x4 w p 9 (.int .i64 c) (.int .i64 c) a:=by
 obtain⟨-,-,-,-,-,-,-,-,-,f,b,e,-⟩:=h.cells;exact⟨f,b,e⟩
theorem ox.KX{w:World}{p r c:Nat}{f a:Value}(h:ox w p r c x y z f a):x4 w p 12 (.int .i64 c) (.int .i64 c) a:=by
 obtain⟨-,-,-,-,-,-,-,-,-,-,-,-,e,b,d,-⟩:=h.cells;exact⟨e,b,d⟩
theorem ox.grown{w:World}{p r c g:Nat}{b a:Value}(h:ox w p r c x y z b a)(d:w.grownBy v (some g))(e:p≠g):ox v p r c x y z b a:=(d.block p h.lt (by simpa using e)).trans h
theorem iA.else{w:World}{g n L:Nat}{zs:List Int}(h:iA w (.slice (some ⟨g,0,none⟩) n n) n zs L)(a:w.grownBy v (some i))(b:KU w v)(c:g≠i):iA v (.slice (some ⟨g,0,none⟩) n n) n zs L:=h.s4 a b c
theorem HS{p r c:Nat}{vs ts:List Int}{L K:Nat}{w:World}(Q:ox w p r c (.slice (some ⟨i,0,none⟩) (r*c) (r*c)) x y (.slice (some ⟨j,0,none⟩) (c*c) (c*c)) (.slice (some ⟨k,0,none⟩) (c*c) (c*c)))(aY:iA w (.slice (some ⟨i,0,none⟩) (r*c) (r*c)) (r*c) e L)(aO:iA w (.slice (some ⟨j,0,none⟩) (c*c) (c*c)) (c*c) vs K)(aK:iA w (.slice (some ⟨k,0,none⟩) (c*c) (c*c)) (c*c) ts K)(aP:r<=99)(D:c<=99)(a4:p≠i)(aW:p≠j)(aD:p≠k)(aQ:i≠j)(aC:i≠k)(aH:j≠k)(a7:L<=200000000)(aN:K<=200000000):Calls Tryz.prog 74 #[.pointer (some ⟨p,0,none⟩)] w λg bb=>Jd w bb p r c i j k x y e vs ts L K g:=by
 have o:=hY Q aY aO aK;obtain⟨a9,a5,a3,-⟩:=Q.cells;have a8:=Q.lt;clear Q aY aO aK;obtain⟨bs,aq⟩:=hQ (r*c);have bg:=a_ aq;rw[<-aq]at a3;clear aq;go_in;go_wp2_with fail;go_fit (yv ⟨aP,D,_,rfl,by rw[bg.e];exact o.g⟩ (by omega));rintro g aB⟨⟨bo,rfl,a2⟩,ae⟩;have ad:=b_ a2 ae;have bd:=ae.size;clear a2 ae a9 a5 a3;rcases ad.f with⟨rfl,aM⟩|⟨m,rfl,aF,aU,aG,aJ⟩
 .have ak:=a_ aM;clear aM;go_wp2;go_ret;exact .inl ⟨rfl,ak.e,ad.i⟩
 .have ak:=a_ (show uI r c m e from⟨aF,aU,aG,aJ⟩);clear aG aJ;go_wp2_with fail;go_fit (mU);rintro g q⟨bt,rfl,an,al⟩;obtain⟨af,ao,ah,ar,rfl⟩:=an.shape;have av:=hU q (.cells #[.bool af,.slice ao ah ar] 79);have aL:Below aB.heap.size aB (q.alloc (.cells #[.bool af,.slice ao ah ar] 79)):=d_ al av;have l:=iw.new q (.bool af) (.slice ao ah ar) rfl;have R:=hO (an.below av) (ad.i.trans (aL.mono bd)) l;have bv:w.heap.size<=q.heap.size:=by have:=al.size;omega
  clear an al av aL l;go_wp2_with fail;go_fit (nA R.f);rintro g z⟨bw,rfl,aa,ab⟩;obtain⟨O,X,S,U,rfl⟩:=aa.shape;have aj:=hU z (.cells #[.bool O,.slice X S U] 79);have bA:q.heap.size+1<=z.heap.size:=by have:=ab.size;simpa using this
  have W:=d_ ab aj;have ap:Below w.heap.size w (z.alloc (.cells #[.bool O,.slice X S U] 79)):=R.g.trans (W.mono (by simp;omega));have B:=iw.new z (.bool O) (.slice X S U) rfl;have l:=R.l.below W (by simp);have aS:=o.f.below ap a8;have a:=ju (aa.below aj) (R.f.below W) B l aS ap;obtain⟨P,V,-,-⟩:=B.cells;obtain⟨E,C,-,-⟩:=l.cells;clear aa ab aj W ap B l aS;go_wp2_with fail;obtain⟨u,ac⟩:=hQ (z.alloc (.cells #[.bool O,.slice X S U] 79));have bl:u.heap.size=z.heap.size+1:=by rw[ac];simp
  rw[<-ac]at a P V E C|-;clear ac;obtain⟨H,aA⟩:=hQ (m+1);have bC:(m:Int)+1=(H:Int):=by omega
  have Y:=a_ aA;have Z:H<c:=by omega
  have ag:m<c:=by omega
  have ai:m≠H:=by omega
  have bm:-9223372036854775808<=(H:Int)/\(H:Int)<=9223372036854775807:=by omega
  clear aA aF aU;have bz:=a.r.lt;go_still_tail 7,(by kernel_rfl);go_wp2_with fail;have d:=(kQ u.heap.size u).drew;have a0:iT u.drew p 0 i r c e L:=⟨aP,D,(a.r.Ld).later d,((o.g.below a.z)).below d⟩;go_fit (qo a0 (a.f.below d) a7 (by omega) a4 ag Z ai);rintro g h⟨rfl,⟨bi,ay,az⟩,aw⟩;have s:u.grownBy h (some i):=hZ (ib (jM u (some i)) d) aw;have M:KU u h:=KU.N s ((o.g.below a.z).ty) (by decide);have bk:i<w.heap.size:=o.g.ty.lt;have bj:j<w.heap.size:=o.j.ty.lt;have bu:k<w.heap.size:=o.o.ty.lt;have br:=a.z.size;have B:=(s.block z.heap.size (by omega) (by simp;omega)).trans a.j;have l:=(s.block q.heap.size (by omega) (by simp;omega)).trans a.m;have b:=tk ay az ((o.j.below a.z).else s M (Ne.symm aQ)) ((o.o.below a.z).else s M (Ne.symm aC)) (a.f.hV M) (a.g.hV M) (show iw h z.heap.size _ _ from B) (show iw h q.heap.size _ _ from l) (a.r.grown s a4) s;have bx:=s.size;clear d a0 ay az aw s M B l P V E C;obtain⟨P,V,-,-⟩:=b.A.cells;obtain⟨E,C,-,-⟩:=b.B.cells;go_wp2_with fail;go_still_tail 7,(by kernel_rfl);go_wp2_with fail;have d:=(kQ h.heap.size h).drew;have aE:iT h.drew p 9 j c c vs K:=⟨D,D,(b.D.K6).later d,b.j.below d⟩;go_fit (qo aE (b.r.below d) aN (by omega) aW ag Z ai);rintro g n⟨rfl,⟨a6,aT,aV⟩,a1⟩;have v:h.grownBy n (some j):=hZ (ib (jM h (some j)) d) a1;have T:KU h n:=KU.N v b.j.ty (by decide);have l:=(v.block q.heap.size (by omega) (by simp;omega)).trans b.B;have f:=vD aT aV (b.f.kA.else v T aQ) (b.m.else v T (Ne.symm aH)) (b.y.hV T) (show iw n q.heap.size _ _ from l) (b.D.grown v aW) v;have bn:=v.size;clear d aE aT aV a1 v T l P V E C;obtain⟨E,C,-,-⟩:=f.y.cells;go_wp2_with fail;go_still_tail 7,(by kernel_rfl);go_wp2_with fail;have d:=(kQ n.heap.size n).drew;have ax:iT n.drew p 12 k c c ts K:=⟨D,D,(f.A.KX).later d,f.m.below d⟩;go_fit (lK ax (f.r.below d) aN (by omega) aD Z ag (Ne.symm ai));rintro g aX⟨rfl,⟨bc,aZ,aI⟩,aR⟩;have A:n.grownBy aX (some k):=hZ (ib (jM n (some k)) d) aR;have au:KU n aX:=KU.N A f.m.ty (by decide);have t:=ju aZ aI (f.j.else A au aC) (f.f.kA.else A au aH) (f.A.grown A aD) A;clear d ax aZ aI aR A au E C;go_wp2;go_ret;refine .inr ⟨rfl,m,bi,a6,bc,ak.e,⟨b.f.len,f.f.len,t.f.len,λG F I J=>?_,λG F I J=>?_,λG F I J=>?_⟩,t.r,t.j,t.m,t.f.kA,?_⟩
  .rw[b.g G F I J,Y.e];split
   .omega
   .rfl
  .rw[f.g G F I J,Y.e];split
   .omega
   .rfl
  .rw[t.g G F I J,Y.e];split
   .omega
   .rfl
  .refine⟨?_,λbq bp bB L be am=>?_⟩;rotate_left
   .have bh:KU u h:=KU.N b.K ((o.g.below a.z).ty) (by decide);have ba:KU h n:=KU.N f.E b.j.ty (by decide);have bf:KU n _:=KU.N t.z f.m.ty (by decide);exact(((be.below a.z).grown b.K (λm N c g=>(am m N c g).1) bh).grown f.E (λm N c g=>(am m N c g).2.1) ba).grown t.z (λm N c g=>(am m N c g).2.2) bf
   exact(((jv.I i j k a.z).trans (jv.N b.K (.inl rfl))).trans (jv.N f.E (.inr (.inl rfl)))).trans (jv.N t.z (.inr (.inr rfl)))
namespace R
theorem He(f:Nat->Int)(M:Nat):∀a,(∀b,b<a->(f b).natAbs<=M)->(jP a f).natAbs<=a*M:=by
 intro a;induction a with
 |zero=>intro _;simp[jP]
 |succ a d=>
  intro c;rw[jP,rG];have e:=d (λb h=>c b (by omega));have g:=c a (by omega);omega
def Il:Nat->Nat
 |0=>1
 |a+1=>(a+1)*Il a
theorem FR(B:Nat):∀(b:List (Nat->Int)) (a:List Nat),a.length=b.length->(∀d∈b,∀f∈a,(d f).natAbs<=B)->(mv b a).natAbs<=Il b.length*B^b.length:=by
 intro b;induction b with
 |nil=>intro a _ _;simp[mv,Il]
 |cons d b l=>
  intro a p g;rw[mv];have k:a.length=b.length+1:=by simpa using p
  have i:=He (λc=>signed c (d (a.getD c 0)*mv b (a.eraseIdx c))) (B*(Il b.length*B^b.length)) a.length (λc h=>?_)
  .refine iy i ?_;rw[k,j3,Il,jx];refine Nat.le_of_eq ?_;rw[jG,ij B,jG]
  .have e:a.getD c 0∈a:=by
    rw[List.getD,iI h];exact lf _
   have m:=g d (by simp) _ e;have n:=l (a.eraseIdx c) (by rw[List.length_eraseIdx_of_lt h];omega) (λj o f e=>g j (by simp[o]) f (xS e));have q:(signed c (d (a.getD c 0)*mv b (a.eraseIdx c))).natAbs=(d (a.getD c 0)).natAbs*(mv b (a.eraseIdx c)).natAbs:=by
    unfold signed;split
    .rw[x8,np]
    .rw[np]
   rw[q];exact jR m n
theorem Ea{A:Nat->Nat->Int}{r c k B:Nat}(j:k<=4)(C:∀e l,e<r->l<c->(A e l).natAbs<=B)(x:iU A r c k≠0):iU A r c k<=Il k*B^k:=by
 have s:¬yu A r c k:=λn=>x ((oF A r c k j).2 n);have y:∃a:List Nat,a.length=k/\(∀h∈a,h<r)/\∃b∈ik k c,mv (a.map A) b≠0:=by
  refine qe λo=>s λa d f b g=>qe λm=>o ⟨a,d,f,b,g,m⟩
 obtain⟨a,d,f,b,g,m⟩:=y;obtain⟨i,z⟩:=jC k c b g;have q:=(la (iU A r c k) A r c k j).1 (uk _) b g a (by rw[d,i]) f;have w:iU A r c k∣(mv (a.map A) b).natAbs:=by
  have:=Dj.2 q;simpa using this
 have D:=Nat.le_of_dvd (by omega) w;have u:=FR B (a.map A) b (by rw[rJ,i,d]) (λE t h p=>by
  obtain⟨e,v,rfl⟩:=kt.1 t;exact C e h (f e v) (z h p))
 rw[rJ,d]at u;omega
theorem K1{k:Nat}(d:k<=4){B:Nat}(b:B<=2^48):Il k*B^k<2^197:=by
 have c:B^k<=(2^48)^k:=vH b k;have a:Il k*(2^48)^k<2^197:=by
  obtain rfl|rfl|rfl|rfl|rfl:k=0\/k=1\/k=2\/k=3\/k=4:=by omega
  all_goals decide
 exact Dk (jJ _ c) a
theorem mi.congr{A D U S k m V' j:Nat->Nat->Int}{r c:Nat}(h:mi A D U S B F r c)(n:∀a b,a<r->b<c->G a b=D a b)(i:∀a b,a<r->b<r->k a b=U a b)(q:∀a b,a<r->b<r->m a b=S a b)(l:∀a b,a<c->b<c->V' a b=B a b)(o:∀a b,a<c->b<c->j a b=F a b):mi A G k m V' j r c:=by
 refine⟨λa b f g=>?_,λa b f g=>?_,λa b f g=>?_⟩
 .rw[n a b f g,<-h.d a b f g];exact ln (λd _=>ln (λp s=>i a p f s) (λ_ _=>rfl)) (λd e=>l d b e g)
 .rw[<-h.us a b f g];exact ln (λd e=>i a d f e) (λd e=>q d b e g)
 .rw[<-h.vt a b f g];exact ln (λd e=>l a d f e) (λd e=>o d b e g)
theorem lz.congr{r c k:Nat}{D:Nat->Nat->Int}(h:lz r c k D)(f:∀a b,a<r->b<c->A a b=D a b):lz r c k A:=by
 have j:=h.kr;have l:=h.kc;exact⟨h.kr,h.kc,λa b d e i=>by rw[f a b d e];exact h.up a b d e i,λa b d e g=>by rw[f a b d e];exact h.out a b d e g,λa d=>by rw[f a a (by omega) (by omega)];exact h.pos a d⟩
theorem o8{D:Nat->Nat->Int}:∀c b,(∀a,b<=a->a<b+c->A a a=D a a)->pr A b c=pr D b c:=by
 intro c;induction c with
 |zero=>intro b _;rfl
 |succ c e=>
  intro b d;rw[pr,pr,d b (by omega) (by omega),e (b+1) (λa g f=>d a (by omega) (by omega))]
end R
section
open R
theorem vd{r q c:Nat}{zs ys ms:List Int}(h:nZ r q c zs ys ms)(g:nZ r q c zs ys e)(j:ms.length=r*c)(i:e.length=r*c):ms=e:=
 iR j i λd a b f=>(h d a b f).trans (g d a b f).symm
theorem nW.uniq{r c:Nat}{zs ms:List Int}(h:nW r c zs ms)(b:nW r c zs e):ms=e:=
 iR h.1 b.1 λf a d g=>(h.2 f a d g).trans (b.2 f a d g).symm
theorem oT.Bh{r c:Nat}{j i b a k d:List Int}(h:oT r c e f g j i b)(m:oT r c e f g a k d):j=a/\i=k/\b=d:=by
 obtain⟨G,L,H,D,E,z,o,s,u,t,n,-,-⟩:=h;obtain⟨J,I,K,B,p,v,F,x,w,C,A,-,-⟩:=m;obtain⟨-,l,y,q⟩:=pR.Bh c c_ _ _ _ _ D B;obtain rfl:=iR E p y;obtain rfl:=iR z v q;exact⟨iR o F l,vd t C s x,vd n A u w⟩
theorem pB.Bh{r c:Nat}{vs ts b a d i:List Int}(h:pB r c e vs ts f g b)(o:pB r c e vs ts a d i):f=a/\g=d/\b=i:=by
 obtain⟨M,V,Q,Z,O,U,S,y,I,E,L,B,v,u,k,m,G,w,q,-,-⟩:=h;obtain⟨X,R,N,W,Y,T,P,F,H,K,s,x,p,j,z,C,l,J,D,-,-⟩:=o;obtain rfl:=y.uniq F;obtain⟨-,n,A,t⟩:=pR.Bh r c_ _ _ _ _ I H;obtain rfl:=iR E K n;obtain rfl:=iR L s A;obtain rfl:=iR B x t;obtain rfl:=u.uniq j;obtain rfl:=k.uniq z;exact⟨v.uniq p,vd w J m C,vd q D G l⟩
theorem uI.uniq{r c a b:Nat}(h:uI r c a e)(f:uI r c b e):a=b:=by
 rcases mY a b with d|d|d
 .exact absurd (f.2.2.2 a d) h.2.2.1
 .exact d
 .exact absurd (h.2.2.2 b d) f.2.2.1
theorem AD.Bh{r c a:Nat}{vs ts o l m n:List Int}(h:AD r c a e vs ts f g o)(k:AD r c a e vs ts l m n):f=l/\g=m/\o=n:=
 ⟨iR h.1 k.1 λi b d j=>(h.2.2.2.1 i b d j).trans (k.2.2.2.1 i b d j).symm,iR h.2.1 k.2.1 λi b d j=>(h.2.2.2.2.1 i b d j).trans (k.2.2.2.2.1 i b d j).symm,iR h.2.2.1 k.2.2.1 λi b d j=>(h.2.2.2.2.2 i b d j).trans (k.2.2.2.2.2 i b d j).symm⟩
structure D5 where
 d:List Int
 u:List Int
 s:List Int
 v:List Int
 t:List Int
def mZ(r c:Nat)(d:List Int):Prop:=∀a b,a<r->b<c->a≠b->e_ c d a b=0
def yk(r c:Nat)(b:List Int):Prop:=∀a,a+1<r->a+1<c->e_ c b a a∣e_ c b (a+1) (a+1)
def D5.Cr(r c:Nat)(x y:D5):Prop:=∃a,oT r c x.d x.u x.s a y.u y.s/\pB r c a x.v x.t y.d y.v y.t
def D5.yT(r c:Nat)(x y:D5):Prop:=∃a,uI r c a x.d/\AD r c a x.d x.v x.t y.d y.v y.t/\y.u=x.u/\y.s=x.s
theorem D5.Hu{r c:Nat}{x y z:D5}(h:D5.Cr r c x y)(l:D5.Cr r c x z):y=z:=by
 obtain⟨m,k,g⟩:=h;obtain⟨n,i,j⟩:=l;obtain⟨rfl,a,b⟩:=k.Bh i;obtain⟨d,f,e⟩:=g.Bh j
 cases y;cases z;simp only at a b d f e;subst a b d f e;rfl
theorem D5.HD{r c:Nat}{x y z:D5}(h:D5.yT r c x y)(k:D5.yT r c x z):y=z:=by
 obtain⟨p,n,l,a,b⟩:=h;obtain⟨o,j,m,d,i⟩:=k;obtain rfl:=n.uniq j;obtain⟨e,g,f⟩:=l.Bh m
 cases y;cases z;simp only at a b d i e g f;subst a b e g f;rw[d,i]
def D5.runN(r c:Nat):Nat->D5->D5->Prop
 |0,_,_=>False
 |d+1,f,b=>∃a,D5.Cr r c f a/\((mZ r c a.d/\yk r c a.d/\a=b)\/(¬mZ r c a.d/\D5.runN r c d a b)\/(mZ r c a.d/\∃e,D5.yT r c a e/\D5.runN r c d e b))
def D5.run(r c:Nat)(x y:D5):Prop:=∃a,D5.runN r c a x y
theorem D5.run.stop{r c:Nat}{x y:D5}(a:D5.Cr r c x y)(b:mZ r c y.d)(d:yk r c y.d):D5.run r c x y:=⟨1,y,a,.inl ⟨b,d,rfl⟩⟩
theorem D5.run.more{r c:Nat}{x y z:D5}(a:D5.Cr r c x y)(n:¬mZ r c y.d)(g:D5.run r c y z):D5.run r c x z:=g.elim λb g=>⟨b+1,y,a,.inr (.inl ⟨n,g⟩)⟩
theorem D5.run.mix{r c:Nat}{x y m z:D5}(a:D5.Cr r c x y)(b:mZ r c y.d)(h:D5.yT r c y m)(g:D5.run r c m z):D5.run r c x z:=g.elim λd g=>⟨d+1,y,a,.inr (.inr ⟨b,m,h,g⟩)⟩
theorem D5.HB{r c:Nat}{x y:D5}(h:D5.run r c x y):∀{l},D5.run r c x l->y=l:=by
 obtain⟨q,h⟩:=h;induction q generalizing x with
 |zero=>exact h.elim
 |succ q p=>
  obtain⟨z,v,h⟩:=h;intro l a;obtain⟨d,a⟩:=a
  cases d with
  |zero=>exact a.elim
  |succ d=>
   obtain⟨B,u,a⟩:=a;obtain rfl:=D5.Hu v u;rcases h with⟨e,s,rfl⟩|⟨n,k⟩|⟨e,A,o,k⟩
   .rcases a with⟨_,_,rfl⟩|⟨m,_⟩|⟨_,t,g,_⟩
    .rfl
    .exact absurd e m
    .obtain⟨f,b,-⟩:=g;exact absurd (s f b.1 b.2.1) b.2.2.1
   .rcases a with⟨i,_,_⟩|⟨_,j⟩|⟨i,_⟩
    .exact absurd i n
    .exact p k ⟨d,j⟩
    .exact absurd i n
   .rcases a with⟨_,w,_⟩|⟨m,_⟩|⟨_,t,g,j⟩
    .obtain⟨f,b,-⟩:=o;exact absurd (w f b.1 b.2.1) b.2.2.1
    .exact absurd e m
    .obtain rfl:=D5.HD o g;exact p k ⟨d,j⟩
theorem oT.inv{A:Nat->Nat->Int}{r c:Nat}{l k j:List Int}(h:oT r c e f g l k j)(m:mi A (e_ c e) (e_ r f) (e_ r g) B F r c):mi A (e_ c l) (e_ r k) (e_ r j) B F r c:=by
 obtain⟨q,x,s,y,z,w,t,u,v,o,n,-,p⟩:=h;exact(m.rows p).congr (λ_ _ _ _=>rfl) (λa b d i=>o a b d i) (λa b d i=>n a b d i) (λ_ _ _ _=>rfl) (λ_ _ _ _=>rfl)
theorem pB.form{r c:Nat}{vs ts w:List Int}(h:pB r c e vs ts f g w):∃d j i v m,iJ c r d j i/\jw (tr (e_ c e)) i v m c r/\∀a b,a<r->b<c->e_ c f a b=tr i a b:=by
 obtain⟨d,F,p,u,n,D,C,s,I,G,J,E,o,A,x,y,H,B,z,⟨j,q⟩,t⟩:=h;exact⟨d,j,e_ r p,e_ c u,e_ c n,q,t.congr (λa b k l=>(s.2 a b k l).symm) (λ_ _ _ _=>rfl) (λ_ _ _ _=>rfl) (λ_ _ _ _=>rfl),λa b k l=>o.2 a b k l⟩
theorem pB.inv{A U S:Nat->Nat->Int}{r c:Nat}{vs ts l:List Int}(h:pB r c e vs ts f g l)(m:mi A (e_ c e) U S (e_ c vs) (e_ c ts) r c):mi A (e_ c f) U S (e_ c g) (e_ c l) r c:=by
 obtain⟨z,F,u,y,q,D,C,w,I,G,J,E,t,s,n,B,H,v,p,-,x⟩:=h;have o:jw (tr (e_ c e)) (e_ r u) (e_ c y) (e_ c q) c r:=x.congr (λa b d i=>(w.2 a b d i).symm) (λ_ _ _ _=>rfl) (λ_ _ _ _=>rfl) (λ_ _ _ _=>rfl);refine(m.D2 o).congr (λa b d i=>t.2 a b d i) (λ_ _ _ _=>rfl) (λ_ _ _ _=>rfl) (λa b d i=>?_) (λa b d i=>?_)
 .exact(v a b d i).trans (k8 c (λ_ _=>rfl) (λj k=>s.2 j b k i))
 .exact(p a b d i).trans (k8 c (λj k=>n.2 a j d k) (λ_ _=>rfl))
theorem D5.Hn{A:Nat->Nat->Int}{r c:Nat}{x y:D5}(h:D5.Cr r c x y)(b:mi A (e_ c x.d) (e_ r x.u) (e_ r x.s) (e_ c x.v) (e_ c x.t) r c):mi A (e_ c y.d) (e_ r y.u) (e_ r y.s) (e_ c y.v) (e_ c y.t) r c:=by
 obtain⟨e,d,a⟩:=h;exact a.inv (d.inv b)
theorem D5.Hf{A:Nat->Nat->Int}{r c:Nat}{x y:D5}(h:D5.yT r c x y)(i:mi A (e_ c x.d) (e_ r x.u) (e_ r x.s) (e_ c x.v) (e_ c x.t) r c):mi A (e_ c y.d) (e_ r y.u) (e_ r y.s) (e_ c y.v) (e_ c y.t) r c:=by
 obtain⟨l,j,f,k,g⟩:=h;rw[k,g];exact(i.mix j.2.1).congr (λd a b e=>f.2.2.2.1 d a b e) (λ_ _ _ _=>rfl) (λ_ _ _ _=>rfl) (λd a b e=>f.2.2.2.2.1 d a b e) (λd a b e=>f.2.2.2.2.2 d a b e)
theorem Ak{r c k B:Nat}{D:Nat->Nat->Int}(h:lz r c k D)(l:∀a d,a<d->d<k->0<=D d a/\D d a<D d d)(s:pr D 0 k<2^B):∀a b,a<r->b<c->(D a b).natAbs<2^B:=by
 intro a b g j;have q:(0:Int)<2^B:=Int.pow_pos (by decide);have f:(0:Int).natAbs<2^B:=by
  have:0<2^B:=kx (by decide);simpa using this
 have n:((2^B:Nat):Int)=2^B:=by simp
 by_cases m:k<=a\/k<=b
 .rw[h.out a b g j m];exact f
 .have o:=GX (X:=D) (k:=k) (i:=a) h.pos (by omega);have p:=h.pos a (by omega);rcases mY a b with e|e|e
  .rw[h.up a b g j e];exact f
  .subst e;omega
  .have:=l b a e (by omega);omega
theorem R.xR.bits{r c k B:Nat}{D:Nat->Nat->Int}(h:xR r c k D A)(j:lz r c k D)(n:pr D 0 k<2^B):(∀a b,a<r->b<c->(A a b).natAbs<2^B)/\pr (tr A) 0 k<2^B:=by
 have m:pr A 0 k<=pr D 0 k:=Int.le_of_dvd (j.lF c_) (h.dvd k c_);have d:pr (tr A) 0 k<2^B:=by rw[uE];omega
 exact⟨λa b g l=>Ak h.low (λa e f i=>h.red a e f i) d b a l g,d⟩
theorem oT.bits{r c k B:Nat}{i q j:List Int}(h:oT r c e f g i q j)(a:lz r c k (e_ c e))(n:k<=4)(o:pr (e_ c e) 0 k<2^B):∀b d,b<r->d<c->(e_ c i b d).natAbs<2^B:=by
 obtain⟨A,C,t,D,E,z,u,v,y,x,s,⟨w,l⟩,p⟩:=h;obtain⟨rfl,-,m⟩:=tG a n l p;exact(m.bits a o).1
theorem D5.zp{r c k B:Nat}{x y:D5}(h:D5.Cr r c x y)(i:lz r c k (e_ c x.d))(D:k<=4)(E:pr (e_ c x.d) 0 k<2^B):lz r c k (e_ c y.d)/\pr (e_ c y.d) 0 k<2^B/\(∀b d,b<r->d<c->(e_ c y.d b d).natAbs<2^B)/\(∀a,a<=k->pr (e_ c y.d) 0 a∣pr (e_ c x.d) 0 a)/\((∀a,a<=k->pr (e_ c y.d) 0 a=pr (e_ c x.d) 0 a)->mZ r c y.d/\∀b d,b<k->d<k->e_ c x.d d d∣e_ c x.d b d):=by
 obtain⟨Y,⟨X,Z,M,aa,S,T,N,O,R,Q,L,⟨P,A⟩,I⟩,u⟩:=h;obtain⟨W,ac,t,ab,K,H,s,j⟩:=u.form;obtain⟨m,n,C,J⟩:=xw i D A I H s;have G:=n.low.congr j;have U:=i.kr;have V:=i.kc;have l:∀a,a<=k->pr (e_ c y.d) 0 a=pr (tr t) 0 a:=λa e=>o8 a 0 (λb _ f=>j b b (by omega) (by omega));obtain⟨-,z⟩:=m.bits i E;obtain⟨p,v⟩:=n.bits m.low z;refine⟨G,by rw[l k c_];exact v,λb d f g=>by rw[j b d f g];exact p d b g f,λa e=>by rw[l a e];exact C a e,λo=>?_⟩;obtain⟨q,w⟩:=J (λa e=>by rw[<-l a e];exact o a e);exact⟨λb d f g F=>by rw[j b d f g];exact q b d f g F,w⟩
theorem D5.D3{r c:Nat}{x y:D5}(h:D5.Cr r c x y)(v:r<=4)(C:c<=4)(H:∀a d,a<r->d<c->(e_ c x.d a d).natAbs<2^48):∃f,f<=4/\lz r c f (e_ c y.d)/\pr (e_ c y.d) 0 f<2^197/\(∀a d,a<r->d<c->(e_ c y.d a d).natAbs<2^197)/\(pr (e_ c y.d) 0 f).natAbs=iU (e_ c x.d) r c f/\iF (e_ c x.d) r c f:=by
 obtain⟨G,⟨f,X,q,Y,Z,U,K,M,R,Q,J,⟨O,m⟩,s⟩,z⟩:=h;obtain⟨b,aa,j,S,I,F,p,o⟩:=z.form;have T:=m.le;obtain⟨rfl,-,i,D⟩:=Cz m (by omega) F p;have E:=i.congr o;have V:=i.kc;have u:pr (e_ c y.d) 0 b=pr (tr j) 0 b:=o8 b 0 (λa _ g=>o a a (by omega) (by omega));have e:b<=4:=by omega
 have l:iU (tr j) r c b=iU (e_ c x.d) r c b:=by
  rw[sa j c r b e,s5 p e,sa (e_ c G) r c b e,s5 s e]
 have n:=yK i e;have W:=i.lF (BL b);have B:iU (e_ c x.d) r c b≠0:=by rw[<-l,n];omega
 have P:=Ea e (λa d g k=>nf (H a d g k)) B;have N:=K1 e (BL (2^48));have L:((2^197:Nat):Int)=2^197:=by simp
 have t:pr (tr j) 0 b<2^197:=by rw[l]at n;omega
 refine⟨b,e,E,by rw[u];exact t,λa d g k=>by rw[o a d g k];exact Ak i (λa q A w=>D a q A w) t a d g k,by rw[u,<-n,l],ot m s v C⟩
def xm(D:Nat->Nat->Int)(k:Nat):Nat:=2*nD D k+(if∀b,b<k->∀a,a<k->D b a%D a a=0 then 1 else 0)
theorem z8{r c k:Nat}{D:Nat->Nat->Int}(h:lz r c k D)(e:k<=4)(j:pr D 0 k<2^197):xm D k<=1577:=by
 have f:((2^197:Nat):Int)=2^197:=by simp
 have g:=ES (D:=D) (k:=k) (B:=197) (λa b=>by
  have l:=h.lF b;have d:=CG (X:=D) (k:=k) h.pos (k-a) a (by omega);rw[show a+(k-a)=k by omega]at d;omega) (λa b=>h.lF b) k c_
 have i:k*197<=4*197:=jo _ e;unfold xm;split<;>omega
theorem Km{D:Nat->Nat->Int}{k:Nat}:xm D k<=2*nD D k+1:=by
 unfold xm;split<;>omega
theorem D5.Fk{r c k B:Nat}{x y:D5}(h:D5.Cr r c x y)(e:lz r c k (e_ c x.d))(j:k<=4)(n:pr (e_ c x.d) 0 k<2^B):nD (e_ c y.d) k<=nD (e_ c x.d) k/\(nD (e_ c y.d) k=nD (e_ c x.d) k->mZ r c y.d/\∀d a,d<k->a<k->e_ c x.d a a∣e_ c x.d d a):=by
 obtain⟨l,q,s,i,f⟩:=D5.zp h e j n;obtain⟨o,g⟩:=KF (D:=e_ c x.d) (E:=e_ c y.d) (k:=k) i (λp b=>e.lF b) (λp b=>l.lF b) k c_;exact⟨o,λm=>f (g m)⟩
theorem D5.H3{r c k B:Nat}{x y:D5}(h:D5.Cr r c x y)(g:lz r c k (e_ c x.d))(a:k<=4)(f:pr (e_ c x.d) 0 k<2^B)(d:¬mZ r c y.d):xm (e_ c y.d) k<xm (e_ c x.d) k:=by
 obtain⟨l,b⟩:=D5.Fk h g a f;have m:nD (e_ c y.d) k≠nD (e_ c x.d) k:=λe=>d (b e).1;have j:=Km (D:=e_ c y.d) (k:=k);have i:2*nD (e_ c x.d) k<=xm (e_ c x.d) k:=by unfold xm;omega
 omega
theorem uI.inside{r c k a:Nat}(h:uI r c a e)(d:lz r c k (e_ c e)):a+1<k:=by
 refine Nat.lt_of_not_le λb=>h.2.2.1 ?_;rw[d.out (a+1) (a+1) h.1 h.2.1 (.inl b)];exact uo _
theorem D5.pM{r c k B:Nat}{x y:D5}(h:D5.yT r c x y)(j:lz r c k (e_ c x.d))(hd:mZ r c x.d)(w:pr (e_ c x.d) 0 k<2^B)(l:∀a b,a<r->b<c->(e_ c x.d a b).natAbs<2^B):lz r c k (e_ c y.d)/\pr (e_ c y.d) 0 k<2^B/\(∀a b,a<r->b<c->(e_ c y.d a b).natAbs<2^(B+1))/\xm (e_ c y.d) k=2*nD (e_ c x.d) k:=by
 obtain⟨p,m,d,-,-⟩:=h;have u:=m.inside j;obtain⟨C,z,s⟩:=R.pM j u hd m.2.2.1;have g:∀a b,a<r->b<c->e_ c y.d a b=mT (e_ c x.d) p a b:=d.2.2.2.1;have F:=j.kr;have G:=j.kc;have o:∀d,d<=k->pr (e_ c y.d) 0 d=pr (e_ c x.d) 0 d:=λd n=>by
  rw[o8 (D:=mT (e_ c x.d) p) d 0 (λa _ e=>g a a (by omega) (by omega))];rcases z d with i|i
  .exact i
  .omega
 have q:∀d,d<=k->nD (e_ c y.d) d=nD (e_ c x.d) d:=by
  intro d;induction d with
  |zero=>intro _;rfl
  |succ d A=>intro n;rw[nD,nD,A (by omega),o (d+1) n]
 refine⟨C.congr g,by rw[o k c_];exact w,λa b e f=>?_,?_⟩
 .rw[g a b e f];have H:2^(B+1)=2*2^B:=by rw[jx];omega
  unfold mT;split
  .rename_i i;subst i;have t:=l a b e f;have E:=l a (b+1) e m.2.1;omega
  .have t:=l a b e f;omega
 .unfold xm;rw[q k c_,if_neg]
  .rfl
  .intro v;refine s λa b e f=>?_;have:=Int.dvd_of_emod_eq_zero (v a e b f);rw[g b b (by omega) (by omega),g a b (by omega) (by omega)]at this;exact this
theorem D5.Jr{r c k B:Nat}{x y m:D5}(h:D5.Cr r c x y)(d:lz r c k (e_ c x.d))(a:k<=4)(b:pr (e_ c x.d) 0 k<2^B)(hd:mZ r c y.d)(n:D5.yT r c y m):xm (e_ c m.d) k<xm (e_ c x.d) k:=by
 obtain⟨t,o⟩:=D5.Fk h d a b;obtain⟨g,f,j,-⟩:=D5.zp h d a b;obtain⟨-,-,-,l⟩:=D5.pM n g hd f j;rw[l];by_cases e:nD (e_ c y.d) k=nD (e_ c x.d) k
 .unfold xm;rw[if_pos (λq p i s=>Int.emod_eq_zero_of_dvd ((o e).2 q i p s))];omega
 .unfold xm;split<;>omega
def bD(n:Nat):Nat:=227842700+n*442910
def D5.bits(r c:Nat)(x:D5)(X:Nat):Prop:=(∀a b,a<r->b<r->(e_ r x.u a b).natAbs<2^X)/\(∀a b,a<r->b<r->(e_ r x.s a b).natAbs<2^X)/\(∀a b,a<c->b<c->(e_ c x.v a b).natAbs<2^X)/\∀a b,a<c->b<c->(e_ c x.t a b).natAbs<2^X
def qc(n:Nat):List Int:=(List.range (n*n)).map λa=>kd (a/n) (a%n)
theorem ri(n:Nat):(qc n).length=n*n:=by simp[qc]
theorem kE{n i j:Nat}(c:i<n)(a:j<n):e_ n (qc n) i j=kd i j:=by
 have d:(i*n+j)/n=i:=by rw[ij,si (by omega),uO a];omega
 have b:(i*n+j)%n=j:=by rw[ij,ue];exact oO a
 unfold e_ qc;rw[List.getD,wg,vG (jq c a)];simp only[Option.map_some,wy,d,b]
def D5.start(r c:Nat)(zs:List Int):D5:=⟨zs,qc r,qc r,qc c,qc c⟩
theorem vq(i j:Nat):(kd i j).natAbs<2^1:=by unfold kd;split<;>decide
theorem Ce(r c:Nat)(zs:List Int):D5.bits r c (D5.start r c zs) 1:=
 ⟨λa b d e=>by rw[show e_ r (D5.start r c zs).u a b=kd a b from kE d e];exact vq a b,λa b d e=>by rw[show e_ r (D5.start r c zs).s a b=kd a b from kE d e];exact vq a b,λa b d e=>by rw[show e_ c (D5.start r c zs).v a b=kd a b from kE d e];exact vq a b,λa b d e=>by rw[show e_ c (D5.start r c zs).t a b=kd a b from kE d e];exact vq a b⟩
theorem Ep(r c:Nat)(zs:List Int):mi (e_ c zs) (e_ c (D5.start r c zs).d) (e_ r (D5.start r c zs).u) (e_ r (D5.start r c zs).s) (e_ c (D5.start r c zs).v) (e_ c (D5.start r c zs).t) r c:=
 (mi.start (e_ c zs) r c).congr (λ_ _ _ _=>rfl) (λ_ _ a b=>kE a b) (λ_ _ a b=>kE a b) (λ_ _ a b=>kE a b) (λ_ _ a b=>kE a b)
structure JU (r c:Nat) (zs:List Int) (x:D5) (k:Nat):Prop where
 k4:k<=4
 low:lz r c k (e_ c x.d)
 p:pr (e_ c x.d) 0 k<2^197
 b:∀i j,i<r->j<c->(e_ c x.d i j).natAbs<2^198
 q:(pr (e_ c x.d) 0 k).natAbs=iU (e_ c zs) r c k
 rk:iF (e_ c zs) r c k
def Head(r c:Nat)(zs:List Int)(x:D5)(n a:Nat):Prop:=
 (n=0/\x=D5.start r c zs/\a=1579)\/(1<=n/\D5.bits r c x (bD n)/\∃b,JU r c zs x b/\a=xm (e_ c x.d) b+1/\n+a<=1579)
theorem JL{r c:Nat}(d:r<=4)(b:c<=4):(hB r 48 c<=32*7200000/\uB r 48 c<=107948)/\(hB c (hB r 48 c) r<=32*7200000/\uB c (hB r 48 c) r<=227842686):=by
 have a:∀r:Fin 5,∀c:Fin 5,(hB r.val 48 c.val<=32*7200000/\uB r.val 48 c.val<=107948)/\(hB c.val (hB r.val 48 c.val) r.val<=32*7200000/\uB c.val (hB r.val 48 c.val) r.val<=227842686):=by decide+kernel
 exact a ⟨r,by omega⟩ ⟨c,by omega⟩
theorem FP{r c:Nat}(d:r<=4)(b:c<=4):hB r 198 c<=32*7200000/\uB r 198 c<=442898:=by
 have a:∀r:Fin 5,∀c:Fin 5,hB r.val 198 c.val<=32*7200000/\uB r.val 198 c.val<=442898:=by decide+kernel
 exact a ⟨r,by omega⟩ ⟨c,by omega⟩
theorem Head.K3{r c n:Nat}{zs:List Int}{x:D5}(h:Head r c zs x n i)(j:r<=4)(l:c<=4)(z:∀a b,a<r->b<c->(e_ c zs a b).natAbs<2^48):∃d e o,(∀a b,a<r->b<c->(e_ c x.d a b).natAbs<2^d)/\hB r d c<=32*7200000/\uB r d c<=32*7200000/\hB c e r<=32*7200000/\uB c e r<=32*7200000/\(∀g q p,oT r c x.d x.u x.s g q p->(∀a b,a<r->b<c->(e_ c g a b).natAbs<2^hB r d c)->∀a b,a<r->b<c->(e_ c g a b).natAbs<2^e)/\D5.bits r c x o/\o+uB r d c+4+1<=bD (n+1)/\o+uB c e r+4+1<=bD (n+1):=by
 rcases h with⟨rfl,rfl,-⟩|⟨B,t,A,f,-,-⟩
 .obtain⟨⟨k,s⟩,m,u⟩:=JL j l;refine⟨48,hB r 48 c,1,z,k,by omega,m,by omega,λ_ _ _ _ h=>h,Ce r c zs,?_,?_⟩
  .unfold bD;omega
  .unfold bD;omega
 .obtain⟨k,s⟩:=FP j l;obtain⟨m,u⟩:=FP l j;refine⟨198,198,bD n,f.b,k,by omega,m,by omega,λg q p v _ a b w y=>iW (v.bits f.low f.k4 f.p a b w y) (by omega),t,?_,?_⟩
  .unfold bD;omega
  .unfold bD;omega
theorem D5.Ii{r c k:Nat}{x y:D5}(h:D5.Cr r c x y)(b:lz r c k (e_ c x.d))(a:k<=4):(pr (e_ c y.d) 0 k).natAbs=(pr (e_ c x.d) 0 k).natAbs:=by
 obtain⟨m,⟨H,I,s,J,L,B,t,u,z,w,q,⟨v,j⟩,g⟩,i⟩:=h;obtain⟨G,M,e,K,p,l,d,o⟩:=i.form;obtain⟨A,n,-,-⟩:=xw b a j g l d;have C:=b.kr;have E:=b.kc;rw[o8 (D:=tr e) k 0 (λf _ F=>o f f (by omega) (by omega)),<-yK n.low a,<-yK b a,sa e c r k a,s5 d a,sa (e_ c m) r c k a,s5 g a]
theorem Head.after{r c n:Nat}{zs:List Int}{x y:D5}(h:Head r c zs x n i)(L:r<=4)(M:c<=4)(P:∀e j,e<r->j<c->(e_ c zs e j).natAbs<2^48)(p:D5.Cr r c x y):n<=1578/\0<i/\∃a,JU r c zs y a/\(¬mZ r c y.d->xm (e_ c y.d) a+1<i/\n+1+(xm (e_ c y.d) a+1)<=1579)/\∀f,mZ r c y.d->D5.yT r c y f->JU r c zs f a/\xm (e_ c f.d) a+1<i/\n+1+(xm (e_ c f.d) a+1)<=1579:=by
 rcases h with⟨rfl,rfl,rfl⟩|⟨I,S,a,b,rfl,T⟩
 .obtain⟨a,v,d,l,m,K,A⟩:=D5.D3 p L M P;have B:JU r c zs y a:=⟨v,d,l,λe j q G=>iW (m e j q G) (by omega),K,A⟩;refine⟨by omega,by omega,a,B,λ_=>?_,λf g k=>?_⟩
  .have:=z8 d v l;omega
  .obtain⟨u,t,F,Q⟩:=D5.pM k d g l m;have w:pr (e_ c f.d) 0 a=pr (e_ c y.d) 0 a:=by
    obtain⟨H,s,E,-,-⟩:=k;have z:=s.inside d;obtain⟨-,C,-⟩:=R.pM d z g s.2.2.1;have N:=d.kr;have O:=d.kc;rw[o8 (D:=mT (e_ c y.d) H) a 0 (λe _ q=>E.2.2.2.1 e e (by omega) (by omega))];rcases C a with o|o
    .exact o
    .omega
   have:=z8 u v t;exact⟨⟨v,u,t,F,by rw[w];exact K,A⟩,by omega,by omega⟩
 .obtain⟨d,l,m,-,A⟩:=D5.zp p b.low b.k4 b.p;have J:(pr (e_ c y.d) 0 a).natAbs=iU (e_ c zs) r c a:=(D5.Ii p b.low b.k4).trans b.q;have B:JU r c zs y a:=⟨b.k4,d,l,λe j q G=>iW (m e j q G) (by omega),J,b.rk⟩;refine⟨by omega,by omega,a,B,λI=>?_,λf g k=>?_⟩
  .have:=D5.H3 p b.low b.k4 b.p I;omega
  .obtain⟨u,t,F,Q⟩:=D5.pM k d g l m;have:=D5.Jr p b.low b.k4 b.p g k;have w:pr (e_ c f.d) 0 a=pr (e_ c y.d) 0 a:=by
    obtain⟨H,s,E,-,-⟩:=k;have z:=s.inside d;obtain⟨-,C,-⟩:=R.pM d z g s.2.2.1;have N:=d.kr;have O:=d.kc;rw[o8 (D:=mT (e_ c y.d) H) a 0 (λe _ q=>E.2.2.2.1 e e (by omega) (by omega))];rcases C a with o|o
    .exact o
    .omega
   exact⟨⟨b.k4,u,t,F,by rw[w];exact J,b.rk⟩,by omega,by omega⟩
theorem iA.zt{w:World}{r c L K X:Nat}{zs:List Int}(h:iA w x (r*c) zs L)(t:∀a e,a<r->e<c->(e_ c zs a e).natAbs<2^X)(l:X<=32*K):iA w x (r*c) zs K:=by
 obtain⟨o,n,m,p⟩:=h;refine⟨o,n,m,λa b=>?_⟩;obtain⟨q,f,s,g,j⟩:=p a b;refine⟨q,f,s,g,j.fit ?_⟩;have k:0<c:=by
  rcases kl c with h|h
  .subst h;simp at b
  .exact h
 have d:=t (a/c) (a%c) (Nat.div_lt_of_lt_mul (by rw[ij];exact b)) (mQ _ k);unfold e_ at d;rw[ij,kY]at d;have i:(4294967296:Nat)^K=2^(32*K):=by rw[qb]
 rw[i];exact iW d l
theorem i_.zt{w:World}{v:Value}{r c L K X:Nat}{zs:List Int}(h:i_ w v r c zs L)(i:∀b a,b<r->a<c->(e_ c zs b a).natAbs<2^X)(e:X<=32*K):i_ w v r c zs K:=by
 obtain⟨f,g,j,k,d⟩:=h;exact⟨f,g,j,k,d.zt i e⟩
structure DT (r c:Nat) (zs:List Int) (x:D5):Prop where
 run:D5.run r c (D5.start r c zs) x
 inv:mi (e_ c zs) (e_ c x.d) (e_ r x.u) (e_ r x.s) (e_ c x.v) (e_ c x.t) r c
 low:∃k,JU r c zs x k
 diag:mZ r c x.d
 div:yk r c x.d
 bits:D5.bits r c x (bD 1579)
def Lg(g wr:World)(p r c:Nat)(zs:List Int)(x:D5)(b:Bool)(j:Nat)(e f d i a:Value):Prop:=
 ox wr p r c e f d i a/\(i_ wr (.agg #[.int .i64 r,.int .i64 c,e]) r c x.d 7200000/\i_ wr (.agg #[.int .i64 r,.int .i64 r,f]) r r x.u 30000000/\i_ wr (.agg #[.int .i64 r,.int .i64 r,d]) r r x.s 30000000/\i_ wr (.agg #[.int .i64 c,.int .i64 c,i]) c c x.v 30000000/\i_ wr (.agg #[.int .i64 c,.int .i64 c,a]) c c x.t 30000000)/\Below g.heap.size g wr/\((b=true/\(∃k,Head r c zs x k j)/\mi (e_ c zs) (e_ c x.d) (e_ r x.u) (e_ r x.s) (e_ c x.v) (e_ c x.t) r c/\∀h,D5.run r c x h->D5.run r c (D5.start r c zs) h)\/(b=false/\j=0/\DT r c zs x))
def Kr(w a:World)(e:Ending)(r c:Nat)(zs:List Int):Prop:=∃(b:D5) (g h f i d:Value),e=.returned (.agg #[.int .i64 r,.int .i64 c,g,.int .i64 r,.int .i64 r,h,.int .i64 r,.int .i64 r,f,.int .i64 c,.int .i64 c,i,.int .i64 c,.int .i64 c,d])/\
 (i_ a (.agg #[.int .i64 r,.int .i64 c,g]) r c b.d 7200000/\i_ a (.agg #[.int .i64 r,.int .i64 r,h]) r r b.u 30000000/\i_ a (.agg #[.int .i64 r,.int .i64 r,f]) r r b.s 30000000/\i_ a (.agg #[.int .i64 c,.int .i64 c,i]) c c b.v 30000000/\i_ a (.agg #[.int .i64 c,.int .i64 c,d]) c c b.t 30000000)/\DT r c zs b/\Below w.heap.size w a
theorem xP{v:Value}{r c:Nat}{zs:List Int}{w:World}(bV:i_ w v r c zs 2)(bf:r<=4)(cy:c<=4)(ac:∀b a,b<r->a<c->(e_ c zs b a).natAbs<2^48):Calls Tryz.prog 41 #[v] w λI s=>Kr w s I r c zs:=by
 have bF:=a_ bV;obtain⟨n,j,ax,rfl,bC⟩:=bV;obtain⟨A,H,rfl,-⟩:=bC.shape;obtain⟨C,a3⟩:=hQ (r*c);rw[<-a3]at bF|-;have dK:=a_ a3;clear bC a3;go_in;go_wp2_with fail;obtain⟨g,U⟩:=hQ ((w.alloc (.cells #[.int .i64 r,.int .i64 c,.slice A C H] 66)).alloc (.cells #[.int .i64 0,.int .i64 0,.slice none 0 0,.int .i64 0,.int .i64 0,.slice none 0 0,.int .i64 0,.int .i64 0,.slice none 0 0,.int .i64 0,.int .i64 0,.slice none 0 0,.int .i64 0,.int .i64 0,.slice none 0 0] 83));have dx:g.heap.size=w.heap.size+2:=by rw[U];simp
 have bx:Below w.heap.size w g:=by rw[U];repeat(first|exact hP|refine ia ?_ (by simp<;>omega) _)
 have aC:jk g w.heap.size (.int .i64 r) (.int .i64 c) (.slice A C H):=by
  rw[U];exact jk.later (w:=w.alloc (.cells #[.int .i64 r,.int .i64 c,.slice A C H] 66)) ⟨fa _ _ _ _ _ rfl rfl,fa _ _ _ _ _ rfl rfl,fa _ _ _ _ _ rfl rfl⟩ hS
 have bs:g.heap[w.heap.size+1]?=some (.cells #[.int .i64 0,.int .i64 0,.slice none 0 0,.int .i64 0,.int .i64 0,.slice none 0 0,.int .i64 0,.int .i64 0,.slice none 0 0,.int .i64 0,.int .i64 0,.slice none 0 0,.int .i64 0,.int .i64 0,.slice none 0 0] 83 (0,0)):=by
  rw[U];have:=iP (w.alloc (.cells #[.int .i64 r,.int .i64 c,.slice A C H] 66)) (.cells #[.int .i64 0,.int .i64 0,.slice none 0 0,.int .i64 0,.int .i64 0,.slice none 0 0,.int .i64 0,.int .i64 0,.slice none 0 0,.int .i64 0,.int .i64 0,.slice none 0 0,.int .i64 0,.int .i64 0,.slice none 0 0] 83);simpa using this
 rw[<-U];clear U;have di:=a_ (show∀s,Below g.heap.size g s->s.cell? ⟨w.heap.size,0,none⟩=some (.int .i64 r)/\s.cell? ⟨w.heap.size,1,none⟩=some (.int .i64 c)/\s.cell? ⟨w.heap.size,2,none⟩=some (.slice A C H)from λs Z=>⟨(aC.later Z).1,(aC.later Z).2.1,(aC.later Z).2.2⟩);have aJ:=b_ bx bs;clear bx aC bs;go_region_held3 (λs=>s.cell? ⟨w.heap.size,0,none⟩=some (.int .i64 r)/\s.cell? ⟨w.heap.size,1,none⟩=some (.int .i64 c)/\s.cell? ⟨w.heap.size,2,none⟩=some (.slice A C H)) (exact di.e _ (by first|exact hbU4|exact hbU4.alloc hbU4.size _|exact(hbU4.alloc hbU4.size _).drew|exact hbU3|exact hbU2|exact hbU1|exact hP.drew|exact hP)) (first
   |(go_at_call 60;(have R:=hbU3);refine(nX j).mono ?_;rintro a4 G⟨y,c6,rfl,dm,aO,bR,ah⟩;have hbU4:Below g.heap.size g G:=d_ R ah;have aZ:=hGU4.below ah;have aY:=hGS4.below ah;have bb:=hGV.below ah;clear ah R hGV hGU4 hGS4)
   |(go_at_call 60;(have R:=hbU2);refine(nX j).mono ?_;rintro a4 cI⟨x,dg,rfl,dj,hGV,cv,aA⟩;have hbU3:Below g.heap.size g cI:=d_ R aA;have hGU4:=hGU3.below aA;have hGS4:=hGS.below aA;clear aA R hGS hGU3)
   |(go_at_call 60;(have R:=hbU1);refine(nX n).mono ?_;rintro a4 dl⟨aI,de,rfl,cZ,hGS,cz,M⟩;have hbU2:Below g.heap.size g dl:=d_ R M;have hGU3:=hGU.below M;clear M R hGU)
   |(go_at_call 60;refine(nX n).mono ?_;rintro a4 cS⟨aR,cK,rfl,cM,hGU,bw,b1⟩;have hbU1:Below g.heap.size g cS:=(hP.drew).trans b1;clear b1))
 obtain⟨ak,an⟩:=hQ (G.alloc (.cells #[.int .i64 r,.int .i64 c,.slice A C H,.int .i64 r,.int .i64 r,.slice (some ⟨aR,0,none⟩) (r*r) (r*r),.int .i64 r,.int .i64 r,.slice (some ⟨aI,0,none⟩) (r*r) (r*r),.int .i64 c,.int .i64 c,.slice (some ⟨x,0,none⟩) (c*c) (c*c),.int .i64 c,.int .i64 c,.slice (some ⟨y,0,none⟩) (c*c) (c*c)] 83));rw[<-an];have ae:Below G.heap.size G ak:=by rw[an];exact hS
 have cf:ox ak G.heap.size r c (.slice A C H) (.slice (some ⟨aR,0,none⟩) (r*r) (r*r)) (.slice (some ⟨aI,0,none⟩) (r*r) (r*r)) (.slice (some ⟨x,0,none⟩) (c*c) (c*c)) (.slice (some ⟨y,0,none⟩) (c*c) (c*c)):=by rw[an];exact iP G _
 have cR:ak.heap.size=G.heap.size+1:=by rw[an];simp
 have bu:=hbU4.size;have aN:Below g.heap.size g ak:=hbU4.trans (ae.mono bu);clear an;obtain rfl:cK=qc r:=iR aZ.1 (ri r) λb a d e=>(bw b a d e).trans (kE d e).symm;obtain rfl:de=qc r:=iR aY.1 (ri r) λb a d e=>(cz b a d e).trans (kE d e).symm;obtain rfl:dg=qc c:=iR bb.1 (ri c) λb a d e=>(cv b a d e).trans (kE d e).symm;obtain rfl:c6=qc c:=iR aO.1 (ri c) λb a d e=>(bR b a d e).trans (kE d e).symm;have b9:Lg g ak G.heap.size r c zs (D5.start r c zs) true 1579 (.slice A C H) (.slice (some ⟨aR,0,none⟩) (r*r) (r*r)) (.slice (some ⟨aI,0,none⟩) (r*r) (r*r)) (.slice (some ⟨x,0,none⟩) (c*c) (c*c)) (.slice (some ⟨y,0,none⟩) (c*c) (c*c)):=
  ⟨cf,⟨((bF.e.below aJ.f).below aN).mono (by omega),⟨n,n,_,rfl,(aZ.below ae).mono (by omega)⟩,⟨n,n,_,rfl,(aY.below ae).mono (by omega)⟩,⟨j,j,_,rfl,(bb.below ae).mono (by omega)⟩,⟨j,j,_,rfl,(aO.below ae).mono (by omega)⟩⟩,aN,.inl ⟨rfl,⟨0,.inl ⟨rfl,rfl,rfl⟩⟩,Ep r c zs,λ_ D=>D⟩⟩
 have b7:=a_ b9;obtain⟨P,bB⟩:=hQ G.heap.size;rw[<-bB]at b7|-;have dz:w.heap.size+2<=P:=by omega
 clear b9 cf ae aN aZ aY bb aO bw cz cv bR hbU1 hbU2 hbU3 hbU4 cM cZ dj dm bB cR bu;go_wp2_with fail;go_loopg [4] 1579 (λc7 ay wr=>∃(aw:Bool) (q:D5) (bO cA cg ch bE:Value),ay=.bool aw/\f_ (Lg g wr P r c zs q aw c7 bO cA cg ch bE))
 case atStart=>exact⟨true,_,_,_,_,_,_,rfl,b7⟩
 case round=>
  obtain⟨aw,q,bO,cA,cg,ch,bE,rfl,h⟩:=hrel;obtain⟨aT,aQ,rfl⟩:=h.g.1.slice;obtain⟨ba,aS,rfl⟩:=h.g.2.1.slice;obtain⟨a7,a9,rfl⟩:=h.g.2.2.1.slice;obtain⟨aD,aL,rfl⟩:=h.g.2.2.2.1.slice;obtain⟨bq,bL,rfl⟩:=h.g.2.2.2.2.slice;have du:=h.f.lt;have cL:=h.j.size
  cases aw
  .have db:f_ (DT r c zs q):=a_ (by
    rcases h.o with⟨D,-⟩|⟨-,-,D⟩
    .cases D
    .exact D)
   obtain⟨b0,bl,bd,dE,dT,dW,dG,dX,dS,dM,dy,dw,dA,dv,dF,dQ⟩:=h.f.cells;have k:wr.heap[w.heap.size+1]?=some (.cells #[.int .i64 0,.int .i64 0,.slice none 0 0,.int .i64 0,.int .i64 0,.slice none 0 0,.int .i64 0,.int .i64 0,.slice none 0 0,.int .i64 0,.int .i64 0,.slice none 0 0,.int .i64 0,.int .i64 0,.slice none 0 0] 83 (0,0)):=(h.j.block _ (by omega)).trans aJ.i;have dn:wr.cell? ⟨w.heap.size+1,0,none⟩=some (.int .i64 0):=by simp[World.cell?,k]
   have cX:wr.cell? ⟨w.heap.size+1,1,none⟩=some (.int .i64 0):=by simp[World.cell?,k]
   have c1:wr.cell? ⟨w.heap.size+1,2,none⟩=some (.slice none 0 0):=by simp[World.cell?,k]
   have dc:wr.cell? ⟨w.heap.size+1,3,none⟩=some (.int .i64 0):=by simp[World.cell?,k]
   have dp:wr.cell? ⟨w.heap.size+1,4,none⟩=some (.int .i64 0):=by simp[World.cell?,k]
   have c9:wr.cell? ⟨w.heap.size+1,5,none⟩=some (.slice none 0 0):=by simp[World.cell?,k]
   have cF:wr.cell? ⟨w.heap.size+1,6,none⟩=some (.int .i64 0):=by simp[World.cell?,k]
   have cQ:wr.cell? ⟨w.heap.size+1,7,none⟩=some (.int .i64 0):=by simp[World.cell?,k]
   have cY:wr.cell? ⟨w.heap.size+1,8,none⟩=some (.slice none 0 0):=by simp[World.cell?,k]
   have cO:wr.cell? ⟨w.heap.size+1,9,none⟩=some (.int .i64 0):=by simp[World.cell?,k]
   have cT:wr.cell? ⟨w.heap.size+1,10,none⟩=some (.int .i64 0):=by simp[World.cell?,k]
   have c3:wr.cell? ⟨w.heap.size+1,11,none⟩=some (.slice none 0 0):=by simp[World.cell?,k]
   have da:wr.cell? ⟨w.heap.size+1,12,none⟩=some (.int .i64 0):=by simp[World.cell?,k]
   have df:wr.cell? ⟨w.heap.size+1,13,none⟩=some (.int .i64 0):=by simp[World.cell?,k]
   have c5:wr.cell? ⟨w.heap.size+1,14,none⟩=some (.slice none 0 0):=by simp[World.cell?,k]
   have dC:∀ay,wr.frozen? ⟨w.heap.size+1,ay,none⟩=false:=λay=>by simp[World.frozen?,k]
   have c4:f_ (Ty wr (w.heap.size+1) 83):=a_ ⟨_,_,k⟩;have dB:P≠w.heap.size+1:=by omega
   clear k;go_wp2_with fail;refine ig (v:=.agg #[.int .i64 r,.int .i64 c,.slice aT (r*c) aQ,.int .i64 r,.int .i64 r,.slice ba (r*r) aS,.int .i64 r,.int .i64 r,.slice a7 (r*r) a9,.int .i64 c,.int .i64 c,.slice aD (c*c) aL,.int .i64 c,.int .i64 c,.slice bq (c*c) bL]) ?_ rfl ?_
   ·(simp[results,Tryz.results41,go_sem,dn,cX,c1,dc,dp,c9,cF,cQ,cY,cO,cT,c3,da,df,c5];done)
   .have cx:=c4.e;have cV:=oA cx (by decide) (by decide) 0 (.int .i64 r) (.int .i64 c) (.slice aT (r*c) aQ);have cp:=((cx.setCell ⟨w.heap.size+1,0,none⟩ (.int .i64 r)).setCell ⟨w.heap.size+1,1,none⟩ (.int .i64 c)).setCell ⟨w.heap.size+1,2,none⟩ (.slice aT (r*c) aQ);have cJ:=oA cp (by decide) (by decide) 3 (.int .i64 r) (.int .i64 r) (.slice ba (r*r) aS);have O:=((cp.setCell ⟨w.heap.size+1,3,none⟩ (.int .i64 r)).setCell ⟨w.heap.size+1,4,none⟩ (.int .i64 r)).setCell ⟨w.heap.size+1,5,none⟩ (.slice ba (r*r) aS);have c8:=oA O (by decide) (by decide) 6 (.int .i64 r) (.int .i64 r) (.slice a7 (r*r) a9);have J:=((O.setCell ⟨w.heap.size+1,6,none⟩ (.int .i64 r)).setCell ⟨w.heap.size+1,7,none⟩ (.int .i64 r)).setCell ⟨w.heap.size+1,8,none⟩ (.slice a7 (r*r) a9);have cP:=oA J (by decide) (by decide) 9 (.int .i64 c) (.int .i64 c) (.slice aD (c*c) aL);have cH:=((J.setCell ⟨w.heap.size+1,9,none⟩ (.int .i64 c)).setCell ⟨w.heap.size+1,10,none⟩ (.int .i64 c)).setCell ⟨w.heap.size+1,11,none⟩ (.slice aD (c*c) aL);have cU:=oA cH (by decide) (by decide) 12 (.int .i64 c) (.int .i64 c) (.slice bq (c*c) bL);have aa:=(((cV.trans cJ).trans c8).trans cP).trans cU;have Z:Below w.heap.size w wr:=aJ.f.trans (h.j.mono (by omega));exact⟨q,_,_,_,_,_,rfl,⟨h.g.1.fr aa,h.g.2.1.fr aa,h.g.2.2.1.fr aa,h.g.2.2.2.1.fr aa,h.g.2.2.2.2.fr aa⟩,db.e,Z.trans (aa.below (by omega) Z.size)⟩
  .obtain⟨N,aK,b3,bP⟩:∃N,Head r c zs q N gk/\mi (e_ c zs) (e_ c q.d) (e_ r q.u) (e_ r q.s) (e_ c q.v) (e_ c q.t) r c/\∀V,D5.run r c q V->D5.run r c (D5.start r c zs) V:=by
    rcases h.o with⟨-,⟨N,a5⟩,ad,cG⟩|⟨D,-⟩
    .exact⟨N,a5,ad,cG⟩
    .cases D
   obtain⟨dL,dR,av,bj,bI,ci,co,bn,bN,bg,cB,cq⟩:=aK.K3 bf cy ac;have Q:=ju aK b3 bP bj bN bg;have Y:=ju bI ci co bn cB cq;clear aK b3 bP bj bI ci co bn bN bg cB cq;go_wp2_with fail;go_fit (yC h.f h.g.1 h.g.2.1 h.g.2.2.1 (by omega) (by omega) Q.m (by omega) Y.f Y.g (by omega) (by omega));rintro I dO⟨rfl,dN,bH,cs,dD,ct,cn,dH,bt,bG,cC,t,u,cc,ca,bS,bk,aW,aH,b6,bh,bi⟩;have bM:=Q.r cC t u aW b6;have dP:=aH.1.size;have p:=C_ cc ca bS bk aW aH bM bh bi;clear cc ca bS bk aW aH b6 bh bi bM;go_wp2_with fail;go_fit (yZ p.f p.g (h.g.2.2.2.1.fr p.y) (h.g.2.2.2.2.fr p.y) (by omega) (by omega) p.A (by omega) Y.j Y.m (by omega) (by omega));rintro I dk⟨rfl,ab,x,y,z,ai,O,a8,b8,b4,cd,c0,cE,aB,ds,ck,b5⟩;have au:D5.Cr r c q ⟨z,t,u,ai,O⟩:=⟨cC,p.r,cE⟩;obtain⟨dJ,cN,al,bY,cb,bQ⟩:=Q.f.after bf cy ac au;have dr:=Y.r;have dd:=Y.z;obtain⟨L,bc⟩:∃L,L+1=bD (N+1):=⟨bD (N+1)-1,by unfold bD;omega⟩;have bT:L+1<=32*30000000:=by rw[bc];unfold bD;omega
   have X:D5.bits r c ⟨z,t,u,ai,O⟩ L:=by
    obtain⟨T,S,F,E⟩:=Q.z;exact⟨λb a d e=>iW (p.B av T b a d e) (by omega),λb a d e=>iW (p.M av S b a d e) (by omega),λb a d e=>iW (ck av F b a d e) (by omega),λb a d e=>iW (b5 av E b a d e) (by omega)⟩
   have aM:Below g.heap.size g dk:=h.j.trans (((p.y).below (show g.heap.size<=P by omega) cL).trans (aB.below (show g.heap.size<=P by omega) (by omega)));have dt:=p.f.lt;have cm:=(p.j.fr aB).zt (K:=30000000) X.1 (by omega);have bv:=(p.m.fr aB).zt (K:=30000000) X.2.1 (by omega);have ce:=b4.zt (K:=30000000) X.2.2.1 (by omega);have bm:=cd.zt (K:=30000000) X.2.2.2 (by omega);have bz:∀m ap ag,Value.slice bH ct bt=.slice (some m) ap ag->m.block≠ab/\m.block≠x/\m.block≠y:=λm ap ag I=>by
    obtain⟨-,-,ax,o,B⟩:=p.j;simp only[j9,j_,kb,jh,nh]at o;rw[<-o,I]at B;have:=B.lt;omega
   have cu:∀m ap ag,Value.slice cs cn bG=.slice (some m) ap ag->m.block≠ab/\m.block≠x/\m.block≠y:=λm ap ag I=>by
    obtain⟨-,-,ax,o,B⟩:=p.m;simp only[j9,j_,kb,jh,nh]at o;rw[<-o,I]at B;have:=B.lt;omega
   have aG:g.heap.size<=ab/\g.heap.size<=x/\g.heap.size<=y:=by omega
   have a1:P≠ab/\P≠x/\P≠y:=by omega
   have a0:ab≠x/\ab≠y/\x≠y:=by omega
   have f:=Jm a8 b8 ce bm cm bv aM au bY cb bQ X bz cu;have am:=b_ bc bT;have aV:=a_ (D5.Hn au Q.g);have aU:=aM.size;obtain⟨b0,bl,bd,-⟩:=a8.cells;obtain⟨dV,a6⟩:=hQ (r*c);have dh:=a_ a6;rw[<-a6]at bd;clear a6 a8 b8 b4 cd ce bm cm bv aM au bY cb bQ X bz cu cE aB ds ck b5 bc bT dr dd c0;go_wp2_with fail;go_fit (Cg ⟨n,j,_,rfl,by rw[dh.e];exact f.g⟩);rintro I dI⟨⟨bW,rfl,bJ⟩,aX⟩;have l:=b_ (show bW=true↔mZ r c z from bJ) aX;have cW:=aX.size;clear bJ aX b0 bl bd
   cases bW
   .have be:¬mZ r c z:=λD=>by have:=l.f.2 D;cases this
    have aj:=f.Q be;have dq:=a_ be;have cr:=a_ aj;clear be aj;go_wp2;go_roundg (xm (e_ c z) al+1)
    .refine⟨true,⟨z,t,u,ai,O⟩,_,_,_,_,_,rfl,a_ ⟨f.f.below l.i (by have:=f.f.lt;omega),⟨⟨n,j,_,rfl,f.g.below l.i⟩,f.r.below l.i,f.y.below l.i,⟨j,j,_,rfl,f.j.below l.i⟩,⟨j,j,_,rfl,f.m.below l.i⟩⟩,f.A.trans (l.i.mono aU),.inl ⟨rfl,⟨N+1,.inr ⟨by omega,?_,al,f.D,rfl,cr.i⟩⟩,aV.e,λV ac=>Q.j V (.more f.B dq.e ac)⟩⟩⟩;obtain⟨T,S,F,E⟩:=f.G;have:=am.f;exact⟨λb a d e=>iW (T b a d e) (by omega),λb a d e=>iW (S b a d e) (by omega),λb a d e=>iW (F b a d e) (by omega),λb a d e=>iW (E b a d e) (by omega)⟩
    exact cr.f
   .have ar:f_ (mZ r c z):=a_ (l.f.1 (by trivial));go_wp2_with fail;go_fit (HS (f.f.below l.i (by have:=f.f.lt;omega)) (f.g.below l.i) (f.j.below l.i) (f.m.below l.i) n j a1.1 a1.2.1 a1.2.2 a0.1 a0.2.1 a0.2.2 (by omega) (by omega));rintro I aP c2;rcases c2 with⟨rfl,bU,bp⟩|⟨rfl,m,af,ao,J,W,aq,cD,br,cw,b2,bX,aF⟩
    .have i:=b_ (show yk r c z from bU) (l.i.trans (bp.mono cW));clear bU bp;go_wp2;go_roundg 0
     .refine⟨false,⟨z,t,u,ai,O⟩,_,_,_,_,_,rfl,a_ ⟨f.f.below i.i (by have:=f.f.lt;omega),⟨⟨n,j,_,rfl,f.g.below i.i⟩,f.r.below i.i,f.y.below i.i,⟨j,j,_,rfl,f.j.below i.i⟩,⟨j,j,_,rfl,f.m.below i.i⟩⟩,f.A.trans (i.i.mono aU),.inr ⟨rfl,rfl,⟨Q.j _ (.stop f.B ar.e i.f),aV.e,⟨al,f.D⟩,ar.e,i.f,?_⟩⟩⟩⟩;obtain⟨T,S,F,E⟩:=f.G;have a5:=am.f;have ad:L<=bD 1579:=by unfold bD at a5|-;omega
      exact⟨λb a d e=>iW (T b a d e) ad,λb a d e=>iW (S b a d e) ad,λb a d e=>iW (F b a d e) ad,λb a d e=>iW (E b a d e) ad⟩
     exact cN
    .have az:D5.yT r c ⟨z,t,u,ai,O⟩ ⟨af,t,u,ao,J⟩:=⟨m,W,aq,rfl,rfl⟩;obtain⟨aE,aj⟩:=f.F ⟨af,t,u,ao,J⟩ ar.e az;have M:D5.bits r c ⟨af,t,u,ao,J⟩ (L+1):=by
      obtain⟨T,S,F,E⟩:=f.G;have dU:2^(L+1)=2*2^L:=by rw[jx];omega
      refine⟨λb a d e=>iW (T b a d e) (by omega),λb a d e=>iW (S b a d e) (by omega),λb a d e=>?_,λb a d e=>?_⟩
      .show(e_ c ao b a).natAbs<_;rw[aq.2.2.2.2.1 b a d e];split
       .have o:=F b m d (by have:=W.2.1;omega);have a2:=F b (m+1) d W.2.1;simp only at o a2;omega
       .exact iW (F b a d e) (by omega)
      .show(e_ c J b a).natAbs<_;rw[aq.2.2.2.2.2 b a d e];split
       .have o:=E m a (by have:=W.2.1;omega) e;have a2:=E (m+1) a W.2.1 e;simp only at o a2;omega
       .exact iW (E b a d e) (by omega)
     have bA:Below g.heap.size g aP:=(f.A.trans (l.i.mono aU)).trans (bX.below aG.1 aG.2.1 aG.2.2 (by omega));have bZ:=br.zt (K:=7200000) aE.b (by omega);have bo:=cw.zt (K:=30000000) M.2.2.1 (by have:=am.i;omega);have bK:=b2.zt (K:=30000000) M.2.2.2 (by have:=am.i;omega);have cj:i_ aP (.agg #[.int .i64 r,.int .i64 r,.slice bH ct bt]) r r t 30000000:=by
      obtain⟨-,-,ax,o,B⟩:=f.r.below l.i;simp only[j9,j_,kb,jh,nh]at o;subst o;exact⟨n,n,_,rfl,aF _ _ _ _ B f.O⟩
     have cl:i_ aP (.agg #[.int .i64 r,.int .i64 r,.slice cs cn bG]) r r u 30000000:=by
      obtain⟨-,-,ax,o,B⟩:=f.y.below l.i;simp only[j9,j_,kb,jh,nh]at o;subst o;exact⟨n,n,_,rfl,aF _ _ _ _ B f.Jw⟩
     have i:=zf az aE aj M bA bZ bo bK cj cl cD (D5.Hf az aV.e);clear az aE aj M bA bZ bo bK cj cl cD br cw b2 bX aF W aq;go_wp2;go_roundg (xm (e_ c af) al+1)
     .refine⟨true,⟨af,t,u,ao,J⟩,_,_,_,_,_,rfl,a_ ⟨i.F,⟨⟨n,j,_,rfl,i.y⟩,i.D,i.Q,⟨j,j,_,rfl,i.A⟩,⟨j,j,_,rfl,i.B⟩⟩,i.r,.inl ⟨rfl,⟨N+1,.inr ⟨by omega,?_,al,i.g,rfl,i.j.2⟩⟩,i.Js,λV ac=>Q.j V (.mix f.B ar.e i.f ac)⟩⟩⟩;rw[<-am.f];exact i.m
     exact i.j.1
end
end Go.Proofs.YtfjbijpagaipnabGreatDoor
