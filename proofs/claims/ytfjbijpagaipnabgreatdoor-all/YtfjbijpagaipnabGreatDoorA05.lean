import Derived.Test.YtfjbijpagaipnabGreatDoorA04
import Derived.BigRegion
import Derived.Deep.RegionHeld3
set_option maxRecDepth 100000
set_option maxHeartbeats 8000000
namespace Go.Proofs.YtfjbijpagaipnabGreatDoor
open Go.RowKit
variable{i j k l m n p q r s:Nat}{w v W:World}{x y z:Value}{A B F G:Nat->Nat->Int}{e f g:List Int}{L K:List UInt8}{o h:Nat->Nat}{t:TypeId}
namespace R
theorem o5(c:UInt8)(e:List UInt8):∀b∈iY c e,b.length<=e.length:=by
 induction e with
 |nil=>intro b a;simp[iY]at a;subst a;simp
 |cons j f d=>
  intro b a;unfold iY at a;split at a
  .rcases jU.1 a with rfl|a
   .simp
   .have:=d b a;simp;omega
  .cases h:iY c f with
   |nil=>exact absurd h (rr c f)
   |cons g i=>
    rw[h]at a d;rcases jU.1 a with rfl|a
    .have:=d g (List.mem_cons_self ..);simp;omega
    .have:=d b (lg _ a);simp;omega
theorem o7(c:UInt8)(a:List UInt8)(i:Nat):((iY c a).getD i []).length<=a.length:=by
 rw[List.getD]
 cases h:(iY c a)[i]? with
 |none=>simp
 |some b=>exact o5 c a b (List.mem_of_getElem? h)
theorem jO.low{B:Nat}{w:World}{b r c:Nat}{f:Nat->Nat->Int}{L:Nat}(h:jO B w b r c o f L)(a:i<=B):jO i w b r c o f L:=by
 obtain⟨E,v,z,j,d,D⟩:=h;refine⟨iy a E,v,z,⟨j.1,?_⟩,λe g=>⟨iy a (d e g).1,?_⟩,D⟩
 case refine_2=>
  obtain⟨k,l,p,H⟩:=(d e g).2;refine⟨k,l,p,λy C=>?_⟩;obtain⟨F,b,m,x,t,u⟩:=H y C;exact⟨F,b,m,x,t,u.mono a⟩
 rcases j.2 with q|⟨G,I,n,A,s,r⟩
 .exact .inl q
 .exact .inr ⟨G,I,n,A,iy a s,r⟩
theorem jO.Jo{B:Nat}{w:World}{b r c:Nat}{f:Nat->Nat->Int}{L:Nat}(h:jO B w b r c o f L){i:Nat}(a:i<r):B<=o i/\Ty w (o i) 171:=by
 obtain⟨j,n,k,l,d,g⟩:=h;obtain⟨m,e,-⟩:=(d i a).2;exact⟨(d i a).1,_,_,e⟩
theorem nF.zv{B:Nat}{w:World}{v:Value}{ts:List (List UInt8)}(h:nF B w v ts){g:Nat}(d:Ty w g 171)(o:Nat)(u:Value):nF B (w.setCell ⟨g,o,none⟩ u) v ts:=by
 refine⟨h.1,?_⟩;rcases h.2 with m|⟨a,l,k,f,c,b,i⟩
 .exact .inl m
 .refine .inr ⟨a,l,k,f,c,?_,i⟩;rw[js _ _ _ _ (λe=>?_)]
  .exact b
  .have j:a=g:=by simpa using e
   subst j;exact absurd (pj b d) (by decide)
def pieces(a:List UInt8)(i:Nat):List (List UInt8):=iY 32 ((iY 59 a).getD i [])
def xU(a:List UInt8)(c i:Nat):Prop:=(pieces a i).length=c+1/\(pieces a i).getD 0 []=[]/\∀b,b<c->∃d,ql ((pieces a i).getD (b+1) []) d
def Fz(a:List UInt8)(i j:Nat):Int:=num ((pieces a i).getD (j+1) [])
def qx(i:List UInt8)(r c:Nat)(f:Nat->Nat->Int):Prop:=∃h a g e,iY 58 i=[h,a]/\iY 120 h=[g,e]/\mq g/\mq e/\k6 g=r/\k6 e=c/\(((r=0\/c=0)/\a=[])\/(0<r/\0<c/\(iY 59 a).length=r/\∀b,b<r->xU a c b/\∀d,d<c->f b d=Fz a b d))
def J6(f:List UInt8)(w e:World)(v:Value):Prop:=((v=.pointer none/\¬∃b c a,qx f b c a)\/∃d b c g a,v=.pointer (some ⟨d,0,none⟩)/\qx f b c a/\jO w.heap.size e d b c g a 40000000001)/\Below w.heap.size w e
theorem Jg(h:L.length<=40000000000):(⟨L.toArray⟩:ByteArray).size<=50000000000:=by
 show L.toArray.size<=50000000000;simp only[y6];omega
theorem J_{d:Type}{b:List d}(h:b.length=2):∃a c,b=[a,c]:=by
 match b,h with
 |[a,c],_=>exact⟨a,c,rfl⟩
theorem wv{s:ByteArray}{w:World}(cR:s.size<=40000000000):Calls Tryz.prog 149 #[.string s] w λt cZ=>∃cf,t=.returned cf/\J6 s.data.toList w cZ cf:=by
 obtain⟨z,a9⟩:=hQ s.data.toList;have b3:z.length<=40000000000:=by rw[a9];simpa using cR
 have cI:=a_ a9;rw[<-a9];clear a9;go_in;go_wp2_with fail;go_fit (@u6 s 58 _ (by omega));rintro t be⟨dJ,rfl,bs,bW⟩;rw[<-cI.e]at bs;obtain⟨dA,dx,rfl,ba,b1,ax⟩:=bs.shape;have c5:=vw 58 z;obtain⟨cb,bj⟩:=hQ ((iY 58 z).length);rw[<-bj]at ba ax c5|-;have P:=hO bW bj ax;clear bW bs bj ax;by_cases G:cb=2
 .subst G;obtain⟨v,a,ay⟩:=J_ P.g.symm;have br:v.length<=40000000000:=iy (o5 58 z v (by rw[ay];simp)) b3;have c1:a.length<=40000000000:=iy (o5 58 z a (by rw[ay];simp)) b3;obtain⟨am,rfl,a7⟩:=P.l 0 (by omega);obtain⟨dy,q,g⟩:=P.l 1 (by omega);injection q with q
  injection q with q _
  subst q;rw[ay]at a7 g;replace a7:be.cell? ⟨am,0,none⟩=some (.string ⟨v.toArray⟩):=a7;replace g:be.cell? ⟨am,1,none⟩=some (.string ⟨a.toArray⟩):=g;have ar:=a_ ay;have ce:=a_ g;clear ay g;go_wp2_with fail;go_fit (@u6 ⟨v.toArray⟩ 120 _ (Jg br));rintro t aj⟨cO,rfl,aI,bx⟩;replace aI:nF be.heap.size aj cO (iY 120 v):=aI;obtain⟨dh,dw,rfl,cx,dt,bA⟩:=aI.shape;have cz:=vw 120 v;obtain⟨b4,bo⟩:=hQ ((iY 120 v).length);rw[<-bo]at cx bA cz|-;have bU:Below w.heap.size w aj:=d_ P.f bx;have ac:aj.cell? ⟨am,1,none⟩=some (.string ⟨a.toArray⟩):=g_ bx ce.e;have J:=hY bU bo bA ac;clear bx aI bo bA bU ac a7 ce P;by_cases G:b4=2
  .subst G;obtain⟨p,o,aq⟩:=J_ J.g.symm;have de:p.length<=40000000000:=iy (o5 120 v p (by rw[aq];simp)) br;have cQ:o.length<=40000000000:=iy (o5 120 v o (by rw[aq];simp)) br;obtain⟨bc,rfl,aL⟩:=J.j 0 (by omega);obtain⟨dk,q,aA⟩:=J.j 1 (by omega);injection q with q
   injection q with q _
   subst q;rw[aq]at aL aA;replace aL:aj.cell? ⟨bc,0,none⟩=some (.string ⟨p.toArray⟩):=aL;replace aA:aj.cell? ⟨bc,1,none⟩=some (.string ⟨o.toArray⟩):=aA;have aG:=a_ aq;have cc:=a_ aA;clear aq aA;go_wp2_with fail;go_fit (@zJ ⟨p.toArray⟩ _ (Jg de));rintro t dc⟨aD,rfl,a6,aH⟩;replace a6:GF p aD:=a6;have cE:dc.cell? ⟨bc,1,none⟩=some (.string ⟨o.toArray⟩):=g_ aH cc.e;have aM:=hO (d_ J.f aH) a6 (g_ aH J.o);clear aH a6 aL cc J;go_wp2_with fail;go_fit (@zJ ⟨o.toArray⟩ _ (Jg cQ));rintro t bO⟨bt,rfl,a1,bz⟩;replace a1:GF o bt:=a1;have bZ:bO.cell? ⟨am,1,none⟩=some (.string ⟨a.toArray⟩):=g_ bz aM.l;have M:=hO (d_ aM.f bz) aM.g a1;clear bz a1 cE aM;have cr:(aD=-1/\¬mq p)\/(bt=-1/\¬mq o)\/(∃e d:Nat,aD=e/\bt=d/\mq p/\mq o/\k6 p=e/\k6 o=d/\e<=99/\d<=99):=by
    rcases M.g with f|⟨a,G,aE⟩
    .exact .inl f
    .rcases M.l with f|⟨a8,aP,cn⟩
     .exact .inr (.inl f)
     .exact .inr (.inr ⟨_,_,a,a8,G,aP,rfl,rfl,by omega,by omega⟩)
   have aS:f_ (¬(mq p/\mq o)->¬∃e d n,qx z e d n):=a_ (by
    rintro an⟨e,d,n,ap,bQ,bv,bw,g,k,aY,a4,-⟩;rw[ar.e]at g;injection g with g _
    subst g;rw[aG.e]at k;injection k with k S
    injection S with S _
    subst k;subst S;exact an ⟨aY,a4⟩)
   rcases cr with⟨rfl,az⟩|⟨rfl,az⟩|⟨e,d,rfl,rfl,b8,cj,cd,cg,dg,cA⟩
   .have aT:=a_ az;clear az;go_wp2;go_ret;exact⟨_,rfl,.inl ⟨rfl,aS.e (λf=>aT.e f.1)⟩,M.f⟩
   .have aT:=a_ az;clear az;by_cases cy:aD<0
    .go_wp2;go_ret;exact⟨_,rfl,.inl ⟨rfl,aS.e (λf=>aT.e f.2)⟩,M.f⟩
    .have dE:decide (aD<0)=false:=ic cy;go_wp2;go_ret;exact⟨_,rfl,.inl ⟨rfl,aS.e (λf=>aT.e f.2)⟩,M.f⟩
   .have R:=hY b8 cj cd cg;clear b8 cj cd cg;have cC:decide ((e:Int)<0)=false:=ic (by omega);have cF:decide ((d:Int)<0)=false:=ic (by omega);go_wp2_with fail;go_fit (@mw e d _ dg cA);rintro t T⟨rfl,⟨F,l⟩,bu⟩;obtain⟨U,bn⟩:=hQ bO.heap.size;rw[<-bn]at l|-;have cm:T.cell? ⟨am,1,none⟩=some (.string ⟨a.toArray⟩):=g_ bu bZ;have bN:Below w.heap.size w T:=d_ M.f bu;have bM:jO w.heap.size T U e d F (λ_ _=>0) 40000000001:=(l.low (by rw[bn];exact M.f.size)).mono (by omega);have aa:=b_ bN bM;clear bu bN l bM bZ M bn;have aw:f_ (∀n,(((e=0\/d=0)/\a=[])\/(0<e/\0<d/\(iY 59 a).length=e/\∀c,c<e->xU a d c/\∀h,h<d->n c h=Fz a c h))->qx z e d n):=a_ (λn f=>⟨v,a,p,o,ar.e,aG.e,R.f,R.g,R.j,R.o,f⟩);have al:f_ (¬(((e=0\/d=0)/\a=[])\/(0<e/\0<d/\(iY 59 a).length=e/\∀c,c<e->xU a d c))->¬∃e d n,qx z e d n):=a_ (by
     rintro an⟨du,dv,n,ap,bQ,bv,bw,g,k,-,-,aY,a4,cw⟩;rw[ar.e]at g;injection g with g ac
     injection ac with ac _
     subst g;subst ac;rw[aG.e]at k;injection k with k S
     injection S with S _
     subst k;subst S;rw[R.j]at aY;rw[R.o]at a4;subst aY;subst a4;refine an ?_;rcases cw with f|⟨ba,b1,ax,da⟩
     .exact .inl f
     .exact .inr ⟨ba,b1,ax,λc L=>(da c L).1⟩)
    clear aS R aG ar;obtain⟨V,ao⟩:∃V:ByteArray,V=⟨a.toArray⟩:=⟨_,rfl⟩;have dp:V.size<=40000000000:=by rw[ao];simpa[ByteArray.size]using c1
    have x:V.toList.isEmpty=decide (a=[]):=by
     rw[ao,vV];show a.isEmpty=_
     cases a<;>simp
    rw[<-ao]at cm;have cu:=a_ ao;clear ao;by_cases af:e=0\/d=0
    .have ci:e=0\/(0<e/\d=0):=by omega
     by_cases Y:a=[]
     .have u:=a_ (aw.e (λ_ _=>0) (.inl ⟨af,Y⟩));have aU:V.toList.isEmpty=true:=by rw[x];exact jm Y
      clear af x Y aw al;rcases ci with ah|⟨a5,ah⟩
      case' inl=>have aW:((e:Int)==0)=true:=jY.2 (by omega)
      case' inr=>
       have aW:((e:Int)==0)=false:=iK.2 (by omega);have b2:((d:Int)==0)=true:=jY.2 (by omega)
      all_goals
       clear ah;go_wp2;go_ret;exact⟨_,rfl,.inr ⟨U,e,d,F,_,rfl,u.e,aa.i⟩,aa.f⟩
     .have u:=a_ (al.e (λf=>by
       rcases f with f|f
       .exact Y f.2
       .omega))
      have aU:V.toList.isEmpty=false:=by rw[x];exact ic Y
      clear af x Y aw al;rcases ci with ah|⟨a5,ah⟩
      case' inl=>have aW:((e:Int)==0)=true:=jY.2 (by omega)
      case' inr=>
       have aW:((e:Int)==0)=false:=iK.2 (by omega);have b2:((d:Int)==0)=true:=jY.2 (by omega)
      all_goals
       clear ah;go_wp2;go_ret;exact⟨_,rfl,.inl ⟨rfl,u.e⟩,aa.f⟩
    .have aW:((e:Int)==0)=false:=iK.2 (by omega);have b2:((d:Int)==0)=false:=iK.2 (by omega);have a5:0<e:=by omega
     have cs:0<d:=by omega
     have aF:f_ (¬((iY 59 a).length=e/\∀c,c<e->xU a d c)->¬∃e d n,qx z e d n):=a_ (λan=>al.e (λf=>by
      rcases f with f|f
      .omega
      .exact an f.2.2))
     have cM:f_ ((iY 59 a).length=e->(∀c,c<e->xU a d c)->qx z e d (Fz a)):=a_ (λc6 c8=>aw.e _ (.inr ⟨a5,cs,c6,λc L=>⟨c8 c L,λ_ _=>rfl⟩⟩));clear af x aw al cC cF;go_wp2_with fail;go_fit (@u6 V 59 _ (by omega));rintro t a0⟨cK,rfl,Q,bp⟩;rw[cu.e]at Q;replace Q:nF T.heap.size a0 cK (iY 59 a):=Q;obtain⟨dd,cp,rfl,bG,cU,X⟩:=Q.shape;have cJ:=vw 59 a;obtain⟨m,bB⟩:=hQ ((iY 59 a).length);rw[<-bB]at bG X cJ Q|-;have co:Below w.heap.size w a0:=d_ aa.f bp;have bS:jO w.heap.size a0 U e d F (λ_ _=>0) 40000000001:=aa.i.hV (KR.I bp);have D:=hY co bS Q bB;clear bp Q X co bS bB cm aa;by_cases aE:m=e
     .have cN:((m:Int)==(e:Int))=true:=jY.2 (by omega);subst aE;obtain⟨ca,ct,-⟩:∃bY,dd=some ⟨bY,0,none⟩/\a0.cell? ⟨bY,0,none⟩=some (.string ⟨((iY 59 a).getD 0 []).toArray⟩):=by
       obtain⟨b6,cl,g,-,-,k⟩:=D.j.shape;rw[<-D.o]at g k;simp only[iC]at g;obtain⟨rfl,_,rfl⟩:=g;exact k 0 a5
      subst ct;go_wp2_with fail;go_loopw [9] (λc wr=>∃(b:Nat),b<=m/\c=.int .i64 b/\jO w.heap.size wr U m d F (λad aQ=>if ad<b then Fz a ad aQ else 0) 40000000001/\nF T.heap.size wr (.slice (some ⟨ca,0,none⟩) m cp) (iY 59 a)/\Below w.heap.size w wr/\f_ (∀c,c<b->xU a d c)) (λc _=>m-(intOf c).toNat)
      case atStart=>exact⟨0,hR,rfl,D.g.congr (λc h _ _=>by rw[if_neg (by omega)]),D.j,D.f,a_ (λc L=>by omega)⟩
      case round=>
       rename World=>bi;obtain⟨b,dB,rfl,l,B,C,cq⟩:=hrel;by_cases I:b<m
       .obtain⟨b6,cl,O,-,-,W⟩:=B.shape;rw[<-D.o]at O W;simp only[iC]at O;obtain⟨rfl,_,rfl⟩:=O;obtain⟨dz,r,aC⟩:=W b I;injection r with r
        injection r with r _
        subst r;obtain⟨aN,aK⟩:∃aN:ByteArray,aN=⟨((iY 59 a).getD b []).toArray⟩:=⟨_,rfl⟩;rw[<-aK]at aC;have dD:aN.size<=40000000000:=by
         rw[aK];have:=o7 59 a b;show((iY 59 a).getD b []).toArray.size<=40000000000;simp only[y6];omega
        have c2:=a_ aK;have j:=hO l B C;clear W aK l B C;go_wp2_with fail;go_fit (@u6 aN 32 _ (by omega));rintro t db⟨cY,rfl,N,aO⟩;rw[c2.e]at N;replace N:nF bi.heap.size db cY (pieces a b):=N;obtain⟨ds,cT,rfl,bG,cU,X⟩:=N.shape;have cV:(pieces a b).length<=40000000001:=by
         have aP:=vw 32 ((iY 59 a).getD b []);have cn:=o7 59 a b;show(iY 32 ((iY 59 a).getD b [])).length<=40000000001;omega
        obtain⟨bC,bg⟩:=hQ ((pieces a b).length);rw[<-bg]at bG X N cV|-;have y:=ju (j.f.hV (KR.I aO)) (j.g.below aO) (d_ j.l aO) N bg X;clear aO N X bg aC j;by_cases a8:bC=d+1
        .subst a8;obtain⟨cB,cG,ap⟩:=y.z 0 (by omega);subst cG;obtain⟨ak,bh⟩:∃ak:ByteArray,ak=⟨((pieces a b).getD 0 []).toArray⟩:=⟨_,rfl⟩;rw[<-bh]at ap;have x:ak.toList.isEmpty=decide ((pieces a b).getD 0 []=[]):=by
          rw[bh,vV];show((pieces a b).getD 0 []).isEmpty=_
          cases(pieces a b).getD 0 []<;>simp
         clear bh;by_cases ab:(pieces a b).getD 0 []=[]
         .have aU:ak.toList.isEmpty=true:=by rw[x];exact jm ab
          have c4:=a_ ab;clear x ab;go_wp2_with fail;clear ap aU;go_loopw [11] (λc wr=>∃(i:Nat),i<=d/\c=.int .i64 i/\jO w.heap.size wr U m d F (λad aQ=>if ad<b\/(ad=b/\aQ<i)then Fz a ad aQ else 0) 40000000001/\nF T.heap.size wr (.slice (some ⟨ca,0,none⟩) m cp) (iY 59 a)/\nF bi.heap.size wr (.slice (some ⟨cB,0,none⟩) (d+1) cT) (pieces a b)/\Below w.heap.size w wr/\f_ (∀h,h<i->∃bk,ql ((pieces a b).getD (h+1) []) bk)) (λc _=>d-(intOf c).toNat)
          case atStart=>
           refine⟨0,hR,rfl,y.f.congr (λc h _ _=>?_),y.g,y.m,y.j,a_ (λh aZ=>by omega)⟩;by_cases K:c<b
           .rw[if_pos K,if_pos (.inl K)]
           .rw[if_neg K,if_neg (by omega)]
          case round=>
           obtain⟨i,dF,rfl,l,B,aX,C,bX⟩:=hrel;by_cases bF:i<d
           .obtain⟨b6,cl,O,-,-,W⟩:=aX.shape;rw[<-y.r]at O W;simp only[iC]at O;obtain⟨rfl,_,rfl⟩:=O;obtain⟨dm,r,aC⟩:=W (i+1) (by omega);injection r with r
            injection r with r _
            subst r;obtain⟨ae,aJ⟩:∃ae:ByteArray,ae=⟨((pieces a b).getD (i+1) []).toArray⟩:=⟨_,rfl⟩;rw[<-aJ]at aC;have bT:ae.data.toList=(pieces a b).getD (i+1) []:=by rw[aJ]
            have dI:ae.size<=40000000000:=by
             rw[aJ];have aP:=o7 32 ((iY 59 a).getD b []) (i+1);have cn:=o7 59 a b;show((pieces a b).getD (i+1) []).toArray.size<=40000000000;simp only[y6];have dr:((pieces a b).getD (i+1) []).length<=((iY 59 a).getD b []).length:=aP;omega
            have c7:=a_ bT;have j:=hY l B aX C;clear W aJ bT l B aX C;go_wp2_with fail;go_fit (@B7 ae _ (by omega));rintro t au⟨di,cW,rfl,⟨df,bK,bJ,A⟩,av,b7⟩;obtain⟨bE,bd,bq,bI,rfl,-⟩:=id bK.parts;rw[c7.e]at bJ A;have E:=kM (j.f.hV (KR.I av)) (j.g.below av) (j.j.below av) (d_ j.o av) (bK.mono (show ae.size+1<=40000000001 from by omega)) bJ A;have c9:f_ (tZ w.heap.size (.agg #[.bool bE,.slice bd bI.length bq])):=a_ (b7.mono j.o.size);clear b7;clear av bK bJ A aC j
            cases cW
            .have u:=a_ (aF.e (λf=>by
              obtain⟨bk,af⟩:=(f.2 b I).2.2 i bF;exact E.C rfl bk af))
             go_wp2;go_ret;refine⟨_,rfl,.inl ⟨rfl,u.e⟩,?_⟩;exact E.m.alloc E.m.size _
            .have bV:=a_ (E.y rfl);obtain⟨ai,A⟩:=hQ (au.alloc (.cells #[.bool bE,.slice bd bI.length bq] 171));have H:Below au.heap.size au ai:=by rw[A];exact hS
             have ag:=E.f.hV (KR.I H);obtain⟨dl,dq,dn,bv,bw,bm,dL,dj,b5,ck⟩:=ag.open_;obtain⟨dC,cH,bH⟩:=b5 b I;subst cH;obtain⟨dK,cP,c3,cL,a3,aB,aR,a2,-⟩:=ck b i I bF;rw[ij 2]at a3 aB aR a2;have bl:ai.cell? ⟨au.heap.size,0,none⟩=some (.bool bE):=by rw[A];simp
             have bf:ai.cell? ⟨au.heap.size,1,none⟩=some (.slice bd bI.length bq):=by rw[A];simp
             have bb:∀bP,(ai.setCell ⟨F b,i*2,none⟩ bP).cell? ⟨F b,i*2+1,none⟩=some (.slice cP c3 cL):=λbP=>by
              rw[jZ _ _ _ _ (λt=>by injection t;omega)];exact aB
             have b0:=hO ag H A;have cD:=kM bm bH a3 aB aR a2 bb;clear ag H bv bw b5 ck A bm bH a3 aB aR a2 bb;have cX:=b_ bl bf;clear bl bf;go_wp2_with fail;rw[<-b0.l];obtain⟨bm,bH,a3,aB,aR,a2,bb⟩:=cD.e;obtain⟨bl,bf⟩:=cX.e;go_region;all_goals
              go_wp2;go_roundw
              .obtain⟨ag,H,-⟩:=b0.e;have Z:=ag.Jo I;have bR:=ag.set I bF (E.r.below H) c9.e;rw[ij 2]at bR;have cv:Below w.heap.size w ai:=d_ E.m H;refine⟨i+1,by omega,by go_num,?_,?_,?_,?_,a_ (λh aZ=>?_)⟩
               .refine jO.congr (show jO w.heap.size _ U m d F _ 40000000001 from bR) (λc h L aZ=>?_);unfold uV;by_cases aV:c=b/\h=i
                .rw[if_pos aV,if_pos (by omega),aV.1,aV.2];exact bV.e.num.symm
                .rw[if_neg aV];show(if c<b\/(c=b/\h<i)then Fz a c h else 0)=(if c<b\/(c=b/\h<i+1)then Fz a c h else 0);by_cases b9:c<b\/(c=b/\h<i)
                 .rw[if_pos b9,if_pos (by omega)]
                 .rw[if_neg b9,if_neg (by omega)]
               .exact(((E.g.below H).zv Z.2 _ _).zv (Z.2.setCell _ _) _ _:nF T.heap.size _ _ _)
               .exact(((E.j.below H).zv Z.2 _ _).zv (Z.2.setCell _ _) _ _:nF bi.heap.size _ _ _)
               .exact((cv.setCell Z.1 _).setCell Z.1 _).drew
               .by_cases cS:h=i
                .rw[cS];exact⟨df,bV.e⟩
                .exact bX.e h (by omega)
              simp[intOf];omega
           .have bL:i=d:=by omega
            have j:=hY l B C bL;clear l B aX C bL;go_wp2;go_roundw
            .refine⟨b+1,by omega,by go_num,j.f.congr (λc h _ aZ=>?_),j.g,j.j,a_ (λc L=>?_)⟩
             .have:=j.o;by_cases K:c<b+1
              .rw[if_pos K,if_pos (by omega)]
              .rw[if_neg K,if_neg (by omega)]
             .by_cases K:c=b
              .rw[K];exact⟨y.r.symm,c4.e,λh aZ=>bX.e h (by have:=j.o;omega)⟩
              .exact cq.e c (by omega)
            simp[intOf];omega
         .have aU:ak.toList.isEmpty=false:=by rw[x];exact ic ab
          have u:=a_ (aF.e (λf=>ab (f.2 b I).2.1));clear x ab;go_wp2;go_ret;exact⟨_,rfl,.inl ⟨rfl,u.e⟩,y.j⟩
        .have dH:((bC:Int)==(d:Int)+1)=false:=iK.2 (by omega);have u:=a_ (aF.e (λf=>a8 (by rw[y.r];exact(f.2 b I).1)));have dG:(bC:Int)≠(d:Int)+1:=by omega
         go_wp2;go_ret;exact⟨_,rfl,.inl ⟨rfl,u.e⟩,y.j⟩
       .have ch:b=m:=by omega
        have j:=hO l C ch;clear l B C ch;go_wp2;go_ret;refine⟨_,rfl,.inr ⟨U,m,d,F,Fz a,rfl,cM.e D.o.symm (λc L=>cq.e c (by have:=j.l;omega)),?_⟩,j.g⟩;exact j.f.congr (λc h L _=>by rw[if_pos (by have:=j.l;omega)])
     .have cN:((m:Int)==(e:Int))=false:=iK.2 (by omega);have u:=a_ (aF.e (λf=>aE (by rw[D.o];exact f.1)));clear aE;go_wp2;go_ret;exact⟨_,rfl,.inl ⟨rfl,u.e⟩,D.f⟩
  .have c0:((b4:Int)==2)=false:=iK.2 (by omega);have bD:=a_ G;clear G;go_wp2;go_ret;refine⟨_,rfl,.inl ⟨rfl,?_⟩,J.f⟩;rintro⟨e,d,n,ap,bQ,p,o,g,k,-⟩;rw[ar.e]at g;injection g with g _
   subst g;have:=J.g;rw[k]at this;exact bD.e this
 .have c0:((cb:Int)==2)=false:=iK.2 (by omega);have bD:=a_ G;clear G;go_wp2;go_ret;refine⟨_,rfl,.inl ⟨rfl,?_⟩,P.f⟩;rintro⟨e,d,n,v,a,p,o,g,-⟩;have:=P.g;rw[g]at this;exact bD.e this
end R
theorem rm(d:Nat)(h:d<10):(UInt8.ofNat (48+d)).toNat=48+d:=by rw[zo,oO (by omega)]
theorem jz(u:Nat):Lib.decDigits u≠[]/\B1 (Lib.decDigits u)/\iO (Lib.decDigits u)=u/\(0<u->∃c d,Lib.decDigits u=c::d/\c.toNat≠48):=by
 induction u using Nat.strongRecOn with
 |ind u i=>
  by_cases b:u<10
  .rw[Lib.decDigits_one b];refine⟨by simp,?_,?_,λm=>⟨_,_,rfl,?_⟩⟩
   .intro f a;rw[rM]at a;rw[a,rm u b];omega
   .have:=rm u b;unfold iO;simp only[List.foldl_cons,List.foldl_nil];rw[this];omega
   .rw[rm u b];omega
  .obtain⟨n,j,l,h⟩:=i (u/10) (by omega);rw[kI b];have e:=rm (u%10) (by omega);refine⟨by simp,?_,?_,λ_=>?_⟩
   .intro f a;rcases ji.1 a with a|a
    .exact j f a
    .rw[rM]at a;rw[a,e];omega
   .rw[qY,l,e];omega
   .obtain⟨c,d,k,g⟩:=h (by omega);exact⟨c,d++[UInt8.ofNat (48+u%10)],by rw[k];rfl,g⟩
theorem kJ(u:Nat):yW (Lib.decDigits u):=by
 obtain⟨c,d,e,b⟩:=jz u;refine⟨c,d,?_⟩;rcases kl u with a|a
 .subst a;exact .inl (by rw[Lib.decDigits_one (by decide)];rfl)
 .exact .inr (b a)
theorem xc(z:Int):Tok (Lib.itoa z) z:=by
 by_cases j:z<0
 .obtain⟨a,rfl⟩:∃a:Nat,z=-(a:Int):=⟨z.natAbs,by omega⟩;have b:1<=a:=by omega
  rw[Lib.itoa_neg a b];refine .inr ⟨_,rfl,kJ a,?_,by rw[(jz a).2.2.1]⟩;obtain⟨g,i,f,c⟩:=(jz a).2.2.2 b;rw[f];intro e;injection e with d h
  subst d;exact c (by decide)
 .obtain⟨a,rfl⟩:∃a:Nat,z=(a:Int):=⟨z.natAbs,by omega⟩;rw[Lib.itoa_nonneg];exact .inl ⟨kJ a,by rw[(jz a).2.2.1]⟩
namespace R
def mV(c:UInt8):List (List UInt8)->List UInt8
 |[]=>[]
 |[a]=>a
 |a::b::d=>a++c::mV c (b::d)
theorem pG(c:UInt8)(p:List UInt8)(a:List (List UInt8))(h:a≠[]):mV c (p::a)=p++c::mV c a:=by
 cases a with
 |nil=>exact absurd rfl h
 |cons b d=>rfl
theorem BP(c x:UInt8)(p:List UInt8)(a:List (List UInt8)):mV c ((x::p)::a)=x::mV c (p::a):=by
 cases a with
 |nil=>rfl
 |cons b d=>rfl
theorem rl(c:UInt8)(b:List UInt8):mV c (iY c b)=b:=by
 induction b with
 |nil=>rfl
 |cons f e a=>
  by_cases d:f=c
  .subst d;rw[iY,if_pos rfl,pG _ _ _ (rr _ _),a];rfl
  .rw[iY,if_neg d]
   cases h2:iY c e with
   |nil=>exact absurd h2 (rr c e)
   |cons h g=>
    rw[h2]at a;show mV c ((f::h)::g)=_;rw[BP,a]
theorem zu{c:UInt8}{p:List UInt8}(h:c∉p):iY c p=[p]:=by
 induction p with
 |nil=>rfl
 |cons e d b=>
  rw[iY,if_neg (λa=>h (by rw[a];simp)),b (λa=>h (lg _ a))]
theorem yE{c:UInt8}{p:List UInt8}(h:c∉p)(r:List UInt8):iY c (p++c::r)=p::iY c r:=by
 induction p with
 |nil=>rw[om,iY,if_pos rfl]
 |cons d e b=>
  rw[mS,iY,if_neg (λa=>h (by rw[a];simp)),b (λa=>h (lg _ a))]
theorem vK{c:UInt8}:∀(d:List (List UInt8)),d≠[]->(∀b∈d,c∉b)->iY c (mV c d)=d
 |[],a,_=>absurd rfl a
 |[b],_,a=>zu (a b (by simp))
 |b::f::g,_,a=>by
  rw[mV,yE (a b (by simp)),vK (f::g) (by simp) (λh e=>a h (lg _ e))]
def od:List (List UInt8)->List UInt8
 |[]=>[]
 |a::b=>32::(a++od b)
theorem vA:∀(a:List (List UInt8)),mV 32 ([]::a)=od a
 |[]=>rfl
 |[c]=>by simp[mV,od]
 |c::b::d=>by
  have:=vA (b::d);rw[pG _ _ _ (by simp)]at this|-;rw[pG _ _ _ (by simp)];rw[od,<-this];rfl
theorem Az{c k:Nat}(g:0<c):∀(b d:List (List UInt8)) (a:Nat),0<a->a+b.length<=c->iM c (k*c+a) (b++d)=od b++iM c (k*c+a+b.length) d
 |[],d,a,_,_=>by simp[od]
 |h::b,d,a,i,e=>by
  have f:a+1+b.length<=c:=by simp at e;omega
  rw[List.cons_append,iM,if_neg ?_,List.nil_append,show k*c+a+1=k*c+(a+1)from by omega,Az g b d (a+1) (by omega) f,od]
  .rw[List.length_cons,show k*c+(a+1)+b.length=k*c+a+(b.length+1)from by omega];simp[List.append_assoc]
  .rw[show(k*c+a)%c=a from by rw[Nat.mul_comm,Nat.mul_add_mod,Nat.mod_eq_of_lt (by omega)]];omega
theorem Ay{c k:Nat}(g:0<c)(a b:List (List UInt8))(f:a.length=c):iM c (k*c) (a++b)=(if 0<k then[59]else[])++(od a++iM c ((k+1)*c) b):=by
 cases a with
 |nil=>simp at f;omega
 |cons i a=>
  simp only[List.length_cons]at f;have h:(0<k*c/\k*c%c=0)↔0<k:=by
   constructor
   .rintro⟨d,_⟩;rcases Nat.eq_zero_or_pos k with e|e
    .subst e;simp at d
    .exact e
   .intro d;exact⟨Nat.mul_pos d g,Nat.mul_mod_left _ _⟩
  rw[List.cons_append,iM,Az g a b 1 (by omega) (by omega),od];simp only[h];rw[show k*c+1+a.length=(k+1)*c from by rw[Nat.add_mul];omega];simp[List.append_assoc]
theorem tO{c:Nat}(h:0<c):∀(g:List (List (List UInt8))) (d:Nat),g≠[]->(∀k∈g,k.length=c)->iM c (d*c) g.flatten=(if 0<d then[59]else[])++mV 59 (g.map od)
 |[],_,b,_=>absurd rfl b
 |[a],d,_,b=>by
  rw[show[a].flatten=a++[]from by simp,Ay h a [] (b a (by simp))];simp[iM,mV]
 |a::e::f,d,_,b=>by
  have i:=tO h (e::f) (d+1) (by simp) (λl j=>b l (lg _ j));rw[if_pos (by omega)]at i;rw[ym,Ay h a _ (b a (by simp)),i,show(a::e::f).map od=od a::(e::f).map od from rfl,pG 59 (od a) ((e::f).map od) (by simp)];simp
theorem chunks{g:Type}(c:Nat):∀(f:Nat) (a:List g),a.length=f*c->∃d:List (List g),d.length=f/\(∀k∈d,k.length=c)/\d.flatten=a
 |0,a,e=>⟨[],rfl,(λh b=>by cases b),by simp at e;simp[e]⟩
 |f+1,a,e=>by
  rw[jV,j7]at e;obtain⟨d,i,j,l⟩:=chunks c f (a.drop c) (by rw[pJ];omega);refine⟨a.take c::d,by simp[i],λh b=>?_,by rw[ym,l,tz]⟩;rcases jU.1 b with rfl|b
  .rw[kv];omega
  .exact j h b
theorem tP{j:Type}(d:j)(c:Nat):∀(g:List (List j)) (b a:Nat),(∀n∈g,n.length=c)->a<c->b<g.length->g.flatten.getD (b*c+a) d=(g.getD b []).getD a d
 |[],b,a,_,_,i=>by simp at i
 |e::k,0,a,f,l,_=>by
  have h:=f e (by simp);simp[List.getD,lQ (show a<e.length from by omega)]
 |e::k,b+1,a,f,l,i=>by
  have h:=f e (by simp);have:=tP d c k b a (λo m=>f o (lg _ m)) l (by simpa using i);rw[ym,List.getD,uP (by rw[h,jV];omega),show(b+1)*c+a-e.length=b*c+a from by rw[h,jV];omega];rw[List.getD]at this;rw[this];rfl
theorem vc:∀(k:Nat) (f:List UInt8),f.length=k->yW f->Lib.decDigits (iO f)=f:=by
 intro k;induction k with
 |zero=>intro f j b;exact absurd (lp j) b.1
 |succ k x=>
  intro f j b;rcases List.eq_nil_or_concat f with rfl|⟨a,c,rfl⟩
  .exact absurd rfl b.1
  .have z:48<=c.toNat/\c.toNat<=57:=b.2.1 c (by simp);rw[List.concat_eq_append]at b j|-;have l:UInt8.ofNat (48+(c.toNat-48))=c:=by
    apply UInt8.toNat_inj.1;rw[zo,oO (by have:=c.toNat_lt;omega)];omega
   rw[qY];by_cases e:a=[]
   .subst e;rw[show iO []=0 from rfl,l6,jF,Lib.decDigits_one (by omega),l];rfl
   .have A:0<a.length:=rE.2 e;have s:yW a:=by
     refine⟨e,λu q=>b.2.1 u (by simp[q]),.inr ?_⟩;rcases b.2.2 with g|⟨n,r,d,m⟩
     .simp at g;exact absurd g e
     .cases a with
      |nil=>exact absurd rfl e
      |cons h i=>
       injection d with d _
       exact⟨h,i,rfl,by rw[d];exact m⟩
    have y:0<iO a:=by
     rcases b.2.2 with g|⟨n,r,d,m⟩
     .simp at g;exact absurd g e
     .cases a with
      |nil=>exact absurd rfl e
      |cons h i=>
       injection d with d _
       have v:=b.2.1 h (by simp);show 0<k6 (h::i);rw[xH];have p:1<=h.toNat-48:=by rw[d]at v|-;omega
       have w:1<=10^i.length:=kx (by decide);have:=jR p w;omega
    have o:(10*iO a+(c.toNat-48))/10=iO a:=by omega
    have t:(10*iO a+(c.toNat-48))%10=c.toNat-48:=by omega
    rw[kI (by omega),o,t,x a (by simp at j;omega) s,l]
theorem Fm(h:yW L)(a:iO L<=99):L.length<=2:=by
 rw[<-vc _ L rfl h];exact pE _ (by omega)
theorem Ff{z:Int}(h:Tok L z):ql L z:=by
 unfold ql;rcases h with⟨a,rfl⟩|⟨b,rfl,a,d,rfl⟩
 .rw[Lib.itoa_nonneg,vc _ L rfl a]
 .have e:1<=iO b:=by
   rcases kl (iO b)with c|c
   .exfalso;have:=vc _ b rfl a;rw[c,Lib.decDigits_one (by decide)]at this;exact d this.symm
   .exact c
  rw[Lib.itoa_neg _ e,vc _ b rfl a]
theorem Fj{z:Int}(h:ql L z):Tok L z:=by
 unfold ql at h;rw[h];exact xc z
theorem xC{z:Int}(h:Tok L z):∀a∈L,a=45\/(48<=a.toNat/\a.toNat<=57):=by
 intro a b;rcases h with⟨c,-⟩|⟨d,rfl,c,-⟩
 .exact .inr (c.2.1 a b)
 .rcases jU.1 b with rfl|b
  .exact .inl rfl
  .exact .inr (c.2.1 a b)
theorem sr:∀(e:List (List UInt8)),(∀c∈e,∃f,Tok c f)->∀b∈od e,b=32\/b=45\/(48<=b.toNat/\b.toNat<=57)
 |[],_,b,a=>by simp[od]at a
 |c::i,d,b,a=>by
  unfold od at a;rcases jU.1 a with rfl|a
  .exact .inl rfl
  .rcases ji.1 a with a|a
   .obtain⟨f,j⟩:=d c (by simp);exact .inr (xC j b a)
   .exact sr i (λg h=>d g (lg _ h)) b a
theorem rh(h:yW L)(c:UInt8)(b:c.toNat<48\/57<c.toNat):c∉L:=λa=>by
 have:=h.2.1 c a;omega
theorem wD{c x:UInt8}:∀(d:List (List UInt8)),x∈mV c d->x=c\/∃b∈d,x∈b
 |[],a=>by simp[mV]at a
 |[b],a=>.inr ⟨b,by simp,a⟩
 |b::g::h,a=>by
  rw[mV]at a;rcases ji.1 a with a|a
  .exact .inr ⟨b,by simp,a⟩
  .rcases jU.1 a with a|a
   .exact .inl a
   .rcases wD (g::h) a with a|⟨f,i,e⟩
    .exact .inl a
    .exact .inr ⟨f,lg _ i,e⟩
theorem wY{b:Type}{a:List b}{i:Nat}{d:b}(h:i<a.length):a.getD i d∈a:=by
 rw[List.getD,iI h];exact lf h
theorem nS{s:ByteArray}{r c:Nat}{zs:List Int}{L:Nat}(X:r<=99)(ac:c<=99)(h:n0 s r c zs L):qx s.data.toList r c (λa e=>zs.getD (a*c+e) 0):=by
 obtain⟨n,t,d,S,J,A,U,R,G,ae,P⟩:=h;have N:∀y,yW y->iO y<=99->mq y:=λy x u=>by
  refine⟨x.1,Fm x u,x.2.1,λad Y r o M=>?_⟩;rcases x.2.2 with Z|⟨ab,aa,w,W⟩
  .omega
  .rw[o]at w;injection w with w _
   rw[w]at M;exact W M
 have Q:∀k∈d,∃z,Tok k z:=λk I=>by
  obtain⟨a,f,rfl⟩:=lZ.1 I;have:=(P a (by omega)).1;rw[show d.getD a []=d[a]from by simp[List.getD,iI f]]at this;exact⟨_,this⟩
 obtain⟨i,p,F,B⟩:=chunks c r d G;have q:∀g∈i,∀k∈g,∃z,Tok k z:=λg q k I=>Q k (by rw[<-B];exact List.mem_flatten.2 ⟨g,q,I⟩);have K:0<r->0<c->iM c 0 d=mV 59 (i.map od):=λE v=>by
  have:=tO v i 0 (λo=>by rw[o]at p;simp at p;omega) F;rw[pS,B]at this;simpa using this
 have V:(58:UInt8)∉iM c 0 d:=by
  by_cases l:r=0\/c=0
  .have:d=[]:=lp (by rw[G];rcases l with h|h<;>simp[h]);rw[this];simp[iM]
  .rw[K (by omega) (by omega)];intro b;rcases wD _ b with h|⟨C,j,T⟩
   .exact absurd h (by decide)
   .obtain⟨g,H,rfl⟩:=kt.1 j;have:=sr g (q g H) 58 T;revert this;decide
 refine⟨n++120::t,iM c 0 d,n,t,?_,?_,N n J (by omega),N t A (by omega),U,R,?_⟩
 .rw[S,show n++(120::(t++(58::iM c 0 d)))=(n++120::t)++58::iM c 0 d from by simp,yE ?_,zu V];intro b;rcases ji.1 b with b|b
  .exact rh J 58 (by decide) b
  .rcases jU.1 b with b|b
   .exact absurd b (by decide)
   .exact rh A 58 (by decide) b
 .rw[yE (rh J 120 (by decide)),zu (rh A 120 (by decide))]
 .by_cases l:r=0\/c=0
  .have:d=[]:=lp (by rw[G];rcases l with h|h<;>simp[h]);exact .inl ⟨l,by rw[this];rfl⟩
  .have E:0<r:=by omega
   have v:0<c:=by omega
   have hcut:iY 59 (iM c 0 d)=i.map od:=by
    rw[K E v];refine vK _ (λo=>by have:=kX List.length o;simp at this;rw[this]at p;simp at p;omega) (λC j=>?_);obtain⟨g,H,rfl⟩:=kt.1 j;intro b;have:=sr g (q g H) 59 b;revert this;decide
   have D:∀a,a<r->pieces (iM c 0 d) a=[]::i.getD a []:=λa f=>by
    unfold pieces;rw[hcut,show(i.map od).getD a []=od (i.getD a [])from by simp[List.getD,iI (show a<i.length from by omega)],<-vA];refine vK _ (by simp) (λC j=>?_);rcases jU.1 j with rfl|j
    .simp
    .obtain⟨z,l⟩:=q _ (wY (by omega)) C j;intro b;have:=xC l 32 b;revert this;decide
   have O:∀a e,a<r->e<c->ql ((pieces (iM c 0 d) a).getD (e+1) []) (zs.getD (a*c+e) 0):=λa e f m=>by
    rw[D a f];have u:=(P (a*c+e) (jq f m)).1;rw[<-B,tP [] c i a e F m (by omega)]at u;exact Ff u
   refine .inr ⟨E,v,by rw[hcut,rJ,p],λa f=>⟨⟨?_,by rw[D a f];rfl,λe m=>⟨_,O a e f m⟩⟩,λe m=>(O a e f m).num.symm⟩⟩;rw[D a f,j3,F _ (wY (by omega))]
theorem yU{d:List UInt8}(h:mq d):yW d:=by
 refine⟨h.1,h.2.2.1,?_⟩;by_cases c:d.length=1
 .exact .inl c
 .cases d with
  |nil=>exact absurd rfl h.1
  |cons b a=>
   have e:(b::a).length=2:=by
    have g:=h.2.1;have f:0<(b::a).length:=by simp
    omega
   exact .inr ⟨b,a,rfl,h.2.2.2 e b a rfl⟩
theorem C9{d:List UInt8}(h:mq d):k6 d<=99:=by
 obtain⟨f,g,a,-⟩:=h;match d,f,g,a with
 |[b],_,_,a=>have:=a b (by simp);unfold l8 at this;simp[k6];omega
 |[b,e],_,_,a=>have c:=a b (by simp);have i:=a e (by simp);unfold l8 at c i;simp[k6];omega
theorem qN{a:Type}(n i:Nat)(f:Nat->a)(d:a)(h:i<n):((List.range n).map f).getD i d=f i:=by
 simp[List.getD,h]
theorem wI{s:ByteArray}{r c:Nat}{f:Nat->Nat->Int}(S:s.size<=4000)(h:qx s.data.toList r c f):∃aa,r<=99/\c<=99/\n0 s r c aa 4000:=by
 obtain⟨E,d,A,F,Q,X,o,q,p,t,T⟩:=h;have D:s.data.toList=E++58::d:=by rw[<-rl 58 s.data.toList,Q];rfl
 have J:E=A++120::F:=by rw[<-rl 120 E,X];rfl
 have I:s.data.toList.length<=4000:=by simpa using S
 rcases T with⟨j,rfl⟩|⟨af,v,ag,w⟩
 .refine⟨[],by rw[<-p];exact C9 o,by rw[<-t];exact C9 q,A,F,[],?_,yU o,yU q,p,t,?_,?_,λg u=>?_⟩
  .rw[D,J];simp[iM]
  .rcases j with h|h<;>simp[h]
  .rcases j with h|h<;>simp[h]
  .exfalso;rcases j with h|h<;>simp[h]at u
 .obtain⟨b,H⟩:=hQ ((List.range r).map λa=>(pieces d a).tail);have y:b.length=r:=by rw[H];simp
  have ad:∀a,a<r->b.getD a []=(pieces d a).tail:=λa e=>by rw[H];exact qN r a _ _ e
  have z:∀a,a<r->pieces d a=[]::b.getD a []:=λa e=>by
   obtain⟨⟨k,x,-⟩,-⟩:=w a e;rw[ad a e]
   cases hp:pieces d a with
   |nil=>rw[hp]at k;simp at k
   |cons L R=>rw[hp]at x;simp[List.getD]at x;rw[x];rfl
  have C:∀n∈b,n.length=c:=λn U=>by
   obtain⟨a,e,rfl⟩:=lZ.1 U;have k:=(w a (by omega)).1.1;rw[z a (by omega)]at k;rw[show b.getD a []=b[a]from by simp[List.getD,iI e]]at k;simpa using k
  have hcut:iY 59 d=b.map od:=by
   apply List.ext_getElem?;intro a;by_cases e:a<r
   .have G:a<(iY 59 d).length:=by omega
    rw[iI G,wg,iI (show a<b.length from by omega)];have B:=rl 32 ((iY 59 d).getD a []);have P:iY 32 ((iY 59 d).getD a [])=[]::b.getD a []:=z a e;rw[P,vA]at B;rw[show(iY 59 d).getD a []=(iY 59 d)[a]from by simp[List.getD,iI G],show b.getD a []=b[a]from by simp[List.getD,iI (show a<b.length from by omega)]]at B;simp[B]
   .rw[l4 (by omega),l4 (by simp;omega)]
  have V:d=iM c 0 b.flatten:=by
   have:=tO v b 0 (λm=>by rw[m]at y;simp at y;omega) C;rw[pS]at this;rw[this,<-hcut,rl];rfl
  have Y:b.flatten.length=r*c:=by
   have W:∀(l:List (List (List UInt8))),(∀n∈l,n.length=c)->l.flatten.length=l.length*c:=by
    intro l;induction l with
    |nil=>simp
    |cons L R ac=>
     intro M;rw[ym,j6,M L (by simp),ac (λae ab=>M ae (lg _ ab)),j3,jV];omega
   rw[W b C,y]
  refine⟨(List.range (r*c)).map (λg=>num (b.flatten.getD g [])),by rw[<-p];exact C9 o,by rw[<-t];exact C9 q,A,F,b.flatten,?_,yU o,yU q,p,t,Y,by simp,λg u=>?_⟩
  .rw[D,J,<-V];simp
  .have ah:b.flatten.getD g []∈b.flatten:=wY (by omega);rw[qN (r*c) g _ 0 u];obtain⟨a,i,e,K,rfl⟩:∃a i,a<r/\i<c/\g=a*c+i:=⟨g/c,g%c,by rw[ss v];exact u,mQ _ v,by rw[ij];exact(kY g c).symm⟩;obtain⟨ai,j⟩:=(w a e).1.2.2 i K;have m:(pieces d a).getD (i+1) []=b.flatten.getD (a*c+i) []:=by
    rw[tP [] c b a i C K (by omega),z a e];rfl
   rw[m]at j;rw[j.num];refine⟨Fj j,?_⟩;have O:=o7 32 ((iY 59 d).getD a []) (i+1);have N:=o7 59 d a;rw[<-m];have Z:d.length<=4000:=by rw[D]at I;simp at I;omega
   exact iy O (iy N Z)
def Kz(r c:Nat)(f:Nat->Nat->Int):Prop:=4<r\/4<c\/∃a b,a<r/\b<c/\281474976710656<=(f a b).natAbs
def JO(r c:Nat)(f:Nat->Nat->Int)(b:Bool):Prop:=b=true↔Kz r c f
theorem sY{b r c:Nat}{U:Nat->Nat}{f:Nat->Nat->Int}{B L:Nat}{w:World}(h:jO B w b r c U f L)(ab:L<=50000000000)(af:r<=99)(am:c<=99):Calls Tryz.prog 150 #[.pointer (some ⟨b,0,none⟩),.int .i64 4,.int .i64 48] w λz ad=>∃O,z=.returned (.bool O)/\JO r c f O/\Below w.heap.size w ad:=by
 have G:=a_ h;obtain⟨ak,A,P,o,p,n,-⟩:=h.open_;clear h;by_cases v:r<=4
 .by_cases H:c<=4
  .have ac:decide ((4:Int)<(r:Int))=false:=ic (by omega);have aw:decide ((4:Int)<(c:Int))=false:=ic (by omega);go_in;go_wp2_with fail;go_loopw [7] (λk wr=>∃d:Nat,d<=r/\k=.int .i64 d/\Below w.heap.size w wr/\f_ (∀j a,j<d->a<c->(f j a).natAbs<281474976710656)) (λk _=>r-(intOf k).toNat)
   case atStart=>exact⟨0,hR,rfl,hP,a_ (λj a Y=>by omega)⟩
   case round=>
    rename World=>av;obtain⟨d,aq,rfl,g,K⟩:=hrel;clear o p n;obtain⟨-,A,P,o,p,n,-⟩:=(G.e.hV (KR.I g)).open_;have D:=a_ g;clear g;by_cases t:d<r
    .go_wp2_with fail;go_loopw [8] (λa wr=>∃e:Nat,e<=c/\a=.int .i64 e/\Below w.heap.size w wr/\f_ (∀a,a<e->(f d a).natAbs<281474976710656)) (λa _=>c-(intOf a).toNat)
     case atStart=>exact⟨0,hR,rfl,D.e,a_ (λa m=>by omega)⟩
     case round=>
      obtain⟨e,aj,rfl,g,J⟩:=hrel;clear o p n;obtain⟨-,A,P,o,p,n,ah,ag,u,q⟩:=(G.e.hV (KR.I g)).open_;have F:=a_ g;clear g;by_cases x:e<c
      .obtain⟨ap,rfl,ax⟩:=u d t;obtain⟨an,al,ay,ai,S,R,-,-,M⟩:=q d e t x;rw[ij 2]at S R;have T:=a_ M;clear M u q;go_wp2_with fail;go_fit (@Fc _ (f d e) L 48 _ T.e ab (by omega));rintro z ae⟨rfl,N⟩;have C:Below w.heap.size w ae:=d_ F.e N;have E:=a_ C;clear N C;by_cases i:2^48<=(f d e).natAbs
       .have l:decide (2^48<=(f d e).natAbs)=true:=jm i;have s:=a_ i;rw[l];clear l i;go_wp2;go_ret;exact⟨_,rfl,⟨λ_=>.inr (.inr ⟨d,e,t,x,s.e⟩),λ_=>rfl⟩,E.e⟩
       .have l:decide (2^48<=(f d e).natAbs)=false:=ic i;have s:=a_ i;rw[l];clear l i;go_wp2;go_roundw
        .refine⟨e+1,by omega,by go_num,E.e,a_ (λa m=>?_)⟩;by_cases V:a=e
         .rw[V];have:=s.e;omega
         .exact J.e a (by omega)
        simp[intOf];omega
      .have y:e=c:=by omega
       have aa:=a_ y;clear y u q;go_wp2;go_roundw
       .refine⟨d+1,by omega,by go_num,F.e,a_ (λj a Y m=>?_)⟩;by_cases X:j=d
        .rw[X];exact J.e a (by have:=aa.e;omega)
        .exact K.e j a (by omega) m
       simp[intOf];omega
    .have I:d=r:=by omega
     have W:=a_ I;clear I;go_wp2;go_ret;refine⟨_,rfl,⟨(λh=>by cases h),λh=>?_⟩,D.e⟩;exfalso;rcases h with h|h|⟨k,a,ar,m,h⟩
     .omega
     .omega
     .have:=K.e k a (by have:=W.e;omega) m;omega
  .have au:(4:Int)<(c:Int):=by omega
   have ac:decide ((4:Int)<(r:Int))=false:=ic (by omega);have Q:=a_ H;clear H;go_in;go_wp2;go_ret;exact⟨_,rfl,⟨λ_=>.inr (.inl (by have:=Q.e;omega)),λ_=>rfl⟩,hP⟩
 .have ao:(4:Int)<(r:Int):=by omega
  have Z:=a_ v;clear v;go_in;go_wp2;go_ret;exact⟨_,rfl,⟨λ_=>.inl (by have:=Z.e;omega),λ_=>rfl⟩,hP⟩
theorem lM{b r c:Nat}{j:Nat->Nat}{f:Nat->Nat->Int}{B b':Nat}{m:Nat->Nat}{J:Nat->Nat->Int}{al L:Nat}{w:World}(h:jO B w b r c j f L)(D:jO al w b' r c m J L)(O:∀k l,k<r->l<c->f k l=J k l)(Z:L<=50000000000)(aq:r<=99)(aB:c<=99):Calls Tryz.prog 153 #[.pointer (some ⟨b,0,none⟩),.pointer (some ⟨b',0,none⟩)] w λQ d=>Q=.returned (.bool true)/\Below w.heap.size w d:=by
 have v:=hO h D O;obtain⟨ay,R,x,o,q,n,-⟩:=h.open_;obtain⟨aC,ao,F,G,M,s,-⟩:=D.open_;clear h D O;have ar:((r:Int)==(r:Int))=true:=by simp
 have aA:((c:Int)==(c:Int))=true:=by simp
 go_in;go_wp2_with fail;go_quiet (fail);go_wp2_with fail;go_loopw [5] (λk wr=>∃a:Nat,a<=r/\k=.int .i64 a/\Below w.heap.size w wr) (λk _=>r-(intOf k).toNat)
 case atStart=>exact⟨0,hR,rfl,im hP _⟩
 case round=>
  rename World=>aG;obtain⟨a,aE,rfl,g⟩:=hrel;clear o q n G M s;obtain⟨-,R,x,o,q,n,-⟩:=(v.f.hV (KR.I g)).open_;have X:=a_ g;clear g;by_cases p:a<r
  .go_wp2_with fail;go_loopw [6] (λl wr=>∃e:Nat,e<=c/\l=.int .i64 e/\Below w.heap.size w wr) (λl _=>c-(intOf l).toNat)
   case atStart=>exact⟨0,hR,rfl,X.e⟩
   case round=>
    obtain⟨e,az,rfl,g⟩:=hrel;clear o q n;obtain⟨-,R,x,o,q,n,ax,aw,N,E⟩:=(v.f.hV (KR.I g)).open_;obtain⟨-,ao,F,G,M,s,aF,au,H,C⟩:=(v.g.hV (KR.I g)).open_;have aa:=a_ g;clear g;by_cases z:e<c
    .obtain⟨u,rfl,af⟩:=N a p;obtain⟨Y,W,ah,S,A,y,-,-,ag⟩:=E a e p z;obtain⟨t,rfl,V⟩:=H a p;obtain⟨ai,ab,T,U,K,I,-,-,ae⟩:=C a e p z;rw[ij 2]at A y K I;have P:=b_ ag ae;have av:(a:Int)<(r:Int):=by omega
     have aD:(e:Int)<(c:Int):=by omega
     have aj:=a_ (show∀d,Below wr.heap.size wr d->d.cell? ⟨b,2,none⟩=some (.slice (some ⟨u,0,none⟩) r x)/\d.cell? ⟨u,a,none⟩=some (.slice (some ⟨j a,0,none⟩) c c)/\d.cell? ⟨j a,e*2,none⟩=some (.bool Y)/\d.cell? ⟨j a,e*2+1,none⟩=some (.slice W ah S)/\d.cell? ⟨b',2,none⟩=some (.slice (some ⟨t,0,none⟩) r F)/\d.cell? ⟨t,a,none⟩=some (.slice (some ⟨m a,0,none⟩) c c)/\d.cell? ⟨m a,e*2,none⟩=some (.bool ai)/\d.cell? ⟨m a,e*2+1,none⟩=some (.slice ab T U)from λd i=>⟨g_ i n,g_ i af,g_ i A,g_ i y,g_ i s,g_ i V,g_ i K,g_ i I⟩);clear ag ae N E H C;go_upto_region 9 with fail
     go_cut [7]from 44 to 64 (λan ak=>an=.int .i64 0/\Below w.heap.size w ak)
     case first=>
      go_region_held3 (λd=>d.cell? ⟨b,2,none⟩=some (.slice (some ⟨u,0,none⟩) r x)/\d.cell? ⟨u,a,none⟩=some (.slice (some ⟨j a,0,none⟩) c c)/\d.cell? ⟨j a,e*2,none⟩=some (.bool Y)/\d.cell? ⟨j a,e*2+1,none⟩=some (.slice W ah S)/\d.cell? ⟨b',2,none⟩=some (.slice (some ⟨t,0,none⟩) r F)/\d.cell? ⟨t,a,none⟩=some (.slice (some ⟨m a,0,none⟩) c c)/\d.cell? ⟨m a,e*2,none⟩=some (.bool ai)/\d.cell? ⟨m a,e*2+1,none⟩=some (.slice ab T U)) (exact aj.e _ (by first|exact hb9|exact hP.drew)) (first|(go_at_call 200;refine(mc _ _ (f a e) (J a e) L L _ (P.f.below (hP.drew)) (P.i.below (hP.drew)) Z Z).mono ?_;rintro Q ap⟨rfl,ad⟩;have hb9:Below wr.heap.size wr ap:=hP.drew.trans ad;clear ad));all_goals
       go_wp2_with fail;go_meet
       case rel=>
        refine⟨?_,d_ aa.e hb9⟩;rw[v.l a e p z,Int.sub_self];rfl
     case rest=>
      obtain⟨rfl,ac⟩:=hcut;have am:=a_ ac;clear ac o q n G M s af A y V K I;go_wp2;go_roundw;exact⟨e+1,by omega,by go_num,am.e⟩;simp[intOf];omega
    .clear N E H C;go_wp2;go_roundw;exact⟨a+1,by omega,by go_num,aa.e⟩;simp[intOf];omega
  .go_wp2;go_ret;exact⟨rfl,X.e⟩
end R
section
open R
def AJ(N:Nat)(w b:World):Prop:=∀a,N<=a->a<w.heap.size->b.heap[a]?=w.heap[a]?
theorem AJ.trans{N:Nat}{a b c:World}(h:AJ N a b)(k:AJ N b c)(g:a.heap.size<=b.heap.size):AJ N a c:=λd e f=>(k d e (by omega)).trans (h d e f)
theorem AJ.I{N:Nat}{w:World}(h:Below w.heap.size w v):AJ N w v:=λb _ a=>h.block b a
theorem Bz{N:Nat}{w:World}{v:Value}{z:Int}{L:Nat}(h:kB w v z L)(k:tZ N v)(g:AJ N w W):kB W v z L:=by
 obtain⟨neg,m,l,rfl,a,n⟩:=h;refine⟨neg,m,l,rfl,⟨a.1,?_⟩,n⟩;rcases a.2 with e|⟨b,f,j,rfl,d,c,i⟩
 .exact .inl e
 .exact .inr ⟨b,f,j,rfl,d,by rw[g b (k _ _ _ _ _ _ rfl) (jt.1 c).1];exact c,i⟩
theorem BU{N:Nat}{w:World}{b r c:Nat}{f:Nat->Nat->Int}{L:Nat}(h:jO N w b r c o f L)(a:AJ N w v):jO N v b r c o f L:=by
 obtain⟨m,A,l,n,d,F⟩:=h;refine⟨m,A,by rw[a b m (jt.1 l).1];exact l,⟨n.1,?_⟩,λe g=>⟨(d e g).1,?_⟩,F⟩
 .rcases n.2 with y|⟨p,J,x,D,j,q,r⟩
  .exact .inl y
  .exact .inr ⟨p,J,x,D,j,by rw[a p j (jt.1 q).1];exact q,r⟩
 .obtain⟨s,i,u,I⟩:=(d e g).2;refine⟨s,by rw[a _ (d e g).1 (jt.1 i).1];exact i,u,λC E=>?_⟩;obtain⟨H,G,t,B,z,k⟩:=I C E;exact⟨H,G,t,B,Bz z k a,k⟩
theorem vT{z:Int}(h:z.natAbs<281474976710656):(Lib.itoa z).length<=21:=Lib.itoa_length_le z (by omega) (by omega)
theorem AL{r c:Nat}{zs:List Int}(h:hW r c zs)(i:zs.length=r*c):n0 ⟨(lk r c zs).toArray⟩ r c zs 4000/\(lk r c zs).length<=4000:=by
 have t:∀a,a<r*c->(zs.map Lib.itoa).getD a []=Lib.itoa (zs.getD a 0):=λa g=>by
  simp[List.getD,List.getElem?_map,List.getElem?_eq_getElem (show a<zs.length from by omega)]
 refine⟨⟨Lib.decDigits r,Lib.decDigits c,zs.map Lib.itoa,rfl,kJ r,kJ c,(jz r).2.2.1,(jz c).2.2.1,by simp[i],i,λa g=>?_⟩,?_⟩
 .rw[t a g];exact⟨xc _,Nat.le_trans (vT (h.2.2 a g)) (by decide)⟩
 .have m:r*c<=16:=Nat.mul_le_mul h.1 h.2.1;have l:∀(b:List (List UInt8)) (a:Nat),(∀e∈b,e.length<=21)->(iM c a b).length<=b.length*23:=by
   intro b;induction b with
   |nil=>intro a _;simp[iM]
   |cons q v p=>
    intro a d;have j:=d q (by simp);have s:=p (a+1) (λe k=>d e (List.mem_cons_of_mem _ k));rw[iM];simp only[List.length_append,List.length_cons];split<;>simp<;>omega
  have j:=l (zs.map Lib.itoa) 0 (λe d=>by
   obtain⟨w,o,rfl⟩:=List.mem_map.1 d;obtain⟨f,n,rfl⟩:=List.mem_iff_getElem.1 o;have:=h.2.2 f (by omega);rw[show zs.getD f 0=zs[f]from by simp[List.getD,List.getElem?_eq_getElem n]]at this;exact vT this)
  rw[List.length_map,i]at j;have s:=pE r (by have:=h.1;omega);have u:=pE c (by have:=h.2.1;omega);unfold lk;simp only[List.length_append,List.length_cons];have:r*c*23<=16*23:=Nat.mul_le_mul_right _ m;omega
theorem wT{r c r':Nat}{f:Nat->Nat->Int}(h:qx L r c f)(o:qx L r' i A):r=r'/\c=i/\∀a b,a<r->b<c->f a b=A a b:=by
 obtain⟨I,F,E,J,p,v,-,-,q,y,t⟩:=h;obtain⟨H,C,G,D,d,e,-,-,z,u,B⟩:=o;rw[p]at d;injection d with d j
 injection j with j _
 subst d;subst j;rw[v]at e;injection e with e g
 injection g with g _
 subst e;subst g;have m:r=r':=by rw[<-q,z]
 have s:c=i:=by rw[<-y,u]
 subst m;subst s;refine⟨rfl,rfl,λa b k l=>?_⟩;rcases t with⟨x,-⟩|⟨-,-,-,w⟩
 .omega
 .rcases B with⟨x,-⟩|⟨-,-,-,n⟩
  .omega
  .rw[(w a k).2 b l,(n a k).2 b l]
theorem zI{s:ByteArray}{r c:Nat}{zs:List Int}{L:Nat}{w:World}(m:s.size<=40000000000)(h:r<=99)(n:c<=99)(k:n0 s r c zs L):Calls Tryz.prog 149 #[.string s] w λe d=>∃a b,e=.returned (.pointer (some ⟨a,0,none⟩))/\jO w.heap.size d a r c b (λo p=>zs.getD (o*c+p) 0) 40000000001/\Below w.heap.size w d:=by
 go_fit (wv m);rintro e d⟨x,rfl,q,l⟩;have f:=nS h n k;rcases q with⟨-,j⟩|⟨a,u,y,b,v,rfl,t,i⟩
 .exact absurd ⟨r,c,_,f⟩ j
 .obtain⟨rfl,rfl,g⟩:=wT t f;exact⟨a,b,rfl,i.congr g,l⟩
theorem Et{s:ByteArray}{w:World}(e:s.size<=4000)(k:¬Wr s):Calls Tryz.prog 149 #[.string s] w λb a=>b=.returned (.pointer none)/\Below w.heap.size w a:=by
 go_fit (wv (by omega));rintro b a⟨r,rfl,i,l⟩;rcases i with⟨rfl,-⟩|⟨n,c,f,q,o,rfl,j,p⟩
 .exact⟨rfl,l⟩
 .obtain⟨d,g,h,m⟩:=wI e j;exact absurd ⟨c,f,d,g,h,m⟩ k
theorem qF{r c:Nat}{zs:List Int}:Kz r c (λf e=>zs.getD (f*c+e) 0)↔¬hW r c zs:=by
 constructor
 .rintro b⟨j,k,s⟩;rcases b with b|b|⟨f,e,q,n,b⟩
  .omega
  .omega
  .have t:=s (f*c+e) (jq q n);have d:281474976710656<=(zs.getD (f*c+e) 0).natAbs:=b;omega
 .intro b;by_cases j:4<r
  .exact .inl j
  .by_cases k:4<c
   .exact .inr (.inl k)
   .refine .inr (.inr (qe λo=>b ⟨by omega,by omega,λa h=>?_⟩));have i:0<c:=by
     rcases kl c with g|g
     .subst g;simp at h
     .exact g
    have m:a/c<r:=by rw[ss i];exact h
    have p:=mQ a i;have l:a/c*c+a%c=a:=by rw[ij];exact kY a c
    rcases iX (zs.getD a 0).natAbs 281474976710656 with d|d
    .exact d
    .exact absurd ⟨a/c,a%c,m,p,by show 281474976710656<=(zs.getD (a/c*c+a%c) 0).natAbs;rw[l];exact d⟩ o
def Lw(w:World)(W b:Nat)(c a d e:Value)(nx:Nat):Prop:=w.heap[W]?=some (.cells #[.pointer (some ⟨b,0,none⟩),a,d,e,.int .i64 nx,c] 129 (0,0))
theorem Lw.lt{w:World}{W:Nat}{a:Value}{nx:Nat}(h:Lw w W i x y z a nx):W<w.heap.size:=(jt.1 h).1
theorem Lw.J{w:World}{W:Nat}{a:Value}{nx:Nat}(h:Lw w W i x y z a nx)(b:v.heap[W]?=w.heap[W]?):Lw v W i x y z a nx:=by unfold Lw;rw[b];exact h
theorem Lw.cells{w:World}{W:Nat}{b:Value}{nx:Nat}(h:Lw w W i x y z b nx):w.cell? ⟨W,0,none⟩=some (.pointer (some ⟨i,0,none⟩))/\w.cell? ⟨W,1,none⟩=some y/\w.cell? ⟨W,2,none⟩=some z/\w.cell? ⟨W,3,none⟩=some b/\w.cell? ⟨W,4,none⟩=some (.int .i64 nx)/\w.cell? ⟨W,5,none⟩=some x/\(∀a,w.frozen? ⟨W,a,none⟩=false):=by
 unfold Lw at h;refine⟨?_,?_,?_,?_,?_,?_,λa=>?_⟩<;>simp[World.cell?,World.frozen?,h]
abbrev o4:=Nat×List UInt8×Nat
def rB(b:List o4):List Value:=b.map λa=>Value.int .i64 (a.1:Nat)
def tE(b:List o4):List Value:=b.map λa=>Value.pointer (some ⟨a.2.2,0,none⟩)
def tc(b:List o4):List Value:=b.map λa=>Value.string ⟨a.2.1.toArray⟩
theorem mB(a:List o4):(rB a).length=a.length:=by simp[rB]
theorem pD(a:List o4):(tE a).length=a.length:=by simp[tE]
theorem pP(a:List o4):(tc a).length=a.length:=by simp[tc]
theorem FK(a:List o4)(e:o4):rB a++[Value.int .i64 (e.1:Nat)]=rB (a++[e])/\tE a++[Value.pointer (some ⟨e.2.2,0,none⟩)]=tE (a++[e])/\tc a++[Value.string ⟨e.2.1.toArray⟩]=tc (a++[e]):=by simp[rB,tE,tc]
def S4(W:Nat)(b d c:Value):Nat->Prop:=λa=>a=W\/b.ownBlock=some a\/d.ownBlock=some a\/c.ownBlock=some a
theorem KT.yw{w:World}{o:Option Nat}(h:w.grownBy v o)(g:∀f,o=some f->Ty w f t)(i:t≠144)(j:t≠79):KT w v:=by
 have e:∀(a:Nat) (b:Array Value) (d:TypeId),d≠t->w.heap[a]?=some (.cells b d (0,0))->v.heap[a]?=some (.cells b d (0,0)):=λa b d k c=>by
  rw[h.block a (jt.1 c).1 (λl=>k (pj c (g a l.symm)))];exact c
 exact⟨λa b c=>e a b _ (Ne.symm j) c,λa b c=>e a b _ (Ne.symm i) c⟩
theorem j5.yw{S:Nat->Prop}{w:World}{o:Option Nat}(h:w.grownBy v o)(b:∀a,o=some a->Ty w a t)(f:t≠144)(g:t≠79)(c:∀a,o=some a->S a):j5 S w v:=
 ⟨⟨h.os,h.tape,h.output,h.size,λa e d=>h.block a e (λi=>d (c a i.symm))⟩,KT.yw h b f g⟩
theorem j5.tQ{S:Nat->Prop}{w:World}{W o:Nat}(b:Ty w W t)(e:t≠144)(f:t≠79)(a:S W)(u:Value):j5 S w (w.setCell ⟨W,o,none⟩ u):=by
 refine⟨⟨rfl,rfl,rfl,by simp[World.setCell],λd _ c=>?_⟩,KT.setCell (KT.refl _) b e f u⟩;exact js _ _ _ _ (λg=>c (by have h:d=W:=g;rw[h];exact a))
theorem j5.up{S:Nat->Prop}{N:Nat}{w:World}(h:j5 S w v)(b:∀a,S a->a<N):AJ N w v:=λa e c=>h.block c (λd=>by have:=b a d;omega)
theorem ix.lP{S:Nat->Prop}{w:World}{v:Value}{xs:List Value}(h:ix w t v xs)(c:j5 S w W)(d:∀a,v.ownBlock=some a->¬S a):ix W t v xs:=h.J (λa b=>c.block (h.own a b).1 (d a b))
theorem Lw.ty{w:World}{W:Nat}{a:Value}{nx:Nat}(h:Lw w W i x y z a nx):Ty w W 129:=⟨_,_,h⟩
theorem Tryz.IE:(Tryz.prog.info? 3).map (λa=>(a.zero,a.size,a.bytes))=some (some (.int .i64 0),1,8):=by kernel_rfl
theorem Tryz.Ip:(Tryz.prog.info? 164).map (λa=>(a.zero,a.size,a.bytes))=some (some (.pointer none),1,8):=by kernel_rfl
theorem Tryz.Is:(Tryz.prog.info? 9).map (λa=>(a.zero,a.size,a.bytes))=some (some (.string ⟨#[]⟩),1,16):=by kernel_rfl
theorem jf.lP{S:Nat->Prop}{w:World}{b:Nat}{ms:List Hm}{nx:Nat}(h:jf w b ms nx)(a:j5 S w v)(c:¬S b):jf v b ms nx:=by
 have d:=h.lt;obtain⟨e,i,l,f,g⟩:=h;exact⟨e,i,l,f.J (a.block d c),λk j=>(g k j).hV a.2⟩
theorem nu.lP{S:Nat->Prop}{B:Nat}{w:World}{ms:List Hm}{nx:Nat}(h:nu B w i j k ms nx)(a:j5 S w v)(o:¬S i)(n:¬S j)(p:¬S k)(f:∀c,S c->B<=c):nu B v i j k ms nx:=by
 obtain⟨b,l,g,m,q,r,e,d⟩:=h;exact⟨b.J (a.block b.lt o),l.lP a n,g.lP a p,m,q.below (a.below f (by have:=b.lt;omega)),r,e,d⟩
theorem iB{w:World}{a b:Nat}{s t:TypeId}(d:Ty w a s)(g:Ty w b t)(h:s≠t):a≠b:=by
 intro f;subst f;obtain⟨l,i,e⟩:=d;obtain⟨k,j,c⟩:=g;rw[e]at c;simp only[iH,ur]at c;exact h c.2.1
theorem ve{X c:World}{W j:Nat}{v u:Value}{xs:List Value}(l:Ty w W 129)(d:Below w.heap.size w X)(q:ix w t v xs)(C:BX X t v xs u x c)(e:t≠129/\t≠144/\t≠79):ix (c.setCell ⟨W,j,none⟩ x) t x (xs++[u])/\j5 (λa=>a=W\/v.ownBlock=some a) w (c.setCell ⟨W,j,none⟩ x)/\c.heap[W]?=w.heap[W]?/\(∀b,x.ownBlock=some b->v.ownBlock=some b\/w.heap.size<=b):=by
 obtain⟨k,n,y⟩:=C;have o:=l.lt;have D:=d.size;have m:∀a,v.ownBlock=some a->Ty X a t:=λa f=>(q.own a f).2.below d (q.own a f).1;have r:Ty X W 129:=l.below d o;have s:c.heap[W]?=X.heap[W]?:=n.block W (by omega) (λg=>iB (m W g.symm) r e.1 rfl);have p:Ty c W 129:=by
  obtain⟨B,z,A⟩:=r;exact⟨B,z,by rw[s];exact A⟩
 refine⟨k.J (λb h=>?_),?_,s.trans (d.block W o),λb h=>?_⟩
 .exact js _ _ _ _ (λg=>iB (k.own b h).2 p e.1 g)
 .exact((j5.I d).trans (j5.yw n m e.2.1 e.2.2 (λa f=>.inr f))).trans (j5.tQ p (by decide) (by decide) (.inl rfl) _)
 .rcases y b h with i|i
  .exact .inl i
  .exact .inr (by omega)
theorem ix.re{d:World}{W:Nat}{e:TypeId}{v r:Value}{xs ys:List Value}(h:ix w t r ys)(g:ix w e v xs)(i:Ty w W 129)(j:t≠e)(k:t≠129)(f:j5 (λa=>a=W\/v.ownBlock=some a) w d):ix d t r ys:=by
 refine h.lP f (λa c b=>?_);rcases b with b|b
 .exact iB (h.own a c).2 i k b
 .exact iB (h.own a c).2 (g.own a b).2 j rfl
theorem Kf(w:World)(c:Array Value)(t:TypeId)(i b:Nat){v:Value}(a:b=w.heap.size)(h:c[i]?=some v):(w.alloc (.cells c t)).cell? ⟨b,i,none⟩=some v:=by
 have d:=iP w (.cells c t);rw[a];simp only[World.cell?,d];exact h
theorem ix.tQ{w:World}{W o:Nat}{v:Value}{xs:List Value}(h:ix w t v xs)(d:Ty w W 129)(e:t≠129)(u:Value):ix (w.setCell ⟨W,o,none⟩ u) t v xs:=
 h.J (λb a=>js _ _ _ _ (λc=>iB (h.own b a).2 d e c))
theorem tI{w:World}{W:Nat}{a:Value}{nx:Nat}(h:Lw w W i x y z a nx)(u:Value):Lw (w.setCell ⟨W,1,none⟩ u) W i x u z a nx/\Lw (w.setCell ⟨W,2,none⟩ u) W i x y u a nx/\Lw (w.setCell ⟨W,3,none⟩ u) W i x y z u nx:=by
 unfold Lw at*;refine⟨?_,?_,?_⟩<;>(rw[ja _ _ _ _ _ _ h];simp)
theorem H_{w:World}{W:Nat}{a b:Value}{nx:Nat}(h:Lw w W i x y a b nx){z:Int}{n:Nat}(c:z=(n:Int)):Lw (w.setCell ⟨W,4,none⟩ (.int .i64 z)) W i x y a b n:=by
 unfold Lw at*;rw[ja _ _ _ _ _ _ h,c];simp
def kH(w:World)(b d p r c:Nat)(f:Nat->Nat->Int):Prop:=∃e a,a.heap.size=d/\jO b a p r c e f 40000000001/\AJ b a w/\d<=w.heap.size
theorem kH.qk{w:World}{p r c:Nat}{f:Nat->Nat->Int}(h:kH w i j p r c f):∃a,jO i w p r c a f 40000000001:=by
 obtain⟨a,e,-,b,d,-⟩:=h;exact⟨a,BU b d⟩
theorem kH.hV{w:World}{p r c:Nat}{f:Nat->Nat->Int}(h:kH w i j p r c f)(o:w.heap.size<=v.heap.size)(g:∀a,i<=a->a<j->v.heap[a]?=w.heap[a]?):kH v i j p r c f:=by
 obtain⟨m,e,k,l,n,q⟩:=h;exact⟨m,e,k,l,λa b d=>(g a b (by omega)).trans (n a b d),by omega⟩
theorem kH.below{w:World}{p r c:Nat}{f:Nat->Nat->Int}(h:kH w i j p r c f)(a:Below w.heap.size w v):kH v i j p r c f:=by
 obtain⟨m,d,k,l,n,e⟩:=id h;exact h.hV a.size (λb _ g=>a.block b (by omega))
theorem kH.lP{S:Nat->Prop}{w:World}{p r c:Nat}{f:Nat->Nat->Int}(h:kH w i j p r c f)(b:j5 S w v)(d:∀a,S a->a<i\/j<=a):kH v i j p r c f:=by
 obtain⟨q,k,m,n,s,l⟩:=id h;exact h.hV b.size (λa o g=>b.block (by omega) (λe=>by have:=d a e;omega))
theorem kH.new{w:World}{p r c:Nat}{f:Nat->Nat->Int}(h:jO i v p r c o f 40000000001)(b:AJ i v w)(a:v.heap.size<=w.heap.size):kH w i v.heap.size p r c f:=⟨o,v,rfl,h,b,a⟩
def fz(c:Nat)(zs:List Int):Nat->Nat->Int:=λa b=>zs.getD (a*c+b) 0
def mK(r c:Nat)(zs:List Int):Prop:=r<=99/\c<=99/\zs.length=r*c/\(lk r c zs).length<=40000000000
theorem DX(c:Nat):∀(b:List (List UInt8)) (d a:Nat),a<b.length->(b.getD a []).length<=(iM c d b).length:=by
 intro b;induction b with
 |nil=>intro d a e;simp at e
 |cons h g f=>
  intro d a e;rw[iM];simp only[j6,j3]
  cases a with
  |zero=>simp;omega
  |succ a=>
   have:=f (d+1) a (by simpa using e);simp only[List.getD_cons_succ];omega
theorem qI{r c:Nat}{zs:List Int}(h:mK r c zs):n0 ⟨(lk r c zs).toArray⟩ r c zs 40000000000:=by
 obtain⟨i,j,d,e⟩:=h;have f:∀a,a<r*c->(zs.map Lib.itoa).getD a []=Lib.itoa (zs.getD a 0):=λa b=>by
  simp[List.getD,List.getElem?_map,List.getElem?_eq_getElem (show a<zs.length from by omega)]
 refine⟨Lib.decDigits r,Lib.decDigits c,zs.map Lib.itoa,rfl,kJ r,kJ c,(jz r).2.2.1,(jz c).2.2.1,by simp[d],d,λa b=>⟨by rw[f a b];exact xc _,?_⟩⟩;have g:=DX c (zs.map Lib.itoa) 0 a (by simp[d];exact b);unfold lk at e;simp only[List.length_append,List.length_cons]at e;omega
theorem sT{r c:Nat}{zs:List Int}(h:hW r c zs)(a:zs.length=r*c):mK r c zs:=⟨by have:=h.1;omega,by have:=h.2.1;omega,a,iy (AL h a).2 (by decide)⟩
theorem Dx{r c r':Nat}{zs:List Int}(h:mK r c zs)(b:mK r' i e)(g:lk r c zs=lk r' i e):r=r'/\c=i/\∀d a,d<r->a<c->fz c zs d a=fz i e d a:=by
 have f:=nS h.1 h.2.1 (qI h);have j:=nS b.1 b.2.1 (qI b);rw[g]at f;exact wT f j
def mJ(w:World)(i:List o4)(h:Nat->Prop):Prop:=∀f∈i,∃d a b e g,f.2.1=lk d a b/\mK d a b/\kH w e g f.2.2 d a (fz a b)/\∀c,h c->c<e\/g<=c
theorem mJ.nil(w:World)(b:Nat->Prop):mJ w [] b:=λc a=>by cases a
variable{E:List o4}
theorem mJ.below{w:World}{a:Nat->Prop}(h:mJ w E a)(l:Below w.heap.size w v):mJ v E a:=by
 intro i d;obtain⟨j,m,b,c,k,f,g,n,e⟩:=h i d;exact⟨j,m,b,c,k,f,g,n.below l,e⟩
theorem mJ.lP{S b V':Nat->Prop}{w:World}(h:mJ w E b)(k:j5 S w v)(m:∀a,S a->b a)(s:∀a,V' a->b a\/w.heap.size<=a):mJ v E V':=by
 intro i g;obtain⟨l,r,t,n,q,p,u,c,f⟩:=h i g;refine⟨l,r,t,n,q,p,u,c.lP k (λa o=>f a (m a o)),λe j=>?_⟩;rcases s e j with d|d
 .exact f e d
 .obtain⟨_,_,_,_,_,x⟩:=c;exact .inr (by omega)
theorem mJ.sub{w:World}{c:List o4}{b:Nat->Prop}(h:mJ w E b)(e:∀a∈c,a∈E):mJ w c b:=λa d=>h a (e a d)
theorem mJ.app{w:World}{c:List o4}{a:Nat->Prop}(h:mJ w E a)(f:mJ w c a):mJ w (E++c) a:=λd e=>by
 rcases ji.1 e with b|b
 .exact h d b
 .exact f d b
abbrev Hl:=Nat×Nat
def Iw(a:Hl):Value:=.slice (some ⟨a.1,0,none⟩) a.2 a.2
def zZ(a:List Hl):List Value:=a.map Iw
theorem vk(a:List Hl):(zZ a).length=a.length:=by simp[zZ]
def Hs(w:World)(c:Value)(a:List Hl)(e:Nat->Prop):Prop:=ix w 51 c (zZ a)/\(∀d,c.ownBlock=some d->¬e d)/\∀b,b<a.length->(a.getD b (0,0)).2<=5/\¬e (a.getD b (0,0)).1/\ix w 3 (Iw (a.getD b (0,0))) (List.replicate (a.getD b (0,0)).2 (.int .i64 (-1-(b:Int))))
theorem Hs.nil(w:World)(b:Nat->Prop):Hs w (.slice none 0 0) [] b:=⟨ix.nil _ _,λd a=>by simp[Value.ownBlock]at a,λe c=>by simp at c⟩
theorem Hs.below{w:World}{e:List Hl}{d:Nat->Prop}(h:Hs w x e d)(c:Below w.heap.size w v):Hs v x e d:=
 ⟨h.1.below c,h.2.1,λb a=>⟨(h.2.2 b a).1,(h.2.2 b a).2.1,(h.2.2 b a).2.2.below c⟩⟩
theorem vh(a:Hl)(k:Nat):(Iw a).ownBlock=some k↔k=a.1:=by
 simp[Iw,Value.ownBlock,eq_comm]
theorem Hs.lP{S f V':Nat->Prop}{w:World}{l:List Hl}(h:Hs w x l f)(k:j5 S w v)(m:∀a,S a->f a)(p:∀a,V' a->f a\/w.heap.size<=a):Hs v x l V':=by
 obtain⟨o,q,s⟩:=h;refine⟨o.lP k (λa c d=>q a c (m a d)),λg j e=>?_,λt u=>?_⟩
 .rcases p g e with b|b
  .exact q g j b
  .have:=(o.own g j).1;omega
 .obtain⟨r,i,n⟩:=s t u;refine⟨r,λe=>?_,n.lP k (λa c d=>?_)⟩
  .rcases p _ e with b|b
   .exact i b
   .have:=(n.own _ ((vh _ _).2 rfl)).1;omega
  .rw[vh]at c;exact i (c▸m a d)
abbrev Mx:=Nat×Nat×List Int
def l5:Mx:=(0,0,[])
def ko(b:List Nat):List Value:=b.map λa=>Value.pointer (some ⟨a,0,none⟩)
theorem kR(a:List Nat):(ko a).length=a.length:=by simp[ko]
theorem DU(a:List Nat)(p:Nat):ko a++[Value.pointer (some ⟨p,0,none⟩)]=ko (a++[p]):=by simp[ko]
def Ex(x:Mx):List UInt8:=lk x.1 x.2.1 x.2.2
def nB(nx:Nat)(xs:List Mx)(b:List Nat):List o4:=(List.range b.length).map λa=>(nx+a,Ex (xs.getD a l5),b.getD a 0)
theorem Gh(nx:Nat)(xs:List Mx)(a:List Nat):(nB nx xs a).length=a.length:=by simp[nB]
theorem F2(nx:Nat)(xs:List Mx):nB nx xs []=[]:=rfl
theorem xt(nx:Nat)(xs:List Mx)(a:List Nat)(p:Nat):nB nx xs (a++[p])=nB nx xs a++[(nx+a.length,Ex (xs.getD a.length l5),p)]:=by
 unfold nB;rw[j6,nn,lW,kT,tL];congr 1
 .apply pN;intro d c;have b:=jB.1 c;simp[List.getD,lQ b]
 .simp[List.getD]
theorem j5.join{S f:Nat->Prop}{a b c:World}(h:j5 S a b)(k:j5 f b c)(n:∀d,f d->S d\/a.heap.size<=d):j5 S a c:=by
 obtain⟨⟨p,x,l,v,m⟩,r⟩:=h;obtain⟨⟨i,u,q,w,t⟩,o⟩:=k;refine⟨⟨i.trans p,u.trans x,q.trans l,iy v w,λd s e=>?_⟩,r.trans o⟩;rw[t d (by omega) (λj=>?_),m d s e];rcases n d j with g|g
 .exact e g
 .omega
def KN(w:World)(W p:Nat)(q l m n:Value)(nx:Nat)(j:List o4)(xs:List Mx)(c:List Nat)(k:Value)(a:World):Prop:=∃e f g,
 (ix a 164 k (ko c)/\(∀b,k.ownBlock=some b->w.heap.size<=b/\¬S4 W e f g b))/\(Lw a W p q e f g (nx+c.length)/\ix a 3 e (rB (j++nB nx xs c))/\ix a 164 f (tE (j++nB nx xs c))/\ix a 9 g (tc (j++nB nx xs c)))/\(∀b,S4 W e f g b->S4 W l m n b\/w.heap.size<=b)/\(∀d,d<c.length->∃i o,w.heap.size<=i/\kH a i o (c.getD d 0) (xs.getD d l5).1 (xs.getD d l5).2.1 (fz (xs.getD d l5).2.1 (xs.getD d l5).2.2)/\∀h,(S4 W e f g h\/k.ownBlock=some h)->h<i\/o<=h)/\j5 (S4 W l m n) w a
theorem qz{B W s aw ac g n nx bf:Nat}{aC:Value}{F H G:Value}{ms:List Hm}{D:List o4}{xs:List Mx}(bk:Nat->Nat){w:World}(cf:nu B w s aw ac ms bf)(bQ:Lw w W s aC F H G nx)(cz:ix w 3 F (rB D))(cp:ix w 164 H (tE D))(P:ix w 9 G (tc D))(bN:∀c,S4 W F H G c->B<=c)(dx:nx<=1000000)(dy:n<=5)(K:∀i,i<n->bk i<24/\ms.getD (bk i) none=some (nx+i,xs.getD i l5)/\mK (xs.getD i l5).1 (xs.getD i l5).2.1 (xs.getD i l5).2.2)(hd:pq ms)(dM:D.length<=24)(aa:∀i,i<n->w.cell? ⟨g,i,none⟩=some (.int .i64 ((nx+i:Nat):Int)))(b1:¬S4 W F H G g):Calls Tryz.prog 152 #[.pointer (some ⟨W,0,none⟩),.slice (some ⟨g,0,none⟩) n n,.int .i64 n] w λv ct=>∃bK k,k.length=n/\v=.returned bK/\KN w W s aC F H G nx D xs k bK ct:=by
 obtain⟨c3,cg,cb,cj,b6⟩:=kO Tryz.IE;obtain⟨cH,cl,cM,cN,cx⟩:=kO Tryz.Ip;obtain⟨dl,cJ,b5,cL,bU⟩:=kO Tryz.Is;have a7:=hY cg cb cj b6;have N:=hY cl cM cN cx;have aS:=hY cJ b5 cL bU;clear cg cb cj b6 cl cM cN cx cJ b5 cL bU;have f:=tk cf bQ cz cp P bN hd K aa b1;clear cf bQ cz cp P bN hd K aa b1;have dF:((n:Int)==(n:Int))=true:=by simp
 go_in;go_wp2_with fail;go_loopw [7,8] (λcR bs wr=>∃(c:Nat) (k:List Nat),c<=n/\bs=.int .i64 c/\k.length=c/\KN w W s aC F H G nx D xs k cR wr) (λ_ bs _=>n-(intOf bs).toNat)
 case atStart=>
  refine⟨0,[],hR,rfl,rfl,F,H,G,⟨ix.nil _ _,λg aa=>by simp[Value.ownBlock]at aa⟩,?_,λg aa=>.inl aa,λi bA=>by simp at bA,j5.I hP⟩;rw[F2,rV];exact⟨f.g,f.j,f.m,f.r⟩
 case round=>
  obtain⟨c,k,dT,rfl,C,bG⟩:=hrel;by_cases cA:c<n
  .obtain⟨a9,dJ,dL,⟨aJ,ab⟩,⟨ag,an,ar,ay⟩,aN,aW,R⟩:=bG;obtain⟨h,I⟩:=hQ (nx+c);obtain⟨d,aj⟩:=hQ (D++nB nx xs k);rw[<-aj]at an ar ay;have dU:d.length<=29:=by rw[aj,j6,Gh];omega
   rw[C,<-I]at ag;have b0:nu B wr s aw ac ms bf:=f.f.lP R (λa=>?hT) (λa=>?h1) (λa=>?h2) f.y
   case hT=>
    have m:Ty w s 149:=⟨_,_,f.f.1⟩;rcases a with a|a|a|a
    .exact iB m f.g.ty (by decide) a
    .exact iB m (f.j.own s a).2 (by decide) rfl
    .exact iB m (f.m.own s a).2 (by decide) rfl
    .exact iB m (f.r.own s a).2 (by decide) rfl
   case h1=>
    have m:=f.f.2.1.ty;rcases a with a|a|a|a
    .exact iB m f.g.ty (by decide) a
    .exact iB m (f.j.own aw a).2 (by decide) rfl
    .exact iB m (f.m.own aw a).2 (by decide) rfl
    .exact iB m (f.r.own aw a).2 (by decide) rfl
   case h2=>
    have m:=f.f.2.2.1.ty;rcases a with a|a|a|a
    .exact iB m f.g.ty (by decide) a
    .exact iB m (f.j.own ac a).2 (by decide) rfl
    .exact iB m (f.m.own ac a).2 (by decide) rfl
    .exact iB m (f.r.own ac a).2 (by decide) rfl
   obtain⟨bY,bI,bi⟩:=f.B c cA;obtain⟨v,X⟩:=hQ (xs.getD c l5);rw[<-X,<-I]at bI;rw[<-X]at bi;have dd:wr.cell? ⟨g,c,none⟩=some (.int .i64 (h:Int)):=by
    have cw:=f.D c cA;have cT:g<w.heap.size:=sD w _ cw;have cZ:=R.block cT f.K;rw[I,<-cw];simp only[World.cell?,cZ]
   obtain⟨J,O,bR,-⟩:=an.shape;obtain⟨ao,ax,bO,-⟩:=ar.shape;obtain⟨ah,al,aK,-⟩:=ay.shape;obtain⟨ae,af,cK,-⟩:=aJ.shape;rw[mB]at bR;rw[pD]at bO;rw[pP]at aK;rw[kR,C]at cK;subst bR;subst bO;subst aK;subst cK;have a5:=hY I aj C X;have aB:=hY (oB aJ ab) aN aW R;have T:=iu b0 ag an ar ay;have ad:=hO bY bI bi;have dA:h<=1000005:=by omega
   obtain⟨dG,dP⟩:=hQ d.length;clear I aj C X aJ ab aN aW R b0 an ar ay bY bI bi;obtain⟨bF,a0,bj,bg,aQ,bo,bv⟩:=ag.cells;clear ag;have dw:((h:Int)==(h:Int))=true:=by simp
   have dp:(c:Int)<(n:Int):=by omega
   go_wp2_with fail;go_quiet (fail);have cX:f_ (q5 ms (h:Int) (Ex v) 0):=a_ (.inl ⟨rfl,bk c,_,ad.f,ad.g,rfl,rfl⟩);go_upto_region 9 with fail
   go_cut [9,10]from 36 to 47 (λcB a1 az=>cB=.string ⟨(Ex v).toArray⟩/\a1=.int .i64 0/\Below wr.heap.size wr az)
   case first=>
    go_region_with (go_at_call 122;go_must (refine(@r5 B s aw ac h ms bf _ (T.f.below ((im hP _).drew))).mono ?_;rintro v dq⟨cB,a1,rfl,S,dg⟩;obtain⟨rfl,rfl⟩:=nN f.A S cX.e));all_goals
     go_wp2_with fail;go_meet
     case rel=>exact⟨rfl,rfl,((im hP _).drew).trans dg⟩
   case rest=>
    obtain⟨rfl,rfl,bz⟩:=hcut;obtain⟨aq,a6⟩:∃aq:ByteArray,aq=⟨(Ex v).toArray⟩:=⟨_,rfl⟩;have cd:=qI ad.l;have cQ:aq.size<=40000000000:=by rw[a6];show(Ex v).toArray.size<=40000000000;simpa[Ex]using ad.z
    have bH:=b_ a6 cd;have c9:=a_ bz;have cu:=bz.size;rw[<-a6];clear a6 cd bz bF a0 bj bg aQ bo bv dd;go_wp2_with fail;go_fit (@zI aq v.1 v.2.1 v.2.2 40000000000 _ cQ ad.j ad.m (by rw[bH.f];exact bH.i));rintro dC p⟨l,dR,rfl,Z,b8⟩;have x:Below wr.heap.size wr p:=c9.e.trans (b8.mono cu);replace Z:=Z.low cu;have dN:=x.size;have bE:=T.g.J (x.block W T.g.lt);have cE:=T.j.below x;have cO:=T.m.below x;have ci:=T.x.below x;have bP:=aB.f.1.below x;obtain⟨bF,a0,bj,bg,aQ,bo,bv⟩:=bE.cells;have t:=kM Z x bE cE cO ci bP;clear Z b8 bE cE cO ci x bP;go_upto_region 13 with fail
    go_cut []from 56 to 68 (λaz=>∃a9,Lw az W s aC a9 (.slice ao d.length ax) (.slice ah d.length al) h/\ix az 3 a9 (rB d++[Value.int .i64 (h:Nat)])/\j5 (λc=>c=W\/(Value.slice J d.length O).ownBlock=some c) p az/\(∀g,a9.ownBlock=some g->(Value.slice J d.length O).ownBlock=some g\/p.heap.size<=g))
    case first=>
     have dW:=tg a0;have dE:=tg aQ;obtain⟨cW,P⟩:=hQ (((p.alloc (.cells #[.int .i64 h] 3)).drew));have br:Below p.heap.size p cW:=by rw[P];exact(hS).drew
     have cI:ix ((p.alloc (.cells #[.int .i64 h] 3)).drew) 3 (.slice J d.length O) (rB d):=by rw[<-P];exact t.m.below br
     have cm:((p.alloc (.cells #[.int .i64 h] 3)).drew).cell? (Addr.add ⟨p.heap.size,0,none⟩ 0)=some (.int .i64 (h:Nat)):=by simp[Addr.add]
     have bM:(rB d).length+1<=30:=by rw[mB];omega
     have au:=iu cI cm bM P br;clear cI cm bM P br;go_region_law (refine @qi _ _ _ _ _ _ _ _ rfl (.tmp 60) (.tmp 65) 51 rfl 3 c3 (.int .i64 0) 8 Tryz.underlying51 a7.f a7.g a7.j a7.o rfl (.slice J d.length O) (rB d) rfl au.f ⟨p.heap.size,0,none⟩ (.int .i64 (h:Nat)) rfl au.g rfl (iy au.j (by decide)) (iy (jo _ au.j) (by decide)) ?_;intro dI ct aD;obtain⟨U,V,aL,-⟩:=aD.1.shape;obtain⟨Q,aH⟩:=hQ ((rB d++[Value.int .i64 (h:Nat)]).length);rw[<-aH]at aL;clear aH;subst aL;rw[<-au.m]at aD;have aY:=b_ aD (ve (j:=1) t.j.ty au.x t.m aD (by decide));have b9:=t.j.J aY.m;obtain⟨-,aO,-,-,-,-,dt⟩:=b9.cells;clear aD);all_goals
      go_wp2_with fail;go_meet
      case rel=>
       refine⟨_,?_,?_,?_,aY.x⟩
       .exact(tI b9 _).1
       .exact aY.g
       .exact aY.j
    case rest=>
     obtain⟨a2,bh,cD,ai,bT⟩:=hcut;have bS:=t.r.re t.m t.j.ty (by decide) (by decide) ai;have cv:=t.y.re t.m t.j.ty (by decide) (by decide) ai;have cF:=t.C.lP ai (λc K S=>(aB.f.2 c K).2 (S.elim .inl (λa=>.inr (.inl a))));have du:=ai.size;obtain⟨a3,aO,bb,aZ,aV,a8,M⟩:=bh.cells;have u:=kM bh cD bS cv ai bT cF;clear bh cD bS cv ai bT cF bF a0 bj bg aQ bo bv;go_wp2_with (at_builtin;refine @kj _ _ _ _ _ _ _ rfl _ _ _ rfl 164 cH (.pointer none) 8 Tryz.underlying126 N.f N.g N.j N.o rfl (.slice ao d.length ax) (tE d) rfl ?_ ⟨_,0,none⟩ (.pointer (some ⟨l,0,none⟩)) rfl ?_ rfl ?_ ?_ ?_)
     .exact u.j.below hS
     .simp[Addr.add]
     .rw[pD];unfold maxLen;omega
     .rw[pD];omega
     intro dV bl bq;obtain⟨U,V,aL,-⟩:=bq.1.shape;obtain⟨Q,aH⟩:=hQ ((tE d++[Value.pointer (some ⟨l,0,none⟩)]).length);rw[<-aH]at aL;clear aH;subst aL;obtain⟨aE,q,aI,aP⟩:=ve (j:=2) u.f.ty hS u.j bq (by decide);have bn:=u.f.J aI;have cn:=u.g.re u.j u.f.ty (by decide) (by decide) q;have cC:=u.m.re u.j u.f.ty (by decide) (by decide) q;have co:=u.C.lP q (λc K S=>(aB.f.2 c K).2 (S.elim .inl (λa=>.inr (.inr (.inl a)))));clear a3 aO bb aZ aV a8 M;obtain⟨a3,aO,bb,aZ,aV,a8,M⟩:=bn.cells;have cy:=M 2;have dH:wc.heap.size<=bl.heap.size:=by have:=q.size;simpa using this
     obtain⟨bW,bc⟩:=hQ (bl.setCell ⟨W,2,none⟩ (.slice U Q V));have r:=kM (tI bn (.slice U Q V)).2.1 cn aE cC q aP co;rw[<-bc]at r;have dn:=a_ bc;have dh:bW.heap.size=bl.heap.size:=by rw[bc];simp[World.setCell]
     clear bq aE q aI aP bn cn cC co M bc;go_wp2_with (at_builtin;rw[<-dn.e];refine @kj _ _ _ _ _ _ _ rfl _ _ _ rfl 9 dl (.string ⟨#[]⟩) 16 Tryz.underlying127 aS.f aS.g aS.j aS.o rfl (.slice ah d.length al) (tc d) rfl ?_ ⟨_,0,none⟩ (.string aq) rfl ?_ rfl ?_ ?_ ?_)
     .exact r.m.below hS
     .first
       |(simp[Addr.add];done)
       |(rw[<-dh];simp[Addr.add])
     .rw[pP];unfold maxLen;omega
     .rw[pP];omega
     intro b2 aG bC;obtain⟨ak,av,aK,-⟩:=bC.1.shape;obtain⟨am,ch⟩:=hQ ((tc d++[Value.string aq]).length);rw[<-ch]at aK;clear ch;subst aK;obtain⟨aE,q,aI,aP⟩:=ve (j:=3) r.f.ty hS r.m bC (by decide);have bB:=r.f.J aI;have cq:=r.g.re r.m r.f.ty (by decide) (by decide) q;have b7:=r.j.re r.m r.f.ty (by decide) (by decide) q;have ca:=r.C.lP q (λc K S=>(aB.f.2 c K).2 (S.elim .inl (λa=>.inr (.inr (.inr a)))));clear a3 aO bb aZ aV a8 cy;obtain⟨a3,aO,bb,aZ,aV,a8,M⟩:=bB.cells;have cy:=M 3;have dv:=M 4;have dr:bW.heap.size<=aG.heap.size:=by have:=q.size;simpa[World.setCell]using this
     have E:=(tI bB (.slice ak am av)).2.2;have bx:=ca.tQ (o:=4) E.ty (by decide) (.int .i64 ((h:Int)+1));have b4:=bx.below (hP.alloc c_ (.cells #[.pointer (some ⟨l,0,none⟩)] 164));have ck:=vD E cq b7 aE q aP bx b4;clear bC aE q aI aP bB cq b7 ca bx b4 E M;go_wp2_with (at_builtin;refine @kj _ _ _ _ _ _ _ rfl _ _ _ rfl 164 cH (.pointer none) 8 Tryz.underlying126 N.f N.g N.j N.o rfl (.slice ae c af) (ko k) rfl ck.E ⟨_,0,none⟩ (.pointer (some ⟨l,0,none⟩)) rfl ?_ rfl ?_ ?_ ?_)
     .rw[show Addr.add ⟨aG.heap.size,0,none⟩ 0=⟨aG.heap.size,0,none⟩from by simp[Addr.add]];exact Kf _ _ _ _ _ (by simp[World.setCell]) rfl
     .rw[kR,a5.j];unfold maxLen;omega
     .rw[kR,a5.j];omega
     intro c0 aM a4;have cV:f_ (KN w W s aC F H G nx D xs (k++[l]) c0 aM):=a_ (by
      obtain⟨E,da,c8,df,dj,cU,b2,bX⟩:=ck.e;obtain⟨-,-,-,-,db,c6,-⟩:=r.e;obtain⟨-,-,-,-,c7,c4,-⟩:=u.e;obtain⟨Z,x,-⟩:=t.e;obtain⟨-,ag,an,ar,ay⟩:=T.e;obtain⟨⟨aJ,ab⟩,aN,aW,R⟩:=aB.e;obtain⟨I,aj,C,X⟩:=a5.e;have aX:=H_ E (z:=(h:Int)+1) (n:=h+1) (by omega);have bd:=da.tQ (o:=4) E.ty (by decide) (.int .i64 ((h:Int)+1));have aU:=c8.tQ (o:=4) E.ty (by decide) (.int .i64 ((h:Int)+1));have aF:=df.tQ (o:=4) E.ty (by decide) (.int .i64 ((h:Int)+1));obtain⟨A,bD⟩:∃A:Nat->Prop,A=λb=>S4 W (.slice J d.length O) (.slice ao d.length ax) (.slice ah d.length al) b\/(Value.slice ae c af).ownBlock=some b:=⟨_,rfl⟩;have L:∀b,S4 W (.slice J d.length O) (.slice ao d.length ax) (.slice ah d.length al) b\/(Value.slice ae c af).ownBlock=some b->A b:=λb a=>by rw[bD];exact a
      have bt:∀b,A b->S4 W (.slice J d.length O) (.slice ao d.length ax) (.slice ah d.length al) b\/(Value.slice ae c af).ownBlock=some b:=λb a=>by rw[bD]at a;exact a
      clear bD;have cs:j5 A _ _:=j5.tQ (o:=4) E.ty (by decide) (by decide) (L W (.inl (.inl rfl))) (.int .i64 ((h:Int)+1));obtain⟨y,cc⟩:=hQ ((aG.setCell ⟨W,3,none⟩ (.slice ak am av)).setCell ⟨W,4,none⟩ (.int .i64 ((h:Int)+1)));have dD:y.heap.size=aG.heap.size:=by rw[cc];simp[World.setCell]
      rw[<-cc]at aX bd aU aF cs b2 bX a4;obtain⟨cP,b3,bu⟩:=a4;have bJ:j5 A p y:=(((c7.mono (λb a=>L b (.inl (a.elim .inl (λa=>.inr (.inl a)))))).trans (db.mono (λb a=>L b (.inl (a.elim .inl (λa=>.inr (.inr (.inl a)))))))).trans (dj.mono (λb a=>L b (.inl (a.elim .inl (λa=>.inr (.inr (.inr a)))))))).trans cs;have bZ:Below y.heap.size y (y.alloc (.cells #[.pointer (some ⟨l,0,none⟩)] 164)):=hS;have dc:j5 A y aM:=(j5.I bZ).trans (j5.yw b3 (λb e=>(bX.own b e).2) (by decide) (by decide) (λb e=>L b (.inr e)));have bp:j5 A p aM:=bJ.trans dc;have aR:∀b,A b->b<wr.heap.size:=λb a=>by
       rcases bt b a with a|a
       .rcases a with a|a|a|a
        .rw[a];exact ag.lt
        .exact(an.own b a).1
        .exact(ar.own b a).1
        .exact(ay.own b a).1
       .exact(aJ.own b a).1
      have bL:j5 A wr aM:=(j5.I x).trans bp;have dO:=bJ.size;have dB:(y.alloc (.cells #[.pointer (some ⟨l,0,none⟩)] 164)).heap.size=y.heap.size+1:=by simp
      have ba:∀b,S4 W a2 (.slice U Q V) (.slice ak am av) b->S4 W (.slice J d.length O) (.slice ao d.length ax) (.slice ah d.length al) b\/p.heap.size<=b:=λb a=>by
       rcases a with a|a|a|a
       .exact .inl (.inl a)
       .rcases c4 b a with a|a
        .exact .inl (.inr (.inl a))
        .exact .inr a
       .rcases c6 b a with a|a
        .exact .inl (.inr (.inr (.inl a)))
        .exact .inr (by omega)
       .rcases cU b a with a|a
        .exact .inl (.inr (.inr (.inr a)))
        .exact .inr (by omega)
      have di:∀b,S4 W a2 (.slice U Q V) (.slice ak am av) b->b<y.heap.size:=λb a=>by
       rcases a with a|a|a|a
       .rw[a];exact aX.lt
       .exact(bd.own b a).1
       .exact(aU.own b a).1
       .exact(aF.own b a).1
      have aA:∀b,S4 W a2 (.slice U Q V) (.slice ak am av) b->(Value.slice ae c af).ownBlock=some b->False:=λb a ap=>by
       rcases ba b a with Y|Y
       .exact(ab b ap).2 Y
       .have:=aR b (L b (.inr ap));omega
      have aT:∀b,b<y.heap.size->(Value.slice ae c af).ownBlock≠some b->aM.heap[b]?=y.heap[b]?:=λb bw Y=>by
       rw[b3.block b (by omega) (λa1=>Y a1.symm)];exact bZ.block b bw
      have dk:=R.size;have dz:=x.size;have be:D++nB nx xs (k++[l])=d++[(h,Ex v,l)]:=by
       rw[xt,<-sx,<-aj,C,<-I,<-X]
      obtain⟨cS,dm,c5⟩:=FK d (h,Ex v,l);refine⟨a2,.slice U Q V,.slice ak am av,⟨by rw[<-DU];exact cP,λb e=>?_⟩,⟨?_,?_,?_,?_⟩,λb e=>?_,λi bA=>?_,R.join bL (λb e=>?_)⟩
      .rcases bu b e with a|a
       .exact⟨(ab b a).1,λap=>aA b ap a⟩
       .exact⟨by omega,λap=>by have:=di b ap;omega⟩
      .rw[j6,nn,C,<-zz,<-I];exact aX.J (aT W aX.lt (λa=>aA W (.inl rfl) a))
      .rw[be,<-cS];exact bd.J (λb e=>aT b (bd.own b e).1 (λa=>aA b (.inr (.inl e)) a))
      .rw[be,<-dm];exact aU.J (λb e=>aT b (aU.own b e).1 (λa=>aA b (.inr (.inr (.inl e))) a))
      .rw[be,<-c5];rw[bH.f]at aF;exact aF.J (λb e=>aT b (aF.own b e).1 (λa=>aA b (.inr (.inr (.inr e))) a))
      .rcases ba b e with a|a
       .exact aN b a
       .exact .inr (by omega)
      .rw[j6,nn]at bA;by_cases bV:i<k.length
       .obtain⟨c2,cr,bw,Y,bm⟩:=aW i bV;have dK:cr<=wr.heap.size:=Y.choose_spec.choose_spec.2.2.2;rw[show(k++[l]).getD i 0=k.getD i 0 from by simp[List.getD,lQ bV]];refine⟨c2,cr,bw,Y.lP bL (λb e=>bm b (bt b e)),λb e=>?_⟩;rcases e with e|e
        .rcases ba b e with a|a
         .exact bm b (.inl a)
         .exact .inr (by omega)
        .rcases bu b e with a|a
         .exact bm b (.inr a)
         .exact .inr (by omega)
       .have c1:i=c:=by omega
        rw[c1,<-X,show(k++[l]).getD c 0=l from by simp[List.getD,<-C]];refine⟨wr.heap.size,p.heap.size,dk,kH.new Z (bp.up aR) bp.size,λb e=>?_⟩;rcases e with e|e
        .rcases ba b e with a|a
         .exact .inl (aR b (L b (.inl a)))
         .exact .inr a
        .rcases bu b e with a|a
         .exact .inl (aR b (L b (.inr a)))
         .exact .inr (by omega)
      .rcases bt b e with a|a
       .exact aN b a
       .exact .inr (ab b a).1)
     obtain⟨dQ,dS,cG,-⟩:=a4.1.shape;obtain⟨ds,ce⟩:=hQ ((ko k++[Value.pointer (some ⟨l,0,none⟩)]).length);rw[<-ce]at cG;clear ce a4;subst cG;go_wp2;go_roundw;exact⟨c+1,k++[l],by omega,by go_num,by rw[j6,nn,a5.j],cV.e⟩;simp[intOf];omega
  .have de:c=n:=by omega
   subst de;have cY:=a_ bG;clear bG;go_wp2;go_ret;exact⟨_,k,C,rfl,cY.e⟩
def Lb(w:World)(W q:Nat)(s l n o:Value)(nx:Nat)(j:List o4)(r c:Nat)(zs:List Int)(t:Value)(a:World):Prop:=∃b d e f m i,t=.slice (some ⟨m,0,none⟩) 1 i/\1<=i/\i<=9223372036854775807/\a.cell? ⟨m,0,none⟩=some (.pointer (some ⟨b,0,none⟩))/\Lw a W q s d e f (nx+1)/\
 ix a 3 d (rB (j++[(nx,lk r c zs,b)]))/\ix a 164 e (tE (j++[(nx,lk r c zs,b)]))/\ix a 9 f (tc (j++[(nx,lk r c zs,b)]))/\(∀k,S4 W d e f k->S4 W l n o k\/w.heap.size<=k)/\(∃g p,w.heap.size<=g/\kH a g p b r c (fz c zs)/\∀h,S4 W d e f h->h<g\/p<=h)/\j5 (S4 W l n o) w a
theorem vI{B W h q n g:Nat}(k:Nat){r c nx o:Nat}{t:Value}{b d f:Value}{ms:List Hm}{e:List o4}{zs:List Int}{w:World}(D:nu B w h q n ms o)(R:Lw w W h t b d f nx)(E:ix w 3 b (rB e))(Y:ix w 164 d (tE e))(S:ix w 9 f (tc e))(O:∀k,S4 W b d f k->B<=k)(ai:nx<=1000000)(l:k<24)(V:ms.getD k none=some (nx,r,c,zs))(hd:pq ms)(ae:mK r c zs)(z:e.length<=24)(K:w.heap[g]?=some (.cells #[.int .i64 nx] 3 (0,0)))(N:¬S4 W b d f g):Calls Tryz.prog 152 #[.pointer (some ⟨W,0,none⟩),.slice (some ⟨g,0,none⟩) 1 1,.int .i64 1] w λy u=>∃i,y=.returned i/\Lb w W h t b d f nx e r c zs i u:=by
 have P:=@qz B W h q n g 1 nx o _ b d f ms e [(r,c,zs)] (λ_=>k) w D R E Y S O ai (by omega) (λm ad=>by
  obtain rfl:m=0:=by omega
  exact⟨l,V,ae⟩) hd z (λm ad=>by
  obtain rfl:m=0:=by omega
  simp[World.cell?,K]) N
 refine Calls.mono (show Calls Tryz.prog 152 #[.pointer (some ⟨W,0,none⟩),.slice (some ⟨g,0,none⟩) 1 1,.int .i64 1] w _ from P) ?_;rintro y u⟨i,s,I,rfl,F,U,aj,⟨j,-⟩,⟨T,x,p,v⟩,J,aa,ag⟩;obtain⟨a,rfl⟩:∃a,s=[a]:=by
  match s,I with
  |[a],_=>exact⟨a,rfl⟩
 have A:nB nx [(r,c,zs)] [a]=[(nx,lk r c zs,a)]:=rfl;rw[A]at x p v;refine⟨i,rfl,?_⟩;rcases j with⟨-,G⟩|⟨af,L,ak,j,X,ah,-,H,C⟩
 .simp[ko]at G
 .refine⟨a,F,U,aj,af,L,by simpa[ko]using j,by simpa[ko]using ah,by simpa[maxLen]using H,?_,T,x,p,v,J,?_,ag⟩
  .have:=C 0 (by simp[ko]);simp[ko]at this;simp only[World.cell?,X];exact this
  .obtain⟨Q,ab,ac,Z,M⟩:=aa 0 (by simp);exact⟨Q,ab,ac,Z,λk l=>M k (.inl l)⟩
def Bg(ms:List Hm):Nat:=(ms.filter Option.isSome).length
theorem CW{ms:List Hm}{i:Nat}(a:i<ms.length)(x:Hm):Bg (ms.set i x)+(if(ms.getD i none).isSome then 1 else 0)=Bg ms+(if x.isSome then 1 else 0):=by
 have d:ms=ms.take i++ms[i]::ms.drop (i+1):=by rw[<-ow a,tz]
 have e:ms.set i x=ms.take i++x::ms.drop (i+1):=by rw[List.set_eq_take_append_cons_drop,if_pos a]
 have f:ms.getD i none=ms[i]:=by simp[List.getD,iI a]
 have c:Bg ms=Bg (ms.take i)+((if(ms[i]).isSome then 1 else 0)+Bg (ms.drop (i+1))):=by
  conv=>lhs;rw[d]
  unfold Bg;rw[List.filter_append,j6,List.filter_cons];split<;>simp<;>omega
 have b:Bg (ms.set i x)=Bg (ms.take i)+((if x.isSome then 1 else 0)+Bg (ms.drop (i+1))):=by
  rw[e];unfold Bg;rw[List.filter_append,j6,List.filter_cons];split<;>simp<;>omega
 rw[f,c,b];omega
theorem Fi(ms:List Hm):Bg ms<=ms.length:=List.length_filter_le _ _
theorem sF{ms:List Hm}(f:ms.length=24):Bg ms=24↔∀a,a<24->ms.getD a none≠none:=by
 unfold Bg;rw[<-f,List.length_filter_eq_length_iff];constructor
 .intro c a b d;have:=c (ms[a]'b) (lf _);rw[List.getD,iI b]at d;simp at d;rw[d]at this
  cases this
 .intro c h e;obtain⟨a,b,rfl⟩:=lZ.1 e;have:=c a b;rw[List.getD,iI b]at this
  cases hm:ms[a]with
  |none=>rw[hm]at this;simp at this
  |some g=>rfl
structure Rel (es:List o4) (ms:List Hm) (nx:Nat):Prop where
 dst:pq ms
 len:ms.length=24
 Ky:∀k x,k<24->ms.getD k none=some x->x.1<nx
 num:es.length=Bg ms
 has:∀e∈es,∃k x,k<24/\ms.getD k none=some x/\x.1=e.1/\e.2.1=lk x.2.1 x.2.2.1 x.2.2.2
 all:∀k x,k<24->ms.getD k none=some x->∃e∈es,e.1=x.1
 nodup:(es.map (λe=>e.1)).Nodup
theorem Rel.start:Rel [] (List.replicate 24 none) 0:=by
 refine⟨?_,by simp,?_,?_,(λg c=>by cases c),?_,by simp⟩
 .intro h f b e _ _ a;rw[pb]at a;cases a
 .intro d b _ a;rw[pb]at a;cases a
 .rfl
 .intro d b _ a;rw[pb]at a;cases a
variable{E:List o4}
theorem Rel.push{ms:List Hm}{nx:Nat}(h:Rel E ms nx){i:Nat}(s:ke ms i)(r c:Nat)(zs:List Int)(p:Nat):Rel (E++[(nx,lk r c zs,p)]) (ms.set i (some (nx,r,c,zs))) (nx+1):=by
 have u:i<ms.length:=by rw[h.len];exact s.1
 have n:∀d,(ms.set i (some (nx,r,c,zs))).getD d none=if d=i then some (nx,r,c,zs)else ms.getD d none:=λd=>lU u
 refine⟨?_,by simp[h.len],?_,?_,?_,?_,?_⟩
 .intro q m f v o t a g b;rw[n]at a g;by_cases e:q=i
  .by_cases j:m=i
   .omega
   .rw[if_pos e]at a;rw[if_neg j]at g;injection a with a
    have:=h.Ky m v t g;rw[<-a]at b;simp at b;omega
  .rw[if_neg e]at a;by_cases j:m=i
   .rw[if_pos j]at g;injection g with g
    have:=h.Ky q f o a;rw[<-g]at b;simp at b;omega
   .rw[if_neg j]at g;exact h.dst q m f v o t a g b
 .intro d f k a;rw[n]at a;by_cases e:d=i
  .rw[if_pos e]at a;injection a with a
   rw[<-a];simp
  .rw[if_neg e]at a;have:=h.Ky d f k a;omega
 .have:=CW u (some (nx,r,c,zs));rw[s.2.1]at this;simp at this;have:=h.num;simp;omega
 .intro l b;rcases ji.1 b with b|b
  .obtain⟨d,f,k,a,e,j⟩:=h.has l b;refine⟨d,f,k,?_,e,j⟩;rw[n,if_neg (λl=>by rw[l,s.2.1]at a;cases a)];exact a
  .rw[rM]at b;exact⟨i,(nx,r,c,zs),s.1,by rw[n,if_pos rfl],by rw[b],by rw[b]⟩
 .intro d f k a;rw[n]at a;by_cases e:d=i
  .rw[if_pos e]at a;injection a with a
   exact⟨(nx,lk r c zs,p),by simp,by rw[<-a]⟩
  .rw[if_neg e]at a;obtain⟨l,b,j⟩:=h.all d f k a;exact⟨l,by simp[b],j⟩
 .rw[kT,zd];refine⟨h.nodup,by simp,λq o m t=>?_⟩;obtain⟨l,b,rfl⟩:=kt.1 o;simp at t;obtain⟨d,f,k,a,e,-⟩:=h.has l b;have:=h.Ky d f k a;omega
theorem Rel.pop{ms:List Hm}{nx:Nat}(h:Rel E ms nx){k:Nat}{x:Nat×Nat×Nat×List Int}(B:i<E.length)(y:k<24)(u:ms.getD k none=some x)(r:E[i].1=x.1):Rel (E.take i++E.drop (i+1)) (ms.set k none) nx:=by
 have w:k<ms.length:=by rw[h.len];exact y
 have p:∀e,(ms.set k none).getD e none=if e=k then none else ms.getD e none:=λe=>lU w
 have t:E=E.take i++E[i]::E.drop (i+1):=by rw[<-ow B,tz]
 have G:∀f∈E.take i++E.drop (i+1),f∈E/\f.1≠x.1:=by
  intro f b;have D:f∈E:=by
   rcases ji.1 b with b|b
   .exact tD b
   .exact zw b
  refine⟨D,λz=>?_⟩;have m:=h.nodup;rw[t,kT,nr,zd]at m;obtain⟨-,d,j⟩:=m;rw[List.nodup_cons]at d;rcases ji.1 b with b|b
  .exact j f.1 (kt.2 ⟨f,b,rfl⟩) E[i].1 (by simp) (by rw[z,r])
  .exact d.1 (kt.2 ⟨f,b,by rw[z,r]⟩)
 refine⟨?_,by simp[h.len],?_,?_,?_,?_,?_⟩
 .intro q o g H v s a n A;rw[p]at a n;by_cases c:q=k
  .rw[if_pos c]at a;cases a
  .by_cases d:o=k
   .rw[if_pos d]at n;cases n
   .rw[if_neg c]at a;rw[if_neg d]at n;exact h.dst q o g H v s a n A
 .intro e g l a;rw[p]at a;by_cases c:e=k
  .rw[if_pos c]at a;cases a
  .rw[if_neg c]at a;exact h.Ky e g l a
 .have c:=CW w none;rw[u]at c;simp at c;have d:=h.num;rw[j6,kv,pJ];omega
 .intro f b;obtain⟨c,d⟩:=G f b;obtain⟨e,g,l,a,j,F⟩:=h.has f c;refine⟨e,g,l,?_,j,F⟩;rw[p,if_neg (λC=>?_)]
  .exact a
  .rw[C,u]at a;injection a with a
   rw[a]at d;exact d j.symm
 .intro e g l a;rw[p]at a;by_cases c:e=k
  .rw[if_pos c]at a;cases a
  .rw[if_neg c]at a;obtain⟨f,b,d⟩:=h.all e g l a;refine⟨f,?_,d⟩;rw[t]at b;rcases ji.1 b with b|b
   .exact ji.2 (.inl b)
   .rcases jU.1 b with b|b
    .exfalso;refine c (h.dst e k g x l y a u ?_);rw[<-d,b,r]
    .exact ji.2 (.inr b)
 .have m:=h.nodup;rw[t,kT,nr,zd]at m;obtain⟨c,d,j⟩:=m;rw[List.nodup_cons]at d;rw[kT,zd];exact⟨c,d.2,λq v o s=>j q v o (lg _ s)⟩
def Vl(W:Nat)(c e f:Value)(d b:Nat):Nat->Prop:=λa=>S4 W c e f a\/(a=d\/a=b)
def Vh(W:Nat)(d c f g:Value)(e b:Nat):Nat->Prop:=λa=>Vl W c f g e b a\/d.ownBlock=some a
def xB(B:Nat)(w:World)(W k h f nx:Nat)(e:List o4):Prop:=∃d b a c,Lw w W k d b a c nx/\ix w 3 b (rB e)/\ix w 164 a (tE e)/\ix w 9 c (tc e)/\(∀g,S4 W b a c g->B<=g)/\mJ w e (Vh W d b a c h f)/\∃j,Hs w d j (Vl W b a c h f)/\j.length<=nx/\∀i,d.ownBlock=some i->B<=i
theorem xB.below{B:Nat}{w:World}{W nx:Nat}(h:xB B w W i j k nx E)(a:Below w.heap.size w v):xB B v W i j k nx E:=by
 obtain⟨n,d,e,m,b,f,p,g,o,q,l,r,c⟩:=h;exact⟨n,d,e,m,b.J (a.block W b.lt),f.below a,p.below a,g.below a,o,q.below a,l,r.below a,c⟩
def jL(B:Nat)(w:World)(W c a b:Nat)(ms:List Hm)(nx:Nat)(d:List o4):Prop:=nu B w c a b ms nx/\xB B w W c a b nx d/\Rel d ms nx
theorem jL.below{B:Nat}{w:World}{W:Nat}{ms:List Hm}{nx:Nat}(h:jL B w W i j k ms nx E)(a:Below w.heap.size w v):jL B v W i j k ms nx E:=⟨h.1.below a,h.2.1.below a,h.2.2⟩
theorem jL.uZ{B:Nat}{w:World}{W:Nat}{ms:List Hm}{nx:Nat}(h:jL B w W i j k ms nx E):E.length<=24:=by
 have:=Fi ms;have a:=h.2.2.num;have b:=h.2.2.len;omega
theorem lq{W g nx n:Nat}{h c i k:Value}{a:List o4}{w:World}(q:n<=5)(b:Lw w W g h c i k nx)(d:ix w 3 c (rB a))(m:a.length<=24):Calls Tryz.prog 151 #[.pointer (some ⟨W,0,none⟩),.int .i64 n] w λj e=>j=.returned (.bool (decide (24<a.length+n)))/\e=w:=by
 obtain⟨p,r,rfl,f,l,-⟩:=d.shape;rw[mB]at b f;obtain⟨-,o,-⟩:=b.cells;clear b d;go_in;go_wp2;go_ret;exact⟨n3 (by rw[decide_eq_decide];omega),rfl⟩
end
end Go.Proofs.YtfjbijpagaipnabGreatDoor
