import Derived.Test.YtfjbijpagaipnabGreatDoorA05
import Derived.Laws.Cover3
import Derived.Deep.Slices
import Derived.ProofKit
import Derived.SizedLaws
set_option maxRecDepth 100000
set_option maxHeartbeats 8000000
namespace Go.Proofs.YtfjbijpagaipnabGreatDoor
open Go.RowKit
variable{i j k l m n p q r s:Nat}{w v W:World}{x y z:Value}{A B F G:Nat->Nat->Int}{a b c d:Int}{t:TypeId}{u:Bool}{O:Option Addr}
section
open R
def ie(B:Nat)(w a:World)(W e f c nx:Nat):Prop:=(∃g b d,jL B a W e f c g b d/\b<=nx+5)/\Below B w a
variable{E:List o4}
theorem jL.size{B:Nat}{w:World}{W:Nat}{ms:List Hm}{nx:Nat}(h:jL B w W i j k ms nx E):B<=w.heap.size:=by
 have:=h.1.1.lt;have:=h.1.2.2.2.2.2.1;omega
theorem jL.pK{B:Nat}{w:World}{W:Nat}{ms:List Hm}{nx:Nat}(h:jL B w W i j k ms nx E)(c:j5 (tN j k) w v):xB B v W i j k nx E:=by
 obtain⟨n,⟨x,r,s,u,g,l,o,m,z,q,t,y,A⟩,C⟩:=h;have e:∀a f,Ty w a f->f≠103->¬tN j k a:=λa f b p d=>by
  rcases d with d|d
  .exact iB b n.2.1.ty p d
  .exact iB b n.2.2.1.ty p d
 exact⟨x,r,s,u,g.J (c.block g.lt (e W _ g.ty (by decide))),l.lP c (λa b=>e a _ (l.own a b).2 (by decide)),o.lP c (λa b=>e a _ (o.own a b).2 (by decide)),m.lP c (λa b=>e a _ (m.own a b).2 (by decide)),z,q.lP c (λa b=>.inl (.inr b)) (λa b=>.inl b),t,y.lP c (λa b=>.inr b) (λa b=>.inl b),A⟩
theorem we{B W i r c nx p:Nat}{f g n s:Value}{A:List Hl}{ms:List Hm}{zs:List Int}{w:World}(m:nu B w j k l (ms.set i (some (nx,r,c,zs))) (nx+1))(V:Lw w W j x y z f nx)(M:ix w 3 y (rB E))(Z:ix w 164 z (tE E))(X:ix w 9 f (tc E))(D:∀a,S4 W y z f a->B<=a)(K:mJ w E (Vh W x y z f k l))(J:Hs w x A (Vl W y z f k l))(af:A.length<=nx/\∀q,x.ownBlock=some q->B<=q)(R:Rel E ms nx)(o:ke ms i)(ab:mK r c zs)(ad:B<=w.heap.size)(Y:Lw v W j x g n s (nx+1))(ae:ix v 3 g (rB (E++[(nx,lk r c zs,p)])))(Q:ix v 164 n (tE (E++[(nx,lk r c zs,p)])))(ac:ix v 9 s (tc (E++[(nx,lk r c zs,p)])))(H:∀q,S4 W g n s q->S4 W y z f q\/w.heap.size<=q)(aa:∃t o,w.heap.size<=t/\kH v t o p r c (fz c zs)/\∀a,S4 W g n s a->a<t\/o<=a)(u:j5 (S4 W y z f) w v):jL B v W j k l (ms.set i (some (nx,r,c,zs))) (nx+1) (E++[(nx,lk r c zs,p)])/\Below B w v:=by
 have C:∀a h,Ty w a h->h≠129->h≠3->h≠164->h≠9->¬S4 W y z f a:=λa h b O S U T d=>by
  rcases d with d|d|d|d
  .exact iB b V.ty O d
  .exact iB b (M.own a d).2 S rfl
  .exact iB b (Z.own a d).2 U rfl
  .exact iB b (X.own a d).2 T rfl
 have P:nu B v j k l (ms.set i (some (nx,r,c,zs))) (nx+1):=m.lP u (C j _ ⟨_,_,m.1⟩ (by decide) (by decide) (by decide) (by decide)) (C k _ m.2.1.ty (by decide) (by decide) (by decide) (by decide)) (C l _ m.2.2.1.ty (by decide) (by decide) (by decide) (by decide)) D;have ah:k<w.heap.size:=m.2.1.ty.lt;have ai:l<w.heap.size:=m.2.2.1.ty.lt;have G:∀a,Vl W g n s k l a->Vl W y z f k l a\/w.heap.size<=a:=λa b=>by
  rcases b with b|b
  .rcases H a b with d|d
   .exact .inl (.inl d)
   .exact .inr d
  .exact .inl (.inr b)
 refine⟨⟨P,⟨x,g,n,s,Y,ae,Q,ac,λa b=>?_,mJ.app (K.lP u (λa b=>.inl (.inl b)) (λa b=>?_)) (λag F=>?_),A,J.lP u (λa b=>.inl b) G,by omega,af.2⟩,R.push o r c zs p⟩,u.below D ad⟩
 .rcases H a b with d|d
  .exact D a d
  .omega
 .rcases b with b|b
  .rcases G a b with d|d
   .exact .inl (.inl d)
   .exact .inr d
  .exact .inl (.inr b)
 .rw[rM]at F;subst F;obtain⟨t,o,aj,N,L⟩:=aa;refine⟨r,c,zs,t,o,rfl,ab,N,λI e=>?_⟩;rcases e with(e|e)|e
  .exact L I e
  .rcases e with e|e<;>exact .inl (by omega)
  .exact .inl (by have:=(J.1.own I e).1;omega)
theorem tN.le{B:Nat}(c:B<=i)(d:B<=j):∀b,tN i j b->B<=b:=λb a=>by
 rcases a with a|a<;>omega
theorem oP(a:Addr)(n b:Nat)(w:World):Sem.run Tryz.prog (binOp BinOp.eql 126 (Value.slice (some a) n b) (Value.slice none 0 0)) w=Result.ok (Value.bool false) w:=by
 have c:=run_equal_slice_nil (P:=Tryz.prog) w 126 _ (some a) n b Tryz.underlying126;simp[binOp,go_sem,c,Result.andThen]
theorem Ed{B W:Nat}{s:ByteArray}{ms:List Hm}{nx:Nat}{w:World}(h:jL B w W i j k ms nx E)(bw:s.size<=16384)(a9:nx<1000000):Calls Tryz.prog 111 #[.pointer (some ⟨W,0,none⟩),.string s] w λp f=>p=.returned (.bool true)/\ie B w f W i j k nx:=by
 have bg:=h.size;have b:=a_ h;obtain⟨-,⟨aA,bl,bs,bo,ay,-⟩,-⟩:=h;obtain⟨bk,-⟩:=ay.cells;clear ay;go_in;go_wp2_with fail;refine(@Bj B i j k s ms nx _ b.f a9).mono ?_;rintro p x⟨bC,br,J,A,rfl,hrel,a1,ai⟩;have ae:Below B w x:=ai.below (tN.le b.f.2.2.2.2.2.2.1 b.f.2.2.2.2.2.2.2) bg;have aG:=b.e.pK ai;have d:=hO a1 aG ae;have bI:=ae.size;clear a1 ai ae aG bk;rcases hrel with⟨al,rfl,rfl,rfl,rfl⟩|⟨e,c,o,bG,ab,aj,ar,aM⟩
 .by_cases bL:4000<s.size
  .have aI:(4000:Int)<(s.size:Int):=by omega
   go_wp2_with fail;refine(@wv s _ (by omega)).mono ?_;rintro p H⟨bx,rfl,aA,g⟩;have t:f_ (ie B w H W i j k A):=a_ ⟨⟨J,A,E,jL.below ⟨d.f,d.g,b.l⟩ g,by omega⟩,d.l.trans (g.mono (by omega))⟩;clear aA g;go_wp2_with fail;go_ret;exact⟨rfl,t.e⟩
  .have aE:¬Wr s:=by
    rcases al with h|h
    .omega
    .exact h
   have ba:=a_ aE;have aI:decide ((4000:Int)<(s.size:Int))=false:=decide_eq_false (by omega);clear aE al;go_wp2_with fail;refine(@Et s _ (by omega) ba.e).mono ?_;rintro p H⟨rfl,g⟩;have t:f_ (ie B w H W i j k A):=a_ ⟨⟨J,A,E,jL.below ⟨d.f,d.g,b.l⟩ g,by omega⟩,d.l.trans (g.mono (by omega))⟩;clear g;go_wp2_with fail;go_ret;exact⟨rfl,t.e⟩
 .have ap:=a_ ar;have aI:decide ((4000:Int)<(s.size:Int))=false:=decide_eq_false (by omega);have bb:=a_ aM;clear ar aM;go_wp2_with fail;refine(@zI s e c o 4000 _ (by omega) ab aj ap.e).mono ?_;rintro p H⟨X,af,rfl,an,g⟩;have V:=b_ an g;have bh:=g.size;clear an g;go_wp2_with fail;refine(@sY X e c af _ x.heap.size 40000000001 _ V.f (by omega) ab aj).mono ?_;rintro p bj⟨y,rfl,aL,R⟩;have q:Below x.heap.size x bj:=V.i.trans (R.mono bh);obtain⟨bz,aC,ak,aW,K,ah,ac,O,av,aU,bH,aJ,a2⟩:=d.g;have a3:=aU.below q;have aF:=b_ (aJ.below q) a2;clear aJ a2;have ao:=K.J (q.block W K.lt);have a0:=ah.below q;have az:=ac.below q;have aT:=O.below q;have aq:∀C,S4 W aC ak aW C->C<x.heap.size:=λC r=>by
   rcases r with r|r|r|r
   .rw[r];exact K.lt
   .exact(ah.own C r).1
   .exact(ac.own C r).1
   .exact(O.own C r).1
  have aQ:=V.f.hV (KR.I R);have aR:y=true↔¬hW e c o:=by rw[<-qF];exact aL
  have a:=tk q ao a0 az aT aq aQ av a3 aR;have bD:=q.size;have ax:=b.e.uZ;have aK:=b.l.num;have aH:=sF b.l.len;have M:=b_ aK aH;clear R q K ah ac O ao a0 az aT aq aQ aL aR av aU a3 aK aH;go_wp2_with fail;refine(@lq W i nx 1 _ _ _ _ E _ (by omega) a.g a.j ax).mono ?_;rintro p f⟨rfl,rfl⟩;have ad:f_ (J=ms->A=nx->ie B w f W i j k nx):=a_ (λm n=>by
   subst m;subst n;exact⟨⟨J,A,E,jL.below ⟨d.f,d.g,b.l⟩ a.f,by omega⟩,d.l.trans (a.f.mono (by omega))⟩)
  rcases bb.e with⟨aX,rfl,rfl,m,n⟩|⟨z,aw,rfl,rfl,m,n⟩|⟨z,rfl,rfl,v,L,m,n⟩
  .have F:y=true:=a.K.2 aX;subst F;have t:=a_ (ad.e m n);clear m n aX;go_wp2_with fail;go_ret;exact⟨rfl,t.e⟩
  .have F:y=false:=by
    cases y
    .rfl
    .exact absurd z (a.K.1 rfl)
   subst F;have G:decide (24<E.length+1)=true:=decide_eq_true (by have bA:=M.f;have bM:=M.i.2 aw;omega);rw[G];have t:=a_ (ad.e m n);clear m n z aw G;go_wp2_with fail;go_ret;exact⟨rfl,t.e⟩
  .have F:y=false:=by
    cases y
    .rfl
    .exact absurd z (a.K.1 rfl)
   subst F;have bn:E.length≠24:=λh=>absurd L.2.1 ((M.i.1 (by rw[<-M.f];exact h)) v L.1);have G:decide (24<E.length+1)=false:=decide_eq_false (by omega);rw[G];have u:=hY z L m n;clear z L m n G ad;go_wp2_with fail;have aB:(ms.set v (some (nx,e,c,o))).getD v none=some (nx,e,c,o):=by rw[lU (by rw[b.l.len];exact u.g.1),if_pos rfl]
   have l:Below f.heap.size f (f.alloc (.cells #[.int .i64 (nx:Nat)] 3)):=hS;have ag:nu B (f.alloc (.cells #[.int .i64 (nx:Nat)] 3)) i j k (ms.set v (some (nx,e,c,o))) (nx+1):=by
    have:=(d.f.below a.f).below l;rw[u.j,u.o]at this;exact this
   have aO:=b.l.push u.g e c o;have P:o.length=e*c:=by
    obtain⟨_,_,_,_,_,_,_,_,_,a8,_⟩:=ap.e;exact a8
   have Y:=a.g.J (l.block W a.g.lt);have Z:=a.j.below l;have T:=a.m.below l;have N:=a.r.below l;refine(@vI B W i j k f.heap.size v e c nx (nx+1) _ aC ak aW (ms.set v (some (nx,e,c,o))) E o _ ag Y Z T N a.B (by omega) u.g.1 aB (aO 0).dst (sT u.f P) ax (heap_alloc_new f _) (λbf=>by have:=a.y _ bf;omega)).mono ?_;rintro p aa⟨bm,rfl,be,bF,bB,bE,a7,bc,rfl,bt,bu,bq,aY,aS,aN,aD,aV,S,I⟩;have Q:(f.alloc (.cells #[.int .i64 (nx:Nat)] 3)).heap.size=f.heap.size+1:=by simp
   have bp:f.heap.size+1<=aa.heap.size:=by rw[<-Q];exact I.size
   have au:jO x.heap.size aa X e c af (λv a6=>o.getD (v*c+a6) 0) 40000000001:=BU (a.A.hV (KR.I l)) (I.up a.y);obtain⟨bJ,bK,-,am,-⟩:=id S;obtain⟨bd,a5⟩:=am.qk;obtain⟨aP,a4⟩:=we ag Y Z T N a.B (a.D.below l) (aF.f.below l) aF.i b.l u.g (sT u.f P) (by rw[Q];omega) aY aS aN aD aV S I;have aZ:Below B w aa:=(d.l.trans (a.f.mono (by omega))).trans ((l.mono (by omega)).trans a4);have D:=hY a5 au aP aZ;clear aY aS aN aD aV a5 I au aP aZ a4 S am aB l ag aO Q P Y Z T N;have bv:=oP ⟨a7,0,none⟩ 1 bc;go_wp2_with fail;refine(@lM be e c bd _ _ X af _ x.heap.size 40000000001 _ D.f D.g (λ_ _ _ _=>rfl) (by omega) ab aj).mono ?_;rintro p bi⟨rfl,U⟩;have t:f_ (ie B w bi W i j k nx):=a_ ⟨⟨_,_,_,D.j.below U,by omega⟩,D.o.trans (U.mono (by have:=D.o.size;omega))⟩;clear U;go_wp2_with fail;go_ret;exact⟨rfl,t.e⟩
variable{E:List o4}
theorem Rel.shown{ms:List Hm}{nx:Nat}(h:Rel E ms nx){i:Nat}(f:i<E.length):q5 ms ((E[i].1:Nat):Int) E[i].2.1 0:=by
 obtain⟨b,e,c,a,g,d⟩:=h.has E[i] (lf f);exact .inl ⟨rfl,b,e,c,a,by omega,d⟩
theorem Bp(a:List o4)(i:Nat)(b:i<a.length):(rB a)[i]?=some (.int .i64 ((a[i].1:Nat):Int)):=by simp[rB,b]
theorem JD(a:List o4)(i:Nat)(b:i<a.length):(tc a)[i]?=some (.string ⟨a[i].2.1.toArray⟩):=by simp[tc,b]
theorem jL.cells{B:Nat}{w:World}{W:Nat}{ms:List Hm}{nx:Nat}(h:jL B w W i j k ms nx E):∃f e l g c,w.cell? ⟨W,0,none⟩=some (.pointer (some ⟨i,0,none⟩))/\w.cell? ⟨W,1,none⟩=some (.slice f E.length e)/\w.cell? ⟨W,2,none⟩=some l/\w.cell? ⟨W,3,none⟩=some (.slice g E.length c)/\E.length<=e/\e<=9223372036854775807/\E.length<=c/\c<=9223372036854775807/\(∀a (d:a<E.length),(∃b,f=some ⟨b,0,none⟩/\w.cell? ⟨b,a,none⟩=some (.int .i64 ((E[a].1:Nat):Int)))/\(∃b,g=some ⟨b,0,none⟩/\w.cell? ⟨b,a,none⟩=some (.string ⟨E[a].2.1.toArray⟩))):=by
 obtain⟨-,⟨H,D,l,G,o,y,I,z,-⟩,-⟩:=h;obtain⟨f,e,rfl,p,t,-,q⟩:=y.shape;obtain⟨g,c,rfl,s,u,-,r⟩:=z.shape;rw[mB]at p q o;rw[pP]at s r o;obtain⟨A,C,x,v,F,J,-⟩:=o.cells;refine⟨f,e,l,g,c,A,C,x,v,p,t,s,u,λa d=>⟨?_,?_⟩⟩
 .obtain⟨b,m,n⟩:=q a d;exact⟨b,m,by rw[n,Bp E a d]⟩
 .obtain⟨b,m,n⟩:=r a d;exact⟨b,m,by rw[n,JD E a d]⟩
theorem jL.I2{B:Nat}{w:World}{W:Nat}{ms:List Hm}{nx:Nat}(h:jL B w W i j k ms nx E):∃(a:List Hl) (d:Option Addr) (c:Nat),w.cell? ⟨W,5,none⟩=some (.slice d a.length c)/\a.length<=c/\c<=9223372036854775807/\a.length<=nx/\nx<=1000000/\∀b,b<a.length->∃f n g,d=some ⟨f,0,none⟩/\w.cell? ⟨f,b,none⟩=some (.slice (some ⟨n,0,none⟩) g g)/\g<=5/\∀e,e<g->w.cell? ⟨n,e,none⟩=some (.int .i64 (-1-(b:Int))):=by
 obtain⟨C,⟨M,I,K,L,s,-,-,-,-,-,a,⟨x,-,F⟩,y,-⟩,-⟩:=h;obtain⟨d,c,rfl,m,t,-,p⟩:=x.shape;rw[vk]at m p s;obtain⟨-,-,-,-,-,H,-⟩:=s.cells;refine⟨a,d,c,H,m,t,y,C.2.1.2.1,λb l=>?_⟩;obtain⟨f,rfl,v⟩:=p b l;obtain⟨G,-,D⟩:=F b l;have z:(zZ a)[b]?=some (Iw (a.getD b (0,0))):=by simp[zZ,List.getD,l]
 obtain⟨J,O,o,-,-,-,u⟩:=D.shape;simp only[Iw,iC,sQ]at o;obtain⟨rfl,-⟩:=o;refine⟨f,_,_,rfl,by rw[v,z];rfl,G,λe r=>?_⟩;obtain⟨N,q,A⟩:=u e (by simpa using r);simp only[iH,jj]at q;rw[q.1,A,wi,if_pos r]
theorem Ek{B W:Nat}{ms:List Hm}{nx:Nat}{w:World}(h:jL B w W i j k ms nx E):Calls Tryz.prog 78 #[.pointer (some ⟨W,0,none⟩)] w λN ah=>N=.returned (.bool true)/\Below w.heap.size w ah:=by
 have am:=h.uZ;have y:=a_ h;obtain⟨ae,ak,aa,ad,O,H,z,r,o,-⟩:=h.cells;obtain⟨s,ar,aG,M,aH,aF,aJ,ay,L⟩:=h.I2;have ab:=a_ L;clear h L;go_in;go_wp2_with fail;go_loopw [3] (λe wr=>∃a:Nat,a<=s.length/\e=.int .i64 a/\Below w.heap.size w wr) (λe _=>s.length-(intOf e).toNat)
 case atStart=>exact⟨0,hR,rfl,hP⟩
 case round=>
  obtain⟨D,aI,rfl,f⟩:=hrel;have I:=g_ f M;have p:=a_ f;have v:=f.size;clear H z r o M;by_cases X:D<s.length
  .obtain⟨aq,av,x,rfl,q,aD,F⟩:=ab.e D X;have U:=g_ f q;have Z:=b_ q F;clear q F f;go_wp2_with fail;go_loopw [4] (λu d=>∃l:Nat,l<=x/\u=.int .i64 l/\Below wr.heap.size wr d) (λu _=>x-(intOf u).toNat)
   case atStart=>exact⟨0,hR,rfl,hP⟩
   case round=>
    rename World=>d;obtain⟨l,ax,rfl,b⟩:=hrel;have ap:=g_ b I;have ao:=g_ b U;have c:=a_ b;clear I U;by_cases aj:l<x
    .have az:=g_ (p.e.trans (b.mono v)) (Z.i l aj);clear b;go_wp2;go_roundw;exact⟨l+1,by omega,by go_num,c.e⟩;simp[intOf];omega
    .clear b;go_wp2;go_roundw;exact⟨D+1,by omega,by go_num,p.e.trans (c.e.mono v)⟩;simp[intOf];omega
  clear f;replace y:=a_ (y.e.below p.e);go_wp2_with fail;go_loopw [5] (λe d=>∃a:Nat,a<=E.length/\e=.int .i64 a/\Below wr.heap.size wr d) (λe _=>E.length-(intOf e).toNat)
  case atStart=>exact⟨0,hR,rfl,hP⟩
  case round=>
   rename World=>d;obtain⟨a,aC,rfl,b⟩:=hrel;have n:=y.e.below b;obtain⟨ae,ak,aa,ad,O,H,z,r,o,aB,au,q,F,t⟩:=n.cells;have c:=b_ n b;have ag:=b.size;clear n b;by_cases T:a<E.length
   .obtain⟨⟨aE,rfl,Q⟩,⟨R,rfl,C⟩⟩:=t a T;obtain⟨aw,J⟩:=hQ (E[a].1);obtain⟨g,A⟩:∃g:ByteArray,g=⟨E[a].2.1.toArray⟩:=⟨_,rfl⟩;have G:=c.f.2.2.shown T;rw[<-J]at Q G;rw[<-A]at C;have K:=b_ G A;clear t G J A;have aK:(g.toList==g.toList)=true:=by simp
    go_upto_region 12 with fail
    go_cut [6,7]from 51 to 65 (λS P Y=>S=.string g/\P=.int .i64 0/\Below d.heap.size d Y)
    case first=>
     have V:(a:Int)<(E.length:Int):=by omega
     go_region_with (go_at_call 122;go_must (refine(r5 (c.f.1.below (hP.drew))).mono ?_;rintro N al⟨S,P,rfl,af,ai⟩;obtain⟨rfl,rfl⟩:=nN c.f.2.2.dst af K.f));all_goals
      go_wp2_with fail;go_meet
      case rel=>exact⟨by rw[K.i],rfl,(hP.drew).trans ai⟩
    case rest=>
     obtain⟨rfl,rfl,m⟩:=hcut;have n:=c.f.below m;have aA:wc.cell? ⟨W,3,none⟩=some (.slice (some ⟨R,0,none⟩) E.length O):=g_ m o;have an:wc.cell? ⟨R,a,none⟩=some (.string g):=g_ m C;have ac:=a_ (c.i.trans (m.mono ag));have V:(a:Int)<(E.length:Int):=by omega
     clear n m H z r o Q C;go_wp2;go_roundw;exact⟨a+1,by omega,by go_num,ac.e⟩;simp[intOf];omega
   .clear t;go_wp2;go_ret;exact⟨rfl,p.e.trans (c.i.mono v)⟩
def Ge(b:List o4)(h a:Int):Prop:=(a=-1/\∀d (f:d<b.length),((b[d].1:Nat):Int)≠h)\/(∃c,∃e:c<b.length,a=(c:Int)/\((b[c].1:Nat):Int)=h)
variable{E:List o4}
theorem Ge.none{ms:List Hm}{nx:Nat}(h:Rel E ms nx)(i:∀d (e:d<E.length),((E[d].1:Nat):Int)≠a):∀b,b<24->∀c,ms.getD b none=some c->(c.1:Int)≠a:=by
 intro b g c f m;obtain⟨l,j,k⟩:=h.all b c g f;obtain⟨d,e,rfl⟩:=lZ.1 j;exact i d e (by omega)
def F_(w:World)(d:TypeId)(g:Nat)(xs:List Value)(j:Nat)(c:Value)(b:World):Prop:=ix b d c (xs.take j++xs.drop (j+1))/\w.grownBy b none/\(∀a,c.ownBlock=some a->a=g\/w.heap.size<=a)
theorem ng{P:Program}{ops:Array Oper}{o:Oper}{a:Act}{w:World}{K:Act->World->Prop}{Q:Exit->Act->World->Prop}{E:Prop}(M:o.guard=none)(s x:Operand){t:TypeId}(H:o.op=Op.call {callee:=Callee.builtin Builtin.append,args:=#[s,x],argTypes:=#[t,t]}){f:TypeId}(i:TypeInfo)(z:Value)(C:Nat)(S:P.underlying t=some (.slice f))(W:P.info? f=some i)(ac:i.zero=some z)(V:i.size=1)(ad:i.bytes=C)(al:z.cells.size=1){g n:Nat}(j:Nat){xs:List Value}(Z:xs.length=n)(ag:ix w f (.slice (some ⟨g,0,none⟩) n k) xs)(ar:j<n)(A:Addr)(v:(if k=j+1 then some (⟨g,0,none⟩:Addr)else some ⟨g,j+1,none⟩)=some A)(N:a.eval s=.slice (some ⟨g,0,none⟩) j j)(D:a.eval x=.slice (some A) (n-(j+1)) (k-(j+1)))(ae:∀d∈xs,d.oneCell'=true)(aq:n<=1000)(X:C<=1000)(T:∀q u,F_ w f g xs j q u->K (a.put o.dst q) u):if Region.wanted o (yielded ops a.tmps)=true then Oper.wp P o a w K Q else E:=by
 rcases id ag with⟨Y,-⟩|⟨F,ao,ab,U,J,am,au,an,O⟩
 .cases Y
 .simp only[iC,iH,jj,jh]at U;obtain⟨rfl,_,rfl⟩:=U;subst Z;have I:∀h d,xs[h]?=some d->w.cell? ⟨g,h,none⟩=some d:=λh d m=>by
   have ah:h<xs.length:=by
    rcases iX h xs.length with e|e
    .exact e
    .rw[l4 e]at m;cases m
   have:=O h ah;rw[m]at this;simp only[World.cell?,J];exact this
  by_cases m:xs.length-(j+1)=0
  .have aj:xs.drop (j+1)=[]:=lA (by omega);rw[m]at D;refine step_append_room M s x t H f i 1 S W V g 0 j j N A 0 (k-(j+1)) [] D rfl (λc d b=>by simp at b) (λd G=>by cases G) c_ (λc b=>by simp at b) ?_;refine T _ _ ⟨?_,⟨rfl,rfl,rfl,c_,λ_ _ _=>rfl⟩,λF r=>.inl ?_⟩
   .rw[aj,rV];have p:(xs.take j).length=j:=by rw[kv];omega
    refine .inr ⟨g,j,ab,by rw[p];rfl,J,by omega,by omega,by unfold maxLen;omega,λc b=>?_⟩;rw[p]at b;rw[O c (by omega),y3 b]
   .simp[Value.ownBlock]at r;exact r.symm
  .have af:A=⟨g,j+1,none⟩:=by
    rw[if_neg (by omega)]at v;injection v with v
    exact v.symm
   subst af;have p:(xs.take j).length=j:=by rw[kv];omega
   have R:(xs.drop (j+1)).length=xs.length-(j+1):=by rw[pJ]
   have ai:j+(xs.length-(j+1))<=1000:=by omega
   refine step_append_grows M s x t H f i z 1 C S W ac V ad al (by decide) (some ⟨g,0,none⟩) j j (xs.take j) N (λl=>by cases l) (by rw[p];omega) (λap y c d b=>?_) ⟨g,j+1,none⟩ (xs.length-(j+1)) (k-(j+1)) (xs.drop (j+1)) D (by rw[R];omega) (λc d b=>?_) (λd G=>ae d (zw G)) (by omega) (by unfold maxLen;omega) (iy (jR ai X) (by decide)) ?_
   .injection y with y
    subst y;have aa:c<j:=by
     rcases iX c j with e|e
     .exact e
     .rw[l4 (by omega)]at b;cases b
    rw[y3 aa]at b;have l:Addr.add ⟨g,0,none⟩ c=⟨g,c,none⟩:=by simp[Addr.add];exact λe=>e.symm
    rw[l];exact I c d b
   .rw[List.getElem?_drop]at b;have l:Addr.add ⟨g,j+1,none⟩ c=⟨g,j+1+c,none⟩:=by simp[Addr.add];try omega
    rw[l];exact I (j+1+c) d b
   .intro q u L ak;refine T q u ⟨ix.vp (B:=w.heap.size) ?_,ak,λF r=>.inr (kF L F r).1⟩;rw[j6,p,R];exact L
theorem y2{X:World}{W f g:Nat}{xs:List Value}(k:Ty w W 129)(d:Below w.heap.size w X)(B:F_ X t g xs i x v)(r:t≠129):ix (v.setCell ⟨W,f,none⟩ x) t x (xs.take i++xs.drop (i+1))/\j5 (λb=>b=W) w (v.setCell ⟨W,f,none⟩ x)/\v.heap[W]?=w.heap[W]?/\(∀c,x.ownBlock=some c->c=g\/w.heap.size<=c):=by
 obtain⟨j,a,o⟩:=B;have l:=k.lt;have C:=d.size;have n:v.heap[W]?=X.heap[W]?:=a.block W (by omega) (by simp);have A:Ty X W 129:=k.below d l;have m:Ty v W 129:=by
  obtain⟨z,s,y⟩:=A;exact⟨z,s,by rw[n];exact y⟩
 have q:Below X.heap.size X v:=⟨a.os,a.tape,a.output,a.size,λb u=>a.block b u (by simp)⟩;refine⟨j.J (λg e=>?_),?_,n.trans (d.block W l),λc e=>?_⟩
 .exact js _ _ _ _ (λp=>iB (j.own g e).2 m r (by simpa using p))
 .exact((j5.I d).trans (j5.I q)).trans (j5.tQ (S:=λb=>b=W) m (by decide) (by decide) rfl _)
 .rcases o c e with h|h
  .exact .inl h
  .exact .inr (by omega)
theorem ix.xp{W:Nat}{r:Value}{ys:List Value}(h:ix w t r ys)(e:Ty w W 129)(f:t≠129)(d:j5 (λa=>a=W) w v):ix v t r ys:=
 h.lP d (λa c b=>iB (h.own a c).2 e f b)
theorem HL(a:List o4)(j:Nat):(rB a).take j++(rB a).drop (j+1)=rB (a.take j++a.drop (j+1)):=by simp[rB,List.map_take,List.map_drop]
theorem HH(a:List o4)(j:Nat):(tE a).take j++(tE a).drop (j+1)=tE (a.take j++a.drop (j+1)):=by simp[tE,List.map_take,List.map_drop]
theorem HI(a:List o4)(j:Nat):(tc a).take j++(tc a).drop (j+1)=tc (a.take j++a.drop (j+1)):=by simp[tc,List.map_take,List.map_drop]
theorem Hd(c:List o4):∀a∈rB c,a.oneCell'=true:=by
 intro a b;obtain⟨d,-,rfl⟩:=kt.1 b;rfl
theorem H6(c:List o4):∀a∈tE c,a.oneCell'=true:=by
 intro a b;obtain⟨d,-,rfl⟩:=kt.1 b;rfl
theorem HZ(c:List o4):∀a∈tc c,a.oneCell'=true:=by
 intro a b;obtain⟨d,-,rfl⟩:=kt.1 b;rfl
theorem y9(g a j:Nat):∃c:Addr,(if a=j+1 then some (⟨g,0,none⟩:Addr)else some ⟨g,j+1,none⟩)=some c:=by
 by_cases b:a=j+1
 .exact⟨_,by rw[if_pos b]⟩
 .exact⟨_,by rw[if_neg b]⟩
variable{E:List o4}
theorem xL{B W:Nat}{ms:List Hm}{nx:Nat}{h:Int}{w:World}(aC:jL B w W i j k ms nx E):Calls Tryz.prog 112 #[.pointer (some ⟨W,0,none⟩),.int .i64 h,.bool u] w λC aB=>C=.returned (.bool true)/\ie B w aB W i j k nx:=by
 have cq:=aC.uZ;have d:=a_ aC;obtain⟨cz,cU,bY,cw,cx,ch,b3,cn,a6,cA,cs,cT,cM,ba⟩:=aC.cells;have bm:=a_ ba;clear aC ba;obtain⟨bZ,bq,bp,bu,bn⟩:=kO Tryz.IE;obtain⟨cf,bx,bQ,bR,bC⟩:=kO Tryz.Ip;obtain⟨cj,bM,bl,bO,bh⟩:=kO Tryz.Is;have az:=hY bq bp bu bn;have aH:=hY bx bQ bR bC;have aq:=hY bM bl bO bh;clear bq bp bu bn bx bQ bR bC bM bl bO bh;go_in;go_wp2_with fail;go_loopw [7,8] (λcb e wr=>∃(a:Nat) (I:Int),a<=E.length/\e=.int .i64 a/\cb=.int .i64 I/\-1<=I/\I<E.length/\Below w.heap.size w wr/\f_ (Ge (E.take a) h I)) (λ_ e _=>E.length-(intOf e).toNat)
 case atStart=>exact⟨0,-1,hR,rfl,rfl,by omega,by omega,hP,a_ (.inl ⟨rfl,λe O=>by simp at O⟩)⟩
 case round=>
  obtain⟨a,I,c,rfl,rfl,cO,cS,M,bU⟩:=hrel;have bS:=g_ M ch;have bs:=g_ M b3;have bv:=g_ M a6;have bV:=M.size;have t:=a_ M;clear M;by_cases cd:a<E.length
  .obtain⟨⟨cH,rfl,a2⟩,-⟩:=bm.e a cd;obtain⟨aP,aL⟩:=hQ (E[a].1);rw[<-aL]at a2;have cr:=g_ t.e a2;have a7:=a_ aL;have cl:(a:Int)<(E.length:Int):=by omega
   clear aL a2;have bk:∀e (O:e<(E.take (a+1)).length),e<a/\(∃bi:e<(E.take a).length,(E.take (a+1))[e]=(E.take a)[e])\/(e=a/\(E.take (a+1))[e]=E[a]):=by
    intro e O;rw[kv]at O;by_cases b6:e<a
    .refine .inl ⟨b6,by rw[kv];omega,?_⟩;rw[vE,vE]
    .have:e=a:=by omega
     subst this;exact .inr ⟨rfl,by rw[vE]⟩
   have bX:=a_ bk;clear bk;by_cases N:(aP:Int)=h
   .have al:((aP:Int)==h)=true:=jY.2 N;have aY:=a_ N;clear N;go_wp2_with fail;try go_quiet (fail)
    try go_wp2
    go_roundw
    .refine⟨a+1,a,by omega,by go_num,by go_num,by omega,by omega,by first|exact t.e|exact im t.e _,a_ (.inr ⟨a,by rw[kv];omega,rfl,?_⟩)⟩;rw[vE,<-a7.e];exact aY.e
    simp[intOf];omega
   .have al:((aP:Int)==h)=false:=iK.2 N;have aY:=a_ N;clear N;go_wp2_with fail;try go_quiet (fail)
    try go_wp2
    go_roundw
    .refine⟨a+1,I,by omega,by go_num,rfl,by omega,by omega,by first|exact t.e|exact im t.e _,a_ ?_⟩;rcases bU.e with⟨aR,aI⟩|⟨b,s,aR,aI⟩
     .refine .inl ⟨aR,λe O=>?_⟩;rcases bX.e e O with⟨_,bi,ab⟩|⟨_,ab⟩
      .rw[ab];exact aI e bi
      .rw[ab,<-a7.e];exact aY.e
     .refine .inr ⟨b,by rw[kv]at s|-;omega,aR,?_⟩;rw[vE]at aI|-;exact aI
    simp[intOf];omega
  .have bo:Ge E h I:=by
    have:=bU.e;rw[ka (by omega)]at this;exact this
   have bG:=a_ bo;clear bo
   cases u
   .go_wp2_with fail;go_fit (r5 (d.f.below t.e));rintro C m⟨cL,ax,rfl,ay,al⟩;have F:=t.e.trans (al.mono bV);rcases bG.e with⟨rfl,V⟩|⟨b,s,rfl,bD⟩
    .have H:=Ge.none d.l V;obtain⟨rfl,rfl⟩:=nN d.l.dst ay (.inr ⟨rfl,rfl,H⟩);have n:f_ (ie B w m W i j k nx):=a_ ⟨⟨ms,nx,E,d.e.below F,by omega⟩,F.mono d.e.size⟩;clear ay al F V H;go_wp2;go_ret;exact⟨rfl,n.e⟩
    .have a0:=d.l.shown s;rw[bD]at a0;obtain⟨rfl,rfl⟩:=nN d.l.dst ay a0;obtain⟨-,⟨cG,rfl,aT⟩⟩:=bm.e b s;obtain⟨aA,bz⟩:∃aA:ByteArray,aA=⟨E[b].2.1.toArray⟩:=⟨_,rfl⟩;rw[<-bz]at aT|-;have cy:=g_ F a6;have co:=g_ F aT;have cR:(aA.toList==aA.toList)=true:=by simp
     have ce:(b:Int)<(E.length:Int):=by omega
     have bW:¬((b:Int)<0):=by omega
     have n:f_ (ie B w m W i j k nx):=a_ ⟨⟨ms,nx,E,d.e.below F,by omega⟩,F.mono d.e.size⟩;clear ay al F a0 bz aT bS bs bv;go_wp2;go_ret;exact⟨rfl,n.e⟩
   .go_wp2_with fail;go_fit (BT (d.f.below t.e) d.l.dst);rintro C m⟨ax,b4,rfl,bf,y,aF⟩;have cc:=d.e.size;have bF:=d.e.below t.e;have aU:Below B _ m:=aF.below (tN.le d.f.2.2.2.2.2.2.1 d.f.2.2.2.2.2.2.2) bF.size;have aM:=bF.pK aF;have A:Below B w m:=(t.e.mono cc).trans aU;rcases bG.e with⟨rfl,V⟩|⟨b,s,rfl,bD⟩
    .have H:=Ge.none d.l V;rcases bf with⟨rfl,ah,C,ac,ao,aK,-⟩|⟨rfl,rfl,-⟩
     .exact absurd aK (H ah ac C ao)
     .have a3:f_ (ie B w m W i j k nx):=a_ ⟨⟨b4,nx,E,⟨y,aM,d.l⟩,by omega⟩,A⟩;clear y aF aU aM A V H;go_wp2;go_ret;exact⟨rfl,a3.e⟩
    .rcases bf with⟨rfl,ah,C,ac,ao,aK,rfl⟩|⟨rfl,rfl,H⟩
     .have aG:=d.l.pop s ac ao (by omega);obtain⟨ar,ck,bY,cp,r,ak,ae,R,z,J,cg,X,bN⟩:=aM;rcases id ak with⟨-,P⟩|⟨aE,au,cE,rfl,-,b2,-⟩
      .rw[<-qG,mB]at P;omega
      rcases id ae with⟨-,P⟩|⟨T,af,cI,rfl,-,b5,-⟩
      .rw[<-qG,pD]at P;omega
      rcases id R with⟨-,P⟩|⟨L,K,cu,rfl,-,b1,-⟩
      .rw[<-qG,pP]at P;omega
      rw[mB]at r ak z J X b2;rw[pD]at r ae z J X b5;rw[pP]at r R z J X b1;have be:=b_ X bN;clear X bN;obtain⟨ad,am,aj,Z,U,ag,ai⟩:=r.cells;have n:=C_ y r ak ae R z A aG J;have ce:(b:Int)<(E.length:Int):=by omega
      have bW:¬((b:Int)<0):=by omega
      clear y aF aU r ak ae R z J A aG bS bs bv;have cC:b<=au:=by omega
      have cF:b+1<=E.length:=by omega
      obtain⟨b0,bI⟩:=y9 aE au b;obtain⟨ci,aw⟩:=y9 T af b;obtain⟨b8,aN⟩:=y9 L K b;have S:=hO bI aw aN;have cP:IntKind.i64.wrap ((b:Int)+1)=(b:Int)+1:=oV _ (by omega);have cK:(0:Int)<=(b:Int)+1:=by omega
      have cJ:(b:Int)+1<=(E.length:Int):=by omega
      have cD:((b:Int)+1).toNat=b+1:=by omega
      clear aw aN;go_upto_region 15 with fail
      go_cut []from 73 to 90 (λo=>∃aW,Lw o W i ar aW (.slice (some ⟨T,0,none⟩) E.length af) (.slice (some ⟨L,0,none⟩) E.length K) nx/\ix o 3 aW ((rB E).take b++(rB E).drop (b+1))/\j5 (λa=>a=W) m o/\(∀p,aW.ownBlock=some p->p=aE\/m.heap.size<=p))
      case first=>
       go_region_law (refine ng rfl (.tmp 80) (.tmp 87) rfl bZ (.int .i64 0) 8 Tryz.underlying51 az.f az.g az.j az.o rfl b (mB E) (n.j.below (hP.drew)) s b0 S.f rfl rfl (Hd E) (by omega) (by decide) ?_;intro bA aB q;obtain⟨bE,bK,G,-⟩:=q.1.shape;obtain⟨bj,D⟩:=hQ (((rB E).take b++(rB E).drop (b+1)).length);rw[<-D]at G;clear D;subst G;have l:=a_ (y2 (f:=1) n.g.ty (hP.drew) q (by decide));have g:=n.g.J l.j;obtain⟨-,a5,-,-,-,-,a4⟩:=g.cells;have g:=a_ g;clear q);all_goals
        go_wp2_with fail;go_meet
        case rel=>exact⟨_,(tI g.e _).1,l.f,l.g,l.o⟩
      case rest=>
       obtain⟨aa,a1,bJ,an,a9⟩:=hcut;rename World=>bd;have bT:=n.m.xp n.g.ty (by decide) an;have bt:=n.r.xp n.g.ty (by decide) an;have ct:=an.size;clear ad am aj Z U ag ai bI;obtain⟨ad,am,aj,Z,U,ag,ai⟩:=a1.cells;have x:=ju a1 bJ bT bt an a9;have aw:=S.g;have cv:b<=af:=by omega
       clear a1 bJ bT bt an a9;go_upto_region 16 with fail
       go_cut []from 91 to 108 (λo=>∃aS,Lw o W i ar aa aS (.slice (some ⟨L,0,none⟩) E.length K) nx/\ix o 164 aS ((tE E).take b++(tE E).drop (b+1))/\j5 (λa=>a=W) bd o/\(∀p,aS.ownBlock=some p->p=T\/bd.heap.size<=p))
       case first=>
        go_region_law (refine ng rfl (.tmp 98) (.tmp 105) rfl cf (.pointer none) 8 Tryz.underlying126 aH.f aH.g aH.j aH.o rfl b (pD E) (x.j.below (hP.drew)) s ci S.g rfl rfl (H6 E) (by omega) (by decide) ?_;intro bA aB q;obtain⟨bE,bK,G,-⟩:=q.1.shape;obtain⟨bj,D⟩:=hQ (((tE E).take b++(tE E).drop (b+1)).length);rw[<-D]at G;clear D;subst G;have l:=a_ (y2 (f:=2) x.f.ty (hP.drew) q (by decide));have g:=x.f.J l.j;obtain⟨-,-,a5,-,-,-,a4⟩:=g.cells;have g:=a_ g;clear q);all_goals
         go_wp2_with fail;go_meet
         case rel=>exact⟨_,(tI g.e _).2.1,l.f,l.g,l.o⟩
       case rest=>
        obtain⟨aD,aJ,bb,Y,bc⟩:=hcut;rename World=>bL;have bH:=x.g.xp x.f.ty (by decide) Y;have bB:=x.m.xp x.f.ty (by decide) Y;have cN:=Y.size;clear ad am aj Z U ag ai aw;obtain⟨ad,am,aj,Z,U,ag,ai⟩:=aJ.cells;have v:=ju aJ bH bb bB Y bc;have aN:=S.l;have cB:b<=K:=by omega
        clear aJ bH bb bB Y bc;go_upto_region 17 with fail
        go_cut []from 109 to 126 (λo=>∃aV,Lw o W i ar aa aD aV nx/\ix o 9 aV ((tc E).take b++(tc E).drop (b+1))/\j5 (λa=>a=W) bL o/\(∀p,aV.ownBlock=some p->p=L\/bL.heap.size<=p))
        case first=>
         go_region_law (refine ng rfl (.tmp 116) (.tmp 123) rfl cj (.string ⟨#[]⟩) 16 Tryz.underlying127 aq.f aq.g aq.j aq.o rfl b (pP E) (v.m.below (hP.drew)) s b8 S.l rfl rfl (HZ E) (by omega) (by decide) ?_;intro bA aB q;obtain⟨bE,bK,G,-⟩:=q.1.shape;obtain⟨bj,D⟩:=hQ (((tc E).take b++(tc E).drop (b+1)).length);rw[<-D]at G;clear D;subst G;have l:=a_ (y2 (f:=3) v.f.ty (hP.drew) q (by decide));have g:=v.f.J l.j;obtain⟨-,-,-,a5,-,-,a4⟩:=g.cells;have g:=a_ g;clear q);all_goals
          go_wp2_with fail;go_meet
          case rel=>exact⟨_,(tI g.e _).2.2,l.f,l.g,l.o⟩
        case rest=>
         obtain⟨aX,a8,aZ,Q,bP⟩:=hcut;rename World=>ap;have aQ:=v.g.xp v.f.ty (by decide) Q;have aO:=v.j.xp v.f.ty (by decide) Q;have cQ:=Q.size;have a3:f_ (ie B w ap W i j k nx):=a_ (by
          obtain⟨y,r,ak,ae,R,z,A,aG,J⟩:=n.e;have av:j5 (λa=>a=W) m ap:=(x.r.trans v.r).trans Q;have bw:B<=W:=z W (.inl rfl);have b9:Below B m ap:=av.below (λa c=>by rw[c];exact bw) (by have:=A.size;omega);have cm:B<=m.heap.size:=by have:=A.size;omega
          have b7:nu B ap i j k (ms.set ah none) nx:=y.lP av (λh=>iB ⟨_,_,y.1⟩ r.ty (by decide) h) (λh=>iB y.2.1.ty r.ty (by decide) h) (λh=>iB y.2.2.1.ty r.ty (by decide) h) (λa c=>by rw[c];exact bw);rw[HL]at aQ;rw[HH]at aO;rw[HI]at aZ;have hcut:∀ax∈E.take b++E.drop (b+1),ax∈E:=λax ab=>by
           rcases ji.1 ab with h|h
           .exact tD h
           .exact zw h
          have br:∀a,S4 W aa aD aX a->S4 W (.slice (some ⟨aE,0,none⟩) E.length au) (.slice (some ⟨T,0,none⟩) E.length af) (.slice (some ⟨L,0,none⟩) E.length K) a\/m.heap.size<=a:=λa c=>by
           rcases c with c|c|c|c
           .exact .inl (.inl c)
           .rcases x.z a c with h|h
            .rw[h];exact .inl (.inr (.inl rfl))
            .exact .inr h
           .rcases v.z a c with h|h
            .rw[h];exact .inl (.inr (.inr (.inl rfl)))
            .exact .inr (by omega)
           .rcases bP a c with h|h
            .rw[h];exact .inl (.inr (.inr (.inr rfl)))
            .exact .inr (by omega)
          have bg:∀a,Vl W aa aD aX j k a->Vl W (.slice (some ⟨aE,0,none⟩) E.length au) (.slice (some ⟨T,0,none⟩) E.length af) (.slice (some ⟨L,0,none⟩) E.length K) j k a\/m.heap.size<=a:=λa c=>by
           rcases c with c|c
           .rcases br a c with h|h
            .exact .inl (.inl h)
            .exact .inr h
           .exact .inl (.inr c)
          refine⟨⟨_,nx,_,⟨b7,⟨ar,aa,aD,aX,a8,aQ,aO,aZ,λa c=>?_,(J.sub hcut).lP av (λa c=>.inl (.inl (.inl c))) (λa c=>?_),cg,be.f.lP av (λa c=>.inl (.inl c)) bg,be.i⟩,aG⟩,by omega⟩,A.trans b9⟩
          .rcases br a c with h|h
           .exact z a h
           .omega
          .rcases c with c|c
           .rcases bg a c with h|h
            .exact .inl (.inl h)
            .exact .inr h
           .exact .inl (.inr c))
         clear a8 aZ Q bP aQ aO ad am aj Z U ag ai;go_wp2;go_ret;exact⟨rfl,a3.e⟩
     .have ca:=d.l.has E[b] (lf s);obtain⟨ah,C,ac,ao,aK,-⟩:=ca;exact absurd (by omega) (H ah ac C ao)
theorem FM{c:Int}{n:Nat}{w:World}(j:-9223372036854775808<=c)(k:c<=9223372036854775807)(l:0<n)(o:n<=1000):Calls Tryz.prog 147 #[.int .i64 c,.int .i64 n] w λh d=>(∃b:Nat,b<n/\h=.returned (.int .i64 b))/\d=w:=by
 have a:(n:Int)≠0:=by omega
 have p:((n:Int)==0)=false:=iK.2 a;by_cases f:c<0
 .go_in;go_wp2;go_ret;have g:-(c+1).tmod (n:Int)=((-(c+1))%(n:Int)):=by rw[<-Int.neg_tmod,Int.tmod_eq_emod_of_nonneg (by omega)]
  have i:=Int.emod_nonneg (-(c+1)) a;have e:=Int.emod_lt_of_pos (-(c+1)) (show(0:Int)<(n:Int)from by omega);exact⟨⟨((-(c+1))%(n:Int)).toNat,by omega,lb (by rw[g];omega)⟩,rfl⟩
 .have m:decide (c<0)=false:=ic f;go_in;go_wp2;go_ret;have i:=Int.emod_nonneg c a;have e:=Int.emod_lt_of_pos c (show(0:Int)<(n:Int)from by omega);exact⟨⟨(c%(n:Int)).toNat,by omega,lb (by omega)⟩,rfl⟩
variable{E:List o4}
theorem w6{B W:Nat}{ms:List Hm}{nx:Nat}{a c:Int}{w:World}(h:jL B w W i j k ms nx E)(t:-9223372036854775808<=a)(z:a<=9223372036854775807):Calls Tryz.prog 110 #[.pointer (some ⟨W,0,none⟩),.int .i64 a,.int .i64 c] w λn l=>(∃h:Int,n=.returned (.int .i64 h))/\Below w.heap.size w l:=by
 have K:=h.uZ;have L:=a_ h;obtain⟨G,Q,H,J,C,r,N,p,o,I,A,O,F,e⟩:=h.cells;clear h r p o;by_cases g:0<E.length
 .obtain⟨⟨y,rfl,-⟩,-⟩:=e 0 g;have x:(0:Int)<(E.length:Int):=by omega
  have u:f_ (∀d,d<E.length->∃m:Int,w.cell? ⟨y,d,none⟩=some (.int .i64 m)):=a_ (λd v=>by
   obtain⟨⟨P,b,q⟩,-⟩:=e d v;injection b with b
   injection b with b _
   subst b;exact⟨_,q⟩)
  clear e;go_in;go_wp2_with fail
  .go_region_with (go_at_call 147;go_must (refine(FM t z g (by omega)).mono ?_;rintro n l⟨⟨f,s,rfl⟩,rfl⟩;obtain⟨m,M⟩:=u.e f s;have D:(f:Int)<(E.length:Int):=(by omega)));all_goals
    go_wp2;go_ret;exact⟨⟨_,rfl⟩,hP.drew⟩
  .go_ret;exact⟨⟨_,rfl⟩,hP⟩
 .have x:decide ((0:Int)<(E.length:Int))=false:=ic (by omega);clear e;go_in;go_wp2_with fail;all_goals
   go_ret;exact⟨⟨_,rfl⟩,hP⟩
variable{E:List o4}
theorem FV{B:Nat}{ms:List Hm}{nx:Nat}{w:World}(h:nu B w i j k ms nx)(o:Rel E ms nx)(g:ix w 3 (.slice O E.length l) (rB E)):Calls Tryz.prog 79 #[.pointer (some ⟨i,0,none⟩),.slice O E.length l] w λs T=>s=.returned (.bool true)/\Below w.heap.size w T:=by
 have X:E.length<=24:=by have:=Fi ms;have aa:=o.num;have ad:=o.len;omega
 have n:=hO h o g;clear h o g;go_in;go_wp2_with fail;go_loopw [5] (λC N=>∃a:Nat,a<=E.length/\C=.int .i64 a/\Below w.heap.size w N) (λC _=>E.length-(intOf C).toNat)
 case atStart=>exact⟨0,hR,rfl,hP⟩
 case round=>
  obtain⟨a,Y,rfl,e⟩:=hrel;have A:=n.f.below e;have g:=n.l.below e;obtain⟨F,H,v,-⟩:=A.1.cells;have P:=e.size;have d:=hO A g e;clear A g e;by_cases r:a<E.length
  .obtain⟨ab,Z,G,-,-,-,D⟩:=d.g.shape;rw[mB]at G D;simp only[iC]at G;obtain⟨rfl,_,rfl⟩:=G;obtain⟨U,rfl,p⟩:=D a r;rw[Bp E a r]at p;obtain⟨R,L⟩:=hQ (E[a].1);obtain⟨c,K⟩:∃c:ByteArray,c=⟨E[a].2.1.toArray⟩:=⟨_,rfl⟩;have x:=n.g.shown r;rw[<-L]at p x;have q:=b_ x K;clear D x L K;have ac:(c.toList==c.toList)=true:=by simp
   have W:(a:Int)<(E.length:Int):=by omega
   go_upto_region 4 with fail
   go_cut [6,7]from 16 to 27 (λf m t=>f=.string c/\m=.int .i64 0/\Below wr.heap.size wr t)
   case first=>
    go_region_with (go_at_call 43;go_must (refine(wR (d.f.2.1.below (hP.drew)) (d.f.2.2.2.2.1.tab.below (hP.drew))).mono ?_;rintro s Q⟨f,m,rfl,y,u⟩;obtain⟨rfl,rfl⟩:=nN n.g.dst y q.f));all_goals
     go_wp2_with fail;go_meet
     case rel=>exact⟨by rw[q.i],rfl,(hP.drew).trans u⟩
   case rest=>
    obtain⟨rfl,rfl,b⟩:=hcut;rename World=>I;have J:=d.f.below b;have S:I.cell? ⟨U,a,none⟩=some (.int .i64 (R:Nat)):=g_ b p;clear F H v p;obtain⟨F,H,v,-⟩:=J.1.cells;have z:=b_ J (d.l.trans (b.mono P));have V:=b.size;clear J b;go_upto_region 5 with fail
    go_cut [8,9]from 28 to 39 (λf m t=>f=.string c/\m=.int .i64 0/\Below I.heap.size I t)
    case first=>
     go_region_with (go_at_call 43;go_must (refine(wR (z.f.2.2.1.below (hP.drew)) (z.f.2.2.2.2.1.tab.below (hP.drew))).mono ?_;rintro s Q⟨f,m,rfl,y,u⟩;obtain⟨rfl,rfl⟩:=nN n.g.dst y q.f));all_goals
      go_wp2_with fail;go_meet
      case rel=>exact⟨by rw[q.i],rfl,(hP.drew).trans u⟩
    case rest=>
     obtain⟨rfl,rfl,b⟩:=hcut;have M:=a_ (z.i.trans (b.mono (by omega)));clear b F H v S;go_wp2;go_roundw;exact⟨a+1,by omega,by go_num,M.e⟩;simp[intOf];omega
  .go_wp2;go_ret;exact⟨rfl,d.l⟩
theorem ie.after{B:Nat}{w a:World}{W nx:Nat}(h:ie B v a W i j k nx)(b:Below B w v):ie B w a W i j k nx:=⟨h.1,b.trans h.2⟩
def Lj(d a b c:Int)(s t:ByteArray):Value:=.agg #[.int .i64 d,.int .i64 a,.int .i64 b,.int .i64 c,.string s,.string t]
def F8(P:Int->Prop):Prop:=∀(j b h i f:Nat) (n:List Hm) (c:Nat) (o:List o4) (g d a q:Int) (k l:ByteArray) (e:World),jL j e b h i f n c o->P g->-9223372036854775808<=d->d<=9223372036854775807->-9223372036854775808<=a->a<=9223372036854775807->k.size<=16384->c<999995->
 Calls Tryz.prog 77 #[.pointer (some ⟨b,0,none⟩),Lj g d a q k l] e λp m=>p=.returned (.bool true)/\ie j e m b h i f c
structure pd where
 kd:Int
 a:Int
 b:Int
 c:Int
 s:ByteArray
 t:ByteArray
def pd.ok(o:pd):Prop:=(-9223372036854775808<=o.a/\o.a<=9223372036854775807)/\(-9223372036854775808<=o.b/\o.b<=9223372036854775807)/\o.s.size<=16384
def AK(w:World)(g p:Nat)(o:pd):Prop:=w.cell? ⟨g,p,none⟩=some (.int .i64 o.kd)/\w.cell? ⟨g,p+1,none⟩=some (.int .i64 o.a)/\w.cell? ⟨g,p+2,none⟩=some (.int .i64 o.b)/\w.cell? ⟨g,p+3,none⟩=some (.int .i64 o.c)/\w.cell? ⟨g,p+4,none⟩=some (.string o.s)/\w.cell? ⟨g,p+5,none⟩=some (.string o.t)
theorem AK.below{B:Nat}{w:World}{g p:Nat}{o:pd}(h:AK w g p o)(b:Below B w v)(a:g<B):AK v g p o:=by
 obtain⟨e,f,j,d,c,i⟩:=h;refine⟨?_,?_,?_,?_,?_,?_⟩<;>(rw[b.cell (by simpa using a)];assumption)
theorem E7{P:Int->Prop}(U:F8 P){ops:List pd}{C:Option Addr}{ag:Nat}{w:World}(J:vx w)(I:∀d (aG:d<ops.length),∃j,C=some ⟨j,0,none⟩/\j<w.heap.size/\AK w j (d*6) ops[d])(aB:ops.length<=16384)(h:∀L∈ops,L.ok/\P L.kd):Calls Tryz.prog 45 #[.slice C ops.length ag] w λe aj=>e=.returned (.int .i64 (-1))/\Below w.heap.size w aj:=by
 have v:=hO J I h;have ad:=a_ U;clear J I h U;go_in;go_wp2_with fail;go_fit (DR v.f);rintro e c⟨f,B,t,rfl,H,s⟩;have D:=s.size;have F:=b_ H s;clear H s;go_wp2_with fail;obtain⟨z,n⟩:=hQ c.heap.size;have ac:f_ (jL w.heap.size (c.alloc (.cells #[.pointer (some ⟨f,0,none⟩),.slice none 0 0,.slice none 0 0,.slice none 0 0,.int .i64 0,.slice none 0 0] 129)) z f B t (List.replicate 24 none) 0 []):=a_ (by
  have an:Below c.heap.size c (c.alloc (.cells #[.pointer (some ⟨f,0,none⟩),.slice none 0 0,.slice none 0 0,.slice none 0 0,.int .i64 0,.slice none 0 0] 129)):=hS;refine⟨F.f.below an,⟨.slice none 0 0,.slice none 0 0,.slice none 0 0,.slice none 0 0,by rw[n];exact iP c _,ix.nil _ _,ix.nil _ _,ix.nil _ _,λa b=>?_,mJ.nil _ _,[],Hs.nil _ _,hR,λj ab=>by simp[Value.ownBlock]at ab⟩,Rel.start⟩;rcases b with b|b|b|b
  .rw[b,n];exact D
  .simp[Value.ownBlock]at b
  .simp[Value.ownBlock]at b
  .simp[Value.ownBlock]at b)
 have am:f_ (Below w.heap.size w (c.alloc (.cells #[.pointer (some ⟨f,0,none⟩),.slice none 0 0,.slice none 0 0,.slice none 0 0,.int .i64 0,.slice none 0 0] 129))):=a_ (F.i.alloc D _);rw[<-n];clear n;go_loopw [5] (λd wr=>∃(a:Nat) (x:List Hm) (l:Nat) (A:List o4),a<=ops.length/\d=.int .i64 a/\l<=5*a/\jL w.heap.size wr z f B t x l A/\Below w.heap.size w wr) (λd _=>ops.length-(intOf d).toNat)
 case atStart=>exact⟨0,_,0,[],hR,rfl,c_,ac.e,am.e⟩
 case round=>
  obtain⟨a,x,l,A,b,rfl,aA,X,y⟩:=hrel;have av:=y.size;have k:=b_ X y;clear X y;by_cases Y:a<ops.length
  .obtain⟨j,rfl,ae,W⟩:=v.g a Y;obtain⟨M,R,K,O,E,T⟩:=W.below k.i ae;obtain⟨h,r⟩:=v.l ops[a] (lf Y);obtain⟨g,V⟩:=hQ (ops[a]);rw[<-V]at M R K O E T h r;have i:=b_ h r;have aq:(a:Int)<(ops.length:Int):=by omega
   clear W V h r;go_wp2_with fail;go_fit (ad.e w.heap.size z f B t x l A g.kd g.a g.b g.c g.s g.t _ k.f i.i i.f.1.1 i.f.1.2 i.f.2.1.1 i.f.2.1.2 i.f.2.2 (by omega));rintro e ay⟨rfl,⟨ak,ai,af,Z,aC⟩,Q⟩;have u:=b_ Z (k.i.trans Q);clear Z Q M R K O E T;go_wp2_with fail;go_fit (Ek u.f);rintro e aH⟨rfl,q⟩;have G:=b_ (u.f.below q) (d_ u.i q);clear q;go_wp2;go_roundw;exact⟨a+1,ak,ai,af,by omega,by go_num,by omega,G.f,G.i⟩;simp[intOf];omega
  .obtain⟨S,⟨ax,ao,aD,aw,p,m,-⟩,hrel⟩:=k.f;obtain⟨aF,aJ,rfl,-⟩:=m.shape;rw[mB]at p m;obtain⟨aI,aE,au,ar,ap,az,-⟩:=p.cells;have o:=hO S hrel m;clear S p m hrel;go_upto_region 12 with fail
   go_cut [7]from 32 to 40 (λe aa=>e=.bool true/\Below wr.heap.size wr aa)
   case first=>
    go_region_with (go_at_call 79;go_must (refine(FV (o.f.below (hP.drew)) o.g (o.l.below (hP.drew))).mono ?_;rintro e c⟨rfl,al⟩));all_goals
     go_wp2_with fail;go_meet
     case rel=>exact⟨rfl,(hP.drew).trans al⟩
   case rest=>
    obtain⟨rfl,N⟩:=hcut;have ah:=a_ (d_ k.i N);clear N;go_wp2;go_ret;exact⟨rfl,ah.e⟩
def vZ(w:World)(d:Option Addr)(ops:List pd):Prop:=∀b (e:b<ops.length),∃a c,d=some ⟨a,c,none⟩/\a<w.heap.size/\AK w a (c+b*6) ops[b]
theorem vZ.below{B:Nat}{w:World}{ops:List pd}(h:vZ w O ops)(a:Below B w v)(j:w.heap.size<=B):vZ v O ops:=by
 intro f e;obtain⟨c,g,d,i,b⟩:=h f e;exact⟨c,g,d,by have:=a.size;omega,b.below a (by omega)⟩
def se:List pd->Nat
 |[]=>0
 |a::b=>a.s.size+a.t.size+se b
theorem w1(ops:List pd)(k:Nat)(a:k<ops.length):se (ops.take (k+1))=se (ops.take k)+(ops[k].s.size+ops[k].t.size):=by
 induction ops generalizing k with
 |nil=>simp at a
 |cons d c b=>
  match k with
  |0=>simp[se]
  |k+1=>
   have:=b k (by simpa using a);simp only[List.take_succ_cons,se,List.getElem_cons_succ]at this|-;omega
theorem FB{ops:List pd}{o:pd}(h:o∈ops):o.s.size<=se ops:=by
 induction ops with
 |nil=>simp at h
 |cons c b a=>
  rcases jU.1 h with rfl|h
  .simp only[se];omega
  .have:=a h;simp only[se];omega
theorem Ej{ops:List pd}{p:Option Addr}{R:Nat}{w:World}(u:vZ w p ops)(S:ops.length<=281474976710656)(q:∀i∈ops,i.s.size<=281474976710656/\i.t.size<=281474976710656):Calls Tryz.prog 44 #[.slice p ops.length R] w λo N=>(o=.returned (.bool false)\/(o=.returned (.bool true)/\ops.length<=16384/\se ops<=16384))/\Below w.heap.size w N:=by
 have y:=b_ u q;clear u q;go_in;by_cases X:16384<ops.length
 .have H:(16384:Int)<(ops.length:Int):=by omega
  go_wp2;go_ret;exact⟨Or.inl rfl,hP⟩
 .have H:¬(16384:Int)<(ops.length:Int):=by omega
  go_wp2_with fail;go_loopw [3,4] (λd g wr=>∃a:Nat,a<=ops.length/\d=.int .i64 ((ops.length+se (ops.take a):Nat):Int)/\g=.int .i64 a/\ops.length+se (ops.take a)<=16384/\Below w.heap.size w wr) (λd g _=>ops.length-(intOf g).toNat)
  case atStart=>exact⟨0,hR,by simp[se],rfl,by simp[se];omega,hP⟩
  case round=>
   obtain⟨a,W,rfl,rfl,B,b⟩:=hrel;have I:=b.size;by_cases f:a<ops.length
   .obtain⟨Y,i,rfl,J,k⟩:=y.f a f;obtain⟨M,Q,K,P,x,m⟩:=k.below b J;obtain⟨G,L⟩:=y.i ops[a] (lf f);have c:=w1 ops a f;obtain⟨s,v⟩:=hQ (ops[a].s);obtain⟨n,t⟩:=hQ (ops[a].t);rw[<-v]at x G c;rw[<-t]at m L c;obtain⟨A,j⟩:=hQ (ops.length+se (ops.take a));rw[<-j]at B|-;have l:=hO j c b;have E:(a:Int)<(ops.length:Int):=by omega
    clear j c b k M Q K P v t;go_upto_region 7 with fail
    go_cut [3]from 16 to 30 (λd F=>d=.int .i64 ((A+(s.size+n.size):Nat):Int)/\Below wr.heap.size wr F)
    case first=>
     go_region;all_goals
      go_wp2_with fail;go_meet
      case rel=>exact⟨by congr 1;omega,hP.drew⟩
    case rest=>
     obtain⟨rfl,z⟩:=hcut;have r:=a_ (l.l.trans (z.mono I));obtain⟨h,e⟩:=hQ (A+(s.size+n.size));rw[<-e];have D:=a_ e;clear z x m e;by_cases V:16384<h
     .have C:(16384:Int)<(h:Int):=by omega
      go_wp2;go_ret;exact⟨Or.inl rfl,r.e⟩
     .have C:¬(16384:Int)<(h:Int):=by omega
      go_wp2;go_roundw
      .obtain⟨T,U,-⟩:=l.e;have Z:=D.e;exact⟨a+1,by omega,by congr 1;omega,by go_num,by omega,r.e⟩
      simp[intOf];omega
   .have O:a=ops.length:=by omega
    have E:¬(a:Int)<(ops.length:Int):=by omega
    rw[O,List.take_length]at B;go_wp2;go_ret;exact⟨Or.inr ⟨rfl,by omega,by omega⟩,b⟩
def pd.cells(o:pd):List Value:=[.int .i64 o.kd,.int .i64 o.a,.int .i64 o.b,.int .i64 o.c,.string o.s,.string o.t]
def lE:List pd->List Value
 |[]=>[]
 |b::a=>b.cells++lE a
theorem Bn(a:List pd):(lE a).length=a.length*6:=by
 induction a with
 |nil=>rfl
 |cons d c b=>simp only[lE,j6,b,pd.cells,j3,List.length_nil];omega
theorem B4(a:List pd)(o:pd):lE (a++[o])=lE a++o.cells:=by
 induction a with
 |nil=>simp[lE]
 |cons d c b=>simp only[mS,lE,b,sx]
theorem BR(a:List pd)(i:Nat)(b:i<a.length)(f:Nat)(d:f<6):(lE a)[i*6+f]?=(a[i].cells)[f]?:=by
 induction a generalizing i with
 |nil=>simp at b
 |cons g e c=>
  match i with
  |0=>
   simp only[lE,List.getElem_cons_zero,pS,jF];rw[lQ (by simp[pd.cells];omega)]
  |i+1=>
   simp only[lE,List.getElem_cons_succ];rw[uP (by simp[pd.cells];omega),<-c i (by simpa using b)];congr 1;simp[pd.cells];omega
theorem BG{B:Nat}{w:World}{v:Value}{b:List pd}(h:w.ownsRow B 87 6 v b.length (lE b)):∃i g,v=.slice i b.length g/\∀a (f:a<b.length),∃c,i=some ⟨c,0,none⟩/\c<w.heap.size/\AK w c (a*6) b[a]:=by
 have n:=Bn b;rcases h.2 with⟨rfl,k⟩|⟨c,g,p,rfl,m,l,o⟩
 .exact⟨none,0,by rw[k],λa f=>by omega⟩
 .refine⟨some ⟨c,0,none⟩,g,rfl,λa f=>⟨c,rfl,(jt.1 l).1,?_⟩⟩;have d:∀e,e<6->w.cell? ⟨c,a*6+e,none⟩=(b[a].cells)[e]?:=by
   intro e j;rw[vF h (a*6+e) (by omega)];exact BR b a f e j
  exact⟨d 0 (by omega),d 1 (by omega),d 2 (by omega),d 3 (by omega),d 4 (by omega),d 5 (by omega)⟩
def pl(a:Int):Bool:=(a==1||a==2)||a==3
def Bf(a:List Int)(o:pd):Bool:=pl o.kd||a.any (λb=>o.kd==b)
def Kh(w:World)(e:Option Addr)(c:List Int):Prop:=∀a (f:a<c.length),∃b d,e=some ⟨b,d,none⟩/\b<w.heap.size/\w.cell? ⟨b,d+a,none⟩=some (.int .i64 c[a])
theorem xf(a:List Int)(f:Int->Bool)(j:Nat)(b:j<a.length):(a.take (j+1)).any f=((a.take j).any f||f a[j]):=by
 rw[oW b,List.any_append];simp
theorem Tryz.JQ:(Tryz.prog.info? 87).map (λa=>(a.zero,a.size,a.bytes))=some (some (.agg #[.int .i64 0,.int .i64 0,.int .i64 0,.int .i64 0,.string ⟨#[]⟩,.string ⟨#[]⟩]),6,64):=by kernel_rfl
theorem EC{w:World}{ops:Array Oper}{i:List Oper}{o:Oper}{a:Act}{Q:Exit->Act->World->Prop}(k:o.guard=none)(s x:Operand)(l:o.op=.call {callee:=.builtin .append,args:=#[s,x],argTypes:=#[49,49]}){B:Nat}(v:Value)(b:List pd)(p:a.eval s=v)(E:w.ownsRow B 87 6 v b.length (lE b))(f:Addr)(A:a.eval x=.slice (some f) 1 1)(e:pd)(q:∀h g,e.cells[h]?=some g->w.cell? (f.add h)=some g)(F:b.length<=30000)(C:B<=w.heap.size)(y:∀d c,c.ownsRow B 87 6 d (b++[e]).length (lE (b++[e]))->w.grownBy c v.ownBlock->wpList Tryz.prog ops Q i (a.put o.dst d) c):wpList Tryz.prog ops Q (o::i) a w:=by
 obtain⟨r,z,m,t,n⟩:=kO Tryz.JQ;refine wC w k s x 49 l B 87 r (.agg #[.int .i64 0,.int .i64 0,.int .i64 0,.int .i64 0,.string ⟨#[]⟩,.string ⟨#[]⟩]) 6 64 Tryz.underlying49 z m t n rfl (by decide) v b.length (lE b) p E f 1 1 e.cells A rfl ?_ ?_ ?_ ?_ C ?_
 .exact q
 .intro g j;simp[pd.cells]at j;rcases j with rfl|rfl|rfl|rfl|rfl|rfl<;>rfl
 .unfold maxLen;omega
 .omega
 .intro d c u D _;refine y d c ?_ D;rw[B4,j6,nn];exact u
theorem D_{ops:List pd}{u:Option Addr}{U:Nat}{a:List Int}{I:Option Addr}{aF:Nat}{w:World}(R:vx w)(Q:vZ w u ops)(N:Kh w I a)(aR:a.length<=1000)(am:ops.length<=281474976710656)(V:∀z∈ops,z.s.size<=281474976710656/\z.t.size<=281474976710656)(L:∀j T aE,vx j->ops.length<=16384->se ops<=16384->(∀i (aP:i<(ops.filter (Bf a)).length),∃s,T=some ⟨s,0,none⟩/\s<j.heap.size/\AK j s (i*6) (ops.filter (Bf a))[i])->Calls Tryz.prog 45 #[.slice T (ops.filter (Bf a)).length aE] j λf q=>f=.returned (.int .i64 (-1))/\Below j.heap.size j q):Calls Tryz.prog 22 #[.slice u ops.length U,.slice I a.length aF] w λf q=>f=.returned (.bool true)/\Below w.heap.size w q:=by
 have k:=iu R Q N L V;clear R Q N V L;go_in;go_wp2_with fail;go_fit (@Ej ops u U w k.g am k.x);rintro f aI⟨rfl|⟨rfl,ak,P⟩,r⟩
 .go_wp2;go_ret;exact⟨rfl,r⟩
 .have G:=b_ P r;have aJ:=r.size;clear P r;go_wp2_with fail;go_loopw [6,7] (λao i wr=>∃d:Nat,d<=ops.length/\i=.int .i64 d/\wr.ownsRow w.heap.size 87 6 ao ((ops.take d).filter (Bf a)).length (lE ((ops.take d).filter (Bf a)))/\Below w.heap.size w wr) (λ_ i _=>ops.length-(intOf i).toNat)
  case atStart=>exact⟨0,hR,rfl,oI _ _ _ _,G.i⟩
  case round=>
   obtain⟨d,aO,rfl,l,A⟩:=hrel;have D:=A.size;have g:=b_ l A;clear l A;by_cases Y:d<ops.length
   .obtain⟨s,z,rfl,ah,X⟩:=k.g d Y;obtain⟨av,ay,ar,aw,ai,az⟩:=X.below g.i ah;have t:=a_ (show(ops.take (d+1)).filter (Bf a)=(ops.take d).filter (Bf a)++(if Bf a ops[d]then[ops[d]]else[])from by
     rw[oW Y,List.filter_append];congr 1;by_cases al:Bf a ops[d]<;>simp[al])
    obtain⟨b,W⟩:=hQ (ops[d]);rw[<-W]at av ay ar aw ai az t;obtain⟨ab,B⟩:=hQ ((ops.take d).filter (Bf a));rw[<-B]at g t;have aK:ab.length<=16384:=by
     rw[B];have:=List.length_filter_le (Bf a) (ops.take d);simp at this;omega
    have ag:(d:Int)<(ops.length:Int):=by omega
    clear X W B;go_upto_region 9 with fail
    go_cut [9]from 26 to 35 (λf v=>f=.bool (pl b.kd)/\v=wr)
    case first=>
     by_cases m:b.kd=1
     .have aa:(b.kd==1)=true:=by simp[m]
      have h:=a_ (show pl b.kd=true by simp[pl,m]);clear m;go_wp2_with fail;go_meet
      case rel=>exact⟨by rw[h.e],rfl⟩
     .have aa:(b.kd==1)=false:=by simp[m]
      by_cases o:b.kd=2
      .have J:(b.kd==2)=true:=by simp[o]
       have h:=a_ (show pl b.kd=true by simp[pl,o]);clear m o;go_wp2_with fail;go_meet
       case rel=>exact⟨by rw[h.e],rfl⟩
      .have J:(b.kd==2)=false:=by simp[o]
       have h:=a_ (show pl b.kd=(b.kd==3) by simp[pl,aa,J]);clear m o;go_wp2_with fail;go_meet
       case rel=>exact⟨by rw[h.e],rfl⟩
    case rest=>
     obtain⟨rfl,rfl⟩:=hcut;go_wp2_with fail;go_loopw [9,10] (λap n v=>∃e:Nat,e<=a.length/\ap=.bool (pl b.kd||(a.take e).any (λf=>b.kd==f))/\n=.int .i64 e/\v=wc) (λ_ n _=>a.length-(intOf n).toNat)
     case atStart=>exact⟨0,hR,by simp,rfl,rfl⟩
     case round=>
      obtain⟨e,aL,rfl,rfl,rfl⟩:=hrel;by_cases S:e<a.length
      .obtain⟨au,aB,rfl,aG,H⟩:=k.j e S;have ac:=H;rw[<-g.i.cell (p:=⟨au,aB+e,none⟩) (by simpa using aG)]at ac;have x:=a_ (xf a (λf=>b.kd==f) e S);obtain⟨aM,E⟩:=hQ (a[e]);rw[<-E]at ac x;have aj:(e:Int)<(a.length:Int):=by omega
       clear H E
       cases hpre:(pl b.kd||(a.take e).any (λf=>b.kd==f))
       .have h:=a_ hpre;clear hpre;go_wp2;go_roundw;exact⟨e+1,by omega,by rw[x.e,<-Bool.or_assoc,h.e,Bool.false_or],by go_num,trivial⟩;simp[intOf];omega
       .have h:=a_ hpre;clear hpre;go_wp2;go_roundw;exact⟨e+1,by omega,by rw[x.e,<-Bool.or_assoc,h.e,Bool.true_or],by go_num,trivial⟩;simp[intOf];omega
      .have aj:¬(e:Int)<(a.length:Int):=by omega
       have ad:e=a.length:=by omega
       have aA:=a_ (show(pl b.kd||(a.take e).any (λf=>b.kd==f))=Bf a b by rw[ad,List.take_length];rfl);rw[aA.e];clear ad
       cases hin:Bf a b
       .have y:=a_ hin;clear hin;go_wp2;go_roundw
        .refine⟨d+1,by omega,by go_num,?_,g.i⟩;rw[t.e,y.e];simpa using g.f
        simp[intOf];omega
       .have y:=a_ hin;clear hin;go_wp2_with (at_builtin;refine @EC _ _ _ _ _ _ rfl _ _ rfl w.heap.size _ ab rfl ?_ ⟨_,0,none⟩ rfl b ?_ ?_ ?_ ?_)
        .exact kK g.f _
        .intro Z aH c;match Z,c with
         |0,c=>simp[pd.cells]at c;subst c;simp
         |1,c=>simp[pd.cells]at c;subst c;simp
         |2,c=>simp[pd.cells]at c;subst c;simp
         |3,c=>simp[pd.cells]at c;subst c;simp
         |4,c=>simp[pd.cells]at c;subst c;simp
         |5,c=>simp[pd.cells]at c;subst c;simp
         |Z+6,c=>simp[pd.cells]at c
        .omega
        .omega
        intro aN q C K;have ae:Below w.heap.size w q:=(g.i.alloc D _).grown K (by simp;omega) (λn aC=>(kF g.f n aC).1);have O:=b_ C ae;clear C K ae;go_wp2;go_roundw
        .refine⟨d+1,by omega,by go_num,?_,O.i⟩;rw[t.e,y.e,if_pos rfl];rw[j6,nn];exact O.f
        simp[intOf];omega
   .have aD:d=ops.length:=by omega
    have ag:¬(d:Int)<(ops.length:Int):=by omega
    have l:=g.f;rw[aD,List.take_length]at l;obtain⟨af,ax,rfl,M⟩:=BG l;have aq:=a_ M;clear l M;go_wp2_with fail;go_fit (k.m _ af ax (k.f.below g.i) ak G.f aq.e);rintro f aQ⟨rfl,F⟩;have an:=a_ (g.i.trans (F.mono D));clear F;go_wp2;go_ret;exact⟨rfl,an.e⟩
end
section
open Go.ChangeShapes Go.WideShapes Go.ChangeAt Go.Deep
section
variable {H:Type} {enc:TypeId×Value->H} {P:Program} {w:World} {base:Nat} {spare:Nat->Bool} {held:Bool}
theorem F1{t e:TypeId}{y B A C z D:Field}{G:List Value}{x:DataW H×List MemPlace}(aq:P.underlying t=some (.slice e))(am:P.underlying e=some (.struct #[y,B,A,C,z,D]))(ay:P.cellsOf e=6)(az:y.offset=0)(ah:B.offset=1)(al:A.offset=2)(ag:C.offset=3)(ai:z.offset=4)(ac:D.offset=5)(av:P.cellsOf y.type=1)(aj:P.cellsOf B.type=1)(aa:P.cellsOf A.type=1)(Z:P.cellsOf C.type=1)(Y:P.cellsOf z.type=1)(af:P.cellsOf D.type=1)(h:DataW.trod enc P w base spare held i t G=some x):G=[.slice none 0 0]\/∃(c:Addr) (u F b:Nat),G=[.slice (some c) u F]/\(∃E ao,x.1=.slice E ao/\E.length=u/\∀a,a<u->∃(o p m n q g:Value) (k l f r d j:DataW H×List MemPlace),.agg [k.1,l.1,f.1,r.1,d.1,j.1]∈E/\(w.cell? (c.add (a*6))=some o/\w.cell? (c.add (a*6+1))=some p/\w.cell? (c.add (a*6+2))=some m/\w.cell? (c.add (a*6+3))=some n/\w.cell? (c.add (a*6+4))=some q/\w.cell? (c.add (a*6+5))=some g)/\DataW.trod enc P w base spare held b y.type [o]=some k/\DataW.trod enc P w base spare held b B.type [p]=some l/\DataW.trod enc P w base spare held b A.type [m]=some f/\DataW.trod enc P w base spare held b C.type [n]=some r/\DataW.trod enc P w base spare held b z.type [q]=some d/\DataW.trod enc P w base spare held b D.type [g]=some j):=by
 rcases open_slice aq h with⟨ar,-⟩|⟨c,u,F,aA,b,aC,aB,rfl,aF,aH,aD,ab,rfl,aw⟩
 .exact Or.inl ar
 right;have aG:u<=aA:=by rw[ab];split<;>omega
 refine⟨c,u,F,b-1,rfl,_,_,rfl,by simp,λa ap=>?_⟩;obtain⟨W,S,ax⟩:=aw a (by omega);rw[ay]at S;obtain⟨_,ad,s⟩:=World.cells?_some S;obtain⟨U,au,aE,ak,_,ae,v⟩:=DataW.trod_struct am ax;have an:au=b-1:=by omega
 subst an;obtain⟨o,p,m,n,q,g,rfl⟩:∃o p m n q g,W=[o,p,m,n,q,g]:=by
  match W,ad with
  |[o,p,m,n,q,g],_=>exact⟨_,_,_,_,_,_,rfl⟩
 obtain⟨k,l,f,r,d,j,rfl⟩:∃k l f r d j,U=[k,l,f,r,d,j]:=by
  match U,ae with
  |[k,l,f,r,d,j],_=>exact⟨_,_,_,_,_,_,rfl⟩
 have T:=v 0 y rfl;have M:=v 1 B rfl;have I:=v 2 A rfl;have N:=v 3 C rfl;have K:=v 4 z rfl;have L:=v 5 D rfl;simp[az,ah,al,ag,ai,ac,av,aj,aa,Z,Y,af]at T M I N K L;have X:=s 0 (by omega);have O:=s 1 (by omega);have R:=s 2 (by omega);have Q:=s 3 (by omega);have V:=s 4 (by omega);have J:=s 5 (by omega);rw[add_add]at X O R Q V J;exact⟨o,p,m,n,q,g,k,l,f,r,d,j,kt.2 ⟨a,jB.2 ap,(by simpa using(Prod.mk.inj ak).1)⟩,⟨by simpa using X,by simpa using O,by simpa using R,by simpa using Q,by simpa using V,by simpa using J⟩,T,M,I,N,K,L⟩
end
theorem qW{g:Type}{P:Program}{e:TypeId}:∀{f:List (DataW g)} {b:DataW g},b∈f->∀c∈b.weights P e,c∈DataW.weightsAll P e f
 |i::h,b,a,c,d=>by
  rw[DataW.weightsAll,ji];rcases jU.1 a with rfl|a
  .exact .inl d
  .exact .inr (qW a c d)
theorem xW{n:Int}(h:(Lit.int .i64 n).wf=true):-9223372036854775808<=n/\n<=9223372036854775807:=by
 simp only[Lit.wf,Bool.and_eq_true,pA]at h;exact h
theorem Bm{w:World}{a:Addr}{v:Value}(h:w.cell? a=some v):a=⟨a.block,a.off,none⟩/\a.block<w.heap.size:=by
 obtain⟨d,e,c⟩:=a
 cases c with
 |none=>
  refine⟨rfl,?_⟩;by_cases b:d<w.heap.size
  .exact b
  .simp[World.cell?,Array.getElem?_eq_none (Nat.le_of_not_lt b)]at h
 |some c=>
  simp only[World.cell?]at h;split at h<;>simp at h
theorem vM{A:Type}{enc:TypeId×Value->A}{w:World}{base:Nat}{ay:Nat->Bool}{ap:Bool}{ag:Nat}{v:Value}{x:DataW A×List MemPlace}(h:DataW.trod enc Tryz.prog w base ay ap ag 49 [v]=some x)(i:∀g∈x.1.weights Tryz.prog 49,g<=reachBytes):∃(l:List pd) (r:Option Addr) (o:Nat),v=.slice r l.length o/\l.length<=281474976710656/\vZ w r l/\(∀a∈l,a.s.size<=281474976710656/\a.t.size<=281474976710656)/\(∀a∈l,(-9223372036854775808<=a.a/\a.a<=9223372036854775807)/\(-9223372036854775808<=a.b/\a.b<=9223372036854775807)):=by
 rcases F1 Tryz.underlying49 Tryz.underlying87 (by kernel_rfl) rfl rfl rfl rfl rfl rfl (by kernel_rfl) (by kernel_rfl) (by kernel_rfl) (by kernel_rfl) (by kernel_rfl) (by kernel_rfl) h with f|⟨c,k,o,g,f,af,ao,am,aD,J⟩
 .simp at f;exact⟨[],none,0,f,by simp,λb e=>by simp at e,λa d=>by simp at d,λa d=>by simp at d⟩
 .simp at f;rw[am]at i;simp only[DataW.weights,Tryz.underlying49]at i;have y:(af.length+ao.length)*Tryz.prog.bytesOf 87<=reachBytes:=i _ (List.mem_cons_self ..);rw[show Tryz.prog.bytesOf 87=64 by kernel_rfl]at y;unfold reachBytes at i y;have aq:∀b,b<k->∃a:pd,(c=⟨c.block,c.off,none⟩/\c.block<w.heap.size/\AK w c.block (c.off+b*6) a)/\(a.s.size<=281474976710656/\a.t.size<=281474976710656)/\(-9223372036854775808<=a.a/\a.a<=9223372036854775807)/\(-9223372036854775808<=a.b/\a.b<=9223372036854775807):=by
   intro b e;obtain⟨aG,aH,aC,aE,aI,aB,ah,aj,aa,ax,O,ae,T,⟨K,B,E,C,H,u⟩,av,au,Z,P,Q,X⟩:=J b e;obtain⟨ak,f,-,aA⟩:=DataW.trod_int Tryz.underlying3 av;obtain⟨R,F,-,V⟩:=DataW.trod_int Tryz.underlying3 au;obtain⟨aw,N,-,Y⟩:=DataW.trod_int Tryz.underlying3 Z;obtain⟨ad,s,-,aF⟩:=DataW.trod_int Tryz.underlying3 P;obtain⟨I,L,al,-⟩:=DataW.trod_string Tryz.underlying9 Q;obtain⟨M,z,W,-⟩:=DataW.trod_string Tryz.underlying9 X;simp at f F N s L z;subst f F N s L z;have p:∀g∈(DataW.agg [ah.1,aj.1,aa.1,ax.1,O.1,ae.1]).weights Tryz.prog 87,g<=140737488351232:=λg ab=>i g (lg _ (List.mem_append_left _ (qW T g ab)));simp only[DataW.weights,Tryz.underlying87]at p;have S:I.size<=140737488351232:=by
    refine p _ (DataW.weights_mem_each (j:=4) (t:=9) rfl rfl _ ?_);rw[al];simp[DataW.weights]
   have ai:M.size<=140737488351232:=by
    refine p _ (DataW.weights_mem_each (j:=5) (t:=9) rfl rfl _ ?_);rw[W];simp[DataW.weights]
   have m:c=⟨c.block,c.off,none⟩/\c.block<w.heap.size:=by
    obtain⟨az,_,_,_,_,_,_,_,_,_,_,_,_,⟨G,_⟩,_⟩:=J 0 (by omega);rw[show c.add (0*6)=c by simp[Addr.add]]at G;exact Bm G
   rw[m.1,add_plain]at K B E C H u;exact⟨⟨ak,R,aw,ad,I,M⟩,⟨m.1,m.2,K,B,E,C,H,u⟩,⟨iy S (by decide),iy ai (by decide)⟩,xW V,xW Y⟩
  haveI:Inhabited pd:=⟨⟨0,0,0,0,⟨#[]⟩,⟨#[]⟩⟩⟩;obtain⟨n,q⟩:=choose_lt aq;have D:∀a∈(List.range k).map n,∃b,b<k/\n b=a:=λa d=>by simpa using d
  refine⟨(List.range k).map n,some c,o,by simpa using f,by simp;omega,λb e=>?_,λa d=>?_,λa d=>?_⟩
  .have ar:b<k:=by simpa using e
   obtain⟨⟨U,ac,an⟩,-⟩:=q b ar;exact⟨c.block,c.off,by rw[<-U],ac,by simpa using an⟩
  .obtain⟨b,e,rfl⟩:=D a d;exact(q b e).2.1
  .obtain⟨b,e,rfl⟩:=D a d;exact(q b e).2.2
end
def yR(w:World)(ms:List Hm)(g:Int)(r q:Nat)(v:Value)(a:Bool):Prop:=(a=true/\∃f c b,f<24/\ms.getD f none=some (c,r,q,b)/\(c:Int)=g/\i_ w v r q b 200000000)\/(a=false/\∀d,d<24->∀e,ms.getD d none=some e->(e.1:Int)≠g)
theorem yR.below{w:World}{ms:List Hm}{g:Int}{r q:Nat}{v:Value}(h:yR w ms g r q v u)(e:Below w.heap.size w W):yR W ms g r q v u:=by
 rcases h with⟨f,j,c,a,i,k,d,b⟩|h
 .exact .inl ⟨f,j,c,a,i,k,d,b.below e⟩
 .exact .inr h
theorem jS{b:Nat}{g:Int}{ms:List Hm}{nx:Nat}{w:World}(B:jf w b ms nx):Calls Tryz.prog 36 #[.pointer (some ⟨b,0,none⟩),.int .i64 g] w λo y=>(∃h l c d f k,o=.returned (.tuple #[.agg #[.int .i64 ((h:Nat):Int),.int .i64 ((l:Nat):Int),.slice c d f],.bool k])/\yR y ms g h l (.agg #[.int .i64 (h:Nat),.int .i64 (l:Nat),.slice c d f]) k)/\Below w.heap.size w y:=by
 obtain⟨K,-,C,p,m⟩:=B;have r:∀a e,C.getD a none=some e->∃c d f,e.2.2.2=.slice c d f:=λa e i=>by
  have j:=ui p.1 i;have v:=m a j;rw[i]at v;exact v.shape
 go_fit (AY p r);rintro o N⟨⟨D,k,rfl,G⟩,z⟩;refine⟨?_,z⟩;rcases G with⟨rfl,a,j,e,i,t,rfl⟩|⟨rfl,rfl,J⟩
 .obtain⟨I,A,q,u,s,n⟩:=yz m j i;obtain⟨c,d,f,x⟩:=r a e i;obtain⟨E,h,F,D⟩:=e;obtain⟨M,L,O,H⟩:=I;simp only at q u s n x t;subst q;subst u;subst s;subst x;exact⟨h,F,c,d,f,true,rfl,.inl ⟨rfl,a,E,H,j,A,t,n.below z⟩⟩
 .exact⟨0,0,none,0,0,false,rfl,.inr ⟨rfl,ye m J⟩⟩
theorem q2{b r c:Nat}{i:Option Addr}{m k:Nat}{zs:List Int}{ms:List Hm}{nx n:Nat}{w:World}(u:jf w b ms nx)(q:i_ w (.agg #[.int .i64 r,.int .i64 c,.slice i m k]) r c zs 200000000)(a:ke ms n)(A:nx<1000000):Calls Tryz.prog 35 #[.pointer (some ⟨b,0,none⟩),.agg #[.int .i64 r,.int .i64 c,.slice i m k]] w λd p=>d=.returned (.int .i64 (nx:Nat))/\jf p b (ms.set n (some (nx,r,c,zs))) (nx+1)/\Fr b w p:=by
 obtain⟨s,-,v,j,h⟩:=u;have g:nO v n:=⟨a.1,(h n a.1).o6.2 a.2.1,λo y d=>a.2.2 o y ((h o (by have:=a.1;omega)).o6.1 d)⟩;go_fit (AQ j g (by omega));rintro d z⟨rfl,t,f⟩;refine⟨rfl,⟨by simp[s],by omega,_,t,λl x=>?_⟩,f⟩;rw[vi (by have:=j.1;have:=g.1;omega),lU (by have:=g.1;omega)];by_cases e:l=n
 .rw[if_pos e,if_pos e];exact⟨rfl,rfl,rfl,q.oJ f.2⟩
 .rw[if_neg e,if_neg e];exact(h l x).hV f.2
theorem mg{b:Nat}{ms:List Hm}{nx:Nat}{w:World}(o:jf w b ms nx):Calls Tryz.prog 34 #[.pointer (some ⟨b,0,none⟩)] w λi l=>i=.returned (.int .i64 ((ms.countP Option.isNone:Nat):Int))/\l=w:=by
 obtain⟨n,-,j,g,t⟩:=o;go_fit (zM g);rintro i l⟨rfl,rfl⟩;refine⟨?_,rfl⟩;have p:∀(d:List qT) (c:List Hm),d.length=c.length->(∀a,a<d.length->((d.getD a none).isNone=(c.getD a none).isNone))->d.countP Option.isNone=c.countP Option.isNone:=by
  intro d;induction d with
  |nil=>intro c f _;cases c with
   |nil=>rfl
   |cons=>simp at f
  |cons s d r=>intro c f h;cases c with
   |nil=>simp at f
   |cons q c=>
    have m:=h 0 (by simp);have e:=r c (by simpa using f) (λa k=>by have:=h (a+1) (by simpa using k);simpa using this);rw[List.countP_cons,List.countP_cons,e];simp at m;rw[m]
 rw[p j ms (by rw[g.1,n]) (λa k=>by
  have e:=(t a (by have:=g.1;omega)).o6
  cases hx:j.getD a none with
  |none=>rw[e.1 hx];rfl
  |some s=>cases hy:ms.getD a none with
   |none=>rw[e.2 hy]at hx;cases hx
   |some q=>rfl)]
theorem pV{ms:List Hm}(m:ms.length=24)(h:0<ms.countP Option.isNone):∃l,ke ms l:=by
 have j:∃a,a<24/\ms.getD a none=none:=by
  rw[List.countP_pos_iff]at h;obtain⟨n,f,k⟩:=h;obtain⟨a,d,rfl⟩:=lZ.1 f;refine⟨a,by omega,?_⟩;rw[List.getD,iI d];simpa using k
 obtain⟨a,d,g⟩:=j;induction a using Nat.strongRecOn with
 |ind a i=>
  by_cases h:∃b,b<a/\ms.getD b none=none
  .obtain⟨b,e,c⟩:=h;exact i b e (by omega) c
  .exact⟨a,d,g,λb e c=>h ⟨b,e,c⟩⟩
theorem pv{ms:List Hm}(d:ms.length=24)(h:ms.countP Option.isNone=0):∀a,a<24->ms.getD a none≠none:=by
 intro a e b;rw[List.countP_eq_zero]at h;have c:=h (ms[a]'(by omega)) (lf _);rw[List.getD,iI (show a<ms.length from by omega)]at b;simp at b;simp[b]at c
theorem fa(w:World)(c:Array Value)(t:TypeId)(i b:Nat){v:Value}(a:b=w.heap.size)(h:c[i]?=some v):(w.alloc (.cells c t)).cell? ⟨b,i,none⟩=some v:=by
 rw[a,World.cell?_alloc_new];exact h
theorem w0(w:World)(c:Array Value)(t:TypeId)(i b:Nat)(a:b=w.heap.size):(w.alloc (.cells c t)).frozen? ⟨b,i,none⟩=false:=by
 rw[a];exact yF _ _ _ _
def iw(w:World)(b:Nat)(x y:Value):Prop:=w.heap[b]?=some (.cells #[x,y] 79 (0,0))
theorem iw.below{B:Nat}{w:World}{b:Nat}{x y:Value}(h:iw w b x y)(a:Below B w v)(c:b<B):iw v b x y:=by unfold iw;rw[a.block b c];exact h
theorem iw.new(w:World)(x y:Value){b:Nat}(a:b=w.heap.size):iw (w.alloc (.cells #[x,y] 79)) b x y:=by rw[a];exact iP w _
theorem iw.drew{w:World}{b:Nat}{x y:Value}(h:iw w b x y):iw w.drew b x y:=h
theorem iw.put{w:World}{b:Nat}{x y:Value}(h:iw w b x y)(a y':Value):iw ((w.setCell ⟨b,0,none⟩ a).setCell ⟨b,1,none⟩ y') b a y':=by
 unfold iw at*;rw[ja _ _ _ _ _ _ (ja _ _ _ _ _ _ h)];simp
theorem iw.ty{w:World}{b:Nat}{x y:Value}(h:iw w b x y):Ty w b 79:=⟨_,_,h⟩
theorem iw.cells{w:World}{b:Nat}{x y:Value}(h:iw w b x y):w.cell? ⟨b,0,none⟩=some x/\w.cell? ⟨b,1,none⟩=some y/\w.frozen? ⟨b,0,none⟩=false/\w.frozen? ⟨b,1,none⟩=false:=by
 unfold iw at h;refine⟨?_,?_,?_,?_⟩<;>simp[World.cell?,World.frozen?,h]
theorem jE.s_{w:World}{v:Value}{z:Int}{L b:Nat}{x y:Value}(h:jE w v z L)(hd:iw w b x y)(a y':Value):jE ((w.setCell ⟨b,0,none⟩ a).setCell ⟨b,1,none⟩ y') v z L:=h.hV (KU.setCell (KU.setCell (KU.refl _) hd.ty (by decide) _) (hd.ty.setCell _ _) (by decide) _)
theorem DK{W w:World}{row:Option Nat}{p i j:Nat}{x y:Value}(h:W.grownBy w row)(d:W.heap.size<=p):W.grownBy ((w.setCell ⟨p,i,none⟩ x).setCell ⟨p,j,none⟩ y) row:=by
 refine⟨h.os,h.tape,h.output,by have:=h.size;simp[World.setCell];omega,λc b a=>?_⟩;rw[js _ _ _ _ (by simp;omega),js _ _ _ _ (by simp;omega)];exact h.block c b a
theorem lD{W w:World}{b i j:Nat}{x y:Value}(h:W.grownBy w (some b)):W.grownBy ((w.setCell ⟨b,i,none⟩ x).setCell ⟨b,j,none⟩ y) (some b):=by
 refine hZ h ⟨rfl,rfl,rfl,by simp[World.setCell],λd _ c=>?_⟩;rw[js _ _ _ _ (λa=>c (by simp[a])),js _ _ _ _ (λa=>c (by simp[a]))]
def dot(f g:Nat->Nat->Int)(i j:Nat):Nat->Int
 |0=>0
 |a+1=>dot f g i j a+f i a*g a j
theorem k8{f g:Nat->Nat->Int}{i j:Nat}(t:Nat)(b:∀a,a<t->f i a=A i a)(c:∀a,a<t->g a j=B a j):dot f g i j t=dot A B i j t:=by
 induction t with
 |zero=>rfl
 |succ t e=>rw[dot,dot,e (λa d=>b a (by omega)) (λa d=>c a (by omega)),b t (by omega),c t (by omega)]
theorem Ja{f g:Nat->Nat->Int}{i j A:Nat}(t:Nat)(b:∀a,a<t->(f i a).natAbs<=A)(c:∀a,a<t->(g a j).natAbs<=A):(dot f g i j t).natAbs<=t*(A*A):=by
 induction t with
 |zero=>simp[dot]
 |succ t e=>
  rw[dot,rG];refine iy (wV _ _) (Nat.add_le_add (e (λa d=>b a (by omega)) (λa d=>c a (by omega))) ?_);rw[np];exact jR (b t (by omega)) (c t (by omega))
def jk(w:World)(b:Nat)(x y z:Value):Prop:=w.cell? ⟨b,0,none⟩=some x/\w.cell? ⟨b,1,none⟩=some y/\w.cell? ⟨b,2,none⟩=some z
theorem jk.later{w:World}{b:Nat}{x y z:Value}(h:jk w b x y z)(a:Below w.heap.size w v):jk v b x y z:=⟨g_ a h.1,g_ a h.2.1,g_ a h.2.2⟩
theorem jk.grown{w:World}{b s:Nat}{x y z:Value}(h:jk w b x y z)(c:w.grownBy v (some s))(a:b≠s):jk v b x y z:=⟨c.cell h.1 (by simpa using a),c.cell h.2.1 (by simpa using a),c.cell h.2.2 (by simpa using a)⟩
theorem EZ{v u:Value}{r q c row:Nat}{zs ys:List Int}{L:Nat}{w:World}(ax:i_ w v r q zs L)(ap:i_ w u q c ys L)(a0:row<r)(a4:i<c)(bg:L<=200000000):Calls Tryz.prog 129 #[v,.int .i64 row,u,.int .i64 i] w λp a9=>∃k,p=.returned k/\jD w a9 k (dot (λd h=>zs.getD (d*q+h) 0) (λd h=>ys.getD (d*c+h) 0) row i q) (L+L+1+q):=by
 have an:=a_ ax;have aL:=a_ ap;obtain⟨bl,bq,bj,rfl,al⟩:=ax;obtain⟨ae,aB,rfl,-⟩:=al.shape;obtain⟨-,br,bf,rfl,aj⟩:=ap;obtain⟨aI,aD,rfl,-⟩:=aj.shape;clear al aj;obtain⟨ai,aT⟩:=hQ (r*q);rw[<-aT]at an|-;obtain⟨au,aK⟩:=hQ (q*c);rw[<-aK]at aL|-;clear aT aK;go_in;go_wp2_with fail;obtain⟨f,g⟩:=hQ ((((w.alloc (.cells #[.int .i64 r,.int .i64 q,.slice ae ai aB] 66)).alloc (.cells #[.int .i64 q,.int .i64 c,.slice aI au aD] 66)).alloc (.cells #[.bool false,.slice none 0 0] 79)).alloc (.cells #[.bool false,.slice none 0 0] 79));rw[<-g];have aG:Below w.heap.size w f:=by
  rw[g];repeat(first|exact hP|refine ia ?_ (by simp<;>omega) _)
 have aU:jk f w.heap.size (.int .i64 r) (.int .i64 q) (.slice ae ai aB):=by
  rw[g];exact⟨uM (by simp) _ _ _,uM (by simp) _ _ _,uM (by simp) _ _ _⟩
 have ak:jk f (w.heap.size+1) (.int .i64 q) (.int .i64 c) (.slice aI au aD):=by
  rw[g];exact⟨iL (iL (fa _ _ _ _ _ (by simp) rfl) _) _,iL (iL (fa _ _ _ _ _ (by simp) rfl) _) _,iL (iL (fa _ _ _ _ _ (by simp) rfl) _) _⟩
 have ac:iw f (w.heap.size+1+1+1) (.bool false) (.slice none 0 0):=by rw[g];exact iw.new _ _ _ (by simp)
 have ay:iw f (w.heap.size+1+1) (.bool false) (.slice none 0 0):=by
  rw[g];exact(iw.new _ _ _ (by simp)).below hS (by simp)
 obtain⟨t,A⟩:=hQ (w.heap.size+1+1+1);rw[<-A]at ac|-;have bo:w.heap.size+3<=t:=by omega
 have ag:f.heap.size=t+1:=by rw[g,A];simp
 have C:=hY aU ak ay ag;have aP:=b_ ac aG;have a2:=a_ A;clear aU ak ay ac aG g ag A;go_loopw [10] (λd wr=>∃(e:Nat) (n:Bool) (s:Option Addr) (m y:Nat),e<=q/\d=.int .i64 e/\iw wr t (.bool n) (.slice s m y)/\jE wr (.agg #[.bool n,.slice s m y]) (dot (λd h=>zs.getD (d*q+h) 0) (λd h=>ys.getD (d*c+h) 0) row i e) (L+L+1+e)/\f.grownBy wr (some t)/\Below w.heap.size w wr) (λd _=>q-(intOf d).toNat)
 case atStart=>exact⟨0,_,_,_,_,hR,rfl,aP.f,jE.zero _ _,jM _ _,aP.i⟩
 case round=>
  obtain⟨e,n,s,m,y,bp,rfl,aO,aM,D,Z⟩:=hrel;obtain⟨aX,aV,aZ⟩:=C.f.grown D (by omega);have aS:=C.g.grown D (by omega);have af:=Z.size;have b:=iu aO aM D Z aS;clear aO aM D Z aS;by_cases aJ:e<q
  .have be:(e:Int)<(q:Int):=by omega
   go_wp2_with fail;go_fit (jy (an.e.below b.m) a0 aJ);rintro p B⟨k,rfl,a,I⟩;obtain⟨K,P,X,ad,rfl⟩:=a.shape;have N:Below wr.heap.size wr (B.alloc (.cells #[.bool K,.slice P X ad] 79)):=I.alloc I.size _;have aN:=(iw.new B (.bool K) (.slice P X ad) rfl);have aA:=a.below (hU B (.cells #[.bool K,.slice P X ad] 79));obtain⟨bd,a3,a7⟩:=b.x.later N;have bn:=I.size;have H:=hO N aN aA;clear N aN aA a I aX aV aZ;go_wp2_with fail;go_fit (jy (aL.e.below (b.m.trans (H.f.mono af))) aJ a4);rintro p G⟨k,rfl,a,j⟩;obtain⟨aq,aC,av,aQ,rfl⟩:=a.shape;have aR:Below wr.heap.size wr (G.alloc (.cells #[.bool aq,.slice aC av aQ] 79)):=(H.f.trans (j.mono (by simp;omega))).alloc (by have:=j.size;simp at this;omega) _;have J:=hU G (.cells #[.bool aq,.slice aC av aQ] 79);have ba:B.heap.size<G.heap.size:=by have:=j.size;simp at this;omega
   have aE:=(H.g.below j (by simp)).below J ba;obtain⟨z,x,-,-⟩:=aE.cells;have S:=hO aR ((H.l.below j).below J) (a.below J);clear a j aR J aE bd a3 a7;go_wp2_with fail;go_fit (j0 S.g S.l (by omega) (by omega));rintro p aa⟨k,rfl,a,T⟩;obtain⟨M,ab,U,Y,rfl⟩:=a.shape;have bh:wr.heap.size<=G.heap.size:=by omega
   have E:Below wr.heap.size wr (aa.alloc (.cells #[.bool M,.slice ab U Y] 79)):=(S.f.trans (T.mono (by simp;omega))).alloc (by have:=T.size;simp at this;omega) _;have aH:=hU aa (.cells #[.bool M,.slice ab U Y] 79);have V:=b.f.below E (jt.1 b.f).1;have aw:=b.g.below E;clear z x;obtain⟨z,x,O,W⟩:=V.cells;have l:=hY E V aw (a.below aH);clear a T E aH V aw;go_wp2_with fail;go_fit (ny l.j l.o (by omega) (by omega));rintro p bb⟨k,rfl,a,Q⟩;obtain⟨a1,a8,a5,bc,rfl⟩:=a.shape;have am:t<(aa.alloc (.cells #[.bool M,.slice ab U Y] 79)).heap.size:=(jt.1 l.g).1;have az:Below wr.heap.size wr bb:=d_ l.f Q;have R:=l.g.below Q am;clear z x O W;obtain⟨z,x,O,W⟩:=R.cells;have o:=hO az R a;clear a Q az R am;go_wp2;go_roundw
   .refine⟨e+1,a1,a8,a5,bc,by omega,by go_num,o.g.put _ _,?_,lD (ib b.j o.f),((b.m.trans (o.f.mono af)).setCell (by simp;omega) _).setCell (by simp;omega) _⟩;exact(o.l.s_ o.g _ _).mono (by omega)
   simp[intOf];omega
  .have a6:e=q:=by omega
   subst a6;obtain⟨z,x,O,W⟩:=b.f.cells;have ah:=C.j;have ar:wr.heap[w.heap.size+1+1]?=f.heap[w.heap.size+1+1]?:=b.j.block _ (by have:=C.o;omega) (by have:=a2.e;simp;omega);have F:iw wr (w.heap.size+1+1) (.bool false) (.slice none 0 0):=by unfold iw;rw[ar];exact ah
   have ao:=(F.put (.bool n) (.slice s m y)).cells;have aF:=b_ F ao;obtain⟨bi,bk,bm,bs⟩:=F.cells;clear ah ar F ao;go_wp2_with fail;obtain⟨aY,aW,-,-⟩:=aF.i;refine ig (v:=.agg #[.bool n,.slice s m y]) ?_ rfl ?_
   ·(simp[results,Tryz.results129,go_sem,aY,aW];done)
   .exact⟨_,rfl,b.g.s_ aF.f _ _,(b.m.setCell (by simp;omega) _).setCell (by simp;omega) _⟩
def qn(r q c a e:Nat)(zs ys ms:List Int):Prop:=∀b d,b<r->d<c->(b<a\/(b=a/\d<e))->ms.getD (b*c+d) 0=dot (λb d=>zs.getD (b*q+d) 0) (λb d=>ys.getD (b*c+d) 0) b d q
theorem qn.step{r q c a e:Nat}{zs ys ms:List Int}(h:qn r q c a e zs ys ms)(l:ms.length=r*c)(t:a<r)(k:e<c){z:Int}(p:z=dot (λd b=>zs.getD (d*q+b) 0) (λd b=>ys.getD (d*c+b) 0) a e q):qn r q c a (e+1) zs ys (ms.set (a*c+e) z):=by
 intro d b g f s;by_cases i:d=a/\b=e
 .obtain⟨rfl,rfl⟩:=i;have:d*c+b<ms.length:=by rw[l];exact jq g f
  rw[<-p];simp[List.getD,this]
 .have j:a*c+e≠d*c+b:=λo=>by
   obtain⟨m,n⟩:=zi k f o;exact i ⟨m.symm,n.symm⟩
  rw[show(ms.set (a*c+e) z).getD (d*c+b) 0=ms.getD (d*c+b) 0 from by simp[List.getD,mb j]];exact h d b g f (by omega)
theorem qn.row{r q c a e:Nat}{zs ys ms:List Int}(h:qn r q c a e zs ys ms)(j:c<=e):qn r q c (a+1) 0 zs ys ms:=λf b d g i=>h f b d g (by omega)
def nZ(r q c:Nat)(zs ys ms:List Int):Prop:=∀a b,a<r->b<c->ms.getD (a*c+b) 0=dot (λa b=>zs.getD (a*q+b) 0) (λa b=>ys.getD (a*c+b) 0) a b q
theorem I9{p g r c row:Nat}(f:i=r*c){zs:List Int}{L:Nat}{x:Value}{z:Int}{w:World}(o:w.cell? ⟨p,0,none⟩=some (.int .i64 r))(n:w.cell? ⟨p,1,none⟩=some (.int .i64 c))(q:w.cell? ⟨p,2,none⟩=some (.slice (some ⟨g,0,none⟩) i i))(d:iA w (.slice (some ⟨g,0,none⟩) i i) i zs L)(b:jE w x z L)(e:r<=99)(h:c<=99)(k:row<r)(l:j<c):Calls Tryz.prog 92 #[.pointer (some ⟨p,0,none⟩),.int .i64 row,.int .i64 j,x] w λm a=>m=.returned (.tuple #[])/\iA a (.slice (some ⟨g,0,none⟩) i i) i (zs.set (row*c+j) z) L/\w.grownBy a (some g)/\KU w a:=by
 subst f;exact B3 o n q d b e h k l
theorem rU{v u:Value}{r q c:Nat}{zs ys:List Int}{L:Nat}{w:World}(aq:i_ w v r q zs L)(an:i_ w u q c ys L)(aO:L<=200000000):Calls Tryz.prog 86 #[v,u] w λg aC=>∃b d,g=.returned (.agg #[.int .i64 r,.int .i64 c,.slice (some ⟨b,0,none⟩) (r*c) (r*c)])/\w.heap.size<=b/\iA aC (.slice (some ⟨b,0,none⟩) (r*c) (r*c)) (r*c) d (L+L+1+q)/\nZ r q c zs ys d/\Below w.heap.size w aC:=by
 have am:=a_ aq;have aE:=a_ an;obtain⟨aS,bc,a4,rfl,al⟩:=aq;obtain⟨F,K,rfl,-⟩:=al.shape;obtain⟨-,aX,a2,rfl,aj⟩:=an;obtain⟨N,M,rfl,-⟩:=aj.shape;clear al aj;obtain⟨I,aK⟩:=hQ (r*q);rw[<-aK]at am|-;obtain⟨J,aD⟩:=hQ (q*c);rw[<-aD]at aE|-;clear aK aD;obtain⟨a,aA⟩:=hQ (r*c);have E:=a_ aA;obtain⟨C,s⟩:=hQ (((w.alloc (.cells #[.int .i64 r,.int .i64 q,.slice F I K] 66)).alloc (.cells #[.int .i64 q,.int .i64 c,.slice N J M] 66)).alloc (.cells #[.int .i64 0,.int .i64 0,.slice none 0 0] 66));have P:C.heap.size=w.heap.size+3:=by rw[s];simp
 have aF:jk C w.heap.size (.int .i64 r) (.int .i64 q) (.slice F I K):=by
  rw[s];exact⟨iL (iL (fa _ _ _ _ _ (by simp) rfl) _) _,iL (iL (fa _ _ _ _ _ (by simp) rfl) _) _,iL (iL (fa _ _ _ _ _ (by simp) rfl) _) _⟩
 have au:jk C (w.heap.size+1) (.int .i64 q) (.int .i64 c) (.slice N J M):=by
  rw[s];exact⟨iL (fa _ _ _ _ _ (by simp) rfl) _,iL (fa _ _ _ _ _ (by simp) rfl) _,iL (fa _ _ _ _ _ (by simp) rfl) _⟩
 have aH:C.heap[w.heap.size+2]?=some (.cells #[.int .i64 0,.int .i64 0,.slice none 0 0] 66 (0,0)):=by
  rw[s];have:=iP ((w.alloc (.cells #[.int .i64 r,.int .i64 q,.slice F I K] 66)).alloc (.cells #[.int .i64 q,.int .i64 c,.slice N J M] 66)) (.cells #[.int .i64 0,.int .i64 0,.slice none 0 0] 66);simpa using this
 have af:Below w.heap.size w C:=by
  rw[s];repeat(first|exact hP|refine ia ?_ (by simp<;>omega) _)
 have y:=ju aF au aH af P s;clear aF au aH af P s aA;go_in;go_wp2_with fail;rw[<-y.z];go_fit (kh aS aX);rintro g m⟨b,rfl,a3,G,O⟩;rw[<-E.e]at G|-;have P:=y.r;have ao:Below w.heap.size w m:=y.m.trans (O.mono (by omega));have a1:b<m.heap.size:=G.ty.lt;have bb:=O.size;have B:=hO G O ao;clear G O ao;go_wp2_with fail;obtain⟨h,D⟩:=hQ (m.alloc (.cells #[.int .i64 r,.int .i64 c,.slice (some ⟨b,0,none⟩) a a] 66));rw[<-D];have A:Below m.heap.size m h:=by rw[D];exact hS
 have aG:jk h w.heap.size (.int .i64 r) (.int .i64 q) (.slice F I K):=(y.f.later B.g).later A;have az:jk h (w.heap.size+1) (.int .i64 q) (.int .i64 c) (.slice N J M):=(y.g.later B.g).later A;have aw:jk h m.heap.size (.int .i64 r) (.int .i64 c) (.slice (some ⟨b,0,none⟩) a a):=by
  rw[D];exact⟨fa _ _ _ _ _ rfl rfl,fa _ _ _ _ _ rfl rfl,fa _ _ _ _ _ rfl rfl⟩
 have e:h.heap[w.heap.size+2]?=some (.cells #[.int .i64 0,.int .i64 0,.slice none 0 0] 66 (0,0)):=by
  rw[A.block _ (by omega),B.g.block _ (by omega)];exact y.j
 have ai:iA h (.slice (some ⟨b,0,none⟩) a a) a (List.replicate a 0) (L+L+1+q):=(B.f.mono hR).below A;have aN:h.heap.size=m.heap.size+1:=by rw[D];simp
 have ay:Below w.heap.size w h:=B.l.trans (A.mono (by omega));have j:=kM aG az aw e ai aN ay;clear aG az aw e ai ay D A;go_loopw [6] (λf wr=>∃(l:Nat) (d:List Int),l<=r/\f=.int .i64 l/\iA wr (.slice (some ⟨b,0,none⟩) a a) a d (L+L+1+q)/\h.grownBy wr (some b)/\Below w.heap.size w wr/\f_ (qn r q c l 0 zs ys d)) (λf _=>r-(intOf f).toNat)
 case atStart=>exact⟨0,_,hR,rfl,j.r,jM _ _,j.C,a_ (λf R _ _ a5=>by omega)⟩
 case round=>
  obtain⟨l,d,a0,rfl,p,k,z,aJ⟩:=hrel;obtain⟨S,Q,U⟩:=j.f.grown k (by omega);have t:=hO p k z;clear p k z;by_cases ar:l<r
  .have ba:(l:Int)<(r:Int):=by omega
   go_wp2_with fail;go_loopw [7] (λf x=>∃(g:Nat) (d:List Int),g<=c/\f=.int .i64 g/\iA x (.slice (some ⟨b,0,none⟩) a a) a d (L+L+1+q)/\h.grownBy x (some b)/\Below w.heap.size w x/\f_ (qn r q c l g zs ys d)) (λf _=>c-(intOf f).toNat)
   case atStart=>exact⟨0,d,hR,rfl,t.f,t.g,t.l,aJ⟩
   case round=>
    rename World=>x;clear S Q U;obtain⟨g,d,a9,rfl,p,k,z,ah⟩:=hrel;obtain⟨S,Q,U⟩:=j.f.grown k (by omega);obtain⟨aT,aM,aQ⟩:=j.g.grown k (by omega);have aL:=z.size;have i:=hO p k z;clear p k z;by_cases aB:g<c
    .have a6:(g:Int)<(c:Int):=by omega
     go_wp2_with fail;go_fit (EZ (am.e.below i.l) (aE.e.below i.l) ar aB aO);rintro aV ag⟨a8,rfl,ae,W⟩;obtain⟨ap,ax,ak,aI,rfl⟩:=ae.shape;have aU:=W.size;have aa:=hU ag (.cells #[.bool ap,.slice ax ak aI] 79);have H:Below x.heap.size x (ag.alloc (.cells #[.bool ap,.slice ax ak aI] 79)):=W.trans (aa.mono aU);have ab:=ib i.g H;obtain⟨ac,ad,Y⟩:=j.j.grown ab (by omega);have n:=iu (lL ac ad Y) (i.f.below H) (ae.below aa) ab (i.l.trans (H.mono aL));clear ae W aa H ab S Q U aT aM aQ;go_wp2_with fail;go_fit (I9 E.e n.f.1 n.f.2.1 n.f.2.2 n.g n.j (by omega) (by omega) (by omega) (by omega));rintro aV bd⟨rfl,av,T,-⟩;have X:=hO av (hZ n.m T) (n.x.grown T (by simp;omega) (λR Z=>by simp at Z;omega));clear av T ac ad Y;go_wp2;go_roundw
     .refine⟨g+1,_,by omega,by go_num,X.f,X.g,X.l,a_ (ah.e.step ?_ ar aB rfl)⟩;rw[<-E.e];exact i.f.1
     simp[intOf];omega
    .go_wp2;go_roundw;exact⟨l+1,d,by omega,by go_num,i.f,i.g,i.l,a_ (ah.e.row (by omega))⟩;simp[intOf];omega
  .obtain⟨ac,ad,Y⟩:=j.j.grown t.g (by omega);have e:wr.heap[w.heap.size+2]?=some (.cells #[.int .i64 0,.int .i64 0,.slice none 0 0] 66 (0,0)):=by
    rw[t.g.block _ (by have:=j.y;omega) (by simp;omega)];exact j.m
   have aY:wr.cell? ⟨w.heap.size+1+1,0,none⟩=some (.int .i64 0):=by simp[World.cell?,e]
   have aP:wr.cell? ⟨w.heap.size+1+1,1,none⟩=some (.int .i64 0):=by simp[World.cell?,e]
   have aR:wr.cell? ⟨w.heap.size+1+1,2,none⟩=some (.slice none 0 0):=by simp[World.cell?,e]
   have a7:wr.frozen? ⟨w.heap.size+1+1,0,none⟩=false:=by simp[World.frozen?,e]
   have aZ:wr.frozen? ⟨w.heap.size+1+1,1,none⟩=false:=by simp[World.frozen?,e]
   have be:wr.frozen? ⟨w.heap.size+1+1,2,none⟩=false:=by simp[World.frozen?,e]
   have V:f_ (Ty wr (w.heap.size+1+1) 66):=a_ ⟨_,_,e⟩;clear e;go_wp2_with fail;refine ig (v:=.agg #[.int .i64 r,.int .i64 c,.slice (some ⟨b,0,none⟩) a a]) ?_ rfl ?_
   ·(simp[results,Tryz.results86,go_sem,aY,aP,aR];done)
   .refine⟨b,d,by rw[<-E.e],by omega,?_,λf R aW Z=>aJ.e f R aW Z (.inl (by omega)),((t.l.setCell (by simp;omega) _).setCell (by simp;omega) _).setCell (by simp;omega) _⟩;have p:=t.f.hV (KT.setCell (KT.setCell (KT.setCell (KT.refl _) V.e (by decide) (by decide) (.int .i64 r)) (V.e.setCell ⟨w.heap.size+1+1,0,none⟩ (.int .i64 r)) (by decide) (by decide) (.int .i64 c)) ((V.e.setCell ⟨w.heap.size+1+1,0,none⟩ (.int .i64 r)).setCell ⟨w.heap.size+1+1,1,none⟩ (.int .i64 c)) (by decide) (by decide) (.slice (some ⟨b,0,none⟩) a a) (o:=2));rw[<-E.e];exact p
theorem mn{v u:Value}{r q c:Nat}{zs ys:List Int}{L:Nat}{w:World}(f:i_ w v r q zs L)(d:i_ w u q c ys L)(h:L<=200000000):Calls Tryz.prog 86 #[v,u] w λe b=>∃g,e=.returned g/\(∃a,i_ b g r c a (L+L+1+q)/\nZ r q c zs ys a)/\Below w.heap.size w b:=by
 go_fit (rU f d h);rintro e b⟨l,a,rfl,-,j,i,k⟩;exact⟨_,rfl,⟨a,⟨f.1,d.2.1,_,rfl,j⟩,i⟩,k⟩
end Go.Proofs.YtfjbijpagaipnabGreatDoor
