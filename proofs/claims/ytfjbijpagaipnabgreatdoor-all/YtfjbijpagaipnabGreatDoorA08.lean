import Derived.Test.YtfjbijpagaipnabGreatDoorA07
set_option maxRecDepth 100000
set_option maxHeartbeats 8000000
namespace Go.Proofs.YtfjbijpagaipnabGreatDoor
open Go.RowKit
variable{i j k l m n p q r s:Nat}{w v W:World}{x y z:Value}{A B F G:Nat->Nat->Int}{e f g:List Int}{u:Bool}{O:Option Addr}
theorem tU{x y:Int}(c:(x<0/\y<0)\/(¬x<0/\¬y<0)):x.fdiv y=((x.natAbs/y.natAbs:Nat):Int):=by
 rcases c with⟨d,e⟩|⟨d,e⟩
 .obtain⟨b,rfl⟩:∃b:Nat,x=-(b:Int):=⟨x.natAbs,by omega⟩;obtain⟨a,rfl⟩:∃a:Nat,y=-(a:Int):=⟨y.natAbs,by omega⟩;rw[Int.neg_fdiv_neg,x8,x8,nc,nc,yp _ (by omega),Int.natCast_ediv]
 .obtain⟨b,rfl⟩:=nV (show 0<=x by omega);obtain⟨a,rfl⟩:=nV (show 0<=y by omega);rw[nc,nc,yp _ (by omega),Int.natCast_ediv]
theorem z1{x y:Int}(k:y≠0)(h:(x<0/\¬y<0)\/(¬x<0/\y<0)):x.fdiv y=-((x.natAbs/y.natAbs+(if x.natAbs%y.natAbs=0 then 0 else 1):Nat):Int):=by
 have e:∀b a:Nat,0<a->(-(b:Int)).fdiv (a:Int)=-((b/a+(if b%a=0 then 0 else 1):Nat):Int):=by
  intro b a j;rw[yp _ (by omega)];have c:=kY b a;have f:=mQ b j;have g:(b:Int)=(a:Int)*((b/a:Nat):Int)+((b%a:Nat):Int):=by exact_mod_cast c.symm
  split
  .rename_i d;refine Int.ediv_eq_of_eq_mul_left (by omega) ?_;rw[d]at g;grind
  .rename_i d;have i:-(b:Int)=((a:Int)-((b%a:Nat):Int))+(a:Int)*(-((b/a+1:Nat):Int)):=by
    rw[g];push_cast;grind
   rw[i,Int.add_mul_ediv_left _ _ (by omega),Int.ediv_eq_zero_of_lt (by omega) (by omega)];omega
 rcases h with⟨c,f⟩|⟨c,f⟩
 .obtain⟨b,rfl⟩:∃b:Nat,x=-(b:Int):=⟨x.natAbs,by omega⟩;obtain⟨a,rfl⟩:=nV (show 0<=y by omega);rw[x8,nc,nc];exact e b a (by omega)
 .obtain⟨b,rfl⟩:=nV (show 0<=x by omega);obtain⟨a,rfl⟩:∃a:Nat,y=-(a:Int):=⟨y.natAbs,by omega⟩;rw[x8,nc,nc,<-Int.neg_fdiv_neg,Int.neg_neg];exact e b a (by omega)
theorem DY{v u:Value}{x:Int}{L M:Nat}{w:World}(k:jE w v x L)(o:jE w u 0 M):Calls Tryz.prog 135 #[v,u] w λa e=>∃c,a=.returned c/\jD w e c 0 0:=by
 obtain⟨s,q,rfl,n,i,l,b⟩:=k;obtain⟨t,h,rfl,g,d,m,f⟩:=o;obtain⟨p,z,rfl,-⟩:=b.open_;obtain⟨y,r,rfl,-⟩:=f.open_;have j:h.length=0:=(k5 g d).2 rfl;rw[j];clear n i l b g d m f;go_in;go_wp2_with (go_at_call 68;refine(k0).mono ?_;rintro a e⟨rfl,rfl⟩);refine ig (v:=.agg #[.bool false,.slice none 0 0]) ?_ rfl ?_
 ·(simp[results,Tryz.results135,go_sem];done)
 .refine⟨_,rfl,jE.zero _ _,?_⟩;repeat(first|exact hP|refine ia ?_ (by simp<;>omega) _)
theorem DV{q:Option Addr}{xs ys:List Nat}{w:World}(m:Own w (.slice O xs.length i) xs)(k:Own w (.slice q ys.length j) ys)(z:l9 xs)(C:l9 ys)(y:xs.length<=400000000)(A:ys.length<=400000000)(F:0<ys.length):Calls Tryz.prog 135 #[.agg #[.bool u,.slice O xs.length i],.agg #[.bool u,.slice q ys.length j]] w λe o=>∃c r b,e=.returned (.agg #[.bool false,.slice c r b])/\kP w o (.slice c r b) (val xs/val ys) xs.length:=by
 have B:=a_ m;have D:=a_ k;have s:((ys.length:Int)==0)=false:=iK.2 (by omega);clear m k;go_in;go_wp2_with (go_at_call 68;refine(k0).mono ?_;rintro e o⟨rfl,rfl⟩;rw[s]);go_fit (nT (B.e.below ?_) (D.e.below ?_) z C y A)
 .repeat(first|exact hP|refine ia ?_ (by simp<;>omega) _)
 .repeat(first|exact hP|refine ia ?_ (by simp<;>omega) _)
 rintro e l⟨J,G,rfl,h,g⟩;obtain⟨c,b,n,rfl,d,a⟩:=h.shape;obtain⟨K,E,H,rfl,I,-⟩:=g.shape;obtain⟨t,L⟩:=oG a;have f:Ty l (w.heap.size+2) 79:=Ty.below (Ty.alloc (Ty.at_ _ _ _ (by simp)) _) a (by simp);have M:w.heap.size+2<l.heap.size:=f.lt;have p:=a_ f;have x:=a_ a;clear f g h a;go_wp2_with fail;refine ig (v:=.agg #[.bool false,.slice c n.length b]) ?_ rfl ?_
 ·(simp[results,Tryz.results135,go_sem,t];done)
 .refine⟨_,_,_,rfl,⟨n,d.f,d.g,d.j,d.o.hV (KU.setCell (KU.setCell (KU.refl _) p.e (by decide) _) (p.e.setCell _ _) (by decide) _)⟩,?_⟩;refine Below.trans ?_ ((hP.setCell (by simp<;>omega) _).setCell (by simp<;>omega) _);refine Below.trans ?_ (x.e.mono (by simp<;>omega));repeat(first|exact hP|refine iV ?_|refine ia ?_ (by simp<;>omega) _)
theorem HW(w:World):Own (w.alloc (.cells #[.int .u32 1] 144)) (.slice (some ⟨w.heap.size,0,none⟩) 1 1) [1]:=by
 have:=uS (base:=0) (e:=144) (size:=1) w #[.int .u32 1] 1 hR (by simp[maxLen]) rfl;simpa[Own,il]using this
theorem GJ{T:Option Addr}{xs ys:List Nat}{w:World}(q:Own w (.slice O xs.length i) xs)(D:Own w (.slice T ys.length j) ys)(ad:l9 xs)(ah:l9 ys)(ac:xs.length<=400000000)(af:ys.length<=400000000)(ao:0<ys.length){E:Nat}(Q:f_ (E=val xs/val ys+(if val xs%val ys=0 then 0 else 1))):Calls Tryz.prog 135 #[.agg #[.bool u,.slice O xs.length i],.agg #[.bool (!u),.slice T ys.length j]] w λh R=>∃p z o,h=.returned (.agg #[.bool (decide (0<z)),.slice p z o])/\kP w R (.slice p z o) E (xs.length+1):=by
 have ag:=a_ q;have ae:=a_ D;have aa:((ys.length:Int)==0)=false:=iK.2 (by omega);clear q D
 cases u;all_goals
  try simp only[Bool.not_true]
  try simp only[Bool.not_false]
  go_in;go_wp2_with (go_at_call 68;refine(k0).mono ?_;rintro h R⟨rfl,rfl⟩;rw[aa]);go_fit (nT (ag.e.below ?_) (ae.e.below ?_) ad ah ac af)
  .repeat(first|exact hP|refine ia ?_ (by simp<;>omega) _)
  .repeat(first|exact hP|refine ia ?_ (by simp<;>omega) _)
  rintro h c⟨av,ap,rfl,C,A⟩;obtain⟨p,o,y,rfl,a,d⟩:=C.shape;obtain⟨aw,am,l,rfl,m,-⟩:=A.shape;obtain⟨J,ai⟩:=oG d;have s:Ty c (w.heap.size+2) 79:=Ty.below (Ty.alloc (Ty.at_ _ _ _ (by simp)) _) d (by simp);have aA:w.heap.size+2<c.heap.size:=s.lt;have H:Below w.heap.size w c:=Below.trans (by repeat(first|exact hP|refine ia ?_ (by simp<;>omega) _)) (d.mono (by simp<;>omega));have L:iw c (w.heap.size+1+1) (.bool false) (.slice none 0 0):=((iw.new _ _ _ (by simp)).below hS (by simp)).below d (by simp);have ab:=a_ L;clear L;have S:=a_ s;have K:=a_ H;have M:l.length=0↔val xs%val ys=0:=by rw[<-m.g,kS m.f,qG]
  have G:=a_ M;clear s A C d H M;by_cases b:l.length=0
  .have t:=a_ b;have N:decide (0<l.length)=false:=by simp[b]
   rw[b];rw[b]at m;clear b N;go_wp2_with fail;refine ig (v:=.agg #[.bool (decide (0<y.length)),.slice p y.length o]) ?_ rfl ?_
   ·(simp[results,Tryz.results135,go_sem,J];done)
   .have ak:=G.e.1 t.e;have g:=Q.e;rw[ak,if_pos rfl,nt]at g;rw[g];refine⟨_,_,_,rfl,⟨y,a.f,a.g,by have:=a.j;omega,a.o.hV (KU.setCell (KU.setCell (KU.refl _) S.e (by decide) _) (S.e.setCell _ _) (by decide) _)⟩,?_⟩;exact K.e.trans ((hP.setCell (by simp<;>omega) _).setCell (by simp<;>omega) _)
  .have t:=a_ b;have N:0<l.length:=by omega
   clear b;go_wp2_with fail;have x:=hU c (.cells #[.int .u32 1] 144);go_fit (qw (a.o.below x) (HW c) a.f.1 (by intro aC q;simp at q;omega) (by have:=a.j;omega) (by simp));rintro h aj⟨ax,rfl,B⟩;obtain⟨F,I,e,rfl,f,U⟩:=B.shape;have n:=d_ x U;have al:=n.size;have P:=d_ K.e n;have r:iw aj (w.heap.size+1+1) (.bool false) (.slice none 0 0):=ab.e.below n (by omega);obtain⟨ar,aB,an,ay⟩:=r.cells;have k:=b_ r P;clear B x U n r J ai P;go_wp2_with fail;obtain⟨X,Z,-,-⟩:=(k.f.put (.bool (decide (0<e.length))) (.slice F e.length I)).cells;refine ig (v:=.agg #[.bool (decide (0<e.length)),.slice F e.length I]) ?_ rfl ?_
   ·(simp[results,Tryz.results135,go_sem,X,Z];done)
   .have g:=Q.e;rw[if_neg (λV=>t.e (G.e.2 V))]at g;have Y:=f.g;have W:=f.j;have au:=a.g;have aq:=a.j;have az:xs.length≠0:=by have:=m.j;omega
    simp[val]at Y W;refine⟨_,_,_,rfl,⟨e,f.f,by omega,by omega,f.o.hV (KU.setCell (KU.setCell (KU.refl _) k.f.ty (by decide) _) (k.f.ty.setCell _ _) (by decide) _)⟩,?_⟩;exact(k.i.setCell (by simp;omega) _).setCell (by simp;omega) _
theorem nQ{v u:Value}{x y:Int}{L M:Nat}{w:World}(o:jE w v x L)(p:jE w u y M)(R:L<=400000000)(E:M<=400000000):Calls Tryz.prog 135 #[v,u] w λb f=>∃e,b=.returned e/\jD w f e (x.fdiv y) (L+1):=by
 by_cases l:y=0
 .subst l;go_fit (DY o p);rintro b f⟨e,rfl,h,c⟩;exact⟨e,rfl,by rw[Int.fdiv_zero];exact h.mono hR,c⟩
 .obtain⟨Q,J,rfl,c,m,U,g⟩:=o;obtain⟨S,s,rfl,k,i,V,j⟩:=p;obtain⟨G,O,rfl,-⟩:=g.open_;obtain⟨W,K,rfl,-⟩:=j.open_;have n:0<s.length:=by have:=k5 k i;omega
  by_cases t:(x<0↔y<0)
  .rw[show decide (y<0)=decide (x<0)from by simp only[t]];go_fit (DV g j c k (by omega) (by omega) n);rintro b f⟨B,q,A,rfl,a⟩;have d:=tU (x:=x) (y:=y) (by omega);rw[m,i]at a;generalize x.natAbs/y.natAbs=z at*;exact⟨_,rfl,jD.vz a (by rw[d];simp) (by rw[d];simp) (by omega)⟩
  .rw[show decide (y<0)=!decide (x<0)from by
    by_cases h:x<0<;>by_cases c:y<0<;>simp[h,c]<;>omega]
   go_fit (GJ g j c k (by omega) (by omega) n (a_ rfl));rintro b f⟨B,q,A,rfl,a⟩;have d:=z1 (x:=x) (y:=y) l (by omega);rw[m,i]at a;generalize x.natAbs/y.natAbs+(if x.natAbs%y.natAbs=0 then 0 else 1)=z at*;have H:q=0↔x.fdiv y=0:=by
    obtain⟨⟨T,D,C,F,b⟩,N⟩:=a;obtain⟨P,I,r,-⟩:=b.open_;simp only[iC]at r;rw[r.2.1,qG,<-kS D,C,d];omega
   exact⟨_,rfl,jD.vz a (by rw[d];simp) (by rw[pA];omega) (by omega)⟩
theorem uj{v:Value}{z:Int}{L:Nat}{w:World}(h:jE w v z L):Calls Tryz.prog 96 #[v] w λf c=>f=.returned (.bool (decide (z<0)))/\Below w.heap.size w c:=by
 obtain⟨i,l,rfl,e,g,d,a⟩:=h;obtain⟨j,m,rfl,-⟩:=a.open_;clear e g d a;obtain⟨k,b⟩:=hQ (decide (z<0));rw[<-b];clear b;go_in;go_wp2;go_ret;exact⟨rfl,hS⟩
theorem oX{v u:Value}{x y:Int}{L M:Nat}{w:World}(p:jE w v x L)(t:jE w u y M):Calls Tryz.prog 132 #[v,u] w λd q=>d=.returned (.bool (decide (x.natAbs<y.natAbs)))/\Below w.heap.size w q:=by
 obtain⟨F,n,rfl,j,e,r,a⟩:=p;obtain⟨H,m,rfl,i,g,s,c⟩:=t;obtain⟨C,E,rfl,-⟩:=a.open_;obtain⟨J,D,rfl,-⟩:=c.open_;obtain⟨B,l⟩:=hQ (decide (x<0));obtain⟨I,f⟩:=hQ (decide (y<0));rw[<-l,<-f,<-e,<-g];have h:=b_ j a;have k:=b_ i c;obtain⟨A,b⟩:=hQ (decide (val n<val m));rw[<-b];have o:=a_ b;clear j e r a i g s c l f b;go_in;go_wp2_with fail;go_fit (lT (h.i.below ?_) (k.i.below ?_) h.f k.f)
 .repeat(first|exact hP|refine iV ?_|refine ia ?_ (by simp<;>omega) _)
 .repeat(first|exact hP|refine iV ?_|refine ia ?_ (by simp<;>omega) _)
 rintro d z⟨rfl,G,rfl⟩;rw[<-o.e];go_wp2;go_ret;refine⟨rfl,im ?_ _⟩;repeat(first|exact hP|refine iV ?_|refine ia ?_ (by simp<;>omega) _)
theorem w8{v u:Value}{xs ys:List Nat}{w:World}(s:Own w v xs)(A:Own w u ys):Calls Tryz.prog 187 #[v,u] w λb G=>b=.returned (.bool (decide (xs=ys)))/\∃f,G=w.drewN f:=by
 obtain⟨J,O,rfl,N,R,q,I,_⟩:=s.open_;obtain⟨T,M,rfl,P,K,x,C,_⟩:=A.open_;clear s A I C;obtain⟨o,i⟩:=hQ (decide (xs=ys));rw[<-i];have j:=a_ i;clear i;by_cases d:xs.length=ys.length
 .have e:=a_ d;have B:((xs.length:Int)!=(ys.length:Int))=false:=by simp[d]
  clear d;go_in;go_wp2;go_loopw [5] (λk wr=>∃a:Nat,a<=xs.length/\k=.int .i64 a/\(∃f,wr=w.drewN f)/\f_ (xs.take a=ys.take a)) (λk _=>xs.length-(intOf k).toNat)
  case atStart=>exact⟨0,hR,rfl,⟨0,rfl⟩,a_ (by simp)⟩
  case round=>
   obtain⟨a,Q,rfl,⟨f,rfl⟩,r⟩:=hrel;by_cases y:a<xs.length
   .obtain⟨L,rfl,F⟩:=q a y;have z:a<ys.length:=by have:=e.e;omega
    obtain⟨S,rfl,D⟩:=x a z;obtain⟨g,m⟩:=hQ (xs.getD a 0);obtain⟨n,h⟩:=hQ (ys.getD a 0);rw[<-m]at F;rw[<-h]at D;have p:=a_ m;have t:=a_ h;clear m h q x;by_cases c:g=n
    .have H:((g:Int)!=(n:Int))=false:=by simp[c]
     have l:=a_ c;clear c;go_wp2;go_quiet (fail);go_wp2;go_roundw
     case rel=>
      refine⟨a+1,by omega,by go_num,⟨_,rfl⟩,a_ ?_⟩;rw[kW xs a y,kW ys a z,<-p.e,<-t.e,l.e,r.e]
     case measure=>simp[intOf];omega
    .have H:((g:Int)!=(n:Int))=true:=by simp;omega
     have l:=a_ c;clear c;go_wp2;go_quiet (fail);go_wp2;go_ret;refine⟨?_,_,by rw[World.drewN_drewN]⟩;have:o=false:=by
      rw[j.e];refine ic λb=>l.e ?_;rw[p.e,t.e,b]
     rw[this];rfl
   .have E:xs.length<=a:=by omega
    go_wp2;go_ret;refine⟨?_,_,rfl⟩;have:o=true:=by
     rw[j.e];refine jm ?_;have:=r.e;rwa[ka E,ka (by have:=e.e;omega)]at this
    rw[this];rfl
 .have B:((xs.length:Int)!=(ys.length:Int))=true:=by simp;omega
  have e:=a_ d;clear d;go_in;go_wp2;go_ret;have:o=false:=by
   rw[j.e];exact ic λb=>e.e (by rw[b])
  exact⟨by rw[this];rfl,0,rfl⟩
theorem val_inj{xs ys:List Nat}(b:l9 xs)(c:l9 ys)(h:val xs=val ys):xs=ys:=by
 have e:xs.length=ys.length:=by
  rcases mY xs.length ys.length with a|a|a
  .have:=jH b.1 c a;omega
  .exact a
  .have:=jH c.1 b a;omega
 have i:=b.1;have l:=c.1;clear b c;induction xs generalizing ys with
 |nil=>cases ys with
  |nil=>rfl
  |cons d k=>simp at e
 |cons j o n=>cases ys with
  |nil=>simp at e
  |cons d k=>
   rw[iN,iN]at h;have a:=i j (by simp);have q:=l d (by simp);have p:j=d:=by omega
   have m:val o=val k:=by omega
   rw[p,n m (by simpa using e) (λf g=>i f (by simp[g])) (λf g=>l f (by simp[g]))]
theorem wF{v u:Value}{x y:Int}{L M:Nat}{w:World}(z:jE w v x L)(C:jE w u y M):Calls Tryz.prog 128 #[v,u] w λi B=>i=.returned (.bool (decide (x=y)))/\Below w.heap.size w B:=by
 obtain⟨I,r,rfl,c,j,m,d⟩:=z;obtain⟨K,q,rfl,h,l,n,f⟩:=C;obtain⟨F,H,rfl,-⟩:=d.open_;obtain⟨N,G,rfl,-⟩:=f.open_;have A:=a_ d;have D:=a_ f;obtain⟨p,b⟩:=hQ (decide (x=y));rw[<-b];by_cases e:(x<0↔y<0)
 .rw[show decide (y<0)=decide (x<0)from by simp only[e]];have o:p=decide (r=q):=by
   rw[b,decide_eq_decide];constructor
   .rintro rfl;exact val_inj c h (by omega)
   .rintro rfl;omega
  have s:=a_ o;obtain⟨g,a⟩:=hQ (decide (x<0));rw[<-a];clear c j m d h l n f a b o e;go_in;go_wp2_with fail;go_fit (w8 (A.e.below ?_) (D.e.below ?_))
  .repeat(first|exact hP|refine iV ?_|refine ia ?_ (by simp<;>omega) _)
  .repeat(first|exact hP|refine iV ?_|refine ia ?_ (by simp<;>omega) _)
  rintro i E⟨rfl,J,rfl⟩;rw[<-s.e];go_wp2;go_ret;refine⟨rfl,im ?_ _⟩;repeat(first|exact hP|refine iV ?_|refine ia ?_ (by simp<;>omega) _)
 .have k:p=false:=by rw[b];exact ic (by rintro rfl;exact e Iff.rfl)
  rw[k];obtain⟨g,a⟩:=hQ (decide (x<0));rw[show decide (y<0)=!g from by
   rw[a];by_cases t:x<0<;>by_cases c:y<0<;>simp[t,c]<;>omega,<-a]
  clear c j m d h l n f a b k e
  cases g;all_goals
   try simp only[Bool.not_true]
   try simp only[Bool.not_false]
   go_in;go_wp2;go_ret;refine⟨rfl,?_⟩;repeat(first|exact hP|refine iV ?_|refine ia ?_ (by simp<;>omega) _)
theorem vB{v u:Value}{x y:Int}{L M:Nat}{w:World}(J:jE w v x L)(R:jE w u y M)(aa:L<=400000000)(U:M<=400000000):Calls Tryz.prog 144 #[v,u] w λi K=>i=.returned (.bool (decide (y∣x)))/\Below w.heap.size w K:=by
 obtain⟨Z,b,rfl,t,l,N,d⟩:=J;obtain⟨ae,a,rfl,s,q,O,e⟩:=R;obtain⟨C,G,rfl,-⟩:=d.open_;obtain⟨S,D,rfl,-⟩:=e.open_;have r:=b_ t d;have z:=b_ s e;obtain⟨Q,c⟩:=hQ (decide (y∣x));rw[<-c];have n:∀g:Nat,(g=0↔val b%val a=0)->((g:Int)==0)=Q:=by
  intro g W;rw[c,r4,jY,pA,<-Dj,<-l,<-q,Nat.dvd_iff_mod_eq_zero];omega
 have E:=a_ n;have P:b.length<=400000000:=by omega
 have I:a.length<=400000000:=by omega
 obtain⟨B,A⟩:=hQ (decide (x<0));obtain⟨T,o⟩:=hQ (decide (y<0));rw[<-A,<-o];clear t l N d s q O e A o c n;go_in;go_wp2_with fail;have m:Below w.heap.size w ((w.alloc (.cells #[.bool B,.slice C b.length G] 79)).alloc (.cells #[.bool T,.slice S a.length D] 79)):=by
  repeat(first|exact hP|refine iV ?_|refine ia ?_ (by simp<;>omega) _)
 have f:=a_ m;clear m;go_fit (nT (r.i.below f.e) (z.i.below f.e) r.f z.f P I);rintro i Y⟨ab,X,rfl,j,h⟩;obtain⟨af,ad,ag,rfl,ai,k⟩:=j.shape;obtain⟨ac,V,H,rfl,p,-⟩:=h.shape;have F:=a_ (d_ f.e k);have ah:=E.e H.length (by rw[<-p.g,kS p.f,qG]);clear j h k;go_wp2;go_ret;exact⟨rfl,F.e⟩
def Has(z:Int)(L:Nat):Prop:=∃a b,jE a b z L
theorem Has.mE{z:Int}{L M:Nat}{w:World}{v:Value}(h:Has z L)(c:jE w v z M):jE w v z L:=by
 obtain⟨l,n,p,k,-,d,o,e,-⟩:=h;obtain⟨i,g,f,a,j,m,b⟩:=c;exact⟨i,g,f,a,j,iy (pF d a (by omega)) e,b⟩
theorem iA.has{w:World}{n L:Nat}{zs:List Int}(h:iA w x n zs L)(i:Nat)(c:i<n):Has (zs.getD i 0) L:=by
 obtain⟨f,j,g,b⟩:=h;obtain⟨k,d,l,e,a⟩:=b i c;exact⟨w,_,a⟩
theorem iT.has{w:World}{p o g r c L:Nat}{zs:List Int}(h:iT w p o g r c zs L){i j:Nat}(a:i<r)(b:j<c):Has (e_ c zs i j) L:=h.kA.has _ (jq a b)
def px(W:World)(z:Int)(L:Nat)(p:Value)(b:World):Prop:=∃(a:Nat) (f:Bool) (d:Option Addr) (e c:Nat),p=.pointer (some ⟨a,0,none⟩)/\W.heap.size<=a/\iw b a (.bool f) (.slice d e c)/\jE b (.agg #[.bool f,.slice d e c]) z L/\Below W.heap.size W b
theorem iw.jg(w:World):iw (w.alloc (.cells #[.bool false,.slice none 0 0] 79)) w.heap.size (.bool false) (.slice none 0 0):=iw.new w _ _ rfl
theorem nE{v u:Value}{x y:Int}{L M:Nat}{w:World}(m:jE w v x L)(s:jE w u y M)(U:L<=1000000000)(I:M<=1000000000):Calls Tryz.prog 145 #[v,u] w λg Y=>∃A,g=.returned A/\jD w Y A (x-y) (max L M+1):=by
 obtain⟨B,t,E,H,rfl⟩:=m.shape;obtain⟨W,aa,ab,P,rfl⟩:=s.shape;have D:=b_ m s;clear m s;go_in;go_wp2_with fail;obtain⟨a,b⟩:=hQ (((w.alloc (.cells #[.bool B,.slice t E H] 79)).alloc (.cells #[.bool W,.slice aa ab P] 79)).alloc (.cells #[.bool false,.slice none 0 0] 79));have ac:a.heap.size=w.heap.size+3:=by rw[b];simp
 have z:Below w.heap.size w a:=by rw[b];repeat(first|exact hP|refine ia ?_ (by simp<;>omega) _)
 have G:iw a w.heap.size (.bool B) (.slice t E H):=by
  rw[b];exact((iw.new w _ _ rfl).below hS (by simp)).below hS (by simp;omega)
 have C:iw a (w.heap.size+1+1) (.bool false) (.slice none 0 0):=by rw[b];exact iw.new _ _ _ (by simp)
 rw[<-b];have c:=hO G C z;clear G C z b;go_fit (nA (D.i.below c.l));rintro g S⟨ad,rfl,p,q⟩;obtain⟨T,X,N,V,rfl⟩:=p.shape;have r:=hU S (.cells #[.bool T,.slice X N V] 79);have R:=q.size;have l:=q.trans (r.mono R);obtain⟨J,O,-,-⟩:=(c.f.below l (by omega)).cells;have o:=b_ l (p.below r);clear p q r l;go_wp2_with fail;go_fit (ny ((D.f.below c.l).below o.f) o.i U I);rintro g Z⟨ai,rfl,f,F⟩;obtain⟨h,e,k,i,rfl⟩:=f.shape;have n:Below a.heap.size a Z:=d_ o.f F;have j:=c.g.below n (by omega);obtain⟨ae,af,ag,ah⟩:=j.cells;have d:=hO f j (c.l.trans (n.mono (by omega)));clear f F n j J O;go_wp2_with fail;obtain⟨K,Q,-,-⟩:=(d.g.put (.bool h) (.slice e k i)).cells;refine ig (v:=.agg #[.bool h,.slice e k i]) ?_ rfl ?_
 ·(simp[results,Tryz.results145,go_sem,K,Q];done)
 .refine⟨_,rfl,?_,(d.l.setCell (by simp;omega) _).setCell (by simp;omega) _⟩;have:=d.f.s_ d.g (.bool h) (.slice e k i);rwa[<-Int.sub_eq_add_neg]at this
theorem lK{p o g r c a b:Nat}{zs:List Int}{L M:Nat}{x:Value}{z:Int}{w:World}(J:iT w p o g r c zs L)(ar:jE w x z M)(a5:L<=200000000)(bh:M<=200000000)(aZ:p≠g)(W:a<r)(u:b<r)(bi:a≠b):Calls Tryz.prog 108 #[.pointer (some ⟨p,o,none⟩),.int .i64 a,.int .i64 b,x] w λd e=>d=.returned (.tuple #[])/\xD w e p o g r c (λk i=>if k=a then e_ c zs a i-e_ c zs b i*z else e_ c zs k i) (L+M+1):=by
 have K:=hO (J.mono (show L<=L+M+1 by omega)) J ar;have bd:=J.hr;have bj:=J.hc;obtain⟨Q,S,I,R,rfl⟩:=ar.shape;obtain⟨af,aq⟩:∃af:Nat->Nat->Int,af=λk i=>if k=a then e_ c zs a i-e_ c zs b i*z else e_ c zs k i:=⟨_,rfl⟩
 rw[<-aq];have aM:=a_ aq;clear J aq ar;go_in;go_wp2_with fail;obtain⟨E,H⟩:=hQ (w.alloc (.cells #[.bool Q,.slice S I R] 79));have ae:Below w.heap.size w E:=by rw[H];exact hS
 have aw:iw E w.heap.size (.bool Q) (.slice S I R):=by rw[H];exact iw.new w _ _ rfl
 have a6:E.heap.size=w.heap.size+1:=by rw[H];simp
 have a7:g<w.heap.size:=K.f.Be;rw[<-H];have X:=hO ae aw (K.l.below ae);clear H ae aw;go_loopw [8] (λk wr=>∃(d:Nat) (f:List Int),d<=c/\k=.int .i64 d/\f_ (iT wr p o g r c f (L+M+1)/\E.grownBy wr (some g)/\KU E wr/\∀k i,k<r->i<c->e_ c f k i=if i<d then af k i else e_ c zs k i)) (λk _=>c-(intOf k).toNat)
 case atStart=>exact⟨0,zs,Nat.zero_le _,rfl,a_ ⟨K.f.later X.f,World.grownBy.refl _ _,KU.refl _,λk i _ _=>by simp⟩⟩
 case round=>
  obtain⟨d,f,bc,rfl,h⟩:=hrel;obtain⟨aQ,aN,aT⟩:=h.f.lX;have a3:=h.f.Be;have a8:=h.f.vf;have a2:=h.g.size;have aB:iw wr w.heap.size (.bool Q) (.slice S I R):=by unfold iw;rw[h.g.block _ (by omega) (by simp;omega)];exact X.g
  have aH:=X.l.hV h.j;have G:=b_ aB aH;clear aB aH;by_cases A:d<c
  .have aU:(d:Int)<(c:Int):=by omega
   have D:f_ (Has (f.getD (a*c+d) 0) L/\Has (f.getD (b*c+d) 0) L/\f.getD (a*c+d) 0=e_ c zs a d/\f.getD (b*c+d) 0=e_ c zs b d):=a_ (by
    have Z:=h.o a d W A;have aK:=h.o b d u A;rw[if_neg (Nat.lt_irrefl d)]at Z aK;have aO:f.getD (a*c+d) 0=e_ c zs a d:=Z;have a1:f.getD (b*c+d) 0=e_ c zs b d:=aK;rw[aO,a1];exact⟨K.g.has W A,K.g.has u A,rfl,rfl⟩)
   have aY:=a_ (show∀e,Below wr.heap.size wr e->e.cell? ⟨p,o,none⟩=some (.int .i64 r)/\e.cell? ⟨p,o+1,none⟩=some (.int .i64 c)/\e.cell? ⟨p,o+2,none⟩=some (.slice (some ⟨g,0,none⟩) (r*c) (r*c))/\e.cell? ⟨w.heap.size,0,none⟩=some (.bool Q)/\e.cell? ⟨w.heap.size,1,none⟩=some (.slice S I R)from λe u=>⟨(h.f.lX.later u).1,(h.f.lX.later u).2.1,(h.f.lX.later u).2.2,cell_later u G.f.cells.1,cell_later u G.f.cells.2.1⟩);go_upto_region 4 with fail
   go_cut [9]from 19 to 27 (λah ac=>px wr ((f.getD (b*c+d) 0)*z) (L+M) ah ac)
   case first=>
    go_region_held3 (λe=>e.cell? ⟨p,o,none⟩=some (.int .i64 r)/\e.cell? ⟨p,o+1,none⟩=some (.int .i64 c)/\e.cell? ⟨p,o+2,none⟩=some (.slice (some ⟨g,0,none⟩) (r*c) (r*c))/\e.cell? ⟨w.heap.size,0,none⟩=some (.bool Q)/\e.cell? ⟨w.heap.size,1,none⟩=some (.slice S I R)) (exact aY.e _ (by first|exact hbW6|exact hbW6.alloc hbW6.size _|exact(hbW6.setCell (Nat.le_refl _) _).setCell (Nat.le_refl _) _|exact(hbW6.setCell hw5s _).setCell hw5s _|exact hbW5|exact hbW5.alloc hbW5.size _|exact(Below.refl _ _).drew|exact(hS).drew)) (first
      |(go_at_call 64;refine(@jy _ r c b d f (L+M+1) _ (h.f.sv.below ((Below.refl _ _).drew)) (by assumption) A).mono ?_;rintro y n⟨ao,rfl,l,v⟩;replace l:=D.g.mE l;obtain⟨aj,ai,ap,al,rfl⟩:=l.shape;have hbW5:Below wr.heap.size wr n:=((Below.refl _ _).drew).trans v;clear v)
      |(go_at_call 64;refine(@jy _ r c b d f (L+M+1) _ (h.f.sv.below ((hS).drew)) (by assumption) A).mono ?_;rintro y n⟨ao,rfl,l,v⟩;replace l:=D.g.mE l;obtain⟨aj,ai,ap,al,rfl⟩:=l.shape;have hbW5:Below wr.heap.size wr n:=((hS).drew).trans (v.mono (by simp));have T:iw n wr.heap.size (.bool false) (.slice none 0 0):=iw.below (iw.drew (iw.jg wr)) v (by simp);clear v)
      |(go_at_call 65;refine(@j0 _ _ (f.getD (b*c+d) 0) z L M _ l (G.i.below hbW5) (by omega) (by omega)).mono ?_;rintro y t⟨N,rfl,j,m⟩;obtain⟨P,F,O,U,rfl⟩:=j.shape;have hbW6:Below wr.heap.size wr t:=d_ hbW5 m;have s:iw t wr.heap.size (.bool false) (.slice none 0 0):=T.below m (Array.getElem?_eq_some_iff.1 T).1;have ad:=s.cells;clear m)
      |(go_at_call 65;refine(@j0 _ _ (f.getD (b*c+d) 0) z L M _ l (G.i.below hbW5) (by omega) (by omega)).mono ?_;rintro y t⟨N,rfl,j,m⟩;obtain⟨P,F,O,U,rfl⟩:=j.shape;have hbW6:Below wr.heap.size wr t:=d_ hbW5 m;clear m)
      |(go_at_call 65;refine(@j0 _ _ (f.getD (b*c+d) 0) z L M _ (l.below (hU n _)) ((G.i.below hbW5).below (hU n _)) (by omega) (by omega)).mono ?_;rintro y t⟨N,rfl,j,m⟩;obtain⟨P,F,O,U,rfl⟩:=j.shape;have hbW6:Below wr.heap.size wr t:=hbW5.trans (((hU n _).trans (m.mono (by simp))).mono hbW5.size);have hw5s:=hbW5.size;have s:iw t n.heap.size (.bool false) (.slice none 0 0):=iw.below (iw.jg n) m (by simp);have ad:=s.cells;clear m))
    all_goals
     go_wp2_with fail;go_meet
     case rel=>
      first
       |exact⟨_,_,_,_,_,rfl,hbW6.size,iw.new _ _ _ rfl,j.below hS,hbW6.alloc hbW6.size _⟩
       |exact⟨_,_,_,_,_,rfl,Nat.le_refl _,s.put _ _,j.s_ s _ _,(hbW6.setCell (Nat.le_refl _) _).setCell (Nat.le_refl _) _⟩
       |exact⟨_,_,_,_,_,rfl,hw5s,s.put _ _,j.s_ s _ _,(hbW6.setCell hw5s _).setCell hw5s _⟩
   case rest=>
    rename World=>q;obtain⟨Y,ax,aI,az,aD,rfl,a9,V,aG,B⟩:=hcut;have a0:=B.size;have C:=hO V aG B;have aS:=a_ (show∀e,Below q.heap.size q e->e.cell? ⟨p,o,none⟩=some (.int .i64 r)/\e.cell? ⟨p,o+1,none⟩=some (.int .i64 c)/\e.cell? ⟨p,o+2,none⟩=some (.slice (some ⟨g,0,none⟩) (r*c) (r*c))/\e.cell? ⟨Y,0,none⟩=some (.bool ax)/\e.cell? ⟨Y,1,none⟩=some (.slice aI az aD)from λe u=>⟨((h.f.lX.later B).later u).1,((h.f.lX.later B).later u).2.1,((h.f.lX.later B).later u).2.2,cell_later u V.cells.1,cell_later u V.cells.2.1⟩);clear V aG B aQ aN aT;go_upto_region 5 with fail
    go_cut [10]from 27 to 35 (λah ac=>px q ((f.getD (a*c+d) 0)-(f.getD (b*c+d) 0)*z) (L+M+1) ah ac)
    case first=>
     go_region_held3 (λe=>e.cell? ⟨p,o,none⟩=some (.int .i64 r)/\e.cell? ⟨p,o+1,none⟩=some (.int .i64 c)/\e.cell? ⟨p,o+2,none⟩=some (.slice (some ⟨g,0,none⟩) (r*c) (r*c))/\e.cell? ⟨Y,0,none⟩=some (.bool ax)/\e.cell? ⟨Y,1,none⟩=some (.slice aI az aD)) (exact aS.e _ (by first|exact hbW6|exact hbW6.alloc hbW6.size _|exact(hbW6.setCell (Nat.le_refl _) _).setCell (Nat.le_refl _) _|exact(hbW6.setCell hw5s _).setCell hw5s _|exact hbW5|exact hbW5.alloc hbW5.size _|exact(Below.refl _ _).drew|exact(hS).drew)) (first
       |(go_at_call 64;refine(@jy _ r c a d f (L+M+1) _ ((h.f.sv.below C.l).below ((Below.refl _ _).drew)) (by assumption) A).mono ?_;rintro y n⟨ao,rfl,l,v⟩;replace l:=D.f.mE l;obtain⟨aj,ai,ap,al,rfl⟩:=l.shape;have hbW5:Below q.heap.size q n:=((Below.refl _ _).drew).trans v;clear v)
       |(go_at_call 64;refine(@jy _ r c a d f (L+M+1) _ ((h.f.sv.below C.l).below ((hS).drew)) (by assumption) A).mono ?_;rintro y n⟨ao,rfl,l,v⟩;replace l:=D.f.mE l;obtain⟨aj,ai,ap,al,rfl⟩:=l.shape;have hbW5:Below q.heap.size q n:=((hS).drew).trans (v.mono (by simp));have T:iw n q.heap.size (.bool false) (.slice none 0 0):=iw.below (iw.drew (iw.jg q)) v (by simp);clear v)
       |(go_at_call 145;refine(@nE _ _ (f.getD (a*c+d) 0) ((f.getD (b*c+d) 0)*z) L (L+M) _ l (C.g.below hbW5) (by omega) (by omega)).mono ?_;rintro y t⟨N,rfl,j,m⟩;obtain⟨P,F,O,U,rfl⟩:=j.shape;replace j:=j.mono (show max L (L+M)+1<=L+M+1 by omega);have hbW6:Below q.heap.size q t:=d_ hbW5 m;have s:iw t q.heap.size (.bool false) (.slice none 0 0):=T.below m (Array.getElem?_eq_some_iff.1 T).1;have ad:=s.cells;clear m)
       |(go_at_call 145;refine(@nE _ _ (f.getD (a*c+d) 0) ((f.getD (b*c+d) 0)*z) L (L+M) _ l (C.g.below hbW5) (by omega) (by omega)).mono ?_;rintro y t⟨N,rfl,j,m⟩;obtain⟨P,F,O,U,rfl⟩:=j.shape;replace j:=j.mono (show max L (L+M)+1<=L+M+1 by omega);have hbW6:Below q.heap.size q t:=d_ hbW5 m;clear m)
       |(go_at_call 145;refine(@nE _ _ (f.getD (a*c+d) 0) ((f.getD (b*c+d) 0)*z) L (L+M) _ (l.below (hU n _)) ((C.g.below hbW5).below (hU n _)) (by omega) (by omega)).mono ?_;rintro y t⟨N,rfl,j,m⟩;obtain⟨P,F,O,U,rfl⟩:=j.shape;replace j:=j.mono (show max L (L+M)+1<=L+M+1 by omega);have hbW6:Below q.heap.size q t:=hbW5.trans (((hU n _).trans (m.mono (by simp))).mono hbW5.size);have hw5s:=hbW5.size;have s:iw t n.heap.size (.bool false) (.slice none 0 0):=iw.below (iw.jg n) m (by simp);have ad:=s.cells;clear m))
     all_goals
      go_wp2_with fail;go_meet
      case rel=>
       first
        |exact⟨_,_,_,_,_,rfl,hbW6.size,iw.new _ _ _ rfl,j.below hS,hbW6.alloc hbW6.size _⟩
        |exact⟨_,_,_,_,_,rfl,Nat.le_refl _,s.put _ _,j.s_ s _ _,(hbW6.setCell (Nat.le_refl _) _).setCell (Nat.le_refl _) _⟩
        |exact⟨_,_,_,_,_,rfl,hw5s,s.put _ _,j.s_ s _ _,(hbW6.setCell hw5s _).setCell hw5s _⟩
    case rest=>
     rename World=>aP;obtain⟨bl,ba,bg,bf,bk,rfl,a4,aA,aC,ak⟩:=hcut;have be:=ak.size;have av:Below wr.heap.size wr aP:=C.l.trans (ak.mono a0);obtain⟨aW,aX,-,-⟩:=aA.cells;have ab:=b_ av aC;clear aA aC ak av;go_wp2_with fail;refine(@oQ p o g r c a d f (L+M+1) _ _ _ (h.f.later ab.f) aZ ab.i W A).mono ?_;rintro y bb⟨rfl,au,aE,ay⟩;have am:=hO au (hZ (ib h.g ab.f) aE) ((h.j.trans (KU.I ab.f)).trans ay);clear au aE ay aW aX;go_wp2_with fail;go_roundw
     case measure=>simp[intOf];omega
     case rel=>
      refine⟨d+1,_,by omega,by go_num,a_ ⟨am.f,am.g,am.l,λk i an aa=>?_⟩⟩;rw[kN f r c h.f.len a d k i _ W A aa];have Z:=h.o k i an aa;by_cases ag:k=a/\i=d
      .obtain⟨rfl,rfl⟩:=ag;rw[if_pos ⟨rfl,rfl⟩,if_pos (Nat.lt_succ_self i),aM.e,D.j,D.o];exact(if_pos rfl).symm
      .rw[if_neg ag,Z];by_cases aJ:i<d
       .rw[if_pos aJ,if_pos (by omega)]
       .rw[if_neg aJ];by_cases aF:i<d+1
        .rw[if_pos aF,aM.e];show _=if k=a then _ else _
         rw[if_neg (λaV=>ag ⟨aV,by omega⟩)]
        .rw[if_neg aF]
  .have aU:¬(d:Int)<(c:Int):=by omega
   have aL:d=c:=by omega
   have aR:=a_ aL;clear aL;go_wp2_with fail;go_end0;refine⟨rfl,⟨f,h.f,λk i an aa=>?_⟩,hZ (ib (World.grownBy.refl _ _) X.f) h.g⟩;rw[h.o k i an aa,if_pos (by have:=aR.e;omega)]
theorem qo{p o g r c a b:Nat}{zs:List Int}{L M:Nat}{x:Value}{z:Int}{w:World}(J:iT w p o g r c zs L)(ar:jE w x z M)(a5:L<=200000000)(bh:M<=200000000)(aZ:p≠g)(W:a<c)(u:b<c)(bi:a≠b):Calls Tryz.prog 107 #[.pointer (some ⟨p,o,none⟩),.int .i64 a,.int .i64 b,x] w λd e=>d=.returned (.tuple #[])/\xD w e p o g r c (λh n=>if n=a then e_ c zs h a-e_ c zs h b*z else e_ c zs h n) (L+M+1):=by
 have K:=hO (J.mono (show L<=L+M+1 by omega)) J ar;have bd:=J.hr;have bj:=J.hc;obtain⟨Q,S,I,R,rfl⟩:=ar.shape;obtain⟨af,aq⟩:∃af:Nat->Nat->Int,af=λh n=>if n=a then e_ c zs h a-e_ c zs h b*z else e_ c zs h n:=⟨_,rfl⟩
 rw[<-aq];have aM:=a_ aq;clear J aq ar;go_in;go_wp2_with fail;obtain⟨E,H⟩:=hQ (w.alloc (.cells #[.bool Q,.slice S I R] 79));have ae:Below w.heap.size w E:=by rw[H];exact hS
 have aw:iw E w.heap.size (.bool Q) (.slice S I R):=by rw[H];exact iw.new w _ _ rfl
 have a6:E.heap.size=w.heap.size+1:=by rw[H];simp
 have a7:g<w.heap.size:=K.f.Be;rw[<-H];have X:=hO ae aw (K.l.below ae);clear H ae aw;go_loopw [8] (λh wr=>∃(d:Nat) (f:List Int),d<=r/\h=.int .i64 d/\f_ (iT wr p o g r c f (L+M+1)/\E.grownBy wr (some g)/\KU E wr/\∀h n,h<r->n<c->e_ c f h n=if h<d then af h n else e_ c zs h n)) (λh _=>r-(intOf h).toNat)
 case atStart=>exact⟨0,zs,Nat.zero_le _,rfl,a_ ⟨K.f.later X.f,World.grownBy.refl _ _,KU.refl _,λh n _ _=>by simp⟩⟩
 case round=>
  obtain⟨d,f,bc,rfl,i⟩:=hrel;obtain⟨aQ,aN,aU⟩:=i.f.lX;have a3:=i.f.Be;have a8:=i.f.vf;have a2:=i.g.size;have aB:iw wr w.heap.size (.bool Q) (.slice S I R):=by unfold iw;rw[i.g.block _ (by omega) (by simp;omega)];exact X.g
  have aH:=X.l.hV i.j;have G:=b_ aB aH;clear aB aH;by_cases A:d<r
  .have aV:(d:Int)<(r:Int):=by omega
   have D:f_ (Has (f.getD (d*c+a) 0) L/\Has (f.getD (d*c+b) 0) L/\f.getD (d*c+a) 0=e_ c zs d a/\f.getD (d*c+b) 0=e_ c zs d b):=a_ (by
    have Z:=i.o d a A W;have aK:=i.o d b A u;rw[if_neg (Nat.lt_irrefl d)]at Z aK;have aO:f.getD (d*c+a) 0=e_ c zs d a:=Z;have a1:f.getD (d*c+b) 0=e_ c zs d b:=aK;rw[aO,a1];exact⟨K.g.has A W,K.g.has A u,rfl,rfl⟩)
   have aY:=a_ (show∀e,Below wr.heap.size wr e->e.cell? ⟨p,o,none⟩=some (.int .i64 r)/\e.cell? ⟨p,o+1,none⟩=some (.int .i64 c)/\e.cell? ⟨p,o+2,none⟩=some (.slice (some ⟨g,0,none⟩) (r*c) (r*c))/\e.cell? ⟨w.heap.size,0,none⟩=some (.bool Q)/\e.cell? ⟨w.heap.size,1,none⟩=some (.slice S I R)from λe u=>⟨(i.f.lX.later u).1,(i.f.lX.later u).2.1,(i.f.lX.later u).2.2,cell_later u G.f.cells.1,cell_later u G.f.cells.2.1⟩);go_upto_region 4 with fail
   go_cut [9]from 19 to 27 (λah ac=>px wr ((f.getD (d*c+b) 0)*z) (L+M) ah ac)
   case first=>
    go_region_held3 (λe=>e.cell? ⟨p,o,none⟩=some (.int .i64 r)/\e.cell? ⟨p,o+1,none⟩=some (.int .i64 c)/\e.cell? ⟨p,o+2,none⟩=some (.slice (some ⟨g,0,none⟩) (r*c) (r*c))/\e.cell? ⟨w.heap.size,0,none⟩=some (.bool Q)/\e.cell? ⟨w.heap.size,1,none⟩=some (.slice S I R)) (exact aY.e _ (by first|exact hbW6|exact hbW6.alloc hbW6.size _|exact(hbW6.setCell (Nat.le_refl _) _).setCell (Nat.le_refl _) _|exact(hbW6.setCell hw5s _).setCell hw5s _|exact hbW5|exact hbW5.alloc hbW5.size _|exact(Below.refl _ _).drew|exact(hS).drew)) (first
      |(go_at_call 64;refine(@jy _ r c d b f (L+M+1) _ (i.f.sv.below ((Below.refl _ _).drew)) A (by assumption)).mono ?_;rintro y m⟨ao,rfl,k,v⟩;replace k:=D.g.mE k;obtain⟨aj,ai,ap,al,rfl⟩:=k.shape;have hbW5:Below wr.heap.size wr m:=((Below.refl _ _).drew).trans v;clear v)
      |(go_at_call 64;refine(@jy _ r c d b f (L+M+1) _ (i.f.sv.below ((hS).drew)) A (by assumption)).mono ?_;rintro y m⟨ao,rfl,k,v⟩;replace k:=D.g.mE k;obtain⟨aj,ai,ap,al,rfl⟩:=k.shape;have hbW5:Below wr.heap.size wr m:=((hS).drew).trans (v.mono (by simp));have T:iw m wr.heap.size (.bool false) (.slice none 0 0):=iw.below (iw.drew (iw.jg wr)) v (by simp);clear v)
      |(go_at_call 65;refine(@j0 _ _ (f.getD (d*c+b) 0) z L M _ k (G.i.below hbW5) (by omega) (by omega)).mono ?_;rintro y t⟨N,rfl,j,l⟩;obtain⟨P,F,O,U,rfl⟩:=j.shape;have hbW6:Below wr.heap.size wr t:=d_ hbW5 l;have s:iw t wr.heap.size (.bool false) (.slice none 0 0):=T.below l (Array.getElem?_eq_some_iff.1 T).1;have ad:=s.cells;clear l)
      |(go_at_call 65;refine(@j0 _ _ (f.getD (d*c+b) 0) z L M _ k (G.i.below hbW5) (by omega) (by omega)).mono ?_;rintro y t⟨N,rfl,j,l⟩;obtain⟨P,F,O,U,rfl⟩:=j.shape;have hbW6:Below wr.heap.size wr t:=d_ hbW5 l;clear l)
      |(go_at_call 65;refine(@j0 _ _ (f.getD (d*c+b) 0) z L M _ (k.below (hU m _)) ((G.i.below hbW5).below (hU m _)) (by omega) (by omega)).mono ?_;rintro y t⟨N,rfl,j,l⟩;obtain⟨P,F,O,U,rfl⟩:=j.shape;have hbW6:Below wr.heap.size wr t:=hbW5.trans (((hU m _).trans (l.mono (by simp))).mono hbW5.size);have hw5s:=hbW5.size;have s:iw t m.heap.size (.bool false) (.slice none 0 0):=iw.below (iw.jg m) l (by simp);have ad:=s.cells;clear l))
    all_goals
     go_wp2_with fail;go_meet
     case rel=>
      first
       |exact⟨_,_,_,_,_,rfl,hbW6.size,iw.new _ _ _ rfl,j.below hS,hbW6.alloc hbW6.size _⟩
       |exact⟨_,_,_,_,_,rfl,Nat.le_refl _,s.put _ _,j.s_ s _ _,(hbW6.setCell (Nat.le_refl _) _).setCell (Nat.le_refl _) _⟩
       |exact⟨_,_,_,_,_,rfl,hw5s,s.put _ _,j.s_ s _ _,(hbW6.setCell hw5s _).setCell hw5s _⟩
   case rest=>
    rename World=>q;obtain⟨Y,ax,aI,az,aD,rfl,a9,V,aG,B⟩:=hcut;have a0:=B.size;have C:=hO V aG B;have aT:=a_ (show∀e,Below q.heap.size q e->e.cell? ⟨p,o,none⟩=some (.int .i64 r)/\e.cell? ⟨p,o+1,none⟩=some (.int .i64 c)/\e.cell? ⟨p,o+2,none⟩=some (.slice (some ⟨g,0,none⟩) (r*c) (r*c))/\e.cell? ⟨Y,0,none⟩=some (.bool ax)/\e.cell? ⟨Y,1,none⟩=some (.slice aI az aD)from λe u=>⟨((i.f.lX.later B).later u).1,((i.f.lX.later B).later u).2.1,((i.f.lX.later B).later u).2.2,cell_later u V.cells.1,cell_later u V.cells.2.1⟩);clear V aG B aQ aN aU;go_upto_region 5 with fail
    go_cut [10]from 27 to 35 (λah ac=>px q ((f.getD (d*c+a) 0)-(f.getD (d*c+b) 0)*z) (L+M+1) ah ac)
    case first=>
     go_region_held3 (λe=>e.cell? ⟨p,o,none⟩=some (.int .i64 r)/\e.cell? ⟨p,o+1,none⟩=some (.int .i64 c)/\e.cell? ⟨p,o+2,none⟩=some (.slice (some ⟨g,0,none⟩) (r*c) (r*c))/\e.cell? ⟨Y,0,none⟩=some (.bool ax)/\e.cell? ⟨Y,1,none⟩=some (.slice aI az aD)) (exact aT.e _ (by first|exact hbW6|exact hbW6.alloc hbW6.size _|exact(hbW6.setCell (Nat.le_refl _) _).setCell (Nat.le_refl _) _|exact(hbW6.setCell hw5s _).setCell hw5s _|exact hbW5|exact hbW5.alloc hbW5.size _|exact(Below.refl _ _).drew|exact(hS).drew)) (first
       |(go_at_call 64;refine(@jy _ r c d a f (L+M+1) _ ((i.f.sv.below C.l).below ((Below.refl _ _).drew)) A (by assumption)).mono ?_;rintro y m⟨ao,rfl,k,v⟩;replace k:=D.f.mE k;obtain⟨aj,ai,ap,al,rfl⟩:=k.shape;have hbW5:Below q.heap.size q m:=((Below.refl _ _).drew).trans v;clear v)
       |(go_at_call 64;refine(@jy _ r c d a f (L+M+1) _ ((i.f.sv.below C.l).below ((hS).drew)) A (by assumption)).mono ?_;rintro y m⟨ao,rfl,k,v⟩;replace k:=D.f.mE k;obtain⟨aj,ai,ap,al,rfl⟩:=k.shape;have hbW5:Below q.heap.size q m:=((hS).drew).trans (v.mono (by simp));have T:iw m q.heap.size (.bool false) (.slice none 0 0):=iw.below (iw.drew (iw.jg q)) v (by simp);clear v)
       |(go_at_call 145;refine(@nE _ _ (f.getD (d*c+a) 0) ((f.getD (d*c+b) 0)*z) L (L+M) _ k (C.g.below hbW5) (by omega) (by omega)).mono ?_;rintro y t⟨N,rfl,j,l⟩;obtain⟨P,F,O,U,rfl⟩:=j.shape;replace j:=j.mono (show max L (L+M)+1<=L+M+1 by omega);have hbW6:Below q.heap.size q t:=d_ hbW5 l;have s:iw t q.heap.size (.bool false) (.slice none 0 0):=T.below l (Array.getElem?_eq_some_iff.1 T).1;have ad:=s.cells;clear l)
       |(go_at_call 145;refine(@nE _ _ (f.getD (d*c+a) 0) ((f.getD (d*c+b) 0)*z) L (L+M) _ k (C.g.below hbW5) (by omega) (by omega)).mono ?_;rintro y t⟨N,rfl,j,l⟩;obtain⟨P,F,O,U,rfl⟩:=j.shape;replace j:=j.mono (show max L (L+M)+1<=L+M+1 by omega);have hbW6:Below q.heap.size q t:=d_ hbW5 l;clear l)
       |(go_at_call 145;refine(@nE _ _ (f.getD (d*c+a) 0) ((f.getD (d*c+b) 0)*z) L (L+M) _ (k.below (hU m _)) ((C.g.below hbW5).below (hU m _)) (by omega) (by omega)).mono ?_;rintro y t⟨N,rfl,j,l⟩;obtain⟨P,F,O,U,rfl⟩:=j.shape;replace j:=j.mono (show max L (L+M)+1<=L+M+1 by omega);have hbW6:Below q.heap.size q t:=hbW5.trans (((hU m _).trans (l.mono (by simp))).mono hbW5.size);have hw5s:=hbW5.size;have s:iw t m.heap.size (.bool false) (.slice none 0 0):=iw.below (iw.jg m) l (by simp);have ad:=s.cells;clear l))
     all_goals
      go_wp2_with fail;go_meet
      case rel=>
       first
        |exact⟨_,_,_,_,_,rfl,hbW6.size,iw.new _ _ _ rfl,j.below hS,hbW6.alloc hbW6.size _⟩
        |exact⟨_,_,_,_,_,rfl,Nat.le_refl _,s.put _ _,j.s_ s _ _,(hbW6.setCell (Nat.le_refl _) _).setCell (Nat.le_refl _) _⟩
        |exact⟨_,_,_,_,_,rfl,hw5s,s.put _ _,j.s_ s _ _,(hbW6.setCell hw5s _).setCell hw5s _⟩
    case rest=>
     rename World=>aP;obtain⟨bl,ba,bg,bf,bk,rfl,a4,aA,aC,ak⟩:=hcut;have be:=ak.size;have av:Below wr.heap.size wr aP:=C.l.trans (ak.mono a0);obtain⟨aW,aX,-,-⟩:=aA.cells;have ab:=b_ av aC;clear aA aC ak av;go_wp2_with fail;refine(@oQ p o g r c d a f (L+M+1) _ _ _ (i.f.later ab.f) aZ ab.i A W).mono ?_;rintro y bb⟨rfl,au,aE,ay⟩;have am:=hO au (hZ (ib i.g ab.f) aE) ((i.j.trans (KU.I ab.f)).trans ay);clear au aE ay aW aX;go_wp2_with fail;go_roundw
     case measure=>simp[intOf];omega
     case rel=>
      refine⟨d+1,_,by omega,by go_num,a_ ⟨am.f,am.g,am.l,λh n an aa=>?_⟩⟩;rw[kN f r c i.f.len d a h n _ A W aa];have Z:=i.o h n an aa;by_cases ag:h=d/\n=a
      .obtain⟨rfl,rfl⟩:=ag;rw[if_pos ⟨rfl,rfl⟩,if_pos (Nat.lt_succ_self h),aM.e,D.j,D.o];exact(if_pos rfl).symm
      .rw[if_neg ag,Z];by_cases aJ:h<d
       .rw[if_pos aJ,if_pos (by omega)]
       .rw[if_neg aJ];by_cases aF:h<d+1
        .rw[if_pos aF,aM.e];show _=if n=a then _ else _
         rw[if_neg (λaS=>ag ⟨by omega,aS⟩)]
        .rw[if_neg aF]
  .have aV:¬(d:Int)<(r:Int):=by omega
   have aL:d=r:=by omega
   have aR:=a_ aL;clear aL;go_wp2_with fail;go_end0;refine⟨rfl,⟨f,i.f,λh n an aa=>?_⟩,hZ (ib (World.grownBy.refl _ _) X.f) i.g⟩;rw[i.o h n an aa,if_pos (by have:=aR.e;omega)]
def sm(f:Nat->Int):Nat->Int
 |0=>0
 |a+1=>sm f a+f a
theorem iD(f g:Nat->Nat->Int)(i j t:Nat):dot f g i j t=sm (λa=>f i a*g a j) t:=by
 induction t with
 |zero=>rfl
 |succ t b=>rw[dot,sm,b]
theorem iq{f g:Nat->Int}(t:Nat)(h:∀a,a<t->f a=g a):sm f t=sm g t:=by
 induction t with
 |zero=>rfl
 |succ t b=>rw[sm,sm,b (λa c=>h a (by omega)),h t (by omega)]
theorem rP(a b:Int)(f g:Nat->Int)(t:Nat):sm (λc=>a*f c+b*g c) t=a*sm f t+b*sm g t:=by
 induction t with
 |zero=>simp[sm]
 |succ t d=>rw[sm,sm,sm,d];grind
theorem nH{f:Nat->Int}(t:Nat)(h:∀a,a<t->f a=0):sm f t=0:=by
 induction t with
 |zero=>rfl
 |succ t b=>rw[sm,b (λa c=>h a (by omega)),h t (by omega)];rfl
theorem ml{f:Nat->Int}(t a:Nat)(j:a<t)(h:∀b,b<t->b≠a->f b=0):sm f t=f a:=by
 induction t with
 |zero=>omega
 |succ t e=>
  rw[sm];by_cases c:a=t
  .subst c;rw[nH a (λb d=>h b (by omega) (by omega))];omega
  .rw[e (by omega) (λb d i=>h b (by omega) i),h t (by omega) (λg=>c g.symm)];omega
theorem yH(f g:Nat->Int)(t:Nat):sm f t-sm g t=sm (λa=>f a-g a) t:=by
 induction t with
 |zero=>rfl
 |succ t b=>rw[sm,sm,sm,<-b];omega
theorem zh{f g:Nat->Int}{t a b:Nat}(p:a<t)(q:b<t)(v:a≠b)(h:∀c,c<t->c≠a->c≠b->f c=g c)(u:f a+f b=g a+g b):sm f t=sm g t:=by
 have j:=yH f g t;have r:∀t,a<t->b<t->∀d:Nat->Int,(∀c,c<t->c≠a->c≠b->d c=0)->sm d t=d a+d b:=by
  intro t;induction t with
  |zero=>intro h;omega
  |succ t s=>
   intro p q d e;rw[sm];by_cases o:a=t
   .subst o;rw[ml a b (by omega) (λc i m=>e c (by omega) (by omega) m)];omega
   .by_cases n:b=t
    .subst n;rw[ml b a (by omega) (λc i m=>e c (by omega) m (by omega))]
    .rw[s (by omega) (by omega) d (λc i j k=>e c (by omega) j k),e t (by omega) (λl=>o l.symm) (λl=>n l.symm)];omega
 have k:=r t p q (λc=>f c-g c) (λc i j k=>by show f c-g c=0;rw[h c i j k];omega);have w:(λc=>f c-g c) a+(λc=>f c-g c) b=0:=by show f a-g a+(f b-g b)=0;omega
 omega
def kd(i j:Nat):Int:=if i=j then 1 else 0
structure jw (A H U W:Nat->Nat->Int) (r c:Nat):Prop where
 ua:∀i j,i<r->j<c->dot U A i j r=H i j
 uw:∀i j,i<r->j<r->dot U W i j r=kd i j
 wu:∀i j,i<r->j<r->dot W U i j r=kd i j
 wh:∀i j,i<r->j<c->dot W H i j r=A i j
theorem jw.start(A:Nat->Nat->Int)(r c:Nat):jw A A kd kd r c:=by
 have f:∀(e:Nat->Nat->Int) a b,a<r->dot kd e a b r=e a b:=by
  intro e a b d;rw[iD,ml r a d (λg _ i=>by show kd a g*e g b=0;unfold kd;rw[if_neg (λh=>i h.symm)];simp)];unfold kd;rw[if_pos rfl];simp
 exact⟨λa b d _=>f _ a b d,λa b d _=>f _ a b d,λa b d _=>f _ a b d,λa b d _=>f _ a b d⟩
theorem jw.congr{A U W l n:Nat->Nat->Int}{r c:Nat}(h:jw A B U W r c)(k:∀b a,b<r->a<c->F b a=A b a)(m:∀b a,b<r->a<c->G b a=B b a)(i:∀b a,b<r->a<r->l b a=U b a)(j:∀b a,b<r->a<r->n b a=W b a):jw F G l n r c:=by
 refine⟨λb a f g=>?_,λb a f g=>?_,λb a f g=>?_,λb a f g=>?_⟩
 .rw[m b a f g,<-h.ua b a f g];exact k8 r (λd e=>i b d f e) (λd e=>k d a e g)
 .rw[<-h.uw b a f g];exact k8 r (λd e=>i b d f e) (λd e=>j d a e g)
 .rw[<-h.wu b a f g];exact k8 r (λd e=>j b d f e) (λd e=>i d a e g)
 .rw[k b a f g,<-h.wh b a f g];exact k8 r (λd e=>j b d f e) (λd e=>m d a e g)
def ky(a b i:Nat):Nat:=if i=a then b else if i=b then a else i
theorem j2{a b i r:Nat}(e:a<r)(d:b<r)(c:i<r):ky a b i<r:=by unfold ky;split<;>(try split)<;>omega
theorem HQ{a b i j:Nat}:ky a b i=ky a b j↔i=j:=by
 unfold ky;constructor
 .intro c;split at c<;>split at c<;>(try split at c)<;>(try split at c)<;>omega
 .rintro rfl;rfl
theorem jw.swap{A U W:Nat->Nat->Int}{r c:Nat}(h:jw A B U W r c){a b:Nat}(j:a<r)(k:b<r):jw A (λd e=>B (ky a b d) e) (λd e=>U (ky a b d) e) (λd e=>W d (ky a b e)) r c:=by
 have n:∀l:Nat->Int,sm (λf=>l (ky a b f)) r=sm l r:=by
  intro l;by_cases m:a=b
  .subst m;refine iq r (λf _=>?_);unfold ky;split<;>(try split)<;>simp_all
  .refine zh j k m (λf _ o p=>?_) ?_
   .unfold ky;rw[if_neg o,if_neg p]
   .unfold ky;rw[if_pos rfl,if_neg (λq=>m q.symm),if_pos rfl];omega
 refine⟨λd e g i=>?_,λd e g i=>?_,λd e g i=>?_,λd e g i=>?_⟩
 .rw[<-h.ua (ky a b d) e (j2 j k g) i,iD,iD]
 .have:=h.uw (ky a b d) (ky a b e) (j2 j k g) (j2 j k i);rw[iD]at this|-;rw[this];unfold kd;simp only[HQ]
 .have:=h.wu d e g i;rw[iD]at this|-;rw[<-this];exact n (λf=>W d f*U f e)
 .have:=h.wh d e g i;rw[iD]at this|-;rw[<-this];exact n (λf=>W d f*B f e)
theorem jw.turn{A U W:Nat->Nat->Int}{r c:Nat}(h:jw A B U W r c)(a:Nat):jw A (λb d=>if b=a then-B b d else B b d) (λb d=>if b=a then-U b d else U b d) (λb d=>if d=a then-W b d else W b d) r c:=by
 have p:∀(n:Nat->Int) j,sm (λe=>-n e) j=-sm n j:=by
  intro n j;induction j with
  |zero=>rfl
  |succ j q=>rw[sm,sm,q];omega
 refine⟨λb d g f=>?_,λb d g f=>?_,λb d g f=>?_,λb d g f=>?_⟩
 .have:=h.ua b d g f;rw[iD]at this|-;by_cases i:b=a
  .simp only[i,if_true]at this|-;rw[<-this,<-p];exact iq r (λe _=>by grind)
  .simp only[i,km]at this|-;exact this
 .have:=h.uw b d g f;rw[iD]at this|-;by_cases i:b=a<;>by_cases m:d=a
  .simp only[i,m,if_true]at this|-;rw[<-this];exact iq r (λe _=>by grind)
  .have o:kd b d=0:=by unfold kd;rw[if_neg (by omega)]
   rw[o]at this|-;simp only[i,m,if_true,km]at this|-;have k:=p (λe=>U a e*W e d) r;rw[this]at k;rw[show(0:Int)=-0 from rfl,<-k];exact iq r (λe _=>by grind)
  .have o:kd b d=0:=by unfold kd;rw[if_neg (by omega)]
   rw[o]at this|-;simp only[i,m,if_true,km]at this|-;have k:=p (λe=>U b e*W e a) r;rw[this]at k;rw[show(0:Int)=-0 from rfl,<-k];exact iq r (λe _=>by grind)
  .simp only[i,m,km]at this|-;exact this
 .have:=h.wu b d g f;rw[iD]at this|-;rw[<-this];refine iq r (λe _=>?_);by_cases l:e=a
  .simp only[l,if_true];grind
  .simp only[l,km]
 .have:=h.wh b d g f;rw[iD]at this|-;rw[<-this];refine iq r (λe _=>?_);by_cases l:e=a
  .simp only[l,if_true];grind
  .simp only[l,km]
theorem CN(u v x:Nat->Int)(z:Int)(r:Nat):sm (λa=>(u a-v a*z)*x a) r=sm (λa=>u a*x a) r-z*sm (λa=>v a*x a) r:=by
 induction r with
 |zero=>simp[sm]
 |succ r b=>rw[sm,sm,sm,b];grind
theorem jw.take{A U W:Nat->Nat->Int}{r c:Nat}(h:jw A B U W r c){a b:Nat}(z:Int)(p:a<r)(q:b<r)(m:a≠b):jw A (λf e=>if f=a then B a e-B b e*z else B f e) (λf e=>if f=a then U a e-U b e*z else U f e) (λf e=>if e=b then W f b-W f a*(-z)else W f e) r c:=by
 have v:b≠a:=λs=>m s.symm;refine⟨λf e l j=>?_,λf e l j=>?_,λf e l j=>?_,λf e l j=>?_⟩
 .by_cases o:f=a
  .have g:=h.ua a e p j;have k:=h.ua b e q j;rw[iD]at g k|-;simp only[o,if_true];rw[<-g,<-k];have:=rP 1 (-z) (λd=>U a d*A d e) (λd=>U b d*A d e) r;rw[show sm (λd=>U a d*A d e) r-sm (λd=>U b d*A d e) r*z=1*sm (λd=>U a d*A d e) r+-z*sm (λd=>U b d*A d e) r from by grind,<-this];exact iq r (λd _=>by grind)
  .have g:=h.ua f e l j;rw[iD]at g|-;simp only[o,km];exact g
 .have u:∀i,i<r->dot (λf e=>U f e) (λf e=>if e=b then W f b-W f a*(-z)else W f e) i e r=kd i e+(if e=b then z*kd i a else 0):=by
   intro i x;have g:=h.uw i e x j;have k:=h.uw i a x p;by_cases n:e=b
   .rw[iD]at g k|-;simp only[n,if_true]at g|-;rw[<-g,<-k];have:=rP 1 z (λd=>U i d*W d b) (λd=>U i d*W d a) r;rw[show sm (λd=>U i d*W d b) r+z*sm (λd=>U i d*W d a) r=1*sm (λd=>U i d*W d b) r+z*sm (λd=>U i d*W d a) r from by grind,<-this];exact iq r (λd _=>by grind)
   .rw[iD]at g|-;simp only[n,km];rw[g];omega
  by_cases o:f=a
  .have g:=u a p;have k:=u b q;rw[iD]at g k|-;simp only[o,if_true];refine(CN _ _ (λd=>if e=b then W d b-W d a*(-z)else W d e) z r).trans ?_;rw[show sm (λd=>U a d*(λd=>if e=b then W d b-W d a*(-z)else W d e) d) r=kd a e+(if e=b then z*kd a a else 0)from g,show sm (λd=>U b d*(λd=>if e=b then W d b-W d a*(-z)else W d e) d) r=kd b e+(if e=b then z*kd b a else 0)from k];unfold kd;by_cases n:e=b
   .subst n;simp only[if_true,if_neg m,if_neg v];omega
   .simp only[if_neg n,if_neg (λs:b=e=>n s.symm)];omega
  .have g:=u f l;rw[iD]at g|-;simp only[o,km];rw[g];unfold kd;rw[if_neg o];split<;>omega
 .have g:=h.wu f e l j;rw[iD]at g|-;rw[<-g];refine zh p q m (λd _ t w=>?_) ?_
  .simp only[t,w,km]
  .simp only[m,v,if_true,km];grind
 .have g:=h.wh f e l j;rw[iD]at g|-;rw[<-g];refine zh p q m (λd _ t w=>?_) ?_
  .simp only[t,w,km]
  .simp only[m,v,if_true,km];grind
theorem jE.fit{w:World}{v:Value}{z:Int}{L K:Nat}(h:jE w v z L)(j:z.natAbs<4294967296^K):jE w v z K:=by
 obtain⟨f,b,e,c,g,i,d⟩:=h;refine⟨f,b,e,c,g,?_,d⟩;rcases iX K b.length with a|a
 .have:=oY c (by rintro rfl;simp at a);have:4294967296^K<=4294967296^(b.length-1):=jb (by decide) (by omega);omega
 .exact a
theorem jE.lt{w:World}{v:Value}{z:Int}{L:Nat}(h:jE w v z L):z.natAbs<4294967296^L:=by
 obtain⟨f,c,e,b,g,a,d⟩:=h;have:=j8 b.1;have:4294967296^c.length<=4294967296^L:=jb (by decide) a;omega
theorem Has.lt{z:Int}{L:Nat}(h:Has z L):z.natAbs<4294967296^L:=by
 obtain⟨a,b,h⟩:=h;exact h.lt
theorem iT.fit{w:World}{p o g r c L K:Nat}{zs:List Int}(h:iT w p o g r c zs L)(t:∀a d,a<r->d<c->(e_ c zs a d).natAbs<4294967296^K):iT w p o g r c zs K:=by
 refine⟨h.hr,h.hc,h.lX,?_⟩;obtain⟨l,m,k,n⟩:=h.kA;refine⟨l,m,k,λa b=>?_⟩;obtain⟨q,e,s,f,i⟩:=n a b;refine⟨q,e,s,f,i.fit ?_⟩;have j:0<c:=by
  rcases kl c with h|h
  .subst h;simp at b
  .exact h
 have:=t (a/c) (a%c) (Nat.div_lt_of_lt_mul (by rw[ij];exact b)) (mQ _ j);unfold e_ at this;rwa[ij,kY]at this
theorem Ty.grown{w:World}{b g:Nat}{t:TypeId}(h:Ty w b t)(c:w.grownBy v (some g))(d:b≠g):Ty v b t:=by
 obtain⟨e,a,h⟩:=h;exact⟨e,a,by rw[c.block b (jt.1 h).1 (by simpa using d)];exact h⟩
theorem iE(w:World)(b o:Nat)(v:Value):w.grownBy (w.setCell ⟨b,o,none⟩ v) (some b):=
 ⟨rfl,rfl,rfl,by simp[World.setCell],λd _ a=>js _ _ _ _ (λc=>a (by simp[c]))⟩
theorem zg{p q o:Nat}(h:q≠o):(⟨p,q,none⟩:Addr)≠⟨p,o,none⟩:=λa=>by
 simp only[jj]at a;exact h a.2.1
theorem iT.beside{w:World}{p o g r c L q:Nat}{zs:List Int}{v:Value}(h:iT w p o g r c zs L)(d:p≠g)(f:o+2<q)(b:KU w (w.setCell ⟨p,q,none⟩ v)):iT (w.setCell ⟨p,q,none⟩ v) p o g r c zs L:=
 ⟨h.hr,h.hc,⟨(jZ _ _ _ _ (zg (by omega))).trans h.lX.1,(jZ _ _ _ _ (zg (by omega))).trans h.lX.2.1,(jZ _ _ _ _ (zg (by omega))).trans h.lX.2.2⟩,h.kA.grown (iE w p q v) (λe i c a=>by
  simp only[iC,iH]at a;obtain⟨rfl,-,-⟩:=a;exact λa=>d a.symm) b⟩
structure jr (w:World) (B p gH gU gW r c k:Nat) (hs us ws:List Int) (L:Nat):Prop where
 H:iT w p 0 gH r c hs L
 U:iT w p 3 gU r r us L
 W:iT w p 6 gW r r ws L
 rk:w.cell? ⟨p,9,none⟩=some (.int .i64 k)
 fr:w.frozen? ⟨p,9,none⟩=false
 ty:Ty w p 74
 d1:p≠gH
 d2:p≠gU
 d3:p≠gW
 d4:gH≠gU
 d5:gH≠gW
 d6:gU≠gW
 b1:B<=gH
 b2:B<=gU
 b3:B<=gW
 b4:B<=p
theorem jr.later{w:World}{B p r c k:Nat}{L:Nat}(h:jr w B p i j l r c k e f g L)(a:Below w.heap.size w v):jr v B p i j l r c k e f g L:=
 ⟨h.H.later a,h.U.later a,h.W.later a,g_ a h.rk,by rw[a.frozen (p:=⟨p,9,none⟩) h.H.vf];exact h.fr,h.ty.below a h.H.vf,h.d1,h.d2,h.d3,h.d4,h.d5,h.d6,h.b1,h.b2,h.b3,h.b4⟩
structure jv (w w':World) (g1 g2 g3:Nat):Prop where
 os:w'.os=w.os
 tape:w'.tape=w.tape
 output:w'.output=w.output
 size:w.heap.size<=w'.heap.size
 block:∀k,k<w.heap.size->k≠g1->k≠g2->k≠g3->w'.heap[k]?=w.heap[k]?
theorem jv.refl(w:World)(g1 g2 g3:Nat):jv w w g1 g2 g3:=⟨rfl,rfl,rfl,c_,λ_ _ _ _ _=>rfl⟩
theorem jv.trans{a b d:World}{g1 g2 g3:Nat}(h:jv a b g1 g2 g3)(k:jv b d g1 g2 g3):jv a d g1 g2 g3:=
 ⟨k.os.trans h.os,k.tape.trans h.tape,k.output.trans h.output,iy h.size k.size,λg f c e i=>(k.block g (l_ f h.size) c e i).trans (h.block g f c e i)⟩
theorem jv.I{w:World}(g1 g2 g3:Nat)(h:Below w.heap.size w v):jv w v g1 g2 g3:=⟨h.os,h.tape,h.output,h.size,λb a _ _ _=>h.block b a⟩
theorem jv.N{w:World}{g g1 g2 g3:Nat}(h:w.grownBy v (some g))(d:g=g1\/g=g2\/g=g3):jv w v g1 g2 g3:=
 ⟨h.os,h.tape,h.output,h.size,λb c e f i=>h.block b c (λa=>by injection a with a;omega)⟩
theorem jv.below{w:World}{g1 g2 g3 B:Nat}(h:jv w v g1 g2 g3)(f:B<=g1)(b:B<=g2)(c:B<=g3)(e:B<=w.heap.size):Below B w v:=
 ⟨h.os,h.tape,h.output,h.size,λa d=>h.block a (by omega) (by omega) (by omega) (by omega)⟩
theorem iG{w:World}{g B:Nat}(h:w.grownBy v (some g))(c:B<=g)(a:B<=w.heap.size):Below B w v:=
 (kQ B w).grown h a (λd b=>by simp at b;omega)
theorem jr.ble{w:World}{B p r c k:Nat}{L:Nat}(h:jr w B p i j l r c k e f g L):B<=w.heap.size:=by
 have:=h.H.vf;have:=h.b4;omega
theorem jr.Jx{w:World}{B p r c k:Nat}{d:List Int}{L:Nat}(h:jr w B p i j l r c k e f g L)(n:iT v p 0 i r c d L)(a:w.grownBy v (some i)):jr v B p i j l r c k d f g L/\jv w v i j l:=by
 have m:KU w v:=KU.N a h.H.kA.ty (by decide);exact⟨⟨n,h.U.other a m h.d1 (λb=>h.d4 b.symm),h.W.other a m h.d1 (λb=>h.d5 b.symm),a.cell h.rk (by simpa using h.d1),by rw[zx (a.block p h.H.vf (by simpa using h.d1))];exact h.fr,h.ty.grown a h.d1,h.d1,h.d2,h.d3,h.d4,h.d5,h.d6,h.b1,h.b2,h.b3,h.b4⟩,jv.N a (.inl rfl)⟩
theorem jr.I0{w:World}{B p r c k:Nat}{d:List Int}{L:Nat}(h:jr w B p i j l r c k e f g L)(n:iT v p 3 j r r d L)(a:w.grownBy v (some j)):jr v B p i j l r c k e d g L/\jv w v i j l:=by
 have b:KU w v:=KU.N a h.U.kA.ty (by decide);exact⟨⟨h.H.other a b h.d2 h.d4,n,h.W.other a b h.d2 (λm=>h.d6 m.symm),a.cell h.rk (by simpa using h.d2),by rw[zx (a.block p h.H.vf (by simpa using h.d2))];exact h.fr,h.ty.grown a h.d2,h.d1,h.d2,h.d3,h.d4,h.d5,h.d6,h.b1,h.b2,h.b3,h.b4⟩,jv.N a (.inr (.inl rfl))⟩
theorem jr.tQ{w:World}{B p r c k:Nat}{d:List Int}{L:Nat}(h:jr w B p i j l r c k e f g L)(m:iT v p 6 l r r d L)(a:w.grownBy v (some l)):jr v B p i j l r c k e f d L/\jv w v i j l:=by
 have b:KU w v:=KU.N a h.W.kA.ty (by decide);exact⟨⟨h.H.other a b h.d3 h.d5,h.U.other a b h.d3 h.d6,m,a.cell h.rk (by simpa using h.d3),by rw[zx (a.block p h.H.vf (by simpa using h.d3))];exact h.fr,h.ty.grown a h.d3,h.d1,h.d2,h.d3,h.d4,h.d5,h.d6,h.b1,h.b2,h.b3,h.b4⟩,jv.N a (.inr (.inr rfl))⟩
theorem jr.mono{w:World}{B p r c k:Nat}{L M:Nat}(h:jr w B p i j l r c k e f g L)(a:L<=M):jr w B p i j l r c k e f g M:=
 ⟨h.H.mono a,h.U.mono a,h.W.mono a,h.rk,h.fr,h.ty,h.d1,h.d2,h.d3,h.d4,h.d5,h.d6,h.b1,h.b2,h.b3,h.b4⟩
theorem jr.fit{w:World}{B p r c k:Nat}{L K:Nat}(h:jr w B p i j l r c k e f g L)(d:∀b a,b<r->a<c->(e_ c e b a).natAbs<4294967296^K)(m:∀b a,b<r->a<r->(e_ r f b a).natAbs<4294967296^K)(n:∀b a,b<r->a<r->(e_ r g b a).natAbs<4294967296^K):jr w B p i j l r c k e f g K:=
 ⟨h.H.fit d,h.U.fit m,h.W.fit n,h.rk,h.fr,h.ty,h.d1,h.d2,h.d3,h.d4,h.d5,h.d6,h.b1,h.b2,h.b3,h.b4⟩
theorem jr.below{w:World}{B p r c k:Nat}{L:Nat}(h:jr w B p i j l r c k e f g L)(a:jv w v i j l):Below B w v:=a.below h.b1 h.b2 h.b3 h.ble
theorem jr.ku{w:World}{B p r c k:Nat}{L:Nat}(h:jr w B p i j l r c k e f g L)(s:jv w v i j l):KU w v:=by
 intro n x a;have t:=(jt.1 a).1;have b:∀m,Ty w m 79->n≠m:=by
  intro m q o;subst o;obtain⟨y,u,d⟩:=q;rw[a]at d;simp only[iH,ur]at d;exact absurd d.2.1 (by decide)
 rw[s.block n t (b _ h.H.kA.ty) (b _ h.U.kA.ty) (b _ h.W.kA.ty)];exact a
theorem jr.H7{w:World}{B p r c k:Nat}{L:Nat}(h:jr w B p i j l r c k e f g L)(m:Nat){z:Int}(b:z=(m:Int)):jr (w.setCell ⟨p,9,none⟩ (.int .i64 z)) B p i j l r c m e f g L/\Below B w (w.setCell ⟨p,9,none⟩ (.int .i64 z)):=by
 subst b;have a:KU w (w.setCell ⟨p,9,none⟩ (.int .i64 m)):=KU.setCell (KU.refl _) h.ty (by decide) _;refine⟨⟨h.H.beside h.d1 (by omega) a,h.U.beside h.d2 (by omega) a,h.W.beside h.d3 (by omega) a,?_,by rw[World.frozen?_setCell];exact h.fr,h.ty.setCell _ _,h.d1,h.d2,h.d3,h.d4,h.d5,h.d6,h.b1,h.b2,h.b3,h.b4⟩,(kQ B w).setCell h.b4 _⟩;exact sH _ _ _ h.rk
def yc(w e:World)(B p i f j r c k:Nat)(l m n:Nat->Nat->Int)(L:Nat):Prop:=
 ∃g h d,jr e B p i f j r c k g h d L/\jv w e i f j/\(∀b a,b<r->a<c->e_ c g b a=l b a)/\(∀b a,b<r->a<r->e_ r h b a=m b a)/\(∀b a,b<r->a<r->e_ r d b a=n b a)
theorem DO{B p H D s r c k a b:Nat}{x E u:List Int}{L:Nat}{w:World}(h:jr w B p H D s r c k x E u L)(n:a<r)(m:b<r):Calls Tryz.prog 94 #[.pointer (some ⟨p,0,none⟩),.int .i64 a,.int .i64 b] w λg Q=>g=.returned (.tuple #[])/\yc w Q B p H D s r c k (λe f=>e_ c x (ky a b e) f) (λe f=>e_ r E (ky a b e) f) (λe f=>e_ r u e (ky a b f)) L:=by
 have d:=a_ h;clear h;go_in;go_wp2_with fail;go_fit (nI d.e.H d.e.d1 n m);rintro g T⟨rfl,⟨O,J,K⟩,N⟩;obtain⟨t,z⟩:=d.e.Jx J N;have j:=hO t z K;clear J K N t z;go_wp2_with fail;go_fit (nI j.f.U d.e.d2 n m);rintro g U⟨rfl,⟨R,M,C⟩,I⟩;obtain⟨G,q⟩:=j.f.I0 M I;have i:=hO G (j.g.trans q) C;clear M C I G q;go_wp2_with fail;go_fit (yJ i.f.W d.e.d3 n m);rintro g S⟨rfl,⟨P,A,F⟩,v⟩;obtain⟨o,y⟩:=i.f.tQ A v;have l:=hO o (i.g.trans y) F;clear A F v o y;go_wp2;go_end0;exact⟨rfl,O,R,P,l.f,l.g,j.l,i.l,l.l⟩
theorem D1{B p s q o r c k a:Nat}{f g e:List Int}{L:Nat}{w:World}(h:jr w B p s q o r c k f g e L)(z:a<r):Calls Tryz.prog 97 #[.pointer (some ⟨p,0,none⟩),.int .i64 a] w λt l=>t=.returned (.tuple #[])/\yc w l B p s q o r c k (λb d=>if b=a then-e_ c f b d else e_ c f b d) (λb d=>if b=a then-e_ r g b d else e_ r g b d) (λb d=>if d=a then-e_ r e b d else e_ r e b d) L:=by
 have n:=a_ h;clear h;have A:∀l (i m j:List Int),jr l B p s q o r c k i m j L->jv w l s q o->(∀b d,b<r->d<c->e_ c i b d=if b=a then-e_ c f b d else e_ c f b d)->(∀b d,b<r->d<r->e_ r m b d=if b=a then-e_ r g b d else e_ r g b d)->(∀b d,b<r->d<r->e_ r j b d=if d=a then-e_ r e b d else e_ r e b d)->yc w l B p s q o r c k (λb d=>if b=a then-e_ c f b d else e_ c f b d) (λb d=>if b=a then-e_ r g b d else e_ r g b d) (λb d=>if d=a then-e_ r e b d else e_ r e b d) L:=λl i m j T V W U S=>⟨i,m,j,T,V,W,U,S⟩;generalize yc w=X at A|-;have v:=a_ A;clear A;generalize(λb d=>if b=a then-e_ c f b d else e_ c f b d)=aa at v|-;generalize(λb d=>if b=a then-e_ r g b d else e_ r g b d)=ac at v|-;generalize(λb d=>if d=a then-e_ r e b d else e_ r e b d)=ab at v|-;go_in;go_wp2_with fail;go_fit (uG n.e.H n.e.d1 z);rintro t Z⟨rfl,⟨i,O,P⟩,R⟩;obtain⟨E,H⟩:=n.e.Jx O R;have x:=hO E H P;clear O P R E H;go_wp2_with fail;go_fit (uG x.f.U n.e.d2 z);rintro t ad⟨rfl,⟨m,Q,J⟩,N⟩;obtain⟨M,D⟩:=x.f.I0 Q N;have u:=hO M (x.g.trans D) J;clear Q J N M D;go_wp2_with fail;go_fit (AX u.f.W n.e.d3 z);rintro t Y⟨rfl,⟨j,I,K⟩,F⟩;obtain⟨C,G⟩:=u.f.tQ I F;have y:=hO C (u.g.trans G) K;clear I K F C G;go_wp2;go_end0;exact⟨rfl,v.e _ i m j y.f y.g x.l u.l y.l⟩
def iQ(f:Nat->Int)(c n:Nat)(z:Int):Prop:=(∃b,c<=b/\b<n/\z=(b:Int)/\f b≠0/\(∀a,c<=a->a<n->f a≠0->(f b).natAbs<=(f a).natAbs)/\∀a,c<=a->a<b->f a≠0->(f b).natAbs<(f a).natAbs)\/(z=-1/\∀a,c<=a->a<n->f a=0)
theorem iQ.skip{f:Nat->Int}{n:Nat}{z:Int}(h:iQ f i n z)(e:f n=0):iQ f i (n+1) z:=by
 rcases h with⟨p,c,j,q,m,k,o⟩|⟨c,j⟩
 .refine .inl ⟨p,c,by omega,q,m,λa d l g=>?_,o⟩;by_cases b:a=n
  .subst b;exact absurd e g
  .exact k a d (by omega) g
 .refine .inr ⟨c,λa d l=>?_⟩;by_cases b:a=n
  .subst b;exact e
  .exact j a d (by omega)
theorem iQ.first{f:Nat->Int}{n:Nat}(k:i<=n)(h:iQ f i n (-1))(g:f n≠0):iQ f i (n+1) n:=by
 rcases h with⟨q,o,c,r,m,l,p⟩|⟨-,c⟩
 .omega
 .refine .inl ⟨n,k,by omega,rfl,g,λa d e b=>?_,λa d e b=>absurd (c a d e) b⟩;by_cases j:a=n
  .subst j;exact c_
  .exact absurd (c a d (by omega)) b
theorem iQ.less{f:Nat->Int}{n i:Nat}(m:j<=n)(h:iQ f j n i)(k:f n≠0)(r:(f n).natAbs<(f i).natAbs):iQ f j (n+1) n:=by
 rcases h with⟨p,l,s,u,q,d,t⟩|⟨l,-⟩
 .have o:p=i:=by omega
  subst o;refine .inl ⟨n,m,by omega,rfl,k,λa c e b=>?_,λa c e b=>?_⟩
  .by_cases g:a=n
   .subst g;exact c_
   .have:=d a c (by omega) b;omega
  .have:=d a c e b;omega
 .omega
theorem iQ.more{f:Nat->Int}{n i:Nat}(h:iQ f j n i)(q:¬(f n).natAbs<(f i).natAbs):iQ f j (n+1) i:=by
 rcases h with⟨c,b,r,s,e,d,o⟩|⟨b,-⟩
 .have l:c=i:=by omega
  subst l;refine .inl ⟨c,b,by omega,rfl,e,λa m p k=>?_,o⟩;by_cases g:a=n
  .subst g;omega
  .exact d a m (by omega) k
 .omega
theorem uy{v:Value}{r c h k:Nat}{zs:List Int}{L:Nat}{w:World}(ab:i_ w v r c zs L)(ac:h<c)(aD:k<=r):Calls Tryz.prog 93 #[v,.int .i64 h,.int .i64 k] w λP d=>∃f:Int,P=.returned (.int .i64 f)/\iQ (λb=>e_ c zs b h) k r f/\Below w.heap.size w d:=by
 have J:=a_ ab;obtain⟨aK,aR,aI,rfl,X⟩:=ab;obtain⟨E,I,rfl,-⟩:=X.shape;clear X;obtain⟨F,ag⟩:=hQ (r*c);rw[<-ag]at J|-;clear ag;go_in;go_wp2_with fail;obtain⟨q,C⟩:=hQ (w.alloc (.cells #[.int .i64 r,.int .i64 c,.slice E F I] 66));have U:Below w.heap.size w q:=by rw[C];exact hS
 have af:jk q w.heap.size (.int .i64 r) (.int .i64 c) (.slice E F I):=by rw[C];exact⟨fa _ _ _ _ _ rfl rfl,fa _ _ _ _ _ rfl rfl,fa _ _ _ _ _ rfl rfl⟩
 have T:q.heap.size=w.heap.size+1:=by rw[C];simp
 rw[<-C];have s:=b_ af U;clear af U C;go_loopw [7,8] (λaB b wr=>∃(a:Nat) (f:Int),k<=a/\a<=r/\b=.int .i64 a/\aB=.int .i64 f/\f_ (Below q.heap.size q wr/\iQ (λb=>e_ c zs b h) k a f)) (λ_ b _=>r-(intOf b).toNat)
 case atStart=>exact⟨k,-1,c_,aD,rfl,rfl,a_ ⟨hP,.inr ⟨rfl,λa ay ao=>by omega⟩⟩⟩
 case round=>
  obtain⟨a,f,ad,aH,rfl,rfl,e⟩:=hrel;have Z:Below w.heap.size w wr:=s.i.trans (e.f.mono (by omega));obtain⟨am,ai,an⟩:=s.f.later e.f;have aj:=e.f.size;have S:=a_ Z;clear Z;by_cases ak:a<r
  .have ah:(a:Int)<(r:Int):=by omega
   go_wp2_with fail;go_fit (jy (J.e.below S.e) ak ac);rintro P i⟨aJ,rfl,R,O⟩;obtain⟨t,y,p,B,rfl⟩:=R.shape;have av:=O.size;have G:=hU i (.cells #[.bool t,.slice y p B] 79);have N:=iw.new i (.bool t) (.slice y p B) rfl;obtain⟨aw,H⟩:=hQ (i.alloc (.cells #[.bool t,.slice y p B] 79));have aQ:aw.heap.size=i.heap.size+1:=by rw[H];simp
   rw[<-H]at G N;have z:=hY (R.below G) (O.trans (G.mono av)) N H;clear R O G N H am ai an;go_wp2_with fail;rw[<-z.o];go_fit (n_ z.f);rintro P j⟨rfl,x⟩;have M:Below wr.heap.size wr j:=z.g.trans (x.mono (by omega));have aG:=x.size;have g:=hY (e.f.trans (M.mono aj)) (S.e.trans (M.mono (by omega))) (z.f.below x) (z.j.below x (by omega));clear x M;by_cases n:zs.getD (a*c+h) 0=0
   .have D:=a_ n;have u:decide (zs.getD (a*c+h) 0=0)=true:=jm n;rw[u];clear n u;go_wp2;go_roundw;exact⟨a+1,f,by omega,by omega,by go_num,rfl,a_ ⟨g.f,e.i.skip D.e⟩⟩;simp[intOf];omega
   .have D:=a_ n;have u:decide (zs.getD (a*c+h) 0=0)=false:=ic n;rw[u];clear n u;by_cases T:f<0
    .have aC:f=-1:=by rcases e.i with⟨b,_,_,m,_⟩|⟨m,_⟩<;>omega
     subst aC;clear T;go_wp2_with fail;go_quiet (fail);all_goals
      go_wp2;go_roundw;exact⟨a+1,a,by omega,by omega,by go_num,rfl,a_ ⟨im g.f _,e.i.first ad D.e⟩⟩;simp[intOf];omega
    .obtain⟨b,rfl⟩:=nV (show 0<=f by omega);have W:k<=b/\b<a:=by rcases e.i with⟨aE,ay,ao,m,_⟩|⟨m,_⟩<;>omega
     obtain⟨W,aL⟩:=W;have ar:b<r:=by omega
     have au:=a_ (show∀d,Below j.heap.size j d->d.cell? ⟨w.heap.size,0,none⟩=some (.int .i64 r)/\d.cell? ⟨w.heap.size,1,none⟩=some (.int .i64 c)/\d.cell? ⟨w.heap.size,2,none⟩=some (.slice E F I)/\d.cell? ⟨i.heap.size,0,none⟩=some (.bool t)/\d.cell? ⟨i.heap.size,1,none⟩=some (.slice y p B)from λd A=>⟨((s.f.later g.f).later A).1,((s.f.later g.f).later A).2.1,((s.f.later g.f).later A).2.2,g_ A g.o.cells.1,g_ A g.o.cells.2.1⟩);have aP:¬((b:Int)<0):=by omega
     obtain⟨al,l⟩:=hQ (decide ((zs.getD (a*c+h) 0).natAbs<(zs.getD (b*c+h) 0).natAbs));have o:=a_ l;clear l;go_wp2_with fail;go_region_held3 (λd=>d.cell? ⟨w.heap.size,0,none⟩=some (.int .i64 r)/\d.cell? ⟨w.heap.size,1,none⟩=some (.int .i64 c)/\d.cell? ⟨w.heap.size,2,none⟩=some (.slice E F I)/\d.cell? ⟨i.heap.size,0,none⟩=some (.bool t)/\d.cell? ⟨i.heap.size,1,none⟩=some (.slice y p B)) (exact au.e _ (by first|exact hbW7|exact hbW6|exact hP.drew)) (first
       |(go_at_call 64;refine(jy (J.e.below (g.g.drew)) ar ac).mono ?_;rintro ax az⟨aM,rfl,Q,aa⟩;obtain⟨aO,aF,aN,aS,rfl⟩:=Q.shape;have hbW6:Below j.heap.size j az:=(hP.drew).trans aa;clear aa)
       |(go_at_call 132;refine(oX (g.j.below hbW6) Q).mono ?_;rintro ax aA⟨rfl,Y⟩;rw[<-o.e];have hbW7:Below j.heap.size j aA:=d_ hbW6 Y;clear Y))
     have aq:decide ((b:Int)<0)=false:=ic (by omega);simp only[aq];have ae:=a_ (g.f.trans (hbW7.mono (by omega)));clear hbW7 hbW6 Q
     cases l:al
     case true=>
      have K:=a_ (yO (o.e.symm.trans l));clear l o;go_wp2;go_roundw;exact⟨a+1,a,by omega,by omega,by go_num,rfl,a_ ⟨ae.e,e.i.less ad D.e K.e⟩⟩;simp[intOf];omega
     case false=>
      have K:=a_ (t_ (o.e.symm.trans l));clear l o;go_wp2;go_roundw;exact⟨a+1,b,by omega,by omega,by go_num,rfl,a_ ⟨ae.e,e.i.more K.e⟩⟩;simp[intOf];omega
  .have ah:¬(a:Int)<(r:Int):=by omega
   have V:a=r:=by omega
   have ap:=a_ V;clear V;go_wp2;go_ret;refine⟨_,rfl,?_,S.e⟩;have m:=e.i;rw[ap.e]at m;exact m
def C0(f:Nat->Int)(n:Nat)(z:Int):Prop:=(∃b,b<n/\z=(b:Int)/\f b≠0/\∀a,a<b->f a=0)\/(z=-1/\∀a,a<n->f a=0)
theorem qq{v:Value}{r c row:Nat}{zs:List Int}{L:Nat}{w:World}(z:i_ w v r c zs L)(K:row<r):Calls Tryz.prog 124 #[v,.int .i64 row] w λj P=>∃F:Int,j=.returned (.int .i64 F)/\C0 (λN=>e_ c zs row N) c F/\Below w.heap.size w P:=by
 have o:=a_ z;obtain⟨R,Y,aa,rfl,G⟩:=z;obtain⟨q,H,rfl,-⟩:=G.shape;clear G;obtain⟨C,E⟩:=hQ (r*c);rw[<-E]at o|-;clear E;go_in;go_wp2_with fail;obtain⟨f,h⟩:=hQ (w.alloc (.cells #[.int .i64 r,.int .i64 c,.slice q C H] 66));have x:Below w.heap.size w f:=by rw[h];exact hS
 have s:jk f w.heap.size (.int .i64 r) (.int .i64 c) (.slice q C H):=by rw[h];exact⟨fa _ _ _ _ _ rfl rfl,fa _ _ _ _ _ rfl rfl,fa _ _ _ _ _ rfl rfl⟩
 have S:f.heap.size=w.heap.size+1:=by rw[h];simp
 rw[<-h];have p:=b_ s x;clear s x h;go_loopw [5] (λb wr=>∃a:Nat,a<=c/\b=.int .i64 a/\f_ (Below f.heap.size f wr/\∀b,b<a->e_ c zs row b=0)) (λb _=>c-(intOf b).toNat)
 case atStart=>exact⟨0,hR,rfl,a_ ⟨hP,λb D=>by omega⟩⟩
 case round=>
  obtain⟨a,V,rfl,d⟩:=hrel;have u:Below w.heap.size w wr:=p.i.trans (d.f.mono (by omega));obtain⟨ac,T,U⟩:=p.f.later d.f;have J:=d.f.size;have m:=a_ u;clear u;by_cases A:a<c
  .have I:(a:Int)<(c:Int):=by omega
   go_wp2_with fail;go_fit (jy (o.e.below m.e) K A);rintro j W⟨ae,rfl,n,i⟩;obtain⟨Z,X,ad,ab,rfl⟩:=n.shape;have t:=b_ n i;have M:=i.size;clear n i;go_wp2_with fail;go_fit (n_ t.f);rintro j Q⟨rfl,B⟩;have l:Below wr.heap.size wr Q:=t.i.trans (B.mono M);have y:=b_ (d.f.trans (l.mono J)) (m.e.trans (l.mono (by omega)));clear B l;by_cases e:zs.getD (row*c+a) 0=0
   .have k:=a_ e;have g:decide (zs.getD (row*c+a) 0=0)=true:=jm e;rw[g];clear e g;go_wp2;go_roundw
    .refine⟨a+1,by omega,by go_num,a_ ⟨y.f,λb D=>?_⟩⟩;by_cases O:b=a
     .rw[O];exact k.e
     .exact d.i b (by omega)
    simp[intOf];omega
   .have k:=a_ e;have g:decide (zs.getD (row*c+a) 0=0)=false:=ic e;rw[g];clear e g;go_wp2;go_ret;exact⟨_,rfl,.inl ⟨a,A,rfl,k.e,d.i⟩,y.i⟩
  .have I:¬(a:Int)<(c:Int):=by omega
   go_wp2;go_ret;exact⟨_,rfl,.inr ⟨rfl,λb D=>d.i b (by omega)⟩,m.e⟩
def wj(f:Nat->Nat->Int)(a b:Nat)(z:Int)(i j:Nat):Int:=if i=a then f a j-f b j*z else f i j
def KO(f:Nat->Nat->Int)(a b:Nat)(z:Int)(i j:Nat):Int:=if j=b then f i b-f i a*(-z)else f i j
theorem EE{B p r c k a b:Nat}{L M:Nat}{x:Value}{z:Int}{w:World}(h:jr w B p i j l r c k e f g L)(an:jE w x z M)(ac:L<=200000000)(ai:M<=200000000)(ab:a<r)(ak:b<r)(al:a≠b):Calls Tryz.prog 136 #[.pointer (some ⟨p,0,none⟩),.int .i64 a,.int .i64 b,x] w λd s=>d=.returned (.tuple #[])/\yc w s B p i j l r c k (wj (e_ c e) a b z) (wj (e_ r f) a b z) (KO (e_ r g) a b z) (L+M+1):=by
 have m:=hO h (h.mono (show L<=L+M+1 by omega)) an;obtain⟨F,H,D,G,rfl⟩:=an.shape;clear h an;go_in;go_wp2_with fail;have I:=hU w (.cells #[.bool F,.slice H D G] 79);have ag:=iw.new w (.bool F) (.slice H D G) rfl;obtain⟨v,u⟩:=hQ (w.alloc (.cells #[.bool F,.slice H D G] 79));rw[<-u]at I ag|-;have aL:v.heap.size=w.heap.size+1:=by rw[u];simp
 have aT:=m.f.ble;have q:=iu (m.f.later I) (m.g.later I) (m.l.below I) ag I;clear I ag u;have aM:=m.f.H.Be;have aU:=m.f.U.Be;have aN:=m.f.W.Be;have aB:=a_ q.m.cells;have A:Below v.heap.size v v.drew:=hP.drew;go_region_held3 (λs=>s.cell? ⟨w.heap.size,0,none⟩=some (.bool F)/\s.cell? ⟨w.heap.size,1,none⟩=some (.slice H D G)) (first|exact hS1|exact⟨aB.f,aB.g⟩) (first|(go_at_call 108;refine(lK (q.f.H.later A) (q.j.below A) ac ai m.f.d1 ab ak al).mono ?_;rintro d n⟨rfl,⟨aH,az,av⟩,C⟩;have U:iw n w.heap.size (.bool F) (.slice H D G):=(C.block _ (show w.heap.size<v.heap.size by omega) (λd=>by injection d with d;omega)).trans q.m;have hS1:=oB U.cells.1 U.cells.2.1));obtain⟨ar,aD⟩:=(q.g.later A).Jx az C;have Y:KU v.drew n:=KU.N C (q.f.H.later A).kA.ty (by decide);have aE:iT n p 3 j r r f L:=(q.f.U.later A).other C Y m.f.d1 (λd=>m.f.d4 d.symm);have u:iT n p 6 l r r g L:=(q.f.W.later A).other C Y m.f.d1 (λd=>m.f.d5 d.symm);have aQ:v.heap.size<=n.heap.size:=C.size;have o:=kM ar aD av ((q.j.below A).hV Y) aE u U;have E:Below n.heap.size n n.drew:=hP.drew;clear az av C ar aD Y U aE u hS1;go_wp2_with fail;go_region_held3 (λs=>s.cell? ⟨w.heap.size,0,none⟩=some (.bool F)/\s.cell? ⟨w.heap.size,1,none⟩=some (.slice H D G)) (first|exact hS2|exact⟨o.C.cells.1,o.C.cells.2.1⟩) (first|(go_at_call 108;refine(lK (o.r.later E) (o.m.below E) ac ai m.f.d2 ab ak al).mono ?_;rintro d K⟨rfl,⟨aI,aw,ay⟩,J⟩;have am:iw K w.heap.size (.bool F) (.slice H D G):=(J.block _ (show w.heap.size<n.heap.size by omega) (λd=>by injection d with d;omega)).trans o.C;have hS2:=oB am.cells.1 am.cells.2.1));obtain⟨ap,aq⟩:=(o.f.later E).I0 aw J;have af:KU n.drew K:=KU.N J (o.f.later E).U.kA.ty (by decide);have u:iT K p 6 l r r g L:=(o.y.later E).other J af m.f.d2 (λd=>m.f.d6 d.symm);obtain⟨aJ,aG⟩:=hS2;have aP:n.heap.size<=K.heap.size:=J.size;have ax:jv v K i j l:=((jv.I _ _ _ A).trans o.g).trans ((jv.I _ _ _ E).trans aq);have O:=iu ap ax ay ((o.m.below E).hV af) u;clear aw ay J ap aq af am u ax;go_wp2_with fail;go_fit (nA O.m);rintro d t⟨aO,rfl,ad,ae⟩;obtain⟨N,T,P,Q,rfl⟩:=ad.shape;have W:=hU t (.cells #[.bool N,.slice T P Q] 79);have R:=d_ ae W;have aa:=iw.new t (.bool N) (.slice T P Q) rfl;obtain⟨S,X⟩:=hQ (t.alloc (.cells #[.bool N,.slice T P Q] 79));have aS:S.heap.size=t.heap.size+1:=by rw[X];simp
 rw[<-X]at W R aa;have aR:K.heap.size<=t.heap.size:=ae.size;have y:=ju (ad.below W) (O.f.later R) (O.g.trans (jv.I _ _ _ R)) (O.x.later R) aa X;have V:Below S.heap.size S S.drew:=hP.drew;clear ad ae W R aJ aG aa X;go_wp2_with fail;rw[<-y.z];go_region_held3 (λs=>s.cell? ⟨t.heap.size,0,none⟩=some (.bool N)/\s.cell? ⟨t.heap.size,1,none⟩=some (.slice T P Q)) (first|exact hS4|exact⟨y.r.cells.1,y.r.cells.2.1⟩) (first|(go_at_call 107;refine(qo (y.m.later V) (y.f.below V) ac ai m.f.d3 ak ab (λd=>al d.symm)).mono ?_;rintro d aF⟨rfl,⟨aK,ao,aC⟩,Z⟩;have ah:iw aF t.heap.size (.bool N) (.slice T P Q):=(Z.block _ (show t.heap.size<S.heap.size by omega) (λd=>by injection d with d;omega)).trans y.r;have hS4:=oB ah.cells.1 ah.cells.2.1));obtain⟨aA,au⟩:=(y.g.later V).tQ ao Z;have aj:=hO aA (((jv.I _ _ _ q.x).trans y.j).trans ((jv.I _ _ _ V).trans au)) aC;clear ao aC Z aA au hS4 ah;go_wp2;go_end0;exact⟨rfl,aH,aI,aK,aj.f,aj.g,o.j,O.j,aj.l⟩
theorem u9(x y:Int):(x.fdiv y).natAbs<=x.natAbs:=by
 by_cases c:y=0
 .subst c;simp
 .by_cases e:(x<0↔y<0)
  .rw[tU (by omega),nc];exact Nat.div_le_self _ _
  .rw[z1 c (by omega),x8,nc];have b:0<y.natAbs:=by omega
   have f:=kY x.natAbs y.natAbs;have g:=mQ x.natAbs b;generalize d:x.natAbs/y.natAbs=a at*;split
   .rw[<-d];exact Nat.div_le_self _ _
   .have h:a*1<=y.natAbs*a:=by rw[ij a 1];exact jo a b
    omega
def qj(first:Nat)(q f:Nat->Int):Nat->Int
 |0=>0
 |a+1=>qj first q f a+(if first<=a then f a*q a else 0)
theorem sz{first:Nat}{q f:Nat->Int}{Q X:Nat}(n:Nat)(e:∀a,first<=a->a<n->(q a).natAbs<=Q)(d:∀a,first<=a->a<n->(f a).natAbs<=X):(qj first q f n).natAbs<=(n-first)*(Q*X):=by
 induction n with
 |zero=>simp[qj]
 |succ n h=>
  rw[qj];have i:=h (λa c g=>e a c (by omega)) (λa c g=>d a c (by omega));by_cases b:first<=n
  .rw[if_pos b];have j:(f n*q n).natAbs<=Q*X:=by rw[np,ij Q X];exact jR (d n b (by omega)) (e n b (by omega))
   have k:(n+1-first)*(Q*X)=(n-first)*(Q*X)+Q*X:=by rw[show n+1-first=n-first+1 from by omega,jV,j7]
   have:=wV (qj first q f n) (f n*q n);omega
  .rw[if_neg b,Int.add_zero];refine iy i (jo _ (by omega))
def nP(f:Nat->Nat->Int)(q:Nat->Int)(first e p:Nat)(i j:Nat):Int:=if first<=i/\i<e then f i j-f p j*q i else f i j
def u3(f:Nat->Nat->Int)(q:Nat->Int)(first e p:Nat)(i j:Nat):Int:=if j=p then f i p+qj first q (f i) e else f i j
theorem sK{f:Nat->Nat->Int}{q:Nat->Int}{first e p:Nat}(d:first<=e)(c:¬(first<=p/\p<e+1))(i j:Nat):wj (nP f q first e p) e p (q e) i j=nP f q first (e+1) p i j:=by
 unfold wj nP;by_cases b:i=e
 .subst b;rw[if_pos rfl,if_neg (by omega),if_neg (by omega),if_pos (by omega)]
 .rw[if_neg b];by_cases a:first<=i/\i<e
  .rw[if_pos a,if_pos (by omega)]
  .rw[if_neg a,if_neg (by omega)]
theorem A4{f:Nat->Nat->Int}{q:Nat->Int}{first e p:Nat}(c:first<=e)(b:e≠p)(i j:Nat):KO (u3 f q first e p) e p (q e) i j=u3 f q first (e+1) p i j:=by
 unfold KO u3;by_cases a:j=p
 .rw[if_pos a,if_pos a,if_pos rfl,if_neg b,qj,if_pos c];grind
 .rw[if_neg a,if_neg a,if_neg a]
theorem Iz(L:Nat):4294967296^(2*L+1)=4294967296*(4294967296^L*4294967296^L):=by
 rw[show 2*L+1=L+L+1 from by omega,jx,kg,ij]
theorem FQ{f:Nat->Nat->Int}{q:Nat->Int}{first e p L i j:Nat}(c:(f i j).natAbs<4294967296^L)(d:(f p j).natAbs<4294967296^L)(g:(q i).natAbs<4294967296^L):(nP f q first e p i j).natAbs<4294967296^(2*L+1):=by
 rw[Iz];generalize 4294967296^L=a at*;have h:a*1<=a*a:=jJ a (by omega);unfold nP;split
 .have k:(f p j*q i).natAbs<=a*a:=by rw[np];exact jR (by omega) (by omega)
  have:=wZ (f i j) (f p j*q i);generalize a*a=b at*;omega
 .generalize a*a=b at*;omega
theorem IV{f:Nat->Nat->Int}{q:Nat->Int}{first e p L i j:Nat}(l:e<=99)(g:∀b,b<e->(f i b).natAbs<4294967296^L)(n:(f i j).natAbs<4294967296^L)(h:∀b,b<e->(q b).natAbs<4294967296^L):(u3 f q first e p i j).natAbs<4294967296^(2*L+1):=by
 rw[Iz];generalize 4294967296^L=a at*;have o:a*1<=a*a:=jJ a (by omega);unfold u3;split
 .rename_i d;subst d;have r:=sz (first:=first) (q:=q) (f:=f i) (Q:=a) (X:=a) e (λb _ c=>by have:=h b c;omega) (λb _ c=>by have:=g b c;omega);have m:(e-first)*(a*a)<=99*(a*a):=jo _ (by omega);have:=wV (f i j) (qj first q (f i) e);generalize a*a=k at*;omega
 .generalize a*a=k at*;omega
theorem rW{B s N ae af r c k first m p j:Nat}{n V A:List Int}{L:Nat}{w:World}(h:jr w B s N ae af r c k n V A L)(bs:L<=60000000)(a8:first<=m)(bK:m<=r)(E:p<r)(bv:¬(first<=p/\p<m))(T:j<c){q:Nat->Int}(aX:q=λa=>(e_ c n a j).fdiv (e_ c n p j)):Calls Tryz.prog 95 #[.pointer (some ⟨s,0,none⟩),.int .i64 first,.int .i64 m,.int .i64 p,.int .i64 j] w λd i=>d=.returned (.tuple #[])/\yc w i B s N ae af r c k (nP (e_ c n) q first m p) (nP (e_ r V) q first m p) (u3 (e_ r A) q first m p) (2*L+1):=by
 have u:=a_ h;have aP:=a_ aX;have bA:=h.H.hr;have bH:=h.H.hc;obtain⟨ao,ak,aq⟩:=h.H.lX;have bu:=h.H.vf;clear h aX;go_in;go_wp2_with fail;go_fit (jy u.e.H.sv E T);rintro d x⟨bp,rfl,ax,am⟩;obtain⟨I,J,S,W,rfl⟩:=ax.shape;have ai:=hU x (.cells #[.bool I,.slice J S W] 79);have al:=iw.new x (.bool I) (.slice J S W) rfl;obtain⟨aB,ab⟩:=hQ (x.alloc (.cells #[.bool I,.slice J S W] 79));rw[<-ab]at ai al;have o:aB.heap.size=x.heap.size+1:=by rw[ab];simp
 have bl:=am.size;have ar:=am.trans (ai.mono bl);have bJ:=u.e.ble;have M:=iu (u.e.later ar) (ax.below ai) al ar ab;clear ax am ai al ab ar ao ak aq;go_wp2_with fail;rw[<-M.x];have bI:=u.e.H.Be;have br:=u.e.U.Be;have bE:=u.e.W.Be;have az:∀a b,a<r->b<c->(e_ c n a b).natAbs<4294967296^L:=λa b g e=>(u.e.H.has g e).lt;have aN:∀a b,a<r->b<r->(e_ r V a b).natAbs<4294967296^L:=λa b g e=>(u.e.U.has g e).lt;have aK:∀a b,a<r->b<r->(e_ r A a b).natAbs<4294967296^L:=λa b g e=>(u.e.W.has g e).lt;have a3:∀a,a<r->(q a).natAbs<4294967296^L:=λa g=>by
  rw[aP.e];exact Dk (u9 _ _) (az a j g T)
 have aJ:=hY az aN aK a3;clear az aN aK a3;go_loopw [11] (λa wr=>∃(d:Nat) (o ac ag:List Int),first<=d/\d<=m/\a=.int .i64 d/\f_ (jr wr B s N ae af r c k o ac ag (2*L+1)/\jv aB wr N ae af/\(∀a b,a<r->b<c->e_ c o a b=nP (e_ c n) q first d p a b)/\(∀a b,a<r->b<r->e_ r ac a b=nP (e_ r V) q first d p a b)/\(∀a b,a<r->b<r->e_ r ag a b=u3 (e_ r A) q first d p a b))) (λa _=>m-(intOf a).toNat)
 case atStart=>
  refine⟨first,n,V,A,c_,a8,rfl,a_ ⟨M.f.mono (by omega),jv.refl _ _ _ _,λa b _ _=>?_,λa b _ _=>?_,λa b _ _=>?_⟩⟩
  .unfold nP;rw[if_neg (by omega)]
  .unfold nP;rw[if_neg (by omega)]
  .unfold u3;split
   .rename_i e;subst e;have:qj first q (e_ r A a) first=0:=by
     have:=sz (first:=first) (q:=q) (f:=e_ r A a) (Q:=0) (X:=0) first (λk _ _=>by omega) (λk _ _=>by omega)
     omega
    omega
   .rfl
 case round=>
  obtain⟨d,o,ac,ag,aw,bz,rfl,l⟩:=hrel;obtain⟨ao,ak,aq⟩:=l.f.H.lX;have bq:=l.g.size;have bo:=l.f.H.vf;have aR:iw wr x.heap.size (.bool I) (.slice J S W):=(l.g.block _ (by omega) (by omega) (by omega) (by omega)).trans M.j;have aY:=M.g.hV (M.f.ku l.g);have aa:=b_ aR aY;clear aR aY;by_cases bC:d<m
  .have a9:(d:Int)<(m:Int):=by omega
   have z:d<r:=by omega
   have aO:d≠p:=by omega
   have av:f_ (Has (o.getD (d*c+j) 0) L/\o.getD (d*c+j) 0=e_ c n d j):=a_ (by
    have C:=l.j d j z T;unfold nP at C;rw[if_neg (by omega)]at C;have H:o.getD (d*c+j) 0=e_ c n d j:=C;rw[H];exact⟨u.e.H.has z T,rfl⟩)
   have bg:=a_ (show∀i,Below wr.heap.size wr i->i.cell? ⟨s,0,none⟩=some (.int .i64 r)/\i.cell? ⟨s,1,none⟩=some (.int .i64 c)/\i.cell? ⟨s,2,none⟩=some (.slice (some ⟨N,0,none⟩) (r*c) (r*c))/\i.cell? ⟨x.heap.size,0,none⟩=some (.bool I)/\i.cell? ⟨x.heap.size,1,none⟩=some (.slice J S W)from λi Z=>⟨(l.f.H.lX.later Z).1,(l.f.H.lX.later Z).2.1,(l.f.H.lX.later Z).2.2,g_ Z aa.f.cells.1,g_ Z aa.f.cells.2.1⟩);have U:L<=400000000:=by omega
   go_upto_region 4 with fail
   go_cut [12]from 26 to 35 (λba a5=>px wr ((o.getD (d*c+j) 0).fdiv (n.getD (p*c+j) 0)) (L+1) ba a5)
   case first=>
    go_region_held3 (λi=>i.cell? ⟨s,0,none⟩=some (.int .i64 r)/\i.cell? ⟨s,1,none⟩=some (.int .i64 c)/\i.cell? ⟨s,2,none⟩=some (.slice (some ⟨N,0,none⟩) (r*c) (r*c))/\i.cell? ⟨x.heap.size,0,none⟩=some (.bool I)/\i.cell? ⟨x.heap.size,1,none⟩=some (.slice J S W)) (exact bg.e _ (by first|exact hbW6|exact hbW6.alloc hbW6.size _|exact(hbW6.setCell c_ _).setCell c_ _|exact(hbW6.setCell hw5s _).setCell hw5s _|exact hbW5|exact hbW5.alloc hbW5.size _|exact hP.drew|exact(hS).drew)) (first
      |(go_at_call 64;refine(jy (l.f.H.sv.below (hP.drew)) z T).mono ?_;rintro Y y⟨bk,rfl,t,O⟩;replace t:=av.f.mE t;obtain⟨be,bc,bm,bi,rfl⟩:=t.shape;have hbW5:Below wr.heap.size wr y:=(hP.drew).trans O;clear O)
      |(go_at_call 64;refine(jy (l.f.H.sv.below ((hS).drew)) z T).mono ?_;rintro Y y⟨bk,rfl,t,O⟩;replace t:=av.f.mE t;obtain⟨be,bc,bm,bi,rfl⟩:=t.shape;have hbW5:Below wr.heap.size wr y:=((hS).drew).trans (O.mono (by simp));have a0:iw y wr.heap.size (.bool false) (.slice none 0 0):=iw.below (iw.drew (iw.jg wr)) O (by simp);clear O)
      |(go_at_call 135;refine(nQ t (aa.i.below hbW5) U U).mono ?_;rintro Y G⟨aQ,rfl,D,v⟩;obtain⟨aV,aD,aU,a1,rfl⟩:=D.shape;have hbW6:Below wr.heap.size wr G:=d_ hbW5 v;have F:iw G wr.heap.size (.bool false) (.slice none 0 0):=a0.below v (jt.1 a0).1;have a6:=F.cells;clear v)
      |(go_at_call 135;refine(nQ t (aa.i.below hbW5) U U).mono ?_;rintro Y G⟨aQ,rfl,D,v⟩;obtain⟨aV,aD,aU,a1,rfl⟩:=D.shape;have hbW6:Below wr.heap.size wr G:=d_ hbW5 v;clear v)
      |(go_at_call 135;refine(nQ (t.below (hU y _)) ((aa.i.below hbW5).below (hU y _)) U U).mono ?_;rintro Y G⟨aQ,rfl,D,v⟩;obtain⟨aV,aD,aU,a1,rfl⟩:=D.shape;have hbW6:Below wr.heap.size wr G:=hbW5.trans (((hU y _).trans (v.mono (by simp))).mono hbW5.size);have hw5s:=hbW5.size;have F:iw G y.heap.size (.bool false) (.slice none 0 0):=iw.below (iw.jg y) v (by simp);have a6:=F.cells;clear v))
    all_goals
     go_wp2_with fail;go_meet
     case rel=>
      first
       |exact⟨_,_,_,_,_,rfl,hbW6.size,iw.new _ _ _ rfl,D.below hS,hbW6.alloc hbW6.size _⟩
       |exact⟨_,_,_,_,_,rfl,c_,F.put _ _,D.s_ F _ _,(hbW6.setCell c_ _).setCell c_ _⟩
       |exact⟨_,_,_,_,_,rfl,hw5s,F.put _ _,D.s_ F _ _,(hbW6.setCell hw5s _).setCell hw5s _⟩
   case rest=>
    rename World=>bG;obtain⟨bB,bt,bF,bx,bD,rfl,bw,aC,ay,aE⟩:=hcut;have aA:(o.getD (d*c+j) 0).fdiv (n.getD (p*c+j) 0)=q d:=by rw[av.i,aP.e];rfl
    rw[aA]at ay;have a4:=ay.fit (aJ.o d z);obtain⟨bb,bd,-,-⟩:=aC.cells;have ap:=b_ a4 aE;clear aA ay a4 aC aE ao ak aq;go_wp2_with fail;go_fit (EE (l.f.later ap.i) ap.f (by omega) (by omega) z E aO);rintro Y bn⟨rfl,a2,aW,aL,ad,ah,C,aj,H⟩;have bj:=iu ad ah C aj H;clear ad ah C aj H bb bd;go_wp2;go_roundw
    .obtain⟨ad,ah,C,aj,H⟩:=bj.e;obtain⟨aG,an,P,K,R⟩:=l.e;have aM:∀a b,a<r->b<c->e_ c a2 a b=nP (e_ c n) q first (d+1) p a b:=λa b g e=>by
      rw[C a b g e,<-sK aw (by omega) a b];unfold wj;rw[P d b z e,P p b E e,P a b g e]
     have aF:∀a b,a<r->b<r->e_ r aW a b=nP (e_ r V) q first (d+1) p a b:=λa b g e=>by
      rw[aj a b g e,<-sK aw (by omega) a b];unfold wj;rw[K d b z e,K p b E e,K a b g e]
     have aS:∀a b,a<r->b<r->e_ r aL a b=u3 (e_ r A) q first (d+1) p a b:=λa b g e=>by
      rw[H a b g e,<-A4 aw aO a b];unfold KO;rw[R a p g E,R a d g z,R a b g e]
     obtain⟨aZ,aH,aI,au⟩:=aJ.e;refine⟨d+1,a2,aW,aL,by omega,by omega,by go_num,a_ ⟨ad.fit (λa b g e=>?_) (λa b g e=>?_) (λa b g e=>?_),(an.trans (jv.I _ _ _ ap.i)).trans ah,aM,aF,aS⟩⟩
     .rw[aM a b g e];exact FQ (aZ a b g e) (aZ p b E e) (au a g)
     .rw[aF a b g e];exact FQ (aH a b g e) (aH p b E e) (au a g)
     .rw[aS a b g e];exact IV (by omega) (λk bh=>aI a k g (by omega)) (aI a b g e) (λk bh=>au k (by omega))
    simp[intOf];omega
  .have a9:¬(d:Int)<(m:Int):=by omega
   have aT:d=m:=by omega
   have a7:=a_ aT;clear aT;go_wp2;go_end0;obtain⟨aG,an,P,K,R⟩:=l.e;have bf:=a7.e;rw[bf]at P K R;exact⟨rfl,o,ac,ag,aG,(jv.I _ _ _ M.m).trans an,P,K,R⟩
theorem o3(a b:Nat):(a*b)^4=a^4*b^4:=Nat.mul_pow a b 4
theorem yj{a b:Nat}(h:a<=b):a^4<=b^4:=vH h 4
theorem Gc{s:Nat}(h:2<=s):8*s<=s^4:=by
 have b:2^3<=s^3:=vH h 3;have a:2^3*s<=s^3*s:=jo s b;rw[<-jx]at a;omega
theorem H8{a b d:Nat}(s:b<a)(j:0<b)(hd:d<b)(k:a%b≠0->d<=a%b):(1+7*(a/b))*d^4<=a^4:=by
 have r:=kY a b;have t:1<=a/b:=Nat.div_pos (by omega) j;generalize a/b=c at*;by_cases l:a%b=0
 .have n:2<=c:=by
   rcases iX c 2 with h|h
   .have:c=1:=by omega
    subst this;omega
   .exact h
  have g:c*d<=a:=by
   have:=jJ c (nf hd);rw[ij c b]at this;omega
  have f:=yj g;rw[o3]at f;have i:(1+7*c)*d^4<=c^4*d^4:=jo _ (by have:=Gc n;omega);omega
 .have m:=k l;have q:=mQ a j;generalize a%b=e at*;have g:(c+1)*d<=a:=by
   have f:(c+1)*d<=(c+1)*e:=jJ _ m;have i:c*e<=c*b:=jJ _ (by omega);have o:(c+1)*e=c*e+e:=by rw[jV,j7]
   have p:c*b=b*c:=ij _ _;omega
  have f:=yj g;rw[o3]at f;have i:(1+7*c)*d^4<=(c+1)^4*d^4:=jo _ (by have:=Gc (show 2<=c+1 by omega);omega);omega
def rq(b:Nat->Nat->Int)(t a c i:Nat):Int:=(b (ky t a i) c).fdiv (b (ky t a t) c)
def rz(b c:Nat->Nat->Int)(r t a d i j:Nat):Int:=nP (λi j=>b (ky t a i) j) (rq c t a d) (t+1) r t i j
def I4(W b:Nat->Nat->Int)(r t a c i j:Nat):Int:=u3 (λi j=>W i (ky t a j)) (rq b t a c) (t+1) r t i j
theorem C8(t a:Nat):ky t a t=a:=by unfold ky;rw[if_pos rfl]
theorem ti{t i r:Nat}(b:t<=j)(c:j<r)(d:t<=i)(a:i<r):t<=ky t j i/\ky t j i<r:=by unfold ky;split<;>(try split)<;>omega
theorem HM{t i:Nat}(b:t<=j)(a:i<t):ky t j i=i:=by unfold ky;rw[if_neg (by omega),if_neg (by omega)]
structure Bd (H U W:Nat->Nat->Int) (r c t D KH KU KW:Nat):Prop where
 h:∀i j,t<=i->i<r->j<c->(H i j).natAbs*D<=KH
 u:∀i j,t<=i->i<r->j<r->(U i j).natAbs*D<=KU
 w:∀i j,i<r->j<r->(W i j).natAbs*D<=KW
theorem xM{D K Q m y:Nat}(b:m=K/D)(a:y<=(1+7*Q)*m)(h:(1+7*Q)*i<=D):y*i<=K:=by
 have d:y*i<=(1+7*Q)*m*i:=jo _ a;have e:(1+7*Q)*m*i=m*((1+7*Q)*i):=by rw[ij (1+7*Q) m,jG]
 have f:m*((1+7*Q)*i)<=m*D:=jJ _ h;have c:m*D<=K:=by rw[b];exact Nat.div_mul_le_self K D
 omega
theorem Bd.round{U W:Nat->Nat->Int}{r c t D Q:Nat}(h:Bd A U W r c t D l m n)(V:r<=8)(M:t<=i)(p:i<r)(G:0<D)(F:∀a,t<a->a<r->(rq A t i j a).natAbs<=Q)(H:(1+7*Q)*k<=D):Bd (rz A A r t i j) (rz U A r t i j) (I4 W A r t i j) r c t k l m n:=by
 have J:∀(e:Nat->Nat->Int) (s w:Nat),(∀a b,t<=a->a<r->b<w->(e a b).natAbs*D<=s)->∀a b,t<=a->a<r->b<w->(rz e A r t i j a b).natAbs*k<=s:=by
  intro e s w T a b y C u;have g:∀a b,t<=a->a<r->b<w->(e a b).natAbs<=s/D:=λa b z o x=>(Nat.le_div_iff_mul_le G).2 (T a b z o x);refine xM rfl ?_ H;unfold rz nP;obtain⟨N,P⟩:=ti M p y C;obtain⟨R,S⟩:=ti M p (BL t) (show t<r by omega);have E:=g _ b N P u;have K:=g _ b R S u;generalize s/D=d at*;split
  .rename_i Y;have I:=F a (by omega) C;have Z:(e (ky t i t) b*rq A t i j a).natAbs<=d*Q:=by rw[np];exact jR K I
   have O:=wZ (e (ky t i a) b) (e (ky t i t) b*rq A t i j a);have L:(1+7*Q)*d=d+7*(d*Q):=by rw[jV,j7,jG,ij Q d]
   show(e (ky t i a) b-e (ky t i t) b*rq A t i j a).natAbs<=_;omega
  .have L:(1+7*Q)*d=d+7*(d*Q):=by rw[jV,j7,jG,ij Q d]
   show(e (ky t i a) b).natAbs<=_;omega
 refine⟨J A l c h.h,J U m r h.u,λa b y u=>?_⟩;have g:∀b,b<r->(W a b).natAbs<=n/D:=λb x=>(Nat.le_div_iff_mul_le G).2 (h.w a b y x);refine xM rfl ?_ H;unfold I4 u3;have v:t<r:=by omega
 generalize n/D=d at*;have L:(1+7*Q)*d=d+7*(Q*d):=by rw[jV,j7,jG]
 split
 .have E:=g _ (j2 v p v);have K:=sz (first:=t+1) (q:=rq A t i j) (f:=λb=>W a (ky t i b)) (Q:=Q) (X:=d) r (λB z o=>F B (by omega) o) (λB z o=>g _ (j2 v p o));have I:(r-(t+1))*(Q*d)<=7*(Q*d):=jo _ (by omega);have O:=wV (W a (ky t i t)) (qj (t+1) (rq A t i j) (λb=>W a (ky t i b)) r);show(W a (ky t i t)+qj (t+1) (rq A t i j) (λb=>W a (ky t i b)) r).natAbs<=_;omega
 .have E:=g _ (j2 v p u);show(W a (ky t i b)).natAbs<=_;omega
end Go.Proofs.YtfjbijpagaipnabGreatDoor
