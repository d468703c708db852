import Derived.Test.YtfjbijpagaipnabGreatDoorA02
import Derived.Deep.CutRange
import Derived.Deep.RegionLawGrows
set_option maxRecDepth 100000
set_option maxHeartbeats 8000000
namespace Go.Proofs.YtfjbijpagaipnabGreatDoor
open Go.RowKit
variable{i j k l m n p q r s:Nat}{w v W:World}{x y z:Value}{a b c d:Int}{L K:List UInt8}{t:TypeId}{u:Bool}{O:Option Addr}
def Ib(p:Nat)(s:ByteArray)(a:Nat)(f:Bool)(b:List UInt8)(w d:World)(i:Int):Prop:=(∃c:Nat,c<=99/\i=(c:Int)/\∃e,Rb d p s (a+b.length) e/\(e=false->f=false/\yW b/\iO b=c))/\Fr p w d
theorem Ba{p:Nat}{s:ByteArray}{a:Nat}{q:Bool}{g v:List UInt8}{w:World}(h:Rb w p s a q)(m:mR s a (g++v))(T:s.size<=4000)(hd:B1 g)(z:qa v):Calls Tryz.prog 55 #[.pointer (some ⟨p,0,none⟩)] w λf L=>∃i:Int,f=.returned (.int .i64 i)/\Ib p s a q g w L i:=by
 have K:=a_ h;have F:=a_ m;have u:=a_ hd;have C:=a_ z;have S:g.length<=4000:=by have:=m.app.1;omega
 clear h m hd z;go_in;go_wp2_with fail;go_fit (su K.e F.e (by omega) u.e C.e);rintro f X⟨rfl,⟨G,o,B⟩,x⟩;obtain⟨V,Z,R,Q,O⟩:=o.cells;have e:=hO o x B;clear o x B;obtain⟨c,l⟩:∃c:ByteArray,c=⟨g.toArray⟩:=⟨_,rfl⟩;have y:c.size=g.length:=by rw[l];rfl
 have t:c.data.toList=g:=by rw[l]
 have n:=b_ y t;have Y:c.size<=4000:=by omega
 rw[<-l];clear l y t;go_wp2_with fail;go_loop [4,5] (λI i=>∃b d:Nat,b<=c.size/\i=.int .i64 b/\d<=999/\I=.int .i64 d/\f_ (d=iO (g.take b))) (λ_ i=>c.size-(intOf i).toNat)
 case atStart=>exact⟨0,0,hR,rfl,by omega,rfl,a_ rfl⟩
 case round=>
  obtain⟨b,d,W,rfl,U,rfl,A⟩:=hrel;by_cases j:b<c.size
  .by_cases k:d<=99
   .have M:=Ch (by rw[n.i];exact u.e) b j;obtain⟨aa,P⟩:=M;have r:iO (g.take (b+1))=10*d+((c[b]'j).toNat-48):=by
     have:=rb c b j;rw[n.i]at this;rw[this,A.e]
    have D:=a_ r;have J:10*d+((c[b]'j).toNat-48)<=999:=by omega
    clear r;go_wp2_with fail;go_round
    case rel=>exact⟨b+1,10*d+((c[b]'j).toNat-48),by omega,by go_num,J,by go_num,a_ D.e.symm⟩
    case measure=>simp[intOf];omega
   .have E:decide (d<=99)=false:=by simp;omega
    have H:decide ((d:Int)<=(99:Int))=false:=by simp;omega
    have N:(99:Int)<(d:Int):=by omega
    clear k;go_wp2;go_ret;exact⟨_,rfl,⟨0,by omega,rfl,true,(e.f.fault 0).1,(λf=>by cases f)⟩,e.g.trans (e.f.fault 0).2⟩
  .have E:decide (b<c.size)=false:=by simp;omega
   have H:decide ((b:Int)<(c.size:Int))=false:=by simp;omega
   by_cases k:d<=99
   .go_wp2;go_ret;refine⟨_,rfl,⟨d,k,rfl,G,e.f,λf=>⟨(e.l f).1,(e.l f).2,?_⟩⟩,e.g⟩;have:=A.e;rw[ka (by have:=n.f;omega)]at this;omega
   .have N:(99:Int)<(d:Int):=by omega
    clear k;go_wp2;go_ret;exact⟨_,rfl,⟨0,by omega,rfl,true,(e.f.fault 0).1,(λf=>by cases f)⟩,e.g.trans (e.f.fault 0).2⟩
def JR(p:Nat)(s:ByteArray)(a:Nat)(h:Bool)(d:World)(x:Value):Prop:=∃(f:Int) (c:Nat) (e:Bool),jE d x f 4000/\Rb d p s c e/\c<=s.size/\(e=false->h=false/\∃b g,mR s a (b++g)/\qa g/\Tok b f/\c=a+b.length)
theorem D6{p:Nat}{s:ByteArray}{a:Nat}{A:Bool}{w:World}(h:Rb w p s a A)(an:a<=s.size)(aC:s.size<=4000):Calls Tryz.prog 89 #[.pointer (some ⟨p,0,none⟩)] w λc ae=>∃G,c=.returned G/\JR p s a A ae G/\Fr p w ae:=by
 have ap:=a_ h;have aD:=h.lt;clear h;go_in;go_wp2_with fail;go_fit (@AF p s a A 45 _ (ap.e.below hS) an (by omega));rintro c ae⟨⟨ar,rfl,aq,r⟩,az,rfl⟩;have au:=b_ aq r;clear aq r;obtain⟨ag,P⟩:=hQ ((w.alloc (.cells #[.bool false,.slice none 0 0] 79)).drewN az);have ao:Two ag w.heap.size (.bool false) (.slice none 0 0):=by rw[P];exact Two.new w _ _ rfl
 have aj:Fr p w ag:=by rw[P];exact Fr.I (im hS _)
 have Z:Rb ag p s a A:=by rw[P];exact ap.e.below (im hS _)
 obtain⟨O,Q,K,H,F⟩:=Z.cells;rw[<-P];have o:=hO ao aj Z;clear ao aj Z P
 cases ar
 .obtain⟨b,x,C,N,M⟩:=pt (s.data.toList.drop a);have ah:mR s a (b++x):=⟨an,C⟩;have av:b.length<=s.size:=by have:=ah.app.1;omega
  have d:=hO ah N M;clear C N M ah;go_wp2_with fail;go_fit (@su p s a A b x _ o.l d.f (by omega) d.g d.l);rintro c ax⟨rfl,⟨ac,B,r⟩,u⟩;have S:=o.f.fr u (by omega);have E:=o.g.trans u;have f:=hY S E B r;clear o S u B E r O Q K H F;go_wp2_with fail;go_fit (@kZ ⟨b.toArray⟩ _ (by show b.toArray.size<=4000;simp;omega) (by simpa using d.g));rintro c ab⟨G,rfl,e,i⟩;obtain⟨l,q,m,n,rfl⟩:=e.shape;have j:=f.f.below i;obtain⟨L,U,al,am⟩:=j.cells;have g:=iu j (f.g.trans (Fr.I i)) (f.j.below i) e f.o;clear j e i f;go_wp2_with fail;refine ig (v:=.agg #[.bool l,.slice q m n]) ?_ rfl ?_
  ·(simp[results,Tryz.results89,go_sem,L,U];done)
  .obtain⟨j,R,T,e,J⟩:=g.e;have I:jE ab (.agg #[.bool l,.slice q m n]) (iO b) b.length:=e;refine⟨_,rfl,⟨(iO b:Nat),a+b.length,ac,?_,(T.kU (by omega) _).kU (by omega) _,d.f.app.1,λc=>⟨(J c).1,b,x,d.f,d.l,.inl ⟨(J c).2,rfl⟩,rfl⟩⟩,(R.nU c_ _).nU c_ _⟩;exact(I.hV (KU.setCell (KU.setCell (KU.refl _) j.ty (by decide) _) (j.ty.setCell _ _) (by decide) _)).mono (by omega)
 .obtain⟨ay,ad⟩:=au.f rfl;obtain⟨aB,-,Y⟩:=ad.cons;obtain⟨b,x,C,N,M⟩:=pt ay;rw[C]at Y;have ai:mR s a (45::(b++x)):=by rw[<-C];exact ad
  have av:b.length<=s.size:=by have:=Y.app.1;omega
  have d:=hY Y N M ai;clear C N M ai Y ad;go_wp2_with fail;have X:=o.l.move (z:=(a:Int)+1) (q':=a+1) (by omega) 0;go_fit (@su p s (a+1) A b x _ X.1 d.f (by omega) d.g d.j);rintro c ax⟨rfl,⟨ac,B,r⟩,u⟩;have S:=(o.f.fr X.2 (by omega)).fr u (by omega);have E:=(o.g.trans X.2).trans u;have f:=hY S E B r;clear X O Q K H F;obtain⟨O,Q,K,H,F⟩:=B.cells;clear o S u B E r;by_cases D:b=[48]
  .have aA:(b==[48])=true:=jY.2 D;have ak:=a_ D;clear D;go_wp2_with fail;have V:=f.j.fault 0;have W:=hO (f.f.fr V.2 (by omega)) (f.g.trans V.2) V.1;go_fit (@kZ ⟨b.toArray⟩ _ (by show b.toArray.size<=4000;simp;omega) (by simpa using d.g));rintro c ab⟨G,rfl,e,i⟩;have g:=hY (W.f.below i) (W.g.trans (Fr.I i)) (W.l.below i) e;clear e i f W V O Q K H F;go_wp2_with fail;go_fit (@nA _ _ _ _ g.o);rintro c aa⟨aw,rfl,t,k⟩;obtain⟨l,q,m,n,rfl⟩:=t.shape;have y:=g.f.below k;obtain⟨L,U,al,am⟩:=y.cells;have af:=hY y (g.g.trans (Fr.I k)) (g.j.below k) t;clear y t k g;go_wp2_with fail;refine ig (v:=.agg #[.bool l,.slice q m n]) ?_ rfl ?_
   ·(simp[results,Tryz.results89,go_sem,L,U];done)
   .obtain⟨j,R,T,e⟩:=af.e;have I:jE aa (.agg #[.bool l,.slice q m n]) (-(iO b:Int)) b.length:=e;exact⟨_,rfl,⟨_,_,true,(I.hV (KU.setCell (KU.setCell (KU.refl _) j.ty (by decide) _) (j.ty.setCell _ _) (by decide) _)).mono (by omega),(T.kU (by omega) _).kU (by omega) _,d.f.app.1,(λc=>by cases c)⟩,(R.nU c_ _).nU c_ _⟩
  .have aA:(b==[48])=false:=iK.2 D;have ak:=a_ D;clear D;go_wp2_with fail;go_fit (@kZ ⟨b.toArray⟩ _ (by show b.toArray.size<=4000;simp;omega) (by simpa using d.g));rintro c ab⟨G,rfl,e,i⟩;have g:=iu (f.f.below i) (f.g.trans (Fr.I i)) (f.j.below i) e f.o;clear e i f O Q K H F;go_wp2_with fail;go_fit (@nA _ _ _ _ g.m);rintro c aa⟨aw,rfl,t,k⟩;obtain⟨l,q,m,n,rfl⟩:=t.shape;have y:=g.f.below k;obtain⟨L,U,al,am⟩:=y.cells;have af:=iu y (g.g.trans (Fr.I k)) (g.j.below k) t g.x;clear y t k g;go_wp2_with fail;refine ig (v:=.agg #[.bool l,.slice q m n]) ?_ rfl ?_
   ·(simp[results,Tryz.results89,go_sem,L,U];done)
   .obtain⟨j,R,T,e,J⟩:=af.e;have I:jE aa (.agg #[.bool l,.slice q m n]) (-(iO b:Int)) b.length:=e;exact⟨_,rfl,⟨_,_,ac,(I.hV (KU.setCell (KU.setCell (KU.refl _) j.ty (by decide) _) (j.ty.setCell _ _) (by decide) _)).mono (by omega),(T.kU (by omega) _).kU (by omega) _,d.f.app.1,λc=>⟨(J c).1,45::b,x,d.o,d.j,.inr ⟨b,rfl,(J c).2,ak.e,rfl⟩,by rw[j3];omega⟩⟩,(R.nU c_ _).nU c_ _⟩
theorem sd(c:Nat)(x:List UInt8):∀(b:List (List UInt8)) (a:Nat),iM c a (b++[x])=iM c a b++((if 0<a+b.length/\(a+b.length)%c=0 then[59]else[])++(32::x))
 |[],a=>by simp[iM]
 |d::b,a=>by
  have:=sd c x b (a+1);rw[List.cons_append,iM,iM,this,List.length_cons,show a+1+b.length=a+(b.length+1)from by omega];simp[List.append_assoc]
def lk(r c:Nat)(zs:List Int):List UInt8:=Lib.decDigits r++(120::(Lib.decDigits c++(58::iM c 0 (zs.map Lib.itoa))))
def ph(r c:Nat)(zs:List Int)(n:Nat):List UInt8:=Lib.decDigits r++(120::(Lib.decDigits c++(58::iM c 0 ((zs.take n).map Lib.itoa))))
theorem Cn{r c:Nat}{zs:List Int}{i j:Nat}(h:j<c)(d:i*c+j<zs.length):ph r c zs (i*c+j+1)=ph r c zs (i*c+j)++((if 0<i/\j=0 then[59]else[])++(32::Lib.itoa (zs.getD (i*c+j) 0))):=by
 unfold ph;have g:(zs.take (i*c+j+1)).map Lib.itoa=(zs.take (i*c+j)).map Lib.itoa++[Lib.itoa (zs.getD (i*c+j) 0)]:=by
  rw[List.take_add_one,List.getElem?_eq_getElem d,List.map_append];simp[List.getD,List.getElem?_eq_getElem d]
 rw[g,sd];have e:((zs.take (i*c+j)).map Lib.itoa).length=i*c+j:=by rw[List.length_map,List.length_take];omega
 rw[e,Nat.zero_add];have f:(0<i*c+j/\(i*c+j)%c=0)↔(0<i/\j=0):=by
  rw[show(i*c+j)%c=j from by rw[Nat.mul_comm,Nat.mul_add_mod,Nat.mod_eq_of_lt h]];constructor
  .rintro⟨b,rfl⟩;refine⟨?_,rfl⟩;rcases Nat.eq_zero_or_pos i with a|a
   .subst a;simp at b
   .exact a
  .rintro⟨b,rfl⟩;have:=Nat.mul_le_mul b (Nat.le_refl c);exact⟨by omega,rfl⟩
 simp only[f];simp[List.append_assoc]
theorem Er{r c:Nat}{zs:List Int}{n:Nat}(a:zs.length<=n):ph r c zs n=lk r c zs:=by
 unfold ph lk;rw[ka a]
theorem mO(a b:List UInt8):(⟨a.toArray⟩:ByteArray)++⟨b.toArray⟩=⟨(a++b).toArray⟩:=by
 apply zR;simp[ByteArray.data_append]
theorem pE(n:Nat)(h:n<100):(Lib.decDigits n).length<=2:=by
 by_cases a:n<10
 .rw[Lib.decDigits_one a];simp
 .rw[kI a,Lib.decDigits_one (by omega)];simp
theorem Kk(r c:Nat)(zs:List Int):Value.string ((⟨(Lib.decDigits r).toArray⟩:ByteArray)++⟨#[120]⟩++⟨(Lib.decDigits c).toArray⟩++⟨#[58]⟩)=.string ⟨(ph r c zs 0).toArray⟩:=by
 rw[show(⟨#[120]⟩:ByteArray)=⟨[(120:UInt8)].toArray⟩from rfl,show(⟨#[58]⟩:ByteArray)=⟨[(58:UInt8)].toArray⟩from rfl,mO,mO,mO];simp[ph,iM]
theorem Kc(a D:List UInt8):Value.string ((⟨a.toArray⟩:ByteArray)++(⟨#[32]⟩++⟨D.toArray⟩))=.string ⟨(a++([]++(32::D))).toArray⟩:=by
 rw[show(⟨#[32]⟩:ByteArray)=⟨[(32:UInt8)].toArray⟩from rfl,mO,mO];rfl
theorem Kd(a D:List UInt8):Value.string ((⟨a.toArray⟩:ByteArray)++⟨#[59]⟩++(⟨#[32]⟩++⟨D.toArray⟩))=.string ⟨(a++([59]++(32::D))).toArray⟩:=by
 rw[show(⟨#[32]⟩:ByteArray)=⟨[(32:UInt8)].toArray⟩from rfl,show(⟨#[59]⟩:ByteArray)=⟨[(59:UInt8)].toArray⟩from rfl,mO,mO,mO];simp
theorem JM{s t:List UInt8}(h:s=t):Ending.returned (.string ⟨s.toArray⟩)=.returned (.string ⟨t.toArray⟩):=by rw[h]
theorem oo{r c:Int}{n:Nat}{w:World}:Calls Tryz.prog 85 #[.agg #[.int .i64 r,.int .i64 c,.slice O n i]] w λa b=>a=.returned (.int .i64 r)/\b=w.alloc (.cells #[.int .i64 r,.int .i64 c,.slice O n i] 66):=by
 go_in;go_wp2;go_ret;exact⟨rfl,rfl⟩
theorem oq{r c:Int}{n:Nat}{w:World}:Calls Tryz.prog 84 #[.agg #[.int .i64 r,.int .i64 c,.slice O n i]] w λa b=>a=.returned (.int .i64 c)/\b=w.alloc (.cells #[.int .i64 r,.int .i64 c,.slice O n i] 66):=by
 go_in;go_wp2;go_ret;exact⟨rfl,rfl⟩
theorem Fb{w:World}{v:Value}{z:Int}{L:Nat}(h:jE w v z L)(e:L<=200000000):(Lib.itoa z).length<=2400000001:=by
 obtain⟨j,i,-,b,c,f,-⟩:=h;have g:Lib.nDigits z.natAbs<=2400000000:=by
  rw[<-c];have:=rD b.1;omega
 rcases tV z 0 with d|d
 .have a:z=-((z.natAbs:Nat):Int):=by omega
  rw[a,Lib.itoa_neg _ (by omega),j3,Lib.decDigits_length];omega
 .have a:z=((z.natAbs:Nat):Int):=by omega
  rw[a,Lib.itoa_nonneg,Lib.decDigits_length];omega
def tf(w:World)(b:Nat)(r c:Int)(a:Value):Prop:=w.heap[b]?=some (.cells #[.int .i64 r,.int .i64 c,a] 66 (0,0))
theorem tf.new(w:World)(r c:Int)(a:Value){b:Nat}(d:b=w.heap.size):tf (w.alloc (.cells #[.int .i64 r,.int .i64 c,a] 66)) b r c a:=by rw[d];exact iP w _
theorem tf.below{B:Nat}{w:World}{b:Nat}{r c:Int}(h:tf w b r c x)(a:Below B w v)(d:b<B):tf v b r c x:=by unfold tf;rw[a.block b d];exact h
theorem tf.cells{w:World}{b:Nat}{r c:Int}(h:tf w b r c x):w.cell? ⟨b,0,none⟩=some (.int .i64 r)/\w.cell? ⟨b,1,none⟩=some (.int .i64 c)/\w.cell? ⟨b,2,none⟩=some x/\(∀a,w.frozen? ⟨b,a,none⟩=false):=by
 unfold tf at h;refine⟨?_,?_,?_,λa=>?_⟩<;>simp[World.cell?,World.frozen?,h]
theorem Rb.grown{w:World}{p:Nat}{s:ByteArray}{q:Nat}{row:Option Nat}(h:Rb w p s q u)(a:w.grownBy v row)(c:row≠some p):Rb v p s q u:=by
 unfold Rb;rw[a.block p h.lt (λb=>c b.symm)];exact h
theorem mR.uniq{s:ByteArray}{q:Nat}(h:mR s q L)(a:mR s q K):L=K:=by rw[<-h.2,a.2]
def u0(s:ByteArray)(a c:Nat)(zs:List Int)(q:Nat):Prop:=∃b e,b.length=zs.length/\(∀d,d<zs.length->Tok (b.getD d []) (zs.getD d 0)/\(b.getD d []).length<=4000)/\mR s a (iM c 0 b++e)/\q=a+(iM c 0 b).length
theorem u0.start(s:ByteArray)(a c:Nat)(d:a<=s.size):u0 s a c [] a:=⟨[],s.data.toList.drop a,rfl,(λe b=>absurd b (Nat.not_lt_zero _)),by simpa[iM]using mR.rest s a d,by simp[iM]⟩
theorem u0.next{s:ByteArray}{a c row k q:Nat}{zs:List Int}{z:Int}{u:List UInt8}(h:u0 s a c zs q)(I:s.size<=4000)(C:k<c)(w:zs.length=row*c+k)(d:if 0<row/\k=0 then i=q+1/\∃K,mR s q (59::K)else i=q)(m:mR s i (32::u))(o:mR s (i+1) (L++K))(G:Tok L z):u0 s a c (zs++[z]) (i+1+L.length):=by
 obtain⟨e,v,j,B,l,y⟩:=h;have n:mR s q v:=by rw[y];exact l.app
 have D:L.length<=4000:=by have:=o.app.1;omega
 have t:u=L++K:=by
  obtain⟨_,_,H⟩:=m.cons;exact H.uniq o
 have F:v=(if 0<row/\k=0 then[59]else[])++(32::(L++K)):=by
  by_cases f:0<row/\k=0
  .rw[if_pos f]at d|-;obtain⟨rfl,J,p⟩:=d;obtain⟨_,_,E⟩:=p.cons;rw[n.uniq p,E.uniq m,t];rfl
  .rw[if_neg f]at d|-;subst d;rw[n.uniq m,t];rfl
 have g:=sd c L e 0;rw[jF,j,w]at g;simp only[CY (row:=row) C]at g;refine⟨e++[L],K,by simp[j],λb x=>?_,?_,?_⟩
 .by_cases r:b<zs.length
  .have:=B b r;rw[show(e++[L]).getD b []=e.getD b []from by simp[List.getD,lQ (show b<e.length from by omega)],show(zs++[z]).getD b 0=zs.getD b 0 from by simp[List.getD,lQ r]];exact this
  .have A:b=zs.length:=by simp at x;omega
   subst A;rw[show(e++[L]).getD zs.length []=L from by simp[List.getD,<-j],show(zs++[z]).getD zs.length 0=z from by simp[List.getD]];exact⟨G,D⟩
 .rw[g];rw[F]at l;simpa[sx]using l
 .rw[g];have M:i=q+(if 0<row/\k=0 then[(59:UInt8)]else[]).length:=by
   by_cases f:0<row/\k=0
   .rw[if_pos f]at d|-;exact d.1
   .rw[if_neg f]at d|-;exact d
  simp only[j6,j3];omega
theorem u0.all{s:ByteArray}{a c q:Nat}{zs:List Int}(h:u0 s a c zs q)(k:q=s.size):∃b,b.length=zs.length/\(∀d,d<zs.length->Tok (b.getD d []) (zs.getD d 0)/\(b.getD d []).length<=4000)/\mR s a (iM c 0 b):=by
 obtain⟨b,m,l,i,e,j⟩:=h;refine⟨b,l,i,?_⟩;have f:=e.app;rw[<-j,k]at f;have:m=[]:=by
  have g:=f.2;rw[lA (by simp)]at g;exact g.symm
 rw[this,rV]at e;exact e
def Hb(p:Nat)(s:ByteArray)(a r c:Nat)(g:Bool)(w d:World)(v:Value):Prop:=(∃(b:List Int) (e:Nat) (f:Bool),iA d v b.length b 4000/\Rb d p s e f/\e<=s.size/\(f=false->g=false/\b.length=r*c/\u0 s a c b e))/\Fr p w d
theorem Ap{p:Nat}{s:ByteArray}{a r c:Nat}{A:Bool}{w:World}(h:Rb w p s a A)(aj:a<=s.size)(ax:s.size<=4000)(a6:r<=99)(aQ:c<=99):Calls Tryz.prog 57 #[.pointer (some ⟨p,0,none⟩),.int .i64 r,.int .i64 c] w λf a1=>∃C,f=.returned C/\Hb p s a r c A w a1 C:=by
 have aS:=a_ h;have bd:=h.lt;have ar:r*c<=9801:=jR a6 aQ;have aW:=a_ ar;clear h ar;go_in;go_wp2_with fail;go_loopw [7,8] (λC u wr=>∃(g b d:Nat) (i:List Int) (o:Bool),g<=r/\u=.int .i64 g/\lr w.heap.size wr C d i 4000/\Rb wr p s b o/\b<=s.size/\Fr p w wr/\f_ (i.length=d/\d<=g*c/\(o=false->A=false/\d=g*c/\u0 s a c i b))) (λ_ u _=>r-(intOf u).toNat)
 case atStart=>
  refine⟨0,a,0,[],A,hR,rfl,⟨rfl,[],?_,λu bm=>by omega⟩,aS.e.below hS,aj,Fr.I hS,a_ ⟨rfl,hR,λf=>⟨f,by simp,u0.start s a c aj⟩⟩⟩;have:=uS (base:=w.heap.size) (e:=79) (size:=2) w #[] 0 c_ (by simp[maxLen]) rfl;simpa using this
 case round=>
  rename World=>be;obtain⟨g,b,d,i,o,bh,rfl,L,B,q,J,j⟩:=hrel;have x:=hO L B J;clear L B J;by_cases aN:g<r
  .go_wp2_with fail;go_loopw [7,9] (λC u R=>∃(k b d:Nat) (i:List Int) (o:Bool),k<=c/\u=.int .i64 k/\lr w.heap.size R C d i 4000/\Rb R p s b o/\b<=s.size/\Fr p w R/\f_ (i.length=d/\d<=g*c+k/\(o=false->A=false/\d=g*c+k/\u0 s a c i b))) (λ_ u _=>c-(intOf u).toNat)
   case atStart=>exact⟨0,b,d,i,o,hR,rfl,x.f,x.g,q,x.l,j⟩
   case round=>
    clear x j q;obtain⟨k,b,d,i,o,bl,rfl,L,B,q,J,j⟩:=hrel;obtain⟨a3,aU,aF,aE,aD⟩:=B.cells;have m:=hO L B J;clear L B J;by_cases aB:k<c
    .cases o
     .have bo:d<r*c:=by
       have X:=j.g;have:=jq aN aB;omega
      have bb:d<=9801:=by have:=aW.e;omega
      obtain⟨z,M⟩:=hQ k;have H:=a_ M;have aG:f_ (z<c):=a_ (by rw[M];exact aB);clear M;have a4:g=0\/(0<g/\k=0)\/(0<g/\0<k):=by omega
      rcases a4 with I|⟨I,X⟩|⟨I,X⟩
      case' inl=>
       have a2:decide (0<g)=false:=ic (by omega);have bn:decide ((0:Int)<(g:Int))=false:=ic (by omega);have aJ:=a_ I;clear I;obtain⟨l,t⟩:=hQ b;obtain⟨n,G⟩:∃n:Bool,n=false:=⟨_,rfl⟩;have ae:l<=s.size:=by rw[t];exact q
       have ah:f_ (n=false->if 0<g/\z=0 then l=b+1/\∃E,mR s b (59::E)else l=b):=a_ λ_=>by rw[if_neg (by have:=H.e;have:=aJ.e;omega)];exact t
       have D:f_ (lr w.heap.size wr u7 d i 4000/\Rb wr p s l n/\Fr p w wr):=a_ (by rw[t,G];exact m.e);clear t G;go_wp2_with fail
      case' inr.inl=>
       subst X;go_wp2_with fail;go_fit (@sV p s b false 59 _ m.g q (by omega));rintro f ba⟨rfl,⟨l,n,ak,ae,an⟩,W⟩;have ah:f_ (n=false->if 0<g/\z=0 then l=b+1/\∃E,mR s b (59::E)else l=b):=a_ λf=>by rw[if_pos ⟨I,H.e⟩];exact(an f).2
       have D:=hO (m.f.hV W.2) ak (m.l.trans W);clear ak W an a3 aU aF aE aD;go_wp2_with fail
      case' inr.inr=>
       have a2:((k:Int)==0)=false:=iK.2 (by omega);obtain⟨l,t⟩:=hQ b;obtain⟨n,G⟩:∃n:Bool,n=false:=⟨_,rfl⟩;have ae:l<=s.size:=by rw[t];exact q
       have ah:f_ (n=false->if 0<g/\z=0 then l=b+1/\∃E,mR s b (59::E)else l=b):=a_ λ_=>by rw[if_neg (by have:=H.e;omega)];exact t
       have D:f_ (lr w.heap.size wr u7 d i 4000/\Rb wr p s l n/\Fr p w wr):=a_ (by rw[t,G];exact m.e);clear t G;go_wp2_with fail
      all_goals
       clear m;go_fit (@sV p s l n 32 _ D.g ae (by omega));rintro f bf⟨rfl,⟨aO,a5,aq,aP,av⟩,U⟩;have K:=hY (D.f.hV U.2) aq (D.l.trans U) av;clear aq U av D;go_wp2_with fail;go_fit (@D6 p s aO a5 _ K.g aP ax);rintro f aa⟨bi,rfl,⟨F,Q,P,ad,ai,ap,am⟩,S⟩;obtain⟨T,Y,af,ac,rfl⟩:=ad.shape;have v:=ju (K.f.hV S.2) ai (K.j.trans S) ad am K.o;clear ad ai S K am;go_wp2_with (at_builtin;refine @mu _ _ _ _ _ _ rfl (.tmp 41) (.tmp 43) rfl w.heap.size _ d i 4000 rfl ?_ ⟨_,0,none⟩ rfl (.bool T) (.slice Y af ac) F ?_ ?_ rfl rfl ?_ (by omega) ?_ ?_)
       .refine v.f.hV (KT.I ?_);repeat(first|exact hP|refine ia ?_ (by simp<;>omega) _)
       .simp[Addr.add]
       .simp[Addr.add]
       .refine v.m.below ?_;repeat(first|exact hP|refine ia ?_ (by simp<;>omega) _)
       .have:=v.j.1.size;simp;omega
       intro bk au ay V;have ag:Below aa.heap.size aa ((aa.alloc (.cells #[.bool T,.slice Y af ac] 79)).alloc (.cells #[.bool T,.slice Y af ac] 79)):=by
        repeat(first|exact hP|refine ia ?_ (by simp<;>omega) _)
       have Z:∀N,u7.ownBlock=some N->w.heap.size<=N:=λN a0=>(v.f.lt N a0).1;have ao:Fr p w au:=(v.j.trans (Fr.I ag)).grown V Z;have al:Rb au p s Q P:=(v.g.below ag).grown V (λf=>by have:=Z p f;omega);have y:=hO ay al ao;have O:f_ ((i++[F]).length=d+1/\d+1<=g*c+(z+1)/\(P=false->A=false/\d+1=g*c+(z+1)/\u0 s a c (i++[F]) Q)):=a_ (by
        have M:=H.e;obtain⟨aH,bg,aT⟩:=j.e;obtain⟨_,_,_,_,aR,aL⟩:=v.e;refine⟨by simp[aH],by omega,λf=>?_⟩;obtain⟨aY,br,E,aC,-,aK,a8⟩:=aR f;obtain⟨aV,aw,bq,aM⟩:=aL aY;obtain⟨aX,bc,aZ⟩:=aT (by first|rfl|trivial);refine⟨aX,by omega,?_⟩;rw[a8,aw];rw[aw]at aC;exact aZ.next ax aG.e (by omega) (ah.e aV) aM aC aK)
       have ab:=O.e;rw[H.e]at ab;replace O:=a_ ab;clear ab;clear ay al ao V ag Z v;go_wp2;go_roundw
       case rel=>first|exact⟨k+1,Q,d+1,i++[F],P,by omega,by go_num,y.f,y.g,ap,y.l,O⟩|exact⟨0+1,Q,d+1,i++[F],P,by omega,by go_num,y.f,y.g,ap,y.l,O⟩
       case measure=>simp[intOf];omega
     .have a9:(k:Int)<(c:Int):=by omega
      go_wp2;go_roundw
      case rel=>exact⟨g+1,b,d,i,true,by omega,by go_num,m.f,m.g,q,m.l,a_ ⟨j.f,by have:=j.g;rw[jV,j7];omega,(λf=>by cases f)⟩⟩
      case measure=>simp[intOf];omega
    .have aA:k=c:=by omega
     have aI:=a_ aA;clear aA;have bj:decide (k<c)=false:=by simp;omega
     have bp:decide ((k:Int)<(c:Int))=false:=by simp;omega
     go_wp2;go_roundw
     case rel=>exact⟨g+1,b,d,i,o,by omega,by go_num,m.f,m.g,q,m.l,a_ ⟨j.f,by have:=j.g;rw[jV,j7];omega,λf=>⟨(j.l f).1,by rw[(j.l f).2.1,aI.e,jV,j7],(j.l f).2.2⟩⟩⟩
     case measure=>simp[intOf];omega
  .have az:g=r:=by omega
   have a7:=a_ az;clear az;go_wp2;go_ret;refine⟨_,rfl,⟨i,b,o,?_,x.g,q,λf=>⟨(j.l f).1,by rw[j.f,(j.l f).2.1,a7.e],(j.l f).2.2⟩⟩,x.l⟩;rw[j.f];exact x.f.kA
theorem mR.join{s:ByteArray}{q:Nat}{a:List UInt8}(h:mR s q (a++L)){b:List UInt8}(c:mR s (q+a.length) b):L=b:=h.app.uniq c
def Ic(s:ByteArray)(w c:World)(x:Value)(a:Bool):Prop:=((a=true/\∃d e b,n0 s d e b 4000/\i_ c x d e b 4000)\/(a=false/\x=.agg #[.int .i64 0,.int .i64 0,.slice none 0 0]))/\Below w.heap.size w c
theorem Gj{s:ByteArray}{w:World}(N:s.size<=4000):Calls Tryz.prog 32 #[.string s] w λe bl=>∃K ax,e=.returned (.tuple #[K,.bool ax])/\Ic s w bl K ax:=by
 obtain⟨g,C⟩:=hQ (w.heap.size+1);have aF:Rb ((w.alloc (.cells #[.int .i64 0,.int .i64 0,.slice none 0 0] 66)).alloc (.cells #[.string s,.int .i64 0,.bool false] 106)) g s 0 false:=by
  have:=iP (w.alloc (.cells #[.int .i64 0,.int .i64 0,.slice none 0 0] 66)) (.cells #[.string s,.int .i64 0,.bool false] 106);rw[C];simpa[Rb]using this
 obtain⟨o,E,Y,ag,aL⟩:=pt s.data.toList;have X:mR s 0 (o++E):=⟨hR,by simpa using Y⟩;have i:=hO X ag aL;have aV:=a_ C;have aC:=a_ aF;clear Y ag aL X aF;go_in;go_wp2_with fail;rw[<-aV.e];obtain⟨F,p⟩:=hQ ((w.alloc (.cells #[.int .i64 0,.int .i64 0,.slice none 0 0] 66)).alloc (.cells #[.string s,.int .i64 0,.bool false] 106));rw[<-p]at aC|-;have af:Below w.heap.size w F:=by
  rw[p];repeat(first|exact hP|refine ia ?_ (by simp<;>omega) _)
 have ap:F.heap[w.heap.size]?=some (.cells #[.int .i64 0,.int .i64 0,.slice none 0 0] 66 (0,0)):=by
  rw[p,qL _ _ _ (by simp)];exact iP w _
 have aA:F.heap.size=w.heap.size+2:=by rw[p];simp
 have x:=hO af ap aA;clear af ap aA p;have bO:w.heap.size<g:=by omega
 clear C;go_fit (@Ba g s 0 false o E _ aC.e i.f N i.g i.l);rintro e bE⟨bG,rfl,⟨h,L,rfl,bs,q,ab⟩,av⟩;rw[jF]at q;have aJ:o.length<=s.size:=by have:=i.f.app.1;omega
 obtain⟨aP,Q⟩:=hQ o.length;rw[<-Q]at q aJ;have ba:=a_ Q;have r:=hO q av ab;clear q av ab Q;go_wp2_with fail;go_fit (@sV g s aP bs 120 _ r.f aJ (by omega));rintro e bH⟨rfl,⟨m,a2,ai,bz,aq⟩,aj⟩;have u:=hY ai (r.g.trans aj) aq r.l;clear ai aj aq r;obtain⟨k,z,au,ay,an⟩:=pt (s.data.toList.drop m);have al:mR s m (k++z):=⟨bz,au⟩;have j:=hO al ay an;clear au ay an al;go_wp2_with fail;go_fit (@Ba g s m a2 k z _ u.f j.f N j.g j.l);rintro e bN⟨bK,rfl,⟨f,S,rfl,a4,V,aa⟩,ac⟩;have aG:m+k.length<=s.size:=j.f.app.1;obtain⟨bn,J⟩:=hQ (m+k.length);rw[<-J]at V aG;have bt:=a_ J;have t:=hY V (u.g.trans ac) aa u.l;clear V ac aa u J;go_wp2_with fail;go_fit (@sV g s bn a4 58 _ t.f aG (by omega));rintro e bD⟨rfl,⟨bp,a3,Z,aZ,ar⟩,ah⟩;have y:=hY Z (t.g.trans ah) ar t.l;clear Z ah ar t;go_wp2_with fail;go_fit (@Ap g s bp h f a3 _ y.f aZ N L S);rintro e b⟨bi,rfl,⟨A,B,U,az,D,bI,ao⟩,ad⟩;obtain⟨bw,a8,aR,aQ,aN⟩:=D.cells;have ak:f_ (U=false->B=s.size->A.length=h*f/\n0 s h f A 4000):=a_ (λbe bj=>by
  obtain⟨-,-,bA,bk,a7,bo⟩:=y.e;obtain⟨a6,aI,a0⟩:=ao be;obtain⟨bv,br,aM,ae⟩:=bA a6;obtain⟨bm,bB,bc⟩:=bk bv;obtain⟨bu,bf,aD,am⟩:=a7 bm;obtain⟨-,bg,bx⟩:=bo bu;obtain⟨aH,bM,a1,aS⟩:=a0.all bj;refine⟨aI,o,k,aH,?_,bg,bB,bx,bc,by omega,aI,λaT bL=>a1 aT (by omega)⟩;have bq:E=120::aD:=by
   have:=i.f;exact this.join (by rw[jF,<-ba.e];exact am)
  have bh:aD=k++z:=by
   obtain⟨_,_,l⟩:=am.cons;rw[<-bf]at l;exact l.uniq j.f
  have aY:z=58::aM:=j.f.join (by rw[<-bt.e];exact ae);have a5:aM=iM f 0 aH:=by
   obtain⟨_,_,l⟩:=ae.cons;rw[<-br]at l;exact l.uniq aS
  have:=i.f.2;rw[pO,bq,bh,aY,a5]at this;exact this)
 have n:=hO az D (y.g.trans ad);clear az D ad y ao;have bF:w.heap.size+2<=b.heap.size:=by have:=n.j.size;have:=x.l;omega
 have R:Below w.heap.size w b:=by
  have aB:=x.f;exact aB.trans (n.l.below (by omega) aB.size)
 have a:b.heap[w.heap.size]?=some (.cells #[.int .i64 0,.int .i64 0,.slice none 0 0] 66 (0,0)):=by
  have bP:=x.l;rw[n.j.block _ (by omega) (by simp;omega)];exact x.g
 have W:=b_ R a;by_cases P:U=false/\B=s.size
 .obtain⟨rfl,rfl⟩:=P;have bb:((s.size:Int)!=(s.size:Int))=false:=by simp
  have aX:=(ak.e rfl rfl).1;have aW:=a_ (ak.e rfl rfl).2;clear R a;go_wp2_with fail;go_fit (@rI h f bi A 4000 _ L S (by rw[<-aX];exact n.f));rintro e c⟨K,rfl,aK,H⟩;have d:c.heap[w.heap.size]?=some (.cells #[.int .i64 0,.int .i64 0,.slice none 0 0] 66 (0,0)):=by
   rw[H.block _ (by omega)];exact W.i
  have aE:Below w.heap.size w c:=d_ W.f H;obtain⟨_,_,bJ,rfl,M⟩:=id aK;obtain⟨aO,bd,rfl,-⟩:=M.shape;have T:c.cell? ⟨w.heap.size,0,none⟩=some (.int .i64 0):=by simp[World.cell?,d]
  have G:c.cell? ⟨w.heap.size,1,none⟩=some (.int .i64 0):=by simp[World.cell?,d]
  have I:c.cell? ⟨w.heap.size,2,none⟩=some (.slice none 0 0):=by simp[World.cell?,d]
  have a9:c.frozen? ⟨w.heap.size,0,none⟩=false:=by simp[World.frozen?,d]
  have aU:c.frozen? ⟨w.heap.size,1,none⟩=false:=by simp[World.frozen?,d]
  have bC:c.frozen? ⟨w.heap.size,2,none⟩=false:=by simp[World.frozen?,d]
  have O:f_ (Ty c w.heap.size 66):=a_ ⟨_,_,d⟩;have aw:=b_ M aE;clear M aE aK H d n bw a8 aR aQ aN;go_wp2_with fail;refine ig (v:=.tuple #[.agg #[.int .i64 h,.int .i64 f,.slice aO (h*f) bd],.bool true]) ?_ rfl ?_
  ·(simp[results,Tryz.results32,go_sem,T,G,I];done)
  .refine⟨_,_,rfl,.inl ⟨rfl,h,f,A,aW.e,⟨L,S,_,rfl,aw.f.hV (KT.setCell (KT.setCell (KT.setCell (KT.refl _) O.e (by decide) (by decide) _) (O.e.setCell _ _) (by decide) (by decide) _) ((O.e.setCell _ _).setCell _ _) (by decide) (by decide) _)⟩⟩,?_⟩;exact((aw.i.setCell c_ _).setCell c_ _).setCell c_ _
 .have T:b.cell? ⟨w.heap.size,0,none⟩=some (.int .i64 0):=by simp[World.cell?,a]
  have G:b.cell? ⟨w.heap.size,1,none⟩=some (.int .i64 0):=by simp[World.cell?,a]
  have I:b.cell? ⟨w.heap.size,2,none⟩=some (.slice none 0 0):=by simp[World.cell?,a]
  have a9:b.frozen? ⟨w.heap.size,0,none⟩=false:=by simp[World.frozen?,a]
  have aU:b.frozen? ⟨w.heap.size,1,none⟩=false:=by simp[World.frozen?,a]
  have bC:b.frozen? ⟨w.heap.size,2,none⟩=false:=by simp[World.frozen?,a]
  clear R a
  cases U
  case' false=>
   have bb:((B:Int)!=(s.size:Int))=true:=by simp;intro e;exact P ⟨rfl,by omega⟩
  all_goals
   clear P;go_wp2_with fail;refine ig (v:=.tuple #[.agg #[.int .i64 0,.int .i64 0,.slice none 0 0],.bool false]) ?_ rfl ?_
   ·(simp[results,Tryz.results32,go_sem,T,G,I];done)
   .exact⟨_,_,rfl,.inr ⟨rfl,rfl⟩,((W.f.setCell c_ _).setCell c_ _).setCell c_ _⟩
theorem i_.oJ{w:World}{v:Value}{r c L:Nat}{zs:List Int}(h:i_ w v r c zs L)(b:KT w W):i_ W v r c zs L:=by
 obtain⟨a,d,f,e,g⟩:=h;exact⟨a,d,f,e,g.hV b⟩
abbrev Hm:=Option (Nat×Nat×Nat×List Int)
def pn(w:World):qT->Hm->Prop
 |none,none=>True
 |some a,some b=>a.1=b.1/\a.2.1=b.2.1/\a.2.2.1=b.2.2.1/\i_ w (.agg #[.int .i64 (a.2.1:Nat),.int .i64 (a.2.2.1:Nat),a.2.2.2]) b.2.1 b.2.2.1 b.2.2.2 200000000
 |_,_=>False
def jf(w:World)(b:Nat)(ms:List Hm)(nx:Nat):Prop:=ms.length=24/\nx<=1000000/\∃c,Sg w b c nx/\∀a,a<24->pn w (c.getD a none) (ms.getD a none)
theorem pn.hV{w:World}{x:qT}{y:Hm}(h:pn w x y)(a:KT w v):pn v x y:=by
 cases x with
 |none=>cases y<;>exact h
 |some x=>cases y with
  |none=>exact h
  |some y=>exact⟨h.1,h.2.1,h.2.2.1,h.2.2.2.oJ a⟩
theorem jf.lt{w:World}{b:Nat}{ms:List Hm}{nx:Nat}(h:jf w b ms nx):b<w.heap.size:=h.2.2.choose_spec.1.lt
theorem jf.ty{w:World}{b:Nat}{ms:List Hm}{nx:Nat}(h:jf w b ms nx):Ty w b 103:=h.2.2.choose_spec.1.ty
theorem jf.below{w:World}{b:Nat}{ms:List Hm}{nx:Nat}(h:jf w b ms nx)(a:Below w.heap.size w v):jf v b ms nx:=by
 obtain⟨c,f,j,d,e⟩:=h;exact⟨c,f,j,d.below a,λi g=>(e i g).hV (KT.I a)⟩
theorem jf.fr{w:World}{b p:Nat}{ms:List Hm}{nx:Nat}(h:jf w b ms nx)(a:Fr p w v)(g:b≠p):jf v b ms nx:=by
 obtain⟨c,f,k,d,e⟩:=h;exact⟨c,f,k,d.fr a g,λj i=>(e j i).hV a.2⟩
theorem pn.o6{w:World}{x:qT}{y:Hm}(h:pn w x y):x=none↔y=none:=by
 cases x<;>cases y<;>simp_all[pn]
theorem pn.shape{w:World}{x:Nat×Nat×Nat×Value}{y:Hm}(h:pn w (some x) y):∃a d b,x.2.2.2=.slice a d b:=by
 cases y with
 |none=>exact h.elim
 |some y=>
  obtain⟨-,-,-,-,-,f,c,e⟩:=h;obtain⟨a,b,rfl,-⟩:=e.shape;simp only[j9,j_,kb,jh]at c;exact⟨a,_,b,c.2.2⟩
theorem ui{b:List qT}(h:b.length=24){k:Nat}{x:Nat×Nat×Nat×Value}(a:b.getD k none=some x):k<24:=by
 rcases iX k 24 with c|c
 .exact c
 .rw[List.getD,l4 (by omega)]at a;cases a
theorem lU{ms:List Hm}{k i:Nat}{x:Hm}(c:k<ms.length):(ms.set k x).getD i none=if i=k then x else ms.getD i none:=by
 by_cases a:i=k
 .subst a;simp[List.getD,c]
 .have b:¬k=i:=λd=>a d.symm;simp[List.getD,a,b]
def ke(ms:List Hm)(i:Nat):Prop:=i<24/\ms.getD i none=none/\∀a,a<i->ms.getD a none≠none
theorem ke.uniq{ms:List Hm}{i j:Nat}(h:ke ms i)(k:ke ms j):i=j:=by
 rcases mY i j with a|a|a
 .exact absurd h.2.1 (k.2.2 i a)
 .exact a
 .exact absurd k.2.1 (h.2.2 j a)
theorem ke.of{w:World}{c:List qT}{ms:List Hm}(h:∀i,i<24->pn w (c.getD i none) (ms.getD i none)){i:Nat}(a:nO c i):ke ms i:=
 ⟨a.1,(h i a.1).o6.1 a.2.1,λb e d=>a.2.2 b e ((h b (by have:=a.1;omega)).o6.2 d)⟩
theorem GZ{w:World}{b:List qT}{ms:List Hm}(i:b.length=24)(h:∀a,a<24->pn w (b.getD a none) (ms.getD a none))(d:b.countP Option.isNone=0):∀a,a<24->ms.getD a none≠none:=by
 intro a g f;have c:=(h a g).o6.2 f;rw[List.countP_eq_zero]at d;have e:=d (b[a]'(by omega)) (lf _);rw[List.getD,iI (show a<b.length from by omega)]at c;simp at c;simp[c]at e
def Wr(s:ByteArray):Prop:=∃b a c,b<=99/\a<=99/\n0 s b a c 4000
theorem HG{b:Nat}{s:ByteArray}{w:World}(a:4000<s.size\/¬Wr s):Calls Tryz.prog 15 #[.pointer (some ⟨b,0,none⟩),.string s] w λd p=>d=.returned (.tuple #[.int .i64 (-1),.int .i64 1])/\Below w.heap.size w p:=by
 by_cases g:s.size<=4000
 .have i:¬Wr s:=by
   rcases a with c|c
   .omega
   .exact c
  have j:=a_ i;clear a i;go_in;go_wp2_with fail;go_fit (Gj g);rintro d r⟨u,t,rfl,n,e⟩;rcases n with⟨rfl,k,m,o,l,h⟩|⟨rfl,rfl⟩
  .exact absurd ⟨k,m,o,h.1,h.2.1,l⟩ j.e
  .have f:=a_ e;clear e;go_wp2;go_ret2;exact⟨rfl,f.e.trans (hP.alloc f.e.size _)⟩
 .have q:(4000:Int)<(s.size:Int):=by omega
  clear g a;go_in;go_wp2;go_ret2;exact⟨rfl,hP⟩
def Hg(b:Nat)(r c:Nat)(zs:List Int)(ms:List Hm)(nx:Nat)(w d:World)(h e:Int):Prop:=
 (h=-1/\e=4/\¬hW r c zs/\Below w.heap.size w d)\/(h=-1/\e=5/\hW r c zs/\(∀a,a<24->ms.getD a none≠none)/\Below w.heap.size w d)\/(h=(nx:Int)/\e=0/\hW r c zs/\(∃a,ke ms a/\jf d b (ms.set a (some (nx,r,c,zs))) (nx+1))/\Fr b w d)
theorem v_{b:Nat}{s:ByteArray}{r c:Nat}{zs:List Int}{ms:List Hm}{nx:Nat}{w:World}(X:jf w b ms nx)(ai:nx<1000000)(V:s.size<=4000)(P:r<=99)(W:c<=99)(B:n0 s r c zs 4000):Calls Tryz.prog 15 #[.pointer (some ⟨b,0,none⟩),.string s] w λf J=>∃i D:Int,f=.returned (.tuple #[.int .i64 i,.int .i64 D])/\Hg b r c zs ms nx w J i D:=by
 obtain⟨x,-,E,o,H⟩:=X;have a:=hO o H x;have U:=a_ B;have ad:=o.lt;clear o H B x;go_in;go_wp2_with fail;go_fit (G6 V P W U.e);rintro f e⟨ah,rfl,l,I⟩;obtain⟨_,_,af,rfl,C⟩:=id l;obtain⟨R,ac,rfl,-⟩:=C.shape;clear C;obtain⟨ab,N⟩:=hQ (r*c);rw[<-N]at l|-;clear N;have k:=b_ l I;clear l I;go_wp2_with fail;go_fit (jl (k.f.below hS) (by omega));rintro f g⟨Q,rfl,K,h⟩;have q:Below e.heap.size e g:=(hU e _).trans (h.mono (by simp));have L:Below w.heap.size w g:=d_ k.i q;have T:g.cell? ⟨e.heap.size,0,none⟩=some (.int .i64 r):=g_ h (by simp);have Z:g.cell? ⟨e.heap.size,1,none⟩=some (.int .i64 c):=g_ h (by simp);have S:g.cell? ⟨e.heap.size,2,none⟩=some (.slice R ab ac):=g_ h (by simp);have d:=hO (k.f.below q) L K;clear h q L k K
 cases Q
 .have Y:f_ (¬hW r c zs):=a_ (λi=>by have:=d.l.2 i;cases this);go_wp2;go_ret2;exact⟨_,_,rfl,.inl ⟨rfl,rfl,Y.e,d.g⟩⟩
 .have G:f_ (hW r c zs):=a_ (d.l.1 rfl);go_wp2_with fail;go_fit (zM (a.f.below d.g));rintro f J⟨rfl,rfl⟩;obtain⟨v,u⟩:=hQ (E.countP Option.isNone);have y:=a_ u;rw[<-u];clear u;by_cases M:v=0
  .subst M;go_wp2;go_ret2;exact⟨_,_,rfl,.inr (.inl ⟨rfl,rfl,G.e,GZ a.f.1 a.g y.e.symm,d.g⟩)⟩
  .obtain⟨O,z⟩:=nO.exists a.f.1 (show 0<E.countP Option.isNone from by have:=y.e;omega);have m:=a_ z;have ag:¬((v:Int)<1):=by omega
   clear z M;go_wp2_with fail;go_fit (AQ (a.f.below d.g) m.e (by omega));rintro f ae⟨rfl,A,t⟩;have j:=hO A (d.f.oJ t.2) ((Fr.I (p:=b) d.g).trans t);clear A t d T Z S;go_wp2;go_ret2;refine⟨_,_,rfl,.inr (.inr ⟨rfl,rfl,G.e,⟨O,ke.of a.g m.e,?_⟩,j.l⟩)⟩;refine⟨by simp[a.l],by omega,_,j.f,λF aa=>?_⟩;rw[vi (by have:=a.f.1;have:=m.f;omega),lU (by have:=a.l;have:=m.f;omega)];by_cases n:F=O
   .rw[if_pos n,if_pos n];exact⟨rfl,rfl,rfl,j.g.mono (by omega)⟩
   .rw[if_neg n,if_neg n];exact(a.g F aa).hV j.o
theorem D9{v:Value}{r c:Nat}{zs:List Int}{L:Nat}{w:World}(af:i_ w v r c zs L)(U:L<=200000000)(ae:vx w):Calls Tryz.prog 75 #[v] w λh p=>h=.returned (.string ⟨(lk r c zs).toArray⟩)/\Below w.heap.size w p:=by
 have D:=b_ af ae;obtain⟨aU,a2,aR,rfl,H⟩:=af;obtain⟨t,A,rfl,-⟩:=H.shape;have T:zs.length=r*c:=H.1;have S:=a_ T;clear H T ae;obtain⟨y,av⟩:=hQ (r*c);rw[<-av]at D|-;clear av;obtain⟨k,ar⟩:=hQ (w.alloc (.cells #[.int .i64 r,.int .i64 c,.slice t y A] 66));have u:=a_ ar;clear ar;have aN:k.heap.size=w.heap.size+1:=by rw[u.e];simp
 have R:f_ (Below w.heap.size w k):=a_ (by rw[u.e];exact hS);have aK:=pE r (by omega);have aS:=pE c (by omega);go_in;go_upto_region 1 with fail
 go_cut [3]from 6 to 15 (λx aw=>x=.string ⟨(ph r c zs 0).toArray⟩/\Below (w.heap.size+1) k aw)
 case first=>
  go_region_with (first
   |(go_at_call 85;refine(oo).mono ?_;rintro h p⟨rfl,rfl⟩)
   |(go_at_call 84;refine(oq).mono ?_;rintro h p⟨rfl,rfl⟩)
   |(go_at_call 109;refine(Tryz.strconv_Itoa_small _ (by omega) _).mono ?_;rintro h p⟨rfl,rfl⟩))
  all_goals
   go_wp2_with fail;go_meet
   case rel=>
    rw[u.e];exact⟨Kk r c zs,by repeat(first|exact hP|refine iV ?_|refine ia ?_ (by simp<;>omega) _)⟩
 case rest=>
  obtain⟨rfl,aj⟩:=hcut;have aD:=a_ aj;clear aj;obtain⟨aa,C⟩:=hQ (ph r c zs 0);have aV:aa.length<=10:=by
   rw[C];unfold ph;simp[iM];omega
  have aC:=a_ C;rw[<-C];clear C;go_wp2_with fail;go_loopw [3,4] (λx l wr=>∃(a:Nat) (s:List UInt8),a<=r/\l=.int .i64 a/\x=.string ⟨s.toArray⟩/\s.length<=250000000000*a+10/\Below (w.heap.size+1) k wr/\f_ (s=ph r c zs (a*c))) (λ_ l _=>r-(intOf l).toNat)
  case atStart=>exact⟨0,aa,hR,rfl,rfl,by omega,aD.e,a_ (by rw[aC.e,pS])⟩
  case round=>
   rename World=>aA;obtain⟨a,s,aW,rfl,rfl,aP,f,au⟩:=hrel;have aL:=f.size;have n:tf aA w.heap.size r c (.slice t y A):=(tf.new w r c (.slice t y A) rfl).below (by rw[<-u.e];exact f) (by omega);obtain⟨M,P,N,-⟩:=n.cells;have ad:=a_ f;clear f n;go_wp2_with fail;go_fit (oo);rintro h p⟨rfl,rfl⟩;by_cases J:a<r
   .go_wp2_with fail;go_loopw [3,5] (λx l ax=>∃(b:Nat) (d:List UInt8),b<=c/\l=.int .i64 b/\x=.string ⟨d.toArray⟩/\d.length<=250000000000*a+10+2500000000*b/\Below (w.heap.size+1) k ax/\f_ (d=ph r c zs (a*c+b))) (λ_ l _=>c-(intOf l).toNat)
    case atStart=>exact⟨0,s,hR,rfl,rfl,by omega,ad.e.alloc (by omega) _,a_ (by rw[au.e,nt])⟩
    case round=>
     clear M P N;obtain⟨b,d,aZ,rfl,rfl,aM,f,X⟩:=hrel;have aX:=f.size;have n:tf wr w.heap.size r c (.slice t y A):=(tf.new w r c (.slice t y A) rfl).below (by rw[<-u.e];exact f) (by omega);obtain⟨M,P,N,-⟩:=n.cells;have B:=b_ f n;clear f n;go_wp2_with fail;go_fit (oq);rintro h p⟨rfl,rfl⟩;have a4:=iL M;have a3:=iL P;have aO:=iL N;by_cases ah:b<c
     .have aH:a=0\/(0<a/\b=0)\/(0<a/\0<b):=by omega
      obtain⟨g,G⟩:=hQ b;have m:=a_ G;have al:g<c:=by omega
      obtain⟨j,e⟩:∃j:List UInt8,j=if 0<a/\g=0 then[59]else[]:=⟨_,rfl⟩
      have aE:=a_ e;have Z:=S.e;have an:a*c+g<zs.length:=by rw[Z];exact jq J al
      have aB:=a_ (Cn (r:=r) (i:=a) al an);clear Z an;rcases aH with F|⟨F,ai⟩|⟨F,ai⟩
      case' inl=>
       have aG:decide (0<a)=false:=ic (by omega);have a0:decide ((0:Int)<(a:Int))=false:=ic (by omega);rw[if_neg (by omega)]at e;have E:=a_ e;clear e F G
      case' inr.inl=>
       rw[if_pos ⟨F,by omega⟩]at e;have E:=a_ e;clear e G;subst ai
      case' inr.inr=>
       have aG:((b:Int)==0)=false:=iK.2 (by omega);rw[if_neg (by omega)]at e;have E:=a_ e;clear e G
      all_goals
       go_wp2_with fail;first
        |go_fit (jy (D.f.below ?_) J ah)
        |go_fit (jy (D.f.below ?_) J ah)
       .exact R.e.trans ((B.f.alloc (by omega) _).mono (by omega))
       rintro h Y⟨aT,rfl,Q,O⟩;obtain⟨aQ,a1,aY,a5,rfl⟩:=Q.shape;have W:Below w.heap.size w Y:=(R.e.trans ((B.f.alloc (by omega) _).mono (by omega))).trans (O.mono (by simp;omega));have aq:Below (w.heap.size+1) k Y:=(B.f.alloc (by omega) _).trans (O.mono (by simp;omega));have z:=hO Q W aq;clear Q O W aq;go_wp2_with fail;go_fit (qE z.f U (D.i.below z.g));rintro h aF⟨rfl,V⟩;have am:Below (w.heap.size+1) k aF:=z.l.trans (V.mono (by have:=z.l.size;omega));have ac:=a_ am;clear V am;obtain⟨o,q⟩:=hQ (Lib.itoa (zs.getD (a*c+g) 0));rw[m.e]at q;rw[<-q];have aJ:o.length<=2400000001:=by rw[q];exact Fb z.f U
       rw[<-m.e]at q;have ay:=a_ q;clear q;go_wp2;go_roundw
       .have I:d++(j++(32::o))=ph r c zs (a*c+(g+1)):=by
         rw[show a*c+(g+1)=a*c+g+1 from rfl,aB.e,<-aE.e,<-ay.e,m.e,<-X.e]
        have aI:(d++(j++(32::o))).length<=d.length+2400000010:=by
         have:j.length<=1:=by rw[E.e];simp
         simp only[j6,j3];omega
        rw[m.e]at I;have ap:∀K:Nat,K=g+1->(d++(j++(32::o))).length<=250000000000*a+10+2500000000*K:=by
         intro K ab;rw[m.e]at ab;subst ab;exact iy aI (by omega)
        first
         |refine⟨b+1,d++(j++(32::o)),by omega,by go_num,?_,ap _ (by rw[m.e]),ac.e,a_ I⟩
         |refine⟨0+1,d++(j++(32::o)),by omega,by go_num,?_,ap _ (by rw[m.e]),ac.e,a_ I⟩
        rw[E.e];first|exact Kc _ _|exact Kd _ _
       simp[intOf];omega
     .have ao:b=c:=by omega
      have ag:=a_ ao;clear ao;go_wp2;go_roundw;exact⟨a+1,d,by omega,by go_num,rfl,by have:=ag.e;omega,B.f.alloc (by omega) _,a_ (by rw[X.e,ag.e,jV,j7])⟩;simp[intOf];omega
   .have ak:a=r:=by omega
    have az:=a_ ak;clear ak;go_wp2;go_ret;refine⟨JM (by rw[au.e,az.e,Er (by rw[S.e];exact c_)]),?_⟩;exact R.e.trans ((ad.e.alloc (by omega) _).mono (by omega))
def q5(ms:List Hm)(h:Int)(t:List UInt8)(e:Int):Prop:=(e=0/\∃b a,b<24/\ms.getD b none=some a/\(a.1:Int)=h/\t=lk a.2.1 a.2.2.1 a.2.2.2)\/(e=2/\t=[]/\∀b,b<24->∀a,ms.getD b none=some a->(a.1:Int)≠h)
theorem ye{w:World}{e:List qT}{ms:List Hm}{h:Int}(j:∀d,d<24->pn w (e.getD d none) (ms.getD d none))(k:∀a,a<24->∀b,e.getD a none=some b->(b.1:Int)≠h):∀a,a<24->∀b,ms.getD a none=some b->(b.1:Int)≠h:=by
 intro a f b g;have c:=j a f;rw[g]at c
 cases hs:e.getD a none with
 |none=>rw[hs]at c;exact c.elim
 |some i=>
  rw[hs]at c;have:=k a f i hs;rw[c.1]at this;exact this
theorem yz{w:World}{d:List qT}{ms:List Hm}{k:Nat}{x:Nat×Nat×Nat×Value}(g:∀c,c<24->pn w (d.getD c none) (ms.getD c none))(f:k<24)(e:d.getD k none=some x):∃a,ms.getD k none=some a/\x.1=a.1/\x.2.1=a.2.1/\x.2.2.1=a.2.2.1/\i_ w (.agg #[.int .i64 (x.2.1:Nat),.int .i64 (x.2.2.1:Nat),x.2.2.2]) a.2.1 a.2.2.1 a.2.2.2 200000000:=by
 have b:=g k f;rw[e]at b
 cases hs:ms.getD k none with
 |none=>rw[hs]at b;exact b.elim
 |some a=>rw[hs]at b;exact⟨a,rfl,b⟩
theorem wR{b:Nat}{h:Int}{ms:List Hm}{nx:Nat}{w:World}(L:jf w b ms nx)(C:vx w):Calls Tryz.prog 43 #[.pointer (some ⟨b,0,none⟩),.int .i64 h] w λl R=>∃z B,l=.returned (.tuple #[.string ⟨z.toArray⟩,.int .i64 B])/\q5 ms h z B/\Below w.heap.size w R:=by
 obtain⟨v,-,M,m,s⟩:=L;have f:=hY m s v C;have H:f_ (∀c d,M.getD c none=some d->∃n t u,d.2.2.2=.slice n t u):=a_ (λc d e=>by
  have g:=ui m.1 e;have E:=s c g;rw[e]at E;exact E.shape)
 clear m s v C;go_in;go_wp2_with fail;go_fit (AY f.f H.e);rintro l N⟨⟨O,X,rfl,Q⟩,i⟩;rcases Q with⟨rfl,c,g,d,e,p,rfl⟩|⟨rfl,rfl,I⟩
 .obtain⟨S,y,x,D,A,k⟩:=yz f.g g e;obtain⟨n,t,u,F⟩:=H.e c d e;obtain⟨P,q,r,O⟩:=d;obtain⟨W,V,Z,G⟩:=S;simp only at x D A k F p;subst x;subst D;subst A;subst F;have a:=hY k i y p;clear k i y p e;go_wp2_with fail;have j:Below w.heap.size w (N.alloc (.cells #[.int .i64 q,.int .i64 r,.slice n t u] 66)):=a.g.alloc a.g.size _;go_fit (D9 (a.f.below j) (by omega) (f.o.below j));rintro l Y⟨rfl,J⟩;have K:=a_ (d_ j J);clear J j;obtain⟨U,o⟩:=hQ (lk q r G);have T:=a_ o;rw[<-o];clear o;go_wp2;go_ret2;exact⟨_,_,rfl,.inl ⟨rfl,c,(P,q,r,G),g,a.j,a.o,T.e⟩,K.e⟩
 .have a:=b_ i I;clear i I;go_wp2;go_ret2;exact⟨[],_,rfl,.inr ⟨rfl,rfl,ye f.g a.i⟩,a.f.alloc a.f.size _⟩
def KG(b:Nat)(ms:List Hm)(nx:Nat)(h:Int)(w d:World)(e:Int):Prop:=(e=0/\∃a,a<24/\(∃c,ms.getD a none=some c/\(c.1:Int)=h)/\jf d b (ms.set a none) nx/\Fr b w d)\/(e=2/\d=w/\∀a,a<24->∀c,ms.getD a none=some c->(c.1:Int)≠h)
theorem xX{b:Nat}{h:Int}{ms:List Hm}{nx:Nat}{w:World}(p:jf w b ms nx):Calls Tryz.prog 29 #[.pointer (some ⟨b,0,none⟩),.int .i64 h] w λf k=>∃a:Int,f=.returned (.int .i64 a)/\KG b ms nx h w k a:=by
 obtain⟨l,x,y,g,d⟩:=p;go_fit (E9 g);rintro f k⟨a,rfl,t⟩;refine⟨a,rfl,?_⟩;rcases t with⟨rfl,e,i,⟨z,s,o⟩,q,j⟩|⟨rfl,rfl,v⟩
 .obtain⟨u,n,m,-⟩:=yz d i s;refine .inl ⟨rfl,e,i,⟨u,n,by rw[<-m];exact o⟩,⟨by simp[l],x,_,q,λa r=>?_⟩,j⟩;rw[vi (by have:=g.1;omega),lU (by omega)];by_cases c:a=e
  .rw[if_pos c,if_pos c];trivial
  .rw[if_neg c,if_neg c];exact(d a r).hV j.2
 .exact .inr ⟨rfl,rfl,ye d v⟩
theorem sb:Tryz.zeroCells103.size=121/\Tryz.zeroCells103[120]?=some (.int .i64 0)/\∀a,a<24->Tryz.zeroCells103[a*5]?=some (.bool false):=by
 refine⟨rfl,rfl,λa b=>?_⟩;obtain rfl|rfl|rfl|rfl|rfl|rfl|rfl|rfl|rfl|rfl|rfl|rfl|rfl|rfl|rfl|rfl|rfl|rfl|rfl|rfl|rfl|rfl|rfl|rfl:a=0\/a=1\/a=2\/a=3\/a=4\/a=5\/a=6\/a=7\/a=8\/a=9\/a=10\/a=11\/a=12\/a=13\/a=14\/a=15\/a=16\/a=17\/a=18\/a=19\/a=20\/a=21\/a=22\/a=23:=by omega
 all_goals rfl
theorem pb{b:Type}(n i:Nat):(List.replicate n (none:Option b)).getD i none=none:=by
 rw[List.getD,wi];by_cases a:i<n
 .rw[if_pos a];rfl
 .rw[if_neg a];rfl
theorem A9{w:World}:Calls Tryz.prog 30 #[] w λd a=>d=.returned (.pointer (some ⟨w.heap.size,0,none⟩))/\jf a w.heap.size (List.replicate 24 none) 0/\Below w.heap.size w a:=by
 go_in;go_wp2;go_ret;refine⟨rfl,⟨by simp,by omega,List.replicate 24 none,⟨by simp,Tryz.zeroCells103,iP w _,sb.1,sb.2.1,λc b=>?_⟩,λc b=>?_⟩,hS⟩
 .rw[pb];exact sb.2.2 c b
 .rw[pb,pb];trivial
def j5(S:Nat->Prop)(w a:World):Prop:=(a.os=w.os/\a.tape=w.tape/\a.output=w.output/\w.heap.size<=a.heap.size/\∀b,b<w.heap.size->¬S b->a.heap[b]?=w.heap[b]?)/\KT w a
theorem j5.trans{S:Nat->Prop}{a b c:World}(h:j5 S a b)(k:j5 S b c):j5 S a c:=by
 obtain⟨⟨m,n,t,j,f⟩,r⟩:=h;obtain⟨⟨o,i,q,l,g⟩,p⟩:=k;exact⟨⟨o.trans m,i.trans n,q.trans t,iy j l,λe s d=>(g e (by omega) d).trans (f e s d)⟩,r.trans p⟩
theorem j5.I{S:Nat->Prop}{w:World}(h:Below w.heap.size w v):j5 S w v:=⟨⟨h.os,h.tape,h.output,h.size,λb a _=>h.block b a⟩,KT.I h⟩
theorem j5.p_{S:Nat->Prop}{p:Nat}{w:World}(h:Fr p w v)(d:S p):j5 S w v:=⟨⟨h.1.os,h.1.tape,h.1.output,h.1.size,λc e b=>h.1.block c e (λa=>b (by injection a with a;rw[a];exact d))⟩,h.2⟩
theorem j5.size{S:Nat->Prop}{w:World}(h:j5 S w v):w.heap.size<=v.heap.size:=h.1.2.2.2.1
theorem j5.block{S:Nat->Prop}{w:World}(h:j5 S w v){k:Nat}(a:k<w.heap.size)(b:¬S k):v.heap[k]?=w.heap[k]?:=h.1.2.2.2.2 k a b
theorem j5.mono{S b:Nat->Prop}{w:World}(h:j5 S w v)(c:∀a,S a->b a):j5 b w v:=⟨⟨h.1.1,h.1.2.1,h.1.2.2.1,h.1.2.2.2.1,λa d e=>h.1.2.2.2.2 a d (λf=>e (c a f))⟩,h.2⟩
def Tw(w:World)(d a c:Nat)(b:Bool):Prop:=w.heap[d]?=some (.cells #[.pointer (some ⟨a,0,none⟩),.pointer (some ⟨c,0,none⟩),.bool b] 149 (0,0))
theorem Tw.lt{w:World}(h:Tw w i j k u):i<w.heap.size:=(jt.1 h).1
theorem Tw.cells{w:World}(h:Tw w i j k u):w.cell? ⟨i,0,none⟩=some (.pointer (some ⟨j,0,none⟩))/\w.cell? ⟨i,1,none⟩=some (.pointer (some ⟨k,0,none⟩))/\w.cell? ⟨i,2,none⟩=some (.bool u)/\(∀a,w.frozen? ⟨i,a,none⟩=false):=by
 unfold Tw at h;refine⟨?_,?_,?_,λa=>?_⟩<;>simp[World.cell?,World.frozen?,h]
theorem Tw.ne{w:World}{b:Nat}(h:Tw w i j k u)(d:Ty w b 103):i≠b:=by
 intro c;subst c;obtain⟨f,e,a⟩:=d;unfold Tw at h;rw[h]at a;simp at a
theorem Tw.J{w:World}(h:Tw w i j k u)(a:v.heap[i]?=w.heap[i]?):Tw v i j k u:=by unfold Tw;rw[a];exact h
def zl(B:Nat)(w:World):Prop:=∀a,Below B w a->vx a
theorem zl.of{w:World}(h:vx w):zl w.heap.size w:=λ_ a=>h.below a
theorem zl.below{B:Nat}{w:World}(h:zl B w)(a:Below B w v):zl B v:=λb c=>h b (a.trans c)
theorem zl.tab{B:Nat}{w:World}(h:zl B w):vx w:=h w hP
theorem Fr.ni{p B:Nat}{a b:World}(h:Fr p a b)(c:B<=p)(d:B<=a.heap.size):Below B a b:=h.below c d
theorem j5.below{S:Nat->Prop}{B:Nat}{w:World}(h:j5 S w v)(b:∀a,S a->B<=a)(e:B<=w.heap.size):Below B w v:=⟨h.1.1,h.1.2.1,h.1.2.2.1,h.size,λa d=>h.block (by omega) (λc=>by have:=b a c;omega)⟩
def nu(B:Nat)(w:World)(c a b:Nat)(ms:List Hm)(nx:Nat):Prop:=Tw w c a b false/\jf w a ms nx/\jf w b ms nx/\a≠b/\zl B w/\B<=c/\B<=a/\B<=b
def tN(b c:Nat):Nat->Prop:=λa=>a=b\/a=c
theorem nu.below{B:Nat}{w:World}{ms:List Hm}{nx:Nat}(h:nu B w i j k ms nx)(a:Below w.heap.size w v):nu B v i j k ms nx:=by
 obtain⟨b,e,m,d,c,g,f,l⟩:=h;exact⟨b.J (a.block i b.lt),e.below a,m.below a,d,c.below (a.mono (by have:=b.lt;omega)),g,f,l⟩
def CP(s:ByteArray)(ms:List Hm)(nx:Nat)(h e:Int)(g:List Hm)(f:Nat):Prop:=
 ((4000<s.size\/¬Wr s)/\h=-1/\e=1/\g=ms/\f=nx)\/∃a b c,s.size<=4000/\a<=99/\b<=99/\n0 s a b c 4000/\((¬hW a b c/\h=-1/\e=4/\g=ms/\f=nx)\/(hW a b c/\(∀d,d<24->ms.getD d none≠none)/\h=-1/\e=5/\g=ms/\f=nx)\/(hW a b c/\h=(nx:Int)/\e=0/\∃d,ke ms d/\g=ms.set d (some (nx,a,b,c))/\f=nx+1))
theorem FZ(s:ByteArray)(ms:List Hm)(nx:Nat)(A:nx<1000000):∃b h B C,CP s ms nx b h B C/\∀g i,jf i g ms nx->Calls Tryz.prog 15 #[.pointer (some ⟨g,0,none⟩),.string s] i λt q=>t=.returned (.tuple #[.int .i64 b,.int .i64 h])/\jf q g B C/\Fr g i q:=by
 by_cases x:4000<s.size\/¬Wr s
 .refine⟨-1,1,ms,nx,.inl ⟨x,rfl,rfl,rfl,rfl⟩,λg i c=>?_⟩;go_fit (HG x);rintro t q⟨rfl,f⟩;exact⟨rfl,c.below f,Fr.I f⟩
 .have m:s.size<=4000:=by omega
  have F:Wr s:=qe λb=>x (.inr b);obtain⟨u,v,w,l,n,o⟩:=F;by_cases k:hW u v w
  .by_cases z:∃a,ke ms a
   .obtain⟨a,p⟩:=z;refine⟨nx,0,ms.set a (some (nx,u,v,w)),nx+1,.inr ⟨u,v,w,m,l,n,o,.inr (.inr ⟨k,rfl,rfl,a,p,rfl,rfl⟩)⟩,λg i c=>?_⟩;go_fit (v_ c A m l n o);rintro t q⟨b,h,rfl,r⟩;rcases r with⟨-,-,d,-⟩|⟨-,-,-,d,-⟩|⟨rfl,rfl,-,⟨e,j,D⟩,E⟩
    .exact absurd k d
    .exact absurd p.2.1 (d a p.1)
    .rw[p.uniq j];exact⟨rfl,D,E⟩
   .refine⟨-1,5,ms,nx,.inr ⟨u,v,w,m,l,n,o,.inr (.inl ⟨k,λa p h=>?_,rfl,rfl,rfl,rfl⟩)⟩,λg i c=>?_⟩
    .exfalso;have:∃a,ke ms a:=by
      induction a using Nat.strongRecOn with
      |ind a G=>
       by_cases b:∃e,e<a/\ms.getD e none=none
       .obtain⟨e,j,y⟩:=b;exact G e j (by omega) y
       .exact⟨a,p,h,λe j y=>b ⟨e,j,y⟩⟩
     exact z this
    .go_fit (v_ c A m l n o);rintro t q⟨b,h,rfl,r⟩;rcases r with⟨-,-,d,-⟩|⟨rfl,rfl,-,-,f⟩|⟨rfl,rfl,-,⟨e,j,D⟩,E⟩
     .exact absurd k d
     .exact⟨rfl,c.below f,Fr.I f⟩
     .exact absurd ⟨e,j⟩ z
  .refine⟨-1,4,ms,nx,.inr ⟨u,v,w,m,l,n,o,.inl ⟨k,rfl,rfl,rfl,rfl⟩⟩,λg i c=>?_⟩;go_fit (v_ c A m l n o);rintro t q⟨b,h,rfl,r⟩;rcases r with⟨rfl,rfl,-,f⟩|⟨-,-,d,-⟩|⟨-,-,d,-⟩
   .exact⟨rfl,c.below f,Fr.I f⟩
   .exact absurd d k
   .exact absurd d k
theorem ma{w:World}:Calls Tryz.prog 201 #[.pointer (some ⟨i,0,none⟩),.bool true] w λa b=>a=.returned (.tuple #[])/\b=w:=by
 go_in;go_wp2;go_end0;exact⟨rfl,rfl⟩
theorem s7{a e:Int}{w:World}:Calls Tryz.prog 195 #[.pointer (some ⟨i,0,none⟩),.int .i64 a,.int .i64 e,.int .i64 a,.int .i64 e] w λc b=>c=.returned (.tuple #[.int .i64 a,.int .i64 e])/\b=w:=by
 have f:(a==a)=true:=by simp
 have d:(e==e)=true:=by simp
 go_in;go_wp2_with fail;go_fit (ma);rintro c b⟨rfl,rfl⟩;go_wp2;go_ret2;exact⟨rfl,rfl⟩
theorem Bj{B b d c:Nat}{s:ByteArray}{ms:List Hm}{nx:Nat}{w:World}(r:nu B w b d c ms nx)(O:nx<1000000):Calls Tryz.prog 148 #[.pointer (some ⟨b,0,none⟩),.string s] w λo n=>∃i j g h,o=.returned (.tuple #[.int .i64 i,.int .i64 j])/\CP s ms nx i j g h/\nu B n b d c g h/\j5 (tN d c) w n:=by
 obtain⟨i,j,g,h,hrel,D⟩:=FZ s ms nx O;obtain⟨t,u,q,-⟩:=r.1.cells;have a:=hO r hrel D;clear r hrel D;go_in;go_wp2_with fail;go_fit (a.l d _ a.f.2.1);rintro o l⟨rfl,y,k⟩;have K:b≠d:=a.f.1.ne a.f.2.1.ty;have p:Tw l b d c false:=a.f.1.J (k.1.block b a.f.1.lt (by simpa using K));have F:jf l c ms nx:=a.f.2.2.1.fr k (Ne.symm a.f.2.2.2.1);clear t u q;obtain⟨t,u,q,-⟩:=p.cells;have e:=hY y k p F;clear y k p F;go_wp2_with fail;go_fit (a.l c _ e.o);rintro o E⟨rfl,A,m⟩;have I:b≠c:=e.j.ne e.o.ty;have G:Tw E b d c false:=e.j.J (m.1.block b e.j.lt (by simpa using I));have x:jf E d g h:=e.f.fr m a.f.2.2.2.1;have f:=hY A m G x;clear A m G x t u q;go_wp2_with fail;go_fit (s7);rintro o n⟨rfl,rfl⟩;go_wp2;go_ret2;obtain⟨v,-,-,L,J,M,z,C⟩:=a.f;have H:Below B w l:=e.g.ni z (by have:=v.lt;omega);have N:Below B l n:=f.g.ni C (by have:=H.size;have:=v.lt;omega);exact⟨i,j,g,h,rfl,a.g,⟨f.j,f.o,f.f,L,(J.below H).below N,M,z,C⟩,(j5.p_ e.g (.inl rfl)).trans (j5.p_ f.g (.inr rfl))⟩
def ix(w:World)(e:TypeId)(v:Value)(xs:List Value):Prop:=(v=.slice none 0 0/\xs=[])\/∃d a b,v=.slice (some ⟨d,0,none⟩) xs.length a/\w.heap[d]?=some (.cells b e (0,0))/\xs.length<=a/\a<=b.size/\a<=maxLen/\∀c,c<xs.length->b[c]?=xs[c]?
theorem ix.nil(w:World)(a:TypeId):ix w a (.slice none 0 0) []:=.inl ⟨rfl,rfl⟩
theorem ix.shape{w:World}{v:Value}{xs:List Value}(h:ix w t v xs):∃d b,v=.slice d xs.length b/\xs.length<=b/\b<=9223372036854775807/\(d=none->xs.length=0/\b=0)/\(∀a,a<xs.length->∃c,d=some ⟨c,0,none⟩/\w.cell? ⟨c,a,none⟩=xs[a]?):=by
 rcases h with⟨rfl,rfl⟩|⟨c,b,l,rfl,i,j,m,g,f⟩
 .exact⟨none,0,rfl,c_,by omega,λ_=>⟨rfl,rfl⟩,λa e=>by simp at e⟩
 .refine⟨_,b,rfl,j,by simpa[maxLen]using g,(λk=>by cases k),λa e=>⟨c,rfl,?_⟩⟩;rw[<-f a e];simp[World.cell?,i]
theorem ix.J{w:World}{v:Value}{xs:List Value}(h:ix w t v xs)(e:∀a,v.ownBlock=some a->W.heap[a]?=w.heap[a]?):ix W t v xs:=by
 rcases h with h|⟨a,f,d,rfl,b,c⟩
 .exact .inl h
 .exact .inr ⟨a,f,d,rfl,by rw[e a rfl];exact b,c⟩
theorem ix.own{w:World}{v:Value}{xs:List Value}(h:ix w t v xs):∀a,v.ownBlock=some a->a<w.heap.size/\Ty w a t:=by
 intro a b;rcases h with⟨rfl,rfl⟩|⟨d,g,f,rfl,c,e⟩
 .simp[Value.ownBlock]at b
 .simp[Value.ownBlock]at b;subst b;exact⟨(jt.1 c).1,_,_,c⟩
theorem ix.below{w:World}{v:Value}{xs:List Value}(h:ix w t v xs)(c:Below w.heap.size w W):ix W t v xs:=h.J (λa b=>c.block a (h.own a b).1)
theorem ix.vp{w:World}{B:Nat}{v:Value}{xs:List Value}(h:w.ownsRow B t 1 v xs.length xs):ix w t v xs:=by
 rcases h.2 with⟨a,c⟩|⟨i,k,b,a,c,l,g,f,m,d⟩
 .exact .inl ⟨a,lp c⟩
 .refine .inr ⟨i,k,b,a,l,g,by omega,f,λe j=>?_⟩;rw[qd]at d;have:xs[e]?=(b.toList.take xs.length)[e]?:=by rw[d]
  rw[this,y3 j];simp
def BX(w:World)(d:TypeId)(v:Value)(xs:List Value)(x:Value)(c:Value)(b:World):Prop:=ix b d c (xs++[x])/\w.grownBy b v.ownBlock/\∀a,c.ownBlock=some a->v.ownBlock=some a\/w.heap.size<=a
theorem qi{P:Program}{ops:Array Oper}{o:Oper}{a:Act}{w:World}{K:Act->World->Prop}{Q:Exit->Act->World->Prop}{E:Prop}(q:o.guard=none)(s x:Operand){t:TypeId}(C:o.op=Op.call {callee:=Callee.builtin Builtin.append,args:=#[s,x],argTypes:=#[t,t]}){e:TypeId}(i:TypeInfo)(z:Value)(A:Nat)(F:P.underlying t=some (.slice e))(N:P.info? e=some i)(U:i.zero=some z)(L:i.size=1)(V:i.bytes=A)(Z:z.cells.size=1){v:Value}{xs:List Value}(D:a.eval s=v)(ah:ix w e v xs)(j:Addr)(u:Value)(I:a.eval x=.slice (some j) 1 1)(af:w.cell? (j.add 0)=some u)(ac:u.oneCell'=true)(X:xs.length+1<=maxLen)(O:(xs.length+1)*A<=140737488355328)(G:∀k l,BX w e v xs u k l->K (a.put o.dst k) l):if Region.wanted o (yielded ops a.tmps)=true then Oper.wp P o a w K Q else E:=by
 have H:∀b h,[u][b]?=some h->w.cell? (j.add b)=some h:=by
  intro b h c;match b,c with
  |0,c=>simp at c;subst c;exact af
 have M:∀h∈[u],h.oneCell'=true:=by
  intro h T;simp at T;subst T;exact ac
 rcases id ah with⟨rfl,rfl⟩|⟨d,B,S,rfl,y,am,ak,ab,W⟩
 .refine step_append_grows q s x t C e i z 1 A F N U L V Z (by decide) none 0 0 [] D (λ_=>⟨rfl,rfl⟩) rfl (λad n=>by cases n) j 1 1 [u] I rfl H M (by decide) (by simpa using X) (by simpa using O) ?_;intro k l p g;refine G k l ⟨ix.vp (by simpa using p),g,λd q=>.inr (kF p d q).1⟩
 .by_cases Y:xs.length+1<=B
  .refine step_append_room q s x t C e i 1 F N L d 0 xs.length B D j 1 1 [u] I rfl H M Y (λb c=>?_) ?_
   .have ag:b=0:=by simpa using c
    subst ag;have ae:xs.length<S.size:=by omega
    refine⟨?_,?_⟩
    .simp[World.cell?,y,ae]
    .simp[World.frozen?,y]
   .have f:w.setCells d (0+xs.length*1) [u]=w.setCell ⟨d,xs.length,none⟩ u:=by
     rw[qd,jF];rfl
    rw[f];refine G _ _ ⟨.inr ⟨d,B,S.setIfInBounds xs.length u,by simp,ja _ _ _ _ _ _ y,by simpa using Y,by simpa using ak,ab,λb c=>?_⟩,⟨rfl,rfl,rfl,by simp[World.setCell],λR _ al=>?_⟩,λaa J=>.inl J⟩
    .by_cases ai:b=xs.length
     .subst ai;rw[yt,if_pos (by omega)];simp
     .have r:b<xs.length:=by simp at c;omega
      rw[r8 (by omega),W b r,lQ r]
    .exact js _ _ _ _ (λf=>al (by simp[Value.ownBlock,f]))
  .refine step_append_grows q s x t C e i z 1 A F N U L V Z (by decide) (some ⟨d,0,none⟩) xs.length B xs D (λf=>by cases f) (by simp) (λad n b h c=>?_) j 1 1 [u] I rfl H M (by omega) X O ?_
   .injection n with n
    subst n;have r:b<xs.length:=by
     rcases iX b xs.length with m|m
     .exact m
     .rw[l4 m]at c;cases c
    have:=W b r;rw[c]at this;have f:Addr.add ⟨d,0,none⟩ b=⟨d,b,none⟩:=by simp[Addr.add];exact λm=>m.symm
    rw[f];simp only[World.cell?,y];exact this
   .intro k l p g;refine G k l ⟨ix.vp (by simpa using p),⟨g.os,g.tape,g.output,g.size,λR aj _=>g.block R aj (by simp)⟩,λaa J=>.inr (kF p aa J).1⟩
theorem kj{P:Program}{w:World}{ops:Array Oper}{j:List Oper}{o:Oper}{a:Act}{Q:Exit->Act->World->Prop}(g:o.guard=none)(s x:Operand){t:TypeId}(k:o.op=Op.call {callee:=Callee.builtin Builtin.append,args:=#[s,x],argTypes:=#[t,t]}){c:TypeId}(i:TypeInfo)(z:Value)(h:Nat)(C:P.underlying t=some (.slice c))(I:P.info? c=some i)(n:i.zero=some z)(H:i.size=1)(p:i.bytes=h)(F:z.cells.size=1){v:Value}{xs:List Value}(r:a.eval s=v)(B:ix w c v xs)(f:Addr)(u:Value)(G:a.eval x=.slice (some f) 1 1)(y:w.cell? (f.add 0)=some u)(q:u.oneCell'=true)(A:xs.length+1<=maxLen)(l:(xs.length+1)*h<=140737488355328)(D:∀d e,BX w c v xs u d e->wpList P ops Q j (a.put o.dst d) e):wpList P ops Q (o::j) a w:=by
 refine wpList_plain g λJ m=>?_;have b:=qi (P:=P) (ops:=ops) (Q:=Q) (E:=False) (K:=J) g s x k i z h C I n H p F r B f u G y q A l (λd e b=>m _ _ (D d e b));rw[if_pos (by simp[Region.wanted,g])]at b;exact b
def pq(ms:List Hm):Prop:=∀b a c d,b<24->a<24->ms.getD b none=some c->ms.getD a none=some d->c.1=d.1->b=a
theorem nN{ms:List Hm}(hd:pq ms){h e:Int}{t:List UInt8}(o:q5 ms h t e)(m:q5 ms h L a):t=L/\e=a:=by
 rcases o with⟨rfl,j,n,l,c,p,rfl⟩|⟨rfl,rfl,f⟩
 .rcases m with⟨rfl,d,g,i,b,k,rfl⟩|⟨rfl,rfl,f⟩
  .have:=hd j d n g l i c b (by omega);subst this;rw[c]at b;injection b with b
   subst b;exact⟨rfl,rfl⟩
  .exact absurd p (f j l n c)
 .rcases m with⟨rfl,d,g,i,b,k,rfl⟩|⟨rfl,rfl,-⟩
  .exact absurd k (f d i g b)
  .exact⟨rfl,rfl⟩
theorem r5{B e m l:Nat}{h:Int}{ms:List Hm}{nx:Nat}{w:World}(c:nu B w e m l ms nx):Calls Tryz.prog 122 #[.pointer (some ⟨e,0,none⟩),.int .i64 h] w λf k=>∃a b,f=.returned (.tuple #[.string ⟨a.toArray⟩,.int .i64 b])/\q5 ms h a b/\Below w.heap.size w k:=by
 obtain⟨o,p,q,-⟩:=c.1.cells;have j:=a_ c;clear c;go_in;go_wp2_with fail;go_fit (wR j.g j.r.tab);rintro f n⟨a,b,rfl,d,i⟩;have g:=b_ d i;clear d i;go_wp2;go_ret2;exact⟨a,b,rfl,g.f,g.i⟩
def CD(ms:List Hm)(h e:Int)(c:List Hm):Prop:=(e=0/\∃a b,a<24/\ms.getD a none=some b/\(b.1:Int)=h/\c=ms.set a none)\/(e=2/\c=ms/\∀a,a<24->∀b,ms.getD a none=some b->(b.1:Int)≠h)
theorem EV(h:Int){ms:List Hm}(nx:Nat)(hd:pq ms):∃i r,CD ms h i r/\∀d e,jf e d ms nx->Calls Tryz.prog 29 #[.pointer (some ⟨d,0,none⟩),.int .i64 h] e λa k=>a=.returned (.int .i64 i)/\jf k d r nx/\Fr d e k:=by
 by_cases c:∃b a,b<24/\ms.getD b none=some a/\(a.1:Int)=h
 .obtain⟨b,a,c,g,s⟩:=c;refine⟨0,ms.set b none,.inl ⟨rfl,b,a,c,g,s,rfl⟩,λd e j=>(xX j).mono ?_⟩;rintro w k⟨v,rfl,n⟩;rcases n with⟨rfl,o,f,⟨l,m,p⟩,u,t⟩|⟨rfl,rfl,q⟩
  .have:=hd b o a l c f g m (by omega);subst this;exact⟨rfl,u,t⟩
  .exact absurd s (q b c a g)
 .refine⟨2,ms,.inr ⟨rfl,rfl,λb f a g i=>c ⟨b,a,f,g,i⟩⟩,λd e j=>(xX j).mono ?_⟩;rintro w k⟨v,rfl,n⟩;rcases n with⟨rfl,o,f,⟨l,m,p⟩,u,t⟩|⟨rfl,rfl,q⟩
  .exact absurd ⟨o,l,f,m,p⟩ c
  .exact⟨rfl,j,Fr.refl _ _⟩
theorem BT{B:Nat}{h:Int}{ms:List Hm}{nx:Nat}{w:World}(q:nu B w i j k ms nx)(hd:pq ms):Calls Tryz.prog 154 #[.pointer (some ⟨i,0,none⟩),.int .i64 h] w λn m=>∃c e,n=.returned (.int .i64 c)/\CD ms h c e/\nu B m i j k e nx/\j5 (tN j k) w m:=by
 obtain⟨c,e,hrel,A⟩:=EV h nx hd;obtain⟨r,s,p,-⟩:=q.1.cells;have a:=hO q hrel A;have M:(c==c)=true:=by simp
 clear q hrel A;go_in;go_wp2_with fail;go_fit (a.l j _ a.f.2.1);rintro n g⟨rfl,v,f⟩;have I:i≠j:=a.f.1.ne a.f.2.1.ty;have o:Tw g i j k false:=a.f.1.J (f.1.block i a.f.1.lt (by simpa using I));have D:jf g k ms nx:=a.f.2.2.1.fr f (Ne.symm a.f.2.2.2.1);clear r s p;obtain⟨r,s,p,-⟩:=o.cells;have b:=hY v f o D;clear v f o D;go_wp2_with fail;go_fit (a.l k _ b.o);rintro n C⟨rfl,y,l⟩;have G:i≠k:=b.j.ne b.o.ty;have E:Tw C i j k false:=b.j.J (l.1.block i b.j.lt (by simpa using G));have u:jf C j e nx:=b.f.fr l a.f.2.2.2.1;have d:=hY y l E u;clear y l E u r s p;go_wp2_with fail;go_fit (ma);rintro n m⟨rfl,rfl⟩;go_wp2;go_ret;obtain⟨t,-,-,J,H,K,x,z⟩:=a.f;have F:Below B w g:=b.g.ni x (by have:=t.lt;omega);have L:Below B g m:=d.g.ni z (by have:=F.size;have:=t.lt;omega);exact⟨c,e,rfl,a.g,⟨d.j,d.o,d.f,J,(H.below F).below L,K,x,z⟩,(j5.p_ b.g (.inl rfl)).trans (j5.p_ d.g (.inr rfl))⟩
theorem DR{w:World}(j:vx w):Calls Tryz.prog 76 #[] w λf n=>∃h q p,f=.returned (.pointer (some ⟨h,0,none⟩))/\nu w.heap.size n h q p (List.replicate 24 none) 0/\Below w.heap.size w n:=by
 have r:=a_ j;clear j;go_in;go_wp2_with fail;go_fit (A9);rintro f k⟨rfl,b,m⟩;have d:=b_ b m;have t:=b.lt;clear b m;go_wp2_with fail;go_fit (A9);rintro f a⟨rfl,e,o⟩;have c:=b_ e o;have s:=e.lt;clear e o;go_wp2;go_ret;have g:Below a.heap.size a (a.alloc (.cells #[.pointer (some ⟨w.heap.size,0,none⟩),.pointer (some ⟨k.heap.size,0,none⟩),.bool false] 149)):=hS;have l:Below w.heap.size w a:=d_ d.i c.i;have i:=d_ l g;exact⟨a.heap.size,w.heap.size,k.heap.size,rfl,⟨iP a _,(d.f.below c.i).below g,c.f.below g,by omega,(zl.of r.e).below i,l.size,c_,d.i.size⟩,i⟩
namespace R
def val:List Nat->Nat
 |[]=>0
 |a::b=>a+10000*val b
def Lo(xs:List Nat):Prop:=∀a∈xs,a<10000
def l9(xs:List Nat):Prop:=Lo xs/\(xs=[]\/0<xs.getD (xs.length-1) 0)
theorem q7:val []=0:=rfl
theorem iN(x:Nat)(r:List Nat):val (x::r)=x+10000*val r:=rfl
theorem lC(xs ys:List Nat):val (xs++ys)=val xs+10000^xs.length*val ys:=by
 induction xs with
 |nil=>simp[val]
 |cons c a b=>
  simp only[mS,iN,b,j3,jx,jd];rw[ij (10000^a.length) 10000,jG];omega
theorem mz:Lo []:=by intro b a;cases a
theorem zk{x:Nat}{r:List Nat}(h:x<10000)(c:Lo r):Lo (x::r):=by
 intro b a;rcases jU.1 a with rfl|a
 .exact h
 .exact c b a
theorem ub{a b:List Nat}(f:Lo a)(e:Lo b):Lo (a++b):=by
 intro d c;rcases ji.1 c with c|c
 .exact f d c
 .exact e d c
theorem mG{xs:List Nat}(h:Lo xs)(k:Nat):Lo (xs.take k):=λb a=>h b (tD a)
theorem jW{xs:List Nat}(h:Lo xs)(k:Nat):xs.getD k 0<10000:=by
 by_cases a:k<xs.length
 .simp only[List.getD,iI a,wy];exact h _ (lf a)
 .simp[List.getD,l4 (by omega:xs.length<=k)]
theorem j8{xs:List Nat}(h:Lo xs):val xs<10000^xs.length:=by
 induction xs with
 |nil=>simp[val]
 |cons a g c=>
  have e:a<10000:=h a (by simp);have f:=c (λb d=>h b (by simp[d]));simp only[iN,j3,jx];omega
theorem lG{xs:List Nat}(h:∀a∈xs,a=0):val xs=0:=by
 induction xs with
 |nil=>rfl
 |cons a g c=>
  have d:=h a (by simp);have e:=c (λb f=>h b (by simp[f]));simp[iN,d,e]
theorem ir(xs:List Nat)(k:Nat)(a:k<=xs.length):val xs=val (xs.take k)+10000^k*val (xs.drop k):=by
 have:=lC (xs.take k) (xs.drop k);rw[tz,kv,o_ a]at this;exact this
theorem kW(xs:List Nat)(k:Nat)(a:k<xs.length):xs.take (k+1)=xs.take k++[xs.getD k 0]:=by
 rw[oW a];simp[List.getD,iI a]
theorem oZ(xs:List Nat)(k:Nat)(a:k<xs.length):val (xs.take (k+1))=val (xs.take k)+10000^k*xs.getD k 0:=by
 rw[kW xs k a,lC,kv,o_ (by omega)];simp[val]
theorem iz(xs:List Nat)(k:Nat)(a:k<xs.length):xs.drop k=xs.getD k 0::xs.drop (k+1):=by
 rw[ow a];simp[List.getD,iI a]
theorem mh{xs:List Nat}(d:Lo xs)(k:Nat)(c:k<=xs.length)(g:∀f∈xs.drop k,f=0)(a:k=0\/0<xs.getD (k-1) 0):l9 (xs.take k)/\val (xs.take k)=val xs/\(xs.take k).length=k:=by
 have b:(xs.take k).length=k:=by rw[kv,o_ c]
 refine⟨⟨mG d k,?_⟩,?_,b⟩
 .rcases a with rfl|a
  .exact .inl (by simp)
  .by_cases e:k=0
   .subst e;exact .inl (by simp)
   .refine .inr ?_;rw[b];simpa[List.getD,sJ,show k-1<k from by omega]using a
 .rw[ir xs k c,lG g];simp
theorem kS{xs:List Nat}(h:l9 xs):val xs=0↔xs=[]:=by
 constructor
 .intro d;rcases h.2 with h|h
  .exact h
  .exfalso;have b:0<xs.length:=by
    cases xs with
    |nil=>simp at h
    |cons f e=>simp
   have:=ir xs (xs.length-1) (by omega);rw[iz xs (xs.length-1) (by omega),iN]at this;have c:0<10000^(xs.length-1):=kx (by decide);have:10000^(xs.length-1)*(xs.getD (xs.length-1) 0+10000*val (xs.drop (xs.length-1+1)))=0:=by omega
   rcases Nat.mul_eq_zero.1 this with a|a<;>omega
 .rintro rfl;rfl
theorem oY{xs:List Nat}(h:l9 xs)(a:xs≠[]):10000^(xs.length-1)<=val xs:=by
 have c:0<xs.getD (xs.length-1) 0:=h.2.resolve_left a;have b:0<xs.length:=rE.2 a;have:=ir xs (xs.length-1) (by omega);rw[iz xs (xs.length-1) (by omega),iN]at this;rw[this];have:10000^(xs.length-1)*1<=10000^(xs.length-1)*(xs.getD (xs.length-1) 0+10000*val (xs.drop (xs.length-1+1))):=jJ _ (by omega);omega
theorem jH{a b:List Nat}(d:Lo a)(c:l9 b)(h:a.length<b.length):val a<val b:=by
 have e:=j8 d;have f:=oY c (by rintro rfl;simp at h);have g:10000^a.length<=10000^(b.length-1):=jb (by decide) (by omega);omega
theorem ld(xs:List Nat)(k:Nat)(h:xs.length<=k):xs.getD k 0=0:=by simp[List.getD,l4 h]
theorem h_(xs:List Nat)(k:Nat):val (xs.take (k+1))=val (xs.take k)+10000^k*xs.getD k 0:=by
 by_cases a:k<xs.length
 .exact oZ xs k a
 .rw[ld xs k (by omega),ka (by omega),ka (by omega)];simp
theorem mf{zs:List Nat}(h:Lo zs)(k c:Nat)(e:c<10000):Lo (zs.set k c):=by
 intro d b;rcases List.mem_or_eq_of_mem_set b with a|a
 .exact h d a
 .omega
theorem mM(n:Nat):Lo (List.replicate n 0):=by
 intro b a;rw[rQ a];decide
theorem nK{P a X c b x y:Nat}(h:a+c=X+P*b)(d:x<10000)(e:y<10000)(f:b<=1):a+P*(if x<y+b then x+10000-(y+b)else x-(y+b))+(c+P*y)=X+P*x+P*10000*(if x<y+b then 1 else 0):=by
 split
 .have:P*(x+10000-(y+b))+P*y+P*b=P*x+P*10000:=by
   rw[<-jd,<-jd,<-jd];congr 1;omega
  omega
 .have:P*(x-(y+b))+P*y+P*b=P*x:=by
   rw[<-jd,<-jd];congr 1;omega
  omega
theorem yP{xs ys zs:List Nat}{b n:Nat}(c:Lo zs)(e:zs.length=n)(f:val ys<=val xs)(h:val zs+val ys=val xs+10000^n*b):val zs=val xs-val ys:=by
 have a:=j8 c;rw[e]at a;rcases kl b with rfl|d
 .omega
 .have:10000^n*1<=10000^n*b:=jJ _ d;omega
theorem oH(zs:List Nat)(k c:Nat)(b:k<zs.length):val (zs.set k c)+10000^k*zs.getD k 0=val zs+10000^k*c:=by
 have d:=ir zs k (by omega);have a:=ir (zs.set k c) k (by simp;omega);rw[iz zs k b,iN]at d;rw[iz (zs.set k c) k (by simpa using b),iN,B_ (BL k),vL (by omega)]at a;rw[show(zs.set k c).getD k 0=c from by simp[List.getD,b]]at a;rw[d,a,jd,jd];omega
theorem getD_set_ne(zs:List Nat)(k c j:Nat)(h:k≠j):(zs.set k c).getD j 0=zs.getD j 0:=by simp[List.getD,mb h]
def il(xs:List Nat):List Value:=xs.map λ(a:Nat)=>Value.int .i64 (a:Int)
def Own(w:World)(v:Value)(xs:List Nat):Prop:=w.ownsRow 0 3 1 v xs.length (il xs)
theorem Own.nil(w:World):Own w (.slice none 0 0) []:=oI _ _ _ _
theorem Own.below{w:World}{v:Value}{xs:List Nat}(h:Own w v xs)(i:Below w.heap.size w W):Own W v xs:=by
 refine⟨h.1,?_⟩;rcases h.2 with d|⟨a,j,g,e,c,b,f⟩
 .exact .inl d
 .exact .inr ⟨a,j,g,e,c,by rw[i.block a (jt.1 b).1];exact b,f⟩
theorem mj(xs:List Nat)(i:Nat)(h:i<xs.length):(il xs)[i]?=some (.int .i64 (xs.getD i 0:Nat)):=by
 simp[il,List.getD,iI h]
theorem Own.open_{w:World}{v:Value}{xs:List Nat}(h:Own w v xs):∃d a,v=.slice d xs.length a/\xs.length<=a/\a<=9223372036854775807/\(∀c,c<xs.length->∃b,d=some ⟨b,0,none⟩/\w.cell? ⟨b,c,none⟩=some (.int .i64 (xs.getD c 0:Nat)))/\(d=none->xs=[]/\a=0)/\(∀b,d=some b->∃e,b=⟨e,0,none⟩):=by
 rcases h.2 with⟨rfl,l⟩|⟨e,a,o,rfl,n,m,j,k,p,i⟩
 .have:xs=[]:=lp l;subst this;exact⟨none,0,rfl,by simp,by simp,by simp,by simp,by simp⟩
 .refine⟨some ⟨e,0,none⟩,a,rfl,j,by simpa[maxLen]using k,λc g=>⟨e,rfl,?_⟩,by simp,by simp⟩;have f:=mj xs c g;rw[<-i,qd,sJ,if_pos g]at f;simp only[World.cell?,m];simpa using f
theorem Own.cut{w:World}{xs:List Nat}(h:Own w (.slice O xs.length i) xs)(k:Nat)(b:k<=xs.length):Own w (.slice O k i) (xs.take k):=by
 have e:(xs.take k).length=k:=by rw[List.length_take,Nat.min_eq_left b]
 unfold Own World.ownsRow;rw[e];refine⟨by simp[il,Nat.min_eq_left b],?_⟩;rcases h.2 with⟨a,p⟩|⟨g,q,j,a,d,l,o,f,m,c⟩
 .simp only[Value.slice.injEq]at a;obtain⟨rfl,n,rfl⟩:=a;exact .inl ⟨by rw[show k=0 from by omega],by omega⟩
 .simp only[Value.slice.injEq]at a;obtain⟨rfl,_,rfl⟩:=a;refine .inr ⟨g,i,j,rfl,d,l,by omega,f,m,?_⟩;rw[Nat.mul_one]at c|-;have:List.take k (il xs)=il (xs.take k):=by simp[il,List.map_take]
  rw[<-this,<-c,List.take_take,Nat.min_eq_left b]
theorem pH(zs:List Nat)(k c:Nat):(il zs).set k (.int .i64 (c:Nat))=il (zs.set k c):=by simp[il,List.map_set]
theorem Own.stored{w:World}{g n:Nat}{zs:List Nat}(h:Own w (.slice (some ⟨g,0,none⟩) n i) zs)(a:zs.length=n)(k c:Nat):Own (w.setCell ⟨g,k,none⟩ (.int .i64 (c:Nat))) (.slice (some ⟨g,0,none⟩) n i) (zs.set k c):=by
 subst a;have:=(Fy (w:=w) h k (.int .i64 (c:Nat))).1;rw[pH]at this;unfold Own;rw[vC];exact this
theorem Own.Z{w:World}{g n:Nat}{zs:List Nat}(h:Own w (.slice (some ⟨g,0,none⟩) n i) zs)(a:zs.length=n)(k c:Nat){z:Int}(b:z=(c:Int)):Own (w.setCell ⟨g,k,none⟩ (.int .i64 z)) (.slice (some ⟨g,0,none⟩) n i) (zs.set k c):=by rw[b];exact h.stored a k c
theorem Own.cell{w:World}{g n:Nat}{zs:List Nat}(h:Own w (.slice (some ⟨g,0,none⟩) n i) zs)(a:zs.length=n)(k:Nat)(b:k<n):w.cell? ⟨g,k,none⟩=some (.int .i64 (zs.getD k 0:Nat)):=by
 subst a;rw[vF h k (by omega),mj zs k b]
theorem Own.frozen{w:World}{g n:Nat}{zs:List Nat}(h:Own w (.slice (some ⟨g,0,none⟩) n i) zs)(a:zs.length=n)(k:Nat):w.frozen? ⟨g,k,none⟩=false:=by
 subst a;exact World.ownsRow.frozenAt h k
theorem Own.lt{w:World}{g n:Nat}{zs:List Nat}(h:Own w (.slice (some ⟨g,0,none⟩) n i) zs):g<w.heap.size:=(kF h g rfl).2
theorem Tryz.GP:(Tryz.prog.info? 3).map (λa=>(a.zero,a.size,a.bytes))=some (some (.int .i64 0),1,8):=by kernel_rfl
theorem lJ{w:World}{ops:Array Oper}{f:List Oper}{o:Oper}{a:Act}{Q:Exit->Act->World->Prop}(h:o.guard=none)(e c:Operand)(i:o.op=Op.makeSlice 51 e c){L C:Int}{n:Nat}(l:a.eval e=.int .i64 L)(m:a.eval c=.int .i64 C)(k:L=(n:Int))(s:C=(n:Int))(b:n<=1000000000000)(p:∀d,Own d (.slice (some ⟨w.heap.size,0,none⟩) n n) (List.replicate n 0)->Below w.heap.size w d->wpList Tryz.prog ops Q f (a.put o.dst (.slice (some ⟨w.heap.size,0,none⟩) n n)) d):wpList Tryz.prog ops Q (o::f) a w:=by
 obtain⟨v,r,q,j,u⟩:=kO Tryz.GP;refine wpList_make_full w h e c 51 i 0 3 v (.int .i64 0) 1 Tryz.underlying51 r q j .i64 .i64 L C n l m k s (by rw[u];omega) (by unfold maxLen;omega) hR ?_;intro d g t;refine p d ?_ (hP.grown t c_ (by simp));unfold Own;rw[sQ];rw[show(Value.int IntKind.i64 0).cells=#[.int .i64 0]from rfl,toList_madeCells_one,qd]at g;simpa[il]using g
def sA(c:Value)(xs:List Nat)(v:Value):Prop:=∃a,l9 a/\val a=val xs/\a.length<=xs.length/\∀b,Own b c xs->Own b v a
theorem tC{v:Value}{xs:List Nat}{w:World}(h:Own w v xs)(n:Lo xs):Calls Tryz.prog 233 #[v] w λq u=>(∃o,q=.returned o/\sA v xs o)/\u=w:=by
 obtain⟨z,C,rfl,B,D,m,F,_⟩:=h.open_;have E:=a_ h;clear h;have l:=a_ n;clear n;go_in;go_wp2;go_loop [3] (λj=>∃a:Nat,a<=xs.length/\j=.int .i64 a/\∀b∈xs.drop a,b=0) (λj=>(intOf j).toNat)
 case atStart=>exact⟨xs.length,c_,rfl,by simp⟩
 case round=>
  obtain⟨a,p,rfl,g⟩:=hrel;by_cases y:a=0
  .subst y;go_wp2;go_ret;have c:=mh l.e 0 hR g (.inl rfl);exact⟨⟨_,rfl,_,c.1,c.2.1,by omega,λs e=>e.cut 0 hR⟩,rfl⟩
  .obtain⟨A,rfl,t⟩:=m (a-1) (by omega);obtain⟨b,i⟩:=hQ (xs.getD (a-1) 0);rw[<-i]at t;clear m;have k:=a_ i;clear i;go_wp2
   .have f:((b:Int)==0)=true:=by assumption
    have r:b=0:=by simpa using f
    go_round
    case rel=>
     refine⟨a-1,by omega,by go_num,λx d=>?_⟩;rw[iz xs (a-1) (by omega),<-k.e,show a-1+1=a from by omega]at d;rcases jU.1 d with d|d
     .omega
     .exact g x d
    case measure=>simp[intOf];omega
   .have f:((b:Int)==0)=false:=by assumption
    have r:b≠0:=by simpa using f
    go_ret;have c:=mh l.e a p g (.inr (by rw[<-k.e];omega));exact⟨⟨_,rfl,_,c.1,c.2.1,by omega,λs e=>e.cut a p⟩,rfl⟩
def lB(B:Nat)(w:World)(v:Value)(xs:List Nat):Prop:=w.ownsRow B 3 1 v xs.length (il xs)
theorem lB.own{B:Nat}{w:World}{v:Value}{xs:List Nat}(h:lB B w v xs):Own w v xs:=by
 refine⟨h.1,?_⟩;rcases h.2 with a|⟨c,f,e,b,g,d⟩
 .exact .inl a
 .exact .inr ⟨c,f,e,b,hR,d⟩
theorem iZ{w:World}{ops:Array Oper}{g:List Oper}{o:Oper}{a:Act}{Q:Exit->Act->World->Prop}(i:o.guard=none)(s x:Operand)(j:o.op=.call {callee:=.builtin .append,args:=#[s,x],argTypes:=#[51,51]}){B:Nat}{v:Value}{zs:List Nat}(m:a.eval s=v)(E:lB B w v zs)(f:Addr)(A:a.eval x=.slice (some f) 1 1)(c:Nat)(p:w.cell? (f.add 0)=some (.int .i64 (c:Nat)))(F:zs.length<=100000000000)(C:B<=w.heap.size)(y:∀d b,lB B b d (zs++[c])->w.grownBy b v.ownBlock->wpList Tryz.prog ops Q g (a.put o.dst d) b):wpList Tryz.prog ops Q (o::g) a w:=by
 obtain⟨q,z,k,r,l⟩:=kO Tryz.GP;refine wC w i s x 51 j B 3 q (.int .i64 0) 1 8 Tryz.underlying51 z k r l rfl (by decide) v zs.length (il zs) m E f 1 1 [.int .i64 (c:Nat)] A rfl ?_ ?_ ?_ ?_ C ?_
 .intro t n e;match t,e with
  |0,e=>simp at e;subst e;exact p
 .intro n h;simp at h;subst h;rfl
 .unfold maxLen;omega
 .omega
 .intro d b u D _;refine y d b ?_ D;unfold lB;rw[show il (zs++[c])=il zs++[.int .i64 (c:Nat)]from by simp[il],j6,nn];exact u
theorem Own.at_{w:World}{n:Nat}{xs:List Nat}(h:Own w (.slice O n i) xs)(f:xs.length=n)(k:Nat)(e:k<n):∃a,O=some ⟨a,0,none⟩/\w.cell? ⟨a,k,none⟩=some (.int .i64 (xs.getD k 0:Nat)):=by
 obtain⟨d,g,b,_,_,c,_⟩:=h.open_;simp only[iC]at b;obtain⟨rfl,_,rfl⟩:=b;exact c k (by omega)
def mL(a b:Nat):Int:=if a<b then-1 else if b<a then 1 else 0
theorem yD{xs:List Nat}(h:l9 xs):0<xs.length->10000^(xs.length-1)<=val xs:=by
 intro b;have c:=ir xs (xs.length-1) (by omega);rw[iz xs (xs.length-1) (by omega),iN,show xs.length-1+1=xs.length from by omega,xx,q7]at c;rcases h.2 with a|a
 .subst a;simp at b
 .have:10000^(xs.length-1)*1<=10000^(xs.length-1)*(xs.getD (xs.length-1) 0+10000*0):=jJ _ (by omega);omega
theorem vr{xs ys:List Nat}(a:Lo xs)(b:l9 ys)(h:xs.length<ys.length):val xs<val ys:=by
 have c:=j8 a;have d:=yD b (by omega);have e:10000^xs.length<=10000^(ys.length-1):=jb (by decide) (by omega);omega
theorem EX{xs ys:List Nat}(a:Lo xs)(f:xs.length=ys.length)(k:Nat)(c:k<xs.length)(b:xs.drop (k+1)=ys.drop (k+1))(e:xs.getD k 0<ys.getD k 0):val xs<val ys:=by
 rw[ir xs k (by omega),ir ys k (by omega),iz xs k c,iz ys k (by omega),iN,iN,b];have d:=j8 (mG a k);rw[kv,o_ (by omega)]at d;have g:10000^k*(xs.getD k 0+10000*val (ys.drop (k+1)))+10000^k<=10000^k*(ys.getD k 0+10000*val (ys.drop (k+1))):=by
  rw[<-Nat.mul_succ];exact jJ _ (by omega)
 omega
theorem wO{v u:Value}{xs ys:List Nat}{w:World}(o:Own w v xs)(q:Own w u ys)(g:l9 xs)(h:l9 ys)(V:xs.length<=100000000000):Calls Tryz.prog 224 #[v,u] w λz H=>z=.returned (.int .i64 (mL (val xs) (val ys)))/\Below w.heap.size w H:=by
 obtain⟨L,ab,rfl,T,Y,-⟩:=o.open_;obtain⟨Z,P,rfl,W,M,-⟩:=q.open_;have b:=hY o q g h;clear o q g h;by_cases D:xs.length<ys.length
 .go_in;go_wp2;go_ret;refine⟨lb ?_,hP⟩;obtain⟨_,_,g,h⟩:=b.e;unfold mL;rw[if_pos (vr g.1 h (by omega))]
 .by_cases J:ys.length<xs.length
  .have y:decide (xs.length<ys.length)=false:=by simp;omega
   go_in;go_wp2;go_ret;refine⟨lb ?_,hP⟩;obtain⟨_,_,g,h⟩:=b.e;have:=vr h.1 g (by omega);unfold mL;rw[if_neg (by omega),if_pos this]
  .have t:xs.length=ys.length:=by omega
   have y:decide (xs.length<ys.length)=false:=by simp;omega
   have N:decide (ys.length<xs.length)=false:=by simp;omega
   have i:=a_ t;clear D J t;go_in;go_wp2_with fail;go_loopw [5] (λn wr=>∃a:Nat,a<=xs.length/\n=.int .i64 ((a:Int)-1)/\Below w.heap.size w wr/\f_ (xs.drop a=ys.drop a)) (λn _=>(intOf n+1).toNat)
   case atStart=>
    exact⟨xs.length,c_,rfl,hP,a_ (by rw[lA (by omega),lA (by rw[i.e];omega)])⟩
   case round=>
    obtain⟨a,X,rfl,r,j⟩:=hrel;have f:=a_ r;clear r;by_cases C:a=0
    .subst C;go_wp2;go_ret;refine⟨lb ?_,f.e⟩;have s:=j.e;rw[pO,pO]at s;rw[s];simp[mL]
    .obtain⟨a,rfl⟩:∃I,a=I+1:=⟨a-1,by omega⟩;have m:a<ys.length:=by have:=i.e;omega
     obtain⟨R,rfl,E⟩:=(b.f.below f.e).at_ rfl a (by omega);obtain⟨aa,rfl,A⟩:=(b.g.below f.e).at_ rfl a m;obtain⟨d,p⟩:=hQ (xs.getD a 0);obtain⟨c,k⟩:=hQ (ys.getD a 0);have G:=jW b.j.1 a;have B:=jW b.m a;rw[<-p]at E G;rw[<-k]at A B;have e:=b_ p k;clear p k;by_cases l:d<c
     .go_wp2_with fail;go_quiet (fail);go_wp2;go_ret;refine⟨lb ?_,im f.e _⟩;unfold mL;rw[if_pos (EX b.j.1 i.e a (by omega) j.e (by rw[<-e.f,<-e.i];exact l))]
     .have Q:decide (d<c)=false:=by simp;omega
      have S:decide ((d:Int)<(c:Int))=false:=by simp;omega
      by_cases x:c<d
      .clear l;go_wp2_with fail;go_quiet (fail);go_wp2_with fail;go_quiet (fail);go_wp2;go_ret;refine⟨lb ?_,by repeat(first|exact f.e|refine im ?_ _)⟩;have K:=EX b.m i.e.symm a m j.e.symm (by rw[<-e.f,<-e.i];exact x);unfold mL;rw[if_neg (by omega),if_pos K]
      .have O:decide (c<d)=false:=by simp;omega
       have U:decide ((c:Int)<(d:Int))=false:=by simp;omega
       have F:=a_ (show d=c from by omega);clear l x;go_wp2_with fail;go_quiet (fail);go_wp2_with fail;go_quiet (fail);go_wp2;go_roundw
       .refine⟨a,by omega,by go_num,by repeat(first|exact f.e|refine im ?_ _),a_ ?_⟩;rw[iz xs a (by omega),iz ys a m,j.e,<-e.f,<-e.i,F.e]
       simp[intOf]
def kB(w:World)(v:Value)(z:Int)(L:Nat):Prop:=∃neg b a,v=.agg #[.bool neg,b]/\Own w b a/\l9 a/\(neg=true->a≠[])/\z=(if neg then-(val a:Int)else(val a:Int))/\a.length<=L
theorem kB.below{w:World}{v:Value}{z:Int}{L:Nat}(h:kB w v z L)(c:Below w.heap.size w W):kB W v z L:=by
 obtain⟨neg,e,d,a,b,f⟩:=h;exact⟨neg,e,d,a,b.below c,f⟩
theorem oh{neg:Bool}{v:Value}{xs:List Nat}{w:World}(r:Own w v xs)(o:Lo xs):Calls Tryz.prog 223 #[.bool neg,v] w λe j=>∃m,e=.returned m/\kB j m (if neg then-(val xs:Int)else(val xs:Int)) xs.length/\Below w.heap.size w j:=by
 have f:=b_ r o;clear r o;go_in;go_wp2_with fail;go_fit (tC (f.f.below hS) f.i);rintro e j⟨⟨G,rfl,E⟩,rfl⟩;obtain⟨a,q,t,y,k⟩:=E;obtain⟨b,d,rfl,H,I,-⟩:=(k _ f.f).open_;have p:=hY q t y k;clear q t k;have s:∀(c:Bool) (h:World),Below w.heap.size w h->(c=true->a≠[])->kB h (.agg #[.bool c,.slice b a.length d]) (if c then-(val xs:Int)else(val xs:Int)) xs.length:=by
  intro c h x F;obtain⟨u,B,z,C⟩:=p.e;exact⟨c,_,a,rfl,(C _ f.f).below x,u,F,by rw[B],z⟩
 have l:=a_ s;clear s
 cases neg
 .go_wp2_with fail;refine ig (v:=.agg #[.bool false,.slice b a.length d]) (by simp[results,Tryz.results223,go_sem]) rfl ?_;exact⟨_,rfl,l.e false _ hS (λg=>by cases g),hS⟩
 .by_cases i:0<a.length
  .go_wp2_with fail;refine ig (v:=.agg #[.bool true,.slice b a.length d]) (by simp[results,Tryz.results223,go_sem]) rfl ?_;exact⟨_,rfl,l.e true _ hS (λ_ e=>by rw[e]at i;simp at i),hS⟩
  .have J:decide (0<a.length)=false:=ic i;have n:a=[]:=lp (by omega);have A:=a_ n;clear n;go_wp2_with fail;refine ig (v:=.agg #[.bool false,.slice b a.length d]) (by simp[results,Tryz.results223,go_sem]) rfl ?_;have D:val xs=0:=by rw[<-p.g,A.e];rfl
   have:=l.e false (w.alloc (.cells #[.bool false,.slice b a.length d] 171)) hS (λg=>by cases g);refine⟨_,rfl,?_,hS⟩;rw[D]at this|-;exact this
theorem lR(zs:List Nat)(c:Nat):val (zs++[c])=val zs+10000^zs.length*c:=by rw[lC];simp[val]
theorem mC{zs:List Nat}{c:Nat}(h:Lo zs)(a:c<10000):Lo (zs++[c]):=ub h (zk a mz)
theorem q9{P X x y:Nat}(h:i+P*j=X+k):i+P*((j+x+y)%10000)+P*10000*((j+x+y)/10000)=X+P*x+(k+P*y):=by
 have a:P*((j+x+y)%10000)+P*10000*((j+x+y)/10000)=P*(j+x+y):=by
  rw[jG,<-jd,tF]
 rw[jd,jd]at a;omega
def y7(w b:World)(v:Value)(n L:Nat):Prop:=(∃a,Lo a/\val a=n/\a.length<=L/\Own b v a)/\Below w.heap.size w b
def IP(w b:World)(v:Value)(n L N:Nat):Prop:=(∃a,Lo a/\val a=n/\a.length<=L/\Own b v a/\(a.length<=N\/0<a.getD (a.length-1) 0))/\Below w.heap.size w b
theorem CX{v u:Value}{xs ys:List Nat}{w:World}(H:Own w v xs)(J:Own w u ys)(N:Lo xs)(Q:Lo ys)(ak:xs.length<=50000000000)(am:ys.length<=50000000000):Calls Tryz.prog 228 #[v,u] w λT l=>∃M,T=.returned M/\IP w l M (val xs+val ys) (max xs.length ys.length+1) (max xs.length ys.length):=by
 obtain⟨ac,au,rfl,ai,an,-⟩:=H.open_;obtain⟨ap,af,rfl,al,ad,-⟩:=J.open_;have s:=hY H J N Q;clear H J N Q;obtain⟨r,R⟩:=hQ (max xs.length ys.length);have ae:xs.length<=r:=by omega
 have aq:ys.length<=r:=by omega
 have aj:r<=50000000000:=by omega
 have K:=a_ R;clear R;go_in;go_wp2_with fail;go_loopw [5,6,7] (λW I F wr=>∃(a c:Nat) (d:List Nat),F=.int .i64 a/\c<=1/\I=.int .i64 c/\(a<=r\/(a=r+1/\c=0))/\f_ (d.length=a)/\Lo d/\lB w.heap.size wr W d/\Below w.heap.size w wr/\f_ (val d+10000^a*c=val (xs.take a)+val (ys.take a)/\(a<=r\/0<d.getD (a-1) 0))) (λ_ I F _=>2*(r-(intOf F).toNat)+(intOf I).toNat)
 case atStart=>exact⟨0,0,[],rfl,by omega,rfl,.inl hR,a_ rfl,mz,oI _ _ _ _,hP,a_ ⟨by simp[val],.inl hR⟩⟩
 case round=>
  obtain⟨a,c,d,rfl,ag,rfl,ao,e,L,S,C,t⟩:=hrel;have A:=C.size;have b:=hO S C L;clear S C L;by_cases O:a<xs.length
  .obtain⟨ah,rfl,X⟩:=(s.f.below b.g).at_ rfl a O;have Z:=jW s.j a;obtain⟨n,j⟩:=hQ (xs.getD a 0);obtain⟨m,f⟩:=hQ (ys.getD a 0);rw[<-j]at X Z;by_cases z:a<ys.length
   .obtain⟨aa,rfl,D⟩:=(s.g.below b.g).at_ rfl a z;have E:=jW s.o a;rw[<-f]at D E;have o:=b_ j f;clear j f;go_wp2_with (at_builtin;refine iZ rfl _ _ rfl (B:=w.heap.size) (zs:=d) rfl ?_ ⟨_,0,none⟩ rfl ((c+n+m)%10000) ?_ ?_ ?_ ?_)
    .exact kK b.f _
    .simp[Addr.add]
    .have:=e.e;omega
    .simp;omega
    intro G l g h;have k:Below w.heap.size w l:=(b.g.alloc A _).grown h (by simp;omega) (λp q=>(kF b.f p q).1);have i:=b_ g k;clear g h k;go_wp2;go_roundw
    .refine⟨a+1,(c+n+m)/10000,d++[(c+n+m)%10000],by go_num,by omega,by go_num,by omega,a_ (by have:=e.e;simp;omega),mC b.l (mQ _ (by decide)),i.f,i.i,a_ ⟨?_,.inl (by omega)⟩⟩;rw[lR,e.e,h_,h_,<-o.f,<-o.i,jx];exact q9 (x:=n) (y:=m) t.f
    simp[intOf];omega
   .have U:decide (a<ys.length)=false:=ic z;have o:=b_ j f;clear j f;go_wp2_with (at_builtin;refine iZ rfl _ _ rfl (B:=w.heap.size) (zs:=d) rfl ?_ ⟨_,0,none⟩ rfl ((c+n)%10000) ?_ ?_ ?_ ?_)
    .exact kK b.f _
    .simp[Addr.add]
    .have:=e.e;omega
    .simp;omega
    intro G l g h;have k:Below w.heap.size w l:=(b.g.alloc A _).grown h (by simp;omega) (λp q=>(kF b.f p q).1);have i:=b_ g k;clear g h k;go_wp2;go_roundw
    .refine⟨a+1,(c+n)/10000,d++[(c+n)%10000],by go_num,by omega,by go_num,by omega,a_ (by have:=e.e;simp;omega),mC b.l (mQ _ (by decide)),i.f,i.i,a_ ⟨?_,.inl (by omega)⟩⟩;rw[lR,e.e,h_,h_,<-o.f,ld ys a (by omega),jx];exact q9 (x:=n) (y:=0) t.f
    simp[intOf];omega
  .have ab:decide (a<xs.length)=false:=ic O;obtain⟨n,j⟩:=hQ (xs.getD a 0);obtain⟨m,f⟩:=hQ (ys.getD a 0);by_cases z:a<ys.length
   .obtain⟨aa,rfl,D⟩:=(s.g.below b.g).at_ rfl a z;have E:=jW s.o a;rw[<-f]at D E;have o:=b_ j f;clear j f;go_wp2_with (at_builtin;refine iZ rfl _ _ rfl (B:=w.heap.size) (zs:=d) rfl ?_ ⟨_,0,none⟩ rfl ((c+m)%10000) ?_ ?_ ?_ ?_)
    .exact kK b.f _
    .simp[Addr.add]
    .have:=e.e;omega
    .simp;omega
    intro G l g h;have k:Below w.heap.size w l:=(b.g.alloc A _).grown h (by simp;omega) (λp q=>(kF b.f p q).1);have i:=b_ g k;clear g h k;go_wp2;go_roundw
    .refine⟨a+1,(c+m)/10000,d++[(c+m)%10000],by go_num,by omega,by go_num,by omega,a_ (by have:=e.e;simp;omega),mC b.l (mQ _ (by decide)),i.f,i.i,a_ ⟨?_,.inl (by omega)⟩⟩;rw[lR,e.e,h_,h_,ld xs a (by omega),<-o.i,jx];exact q9 (x:=0) (y:=m) t.f
    simp[intOf];omega
   .have U:decide (a<ys.length)=false:=ic z;by_cases V:0<c
    .have o:=b_ j f;clear j f;go_wp2_with (at_builtin;refine iZ rfl _ _ rfl (B:=w.heap.size) (zs:=d) rfl ?_ ⟨_,0,none⟩ rfl ((c)%10000) ?_ ?_ ?_ ?_)
     .exact kK b.f _
     .simp[Addr.add]
     .have:=e.e;omega
     .simp;omega
     intro G l g h;have k:Below w.heap.size w l:=(b.g.alloc A _).grown h (by simp;omega) (λp q=>(kF b.f p q).1);have i:=b_ g k;clear g h k;go_wp2;go_roundw
     .refine⟨a+1,(c)/10000,d++[(c)%10000],by go_num,by omega,by go_num,by omega,a_ (by have:=e.e;simp;omega),mC b.l (mQ _ (by decide)),i.f,i.i,a_ ⟨?_,.inr (by rw[show a+1-1=d.length from by have:=e.e;omega];simp[List.getD];omega)⟩⟩;rw[lR,e.e,h_,h_,ld xs a (by omega),ld ys a (by omega),jx];exact q9 (x:=0) (y:=0) t.f
     simp[intOf];omega
    .have ar:decide (0<c)=false:=ic V;have av:decide (0<(c:Int))=false:=ic (by omega);clear j f;go_wp2;go_ret;have Y:c=0:=by omega
     refine⟨_,rfl,⟨d,b.l,?_,?_,b.f.own,?_⟩,b.g⟩
     .have P:=t.f;rw[Y,l6,nt,ka (by omega),ka (by omega)]at P;exact P
     .have:=e.e;have:=K.e;omega
     .rw[e.e,<-K.e];exact t.i
theorem Hw{v u:Value}{xs ys:List Nat}{w:World}(j:Own w v xs)(l:Own w u ys)(f:Lo xs)(m:Lo ys)(e:xs.length<=50000000000)(i:ys.length<=50000000000):Calls Tryz.prog 228 #[v,u] w λc b=>∃a,c=.returned a/\y7 w b a (val xs+val ys) (max xs.length ys.length+1):=by
 go_fit (CX j l f m e i);rintro c b⟨a,rfl,⟨d,h,k,o,g,-⟩,n⟩;exact⟨a,rfl,⟨d,h,k,o,g⟩,n⟩
def Cc(w b:World)(v:Value)(n L:Nat):Prop:=(∃a,l9 a/\val a=n/\a.length<=L/\Own b v a)/\Below w.heap.size w b
theorem Dw{zs:List Nat}(h:Lo zs)(e:zs=[]\/10000^(zs.length-1)<=val zs):l9 zs:=by
 refine⟨h,?_⟩;rcases e with b|b
 .exact .inl b
 .by_cases c:zs=[]
  .exact .inl c
  .refine .inr ?_;have g:0<zs.length:=rE.2 c;rcases kl (zs.getD (zs.length-1) 0)with a|a
   .exfalso;have d:=h_ zs (zs.length-1);rw[show zs.length-1+1=zs.length from by omega,ka c_,a,l6,nt]at d;have f:=j8 (mG h (zs.length-1));rw[kv,o_ (by omega)]at f;omega
   .exact a
theorem G_{v u:Value}{xs ys:List Nat}{w:World}(q:Own w v xs)(t:Own w u ys)(h:l9 xs)(j:l9 ys)(o:xs.length<=50000000000)(p:ys.length<=50000000000):Calls Tryz.prog 228 #[v,u] w λb k=>∃e,b=.returned e/\Cc w k e (val xs+val ys) (max xs.length ys.length+1):=by
 go_fit (CX q t h.1 j.1 o p);rintro b k⟨e,rfl,⟨d,i,l,n,s,a⟩,m⟩;refine⟨e,rfl,⟨d,?_,l,n,s⟩,m⟩;rcases a with a|a
 .refine Dw i ?_;by_cases f:d=[]
  .exact .inl f
  .have y:0<d.length:=rE.2 f;refine .inr ?_;rw[l];by_cases c:ys.length<=xs.length
   .have g:xs≠[]:=by intro b;rw[b]at c a;simp at c;rw[c]at a;simp at a;exact f a
    have r:=oY h g;have x:10000^(d.length-1)<=10000^(xs.length-1):=jb (by decide) (by omega);omega
   .have g:ys≠[]:=by intro b;rw[b]at c;simp at c
    have r:=oY j g;have x:10000^(d.length-1)<=10000^(ys.length-1):=jb (by decide) (by omega);omega
 .exact⟨i,.inr a⟩
end R
end Go.Proofs.YtfjbijpagaipnabGreatDoor
