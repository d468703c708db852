import Derived.Test.YtfjbijpagaipnabGreatDoorA01
import Derived.Deep.LoopGhost
import Derived.Laws.CopyOwn
set_option maxRecDepth 100000
set_option maxHeartbeats 8000000
namespace Go.Proofs.YtfjbijpagaipnabGreatDoor
open Go.RowKit
variable{i j k l m n p q r s:Nat}{w v W:World}{x y z:Value}{L K:List UInt8}{u:Bool}{O:Option Addr}
def qm:Nat->Nat->List UInt8
 |0,_=>[]
 |b+1,a=>qm b (a/10)++[UInt8.ofNat (48+a%10)]
theorem kI{u:Nat}(h:¬u<10):Lib.decDigits u=Lib.decDigits (u/10)++[UInt8.ofNat (48+u%10)]:=by
 rw[Lib.decDigits,dif_neg h]
theorem EA(k:Nat):qm k 0=List.replicate k 48:=by
 induction k with
 |zero=>rfl
 |succ k a=>rw[qm,Nat.zero_div,a,List.replicate_succ'];rfl
theorem Dc(k a:Nat)(h:a<10^(k+1)):qm (k+1) a=List.replicate (k+1-Lib.nDigits a) 48++Lib.decDigits a:=by
 induction k generalizing a with
 |zero=>
  have b:a<10:=by simpa using h
  rw[Lib.nDigits_small b,Lib.decDigits_one b];simp[qm,oO b]
 |succ k d=>
  rw[qm];by_cases b:a<10
  .rw[show a/10=0 from by omega,EA,Lib.nDigits_small b,Lib.decDigits_one b,oO b];rfl
  .have c:a/10<10^(k+1):=by rw[jx]at h;omega
   rw[d _ c,Lib.nDigits_big b,kI b,sx];congr 2;omega
theorem qg(k h a:Nat)(e:0<h)(b:a<10^k):Lib.decDigits (h*10^k+a)=Lib.decDigits h++qm k a:=by
 induction k generalizing a with
 |zero=>simp[qm,show a=0 from by simpa using b]
 |succ k c=>
  have g:10<=h*10^(k+1):=by
   rw[jx];have:1<=10^k:=Nat.one_le_pow _ _ (by decide);have:1*1<=h*10^k:=jR e this;rw[<-jG];omega
  have d:(h*10^(k+1)+a)/10=h*10^k+a/10:=by rw[jx,<-jG];omega
  have f:(h*10^(k+1)+a)%10=a%10:=by rw[jx,<-jG];omega
  rw[kI (by omega),d,f,c _ (by rw[jx]at b;omega),qm,sx]
theorem DF(r:Nat)(h:0<r/1000000000):Lib.decDigits r=Lib.decDigits (r/1000000000)++(List.replicate (9-Lib.nDigits (r%1000000000)) 48++Lib.decDigits (r%1000000000)):=by
 have a:r%1000000000<10^(8+1):=mQ _ (by decide);have b:=qg 9 (r/1000000000) (r%1000000000) h a;rw[show r/1000000000*10^9+r%1000000000=r from Nat.div_add_mod' r 1000000000]at b;rw[b,Dc 8 _ a]
theorem zQ(a:Nat)(h:a<1000000000):Lib.nDigits a<=9:=by
 rcases iX 9 (Lib.nDigits a)with c|c
 .exfalso;have e:=kX List.length (Dc 8 a h);have f:∀b a,(qm b a).length=b:=by
   intro b;induction b with
   |zero=>intro a;rfl
   |succ b d=>intro a;simp[qm,d]
  rw[f,j6,sQ,Lib.decDigits_length]at e;omega
 .exact c
theorem vx.below{w:World}(h:vx w)(b:Below w.heap.size w v):vx v:=by
 unfold vx Lib.TabIs at*
 cases hg:Tryz.prog.globalNamed "internal/strconv.uint64pow10" with
 |none=>simp[World.var?,hg]at h
 |some a=>
  refine var?_below b hg ?_ h;unfold World.var? at h;simp only[hg,Option.bind_some]at h
  cases ho:w.heap[a]? with
  |none=>rw[ho]at h;simp at h
  |some c=>exact(jt.1 ho).1
theorem Bu{n:Nat}(k:Nat)(h:n<10^(k+1)):Lib.nDigits n<=k+1:=by
 induction k generalizing n with
 |zero=>rw[Lib.nDigits_small (by simpa using h)];exact c_
 |succ k b=>
  by_cases a:n<10
  .rw[Lib.nDigits_small a];omega
  .rw[Lib.nDigits_big a];have:=b (n:=n/10) (by rw[jx]at h;omega);omega
theorem rD{xs:List Nat}(h:Lo xs):Lib.nDigits (val xs)<=10*xs.length+1:=by
 refine Bu _ (l_ (j8 h) ?_);calc 4294967296^xs.length<=(10^10)^xs.length:=vH (by decide) _
  _=10^(10*xs.length):=by rw[<-qb]
  _<=10^(10*xs.length+1):=jb (by decide) (by omega)
theorem vv(a b:List UInt8):(⟨a.toArray⟩:ByteArray)++⟨b.toArray⟩=⟨(a++b).toArray⟩:=by
 apply zR;simp
theorem l0{s t:ByteArray}(h:s=t):Ending.returned (.string s)=.returned (.string t):=by rw[h]
theorem FI(h:L=List.replicate (L.length-i) 48++K)(a:i<=L.length):48::L=List.replicate ((48::L).length-i) 48++K:=by
 rw[j3,show L.length+1-i=(L.length-i)+1 from by omega,List.replicate_succ,mS,<-h]
theorem zj{s t:ByteArray}(h:s=t):Value.string s=.string t:=by rw[h]
theorem El{r:Nat}{D:List UInt8}(h:Lib.decDigits r++L=D)(b:(0<r/1000000000/\K=List.replicate (9-Lib.nDigits (r%1000000000)) 48++Lib.decDigits (r%1000000000))\/(r/1000000000=0/\K=Lib.decDigits (r%1000000000))):if r/1000000000=0 then K++L=D else Lib.decDigits (r/1000000000)++(K++L)=D:=by
 rcases b with⟨a,rfl⟩|⟨a,rfl⟩
 .rw[if_neg (by omega),<-sx,<-DF r a,h]
 .rw[if_pos a,show r%1000000000=r from by omega,h]
theorem CB{r:Nat}{t D:List UInt8}(h:if r=0 then t=D else Lib.decDigits r++t=D):t.length<=D.length:=by
 split at h
 .rw[h];exact c_
 .rw[<-h,j6];omega
theorem qE{v:Value}{z:Int}{L:Nat}{w:World}(ar:jE w v z L)(aK:L<=200000000)(X:vx w):Calls Tryz.prog 40 #[v] w λs M=>s=.returned (.string ⟨(Lib.itoa z).toArray⟩)/\Below w.heap.size w M:=by
 obtain⟨aQ,o,rfl,R,E,ak,I⟩:=ar;obtain⟨an,aA,rfl,-⟩:=I.open_;have S:=a_ (k5 R E);have az:=a_ X;have m:=hY R E ak I;have aG:o.length<=200000000:=by omega
 clear R E ak I X;by_cases D:z=0
 .have aH:((o.length:Int)==0)=true:=jY.2 (by have:=S.e.2 D;omega);subst D;go_in;go_wp2_with (go_at_call 68;refine(k0).mono ?_;rintro s M⟨rfl,rfl⟩);go_ret;refine⟨?_,?_⟩
  .rw[show Lib.itoa 0=[48]from by decide+kernel];rfl
  .repeat(first|exact hP|refine ia ?_ (by simp<;>omega) _)
 .have aH:((o.length:Int)==0)=false:=iK.2 (by have:=S.e;omega);have ao:=a_ D;clear D;obtain⟨k,ai⟩:=hQ (w.alloc (.cells #[.bool (decide (z<0)),.slice an o.length aA] 79));have f:=a_ ai;clear ai;obtain⟨j,P⟩:=hQ (Lib.decDigits z.natAbs);have U:j.length<=2400000000:=by
   rw[P,Lib.decDigits_length,<-m.g];have:=rD m.f.1;omega
  have F:=a_ P;clear P;go_in;go_wp2_with (go_at_call 68;refine(k0).mono ?_;rintro s M⟨rfl,rfl⟩);go_loopg [3,4] (val o) (λH ap v wr=>∃(c:List UInt8) (e:List Nat),ap=.string ⟨c.toArray⟩/\c.length<=2400000000/\e.length<=200000000/\Own wr v e/\l9 e/\Below k.heap.size k wr/\f_ (val e=H/\if val e=0 then c=j else Lib.decDigits (val e)++c=j))
  case atStart=>
   refine⟨[],o,rfl,by simp,aG,?_,m.f,?_,a_ ⟨rfl,?_⟩⟩
   .refine m.o.below ?_;repeat(first|exact hP|refine ia ?_ (by simp<;>omega) _)
   .rw[f.e];exact hP.alloc (by simp) _
   .have:=ao.e;rw[if_neg (by rw[m.g];omega),F.e,m.g,rV]
  case round=>
   obtain⟨c,e,rfl,aL,aX,J,T,g,Q⟩:=hrel;obtain⟨aV,aS,rfl,-⟩:=J.open_;by_cases q:e=[]
   .subst q;have am:c=j:=by have:=Q.i;rw[if_pos q7]at this;exact this
    have Z:=a_ am;clear am;have aO:wr.cell? ⟨w.heap.size,0,none⟩=some (.bool (decide (z<0))):=by
     rw[g.cell (p:=⟨w.heap.size,0,none⟩) (by rw[f.e];simp),f.e];simp
    by_cases l:z<0
    .have ay:decide (z<0)=true:=by simpa using l
     have B:=a_ l;clear l;go_wp2;go_ret;refine⟨?_,(by rw[f.e];exact hS:Below w.heap.size w k).trans (g.mono (by rw[f.e];simp))⟩;have y:Lib.itoa z=45::c:=by
      obtain⟨h,rfl⟩:∃h:Nat,z=-(h:Int):=⟨z.natAbs,by have:=B.e;omega⟩;rw[Lib.itoa_neg h (by have:=B.e;omega),Z.e,F.e];simp
     rw[y];exact l0 (vv [45] c)
    .have ay:decide (z<0)=false:=by simpa using l
     have B:=a_ l;clear l;go_wp2;go_ret;refine⟨?_,(by rw[f.e];exact hS:Below w.heap.size w k).trans (g.mono (by rw[f.e];simp))⟩;have y:Lib.itoa z=c:=by
      obtain⟨h,rfl⟩:∃h:Nat,z=(h:Int):=⟨z.natAbs,by have:=B.e;omega⟩;rw[Lib.itoa_nonneg,Z.e,F.e];simp
     rw[y];rfl
   .have aW:0<e.length:=rE.2 q;have au:f_ (0<val e):=a_ (by have:=kS T;have:val e≠0:=λx=>q (this.1 x);omega);have aN:=a_ q;clear q;go_wp2_with fail;go_fit (v8 J T.1 (by omega));rintro s aJ⟨aU,rfl,aa⟩;obtain⟨aB,aF,b,rfl,n,C⟩:=aa.shape;generalize aj:val e%1000000000=d at*;have aw:d<1000000000:=by omega
    have aC:=a_ aj;clear aj aa;have W:b.length<=200000000:=by have:=n.j;omega
    go_wp2_with fail;go_fit (zX (by omega) ((((az.e.alloc _).below (by rw[<-f.e];exact g)).below C)));rintro s G⟨rfl,K⟩;have Y:Own G (.slice aB b.length aF) b:=n.o.below K;have al:Below k.heap.size k G:=(d_ g C).trans (K.mono (iy g.size C.size));have aI:=zQ d aw;have aP:=Lib.nDigits_pos d;have ag:∀r,(0<b.length/\r=List.replicate (9-Lib.nDigits d) 48++Lib.decDigits d)\/(b.length=0/\r=Lib.decDigits d)->(if val b=0 then r++c=j else Lib.decDigits (val b)++(r++c)=j)/\val b<gk:=by
     intro r av;have y:=Q.f;have ac:=Q.i;have aT:=au.e;have ah:=n.g;have V:=kS n.f;rw[if_neg (by omega)]at ac;rw[ah];refine⟨El ac ?_,by omega⟩;rw[aC.e];rcases av with⟨u,O⟩|⟨u,O⟩
     .refine .inl ⟨?_,O⟩;have:val b≠0:=λx=>by rw[V.1 x]at u;simp at u
      omega
     .refine .inr ⟨?_,O⟩;rw[<-ah];exact V.2 (lp u)
    have ab:=a_ ag;clear ag;have A:=b_ Y al;clear C K Y al g J;go_wp2_with fail;go_loopg [7] (9-Lib.nDigits d) (λH ax aq=>∃a:List UInt8,ax=.string ⟨a.toArray⟩/\a.length<=9/\aq=G/\f_ (H=9-a.length/\a=List.replicate (a.length-Lib.nDigits d) 48++Lib.decDigits d/\Lib.nDigits d<=a.length/\(b.length=0->a=Lib.decDigits d)))
    case atStart=>exact⟨Lib.decDigits d,rfl,by rw[Lib.decDigits_length];exact aI,rfl,a_ ⟨by rw[Lib.decDigits_length],by rw[Lib.decDigits_length];simp,by rw[Lib.decDigits_length];exact c_,λ_=>rfl⟩⟩
    case round=>
     obtain⟨a,rfl,aM,rfl,i⟩:=hrel;by_cases aD:0<b.length
     .by_cases aR:a.length<9
      .go_wp2;go_roundg (9-(48::a).length);exact⟨48::a,zj (vv [48] a),by simp;omega,rfl,a_ ⟨rfl,FI i.g i.j,by have:=i.j;simp;omega,λx=>by omega⟩⟩;have:=i.f;simp;omega
      .have ae:a=List.replicate (9-Lib.nDigits d) 48++Lib.decDigits d:=by
        have:=i.g;rw[show a.length=9 from by omega]at this;exact this
       have aE:=a_ ae;clear ae;go_wp2_with fail;obtain⟨t,N⟩:=ab.e a (.inl ⟨aD,aE.e⟩);go_roundg (val b);exact⟨a++c,b,zj (vv a c),iy (CB t) U,W,A.f,n.f,A.i,a_ ⟨rfl,t⟩⟩;exact N
     .have af:b.length=0:=by omega
      have ad:=a_ af;clear af;go_wp2_with fail;obtain⟨t,N⟩:=ab.e a (.inr ⟨ad.e,i.o ad.e⟩);go_roundg (val b);exact⟨a++c,b,zj (vv a c),iy (CB t) U,W,A.f,n.f,A.i,a_ ⟨rfl,t⟩⟩;exact N
def Rd(w:World)(p:Nat)(s:ByteArray)(q:Nat):Prop:=w.heap[p]?=some (.cells #[.string s,.int .i64 q,.bool false] 106 (0,0))
def Fr(p:Nat)(w a:World):Prop:=w.grownBy a (some p)/\KT w a
theorem Fr.refl(p:Nat)(w:World):Fr p w w:=⟨jM _ _,KT.refl _⟩
theorem Fr.trans{p:Nat}{a b c:World}(h:Fr p a b)(k:Fr p b c):Fr p a c:=⟨hZ h.1 k.1,h.2.trans k.2⟩
theorem Fr.I{p:Nat}{w:World}(h:Below w.heap.size w v):Fr p w v:=⟨ib (jM _ _) h,KT.I h⟩
theorem Rd.lt{w:World}{p:Nat}{s:ByteArray}{q:Nat}(h:Rd w p s q):p<w.heap.size:=(jt.1 h).1
theorem Rd.ty{w:World}{p:Nat}{s:ByteArray}{q:Nat}(h:Rd w p s q):Ty w p 106:=⟨_,_,h⟩
theorem Rd.below{w:World}{p:Nat}{s:ByteArray}{q:Nat}(h:Rd w p s q)(a:Below w.heap.size w v):Rd v p s q:=by unfold Rd;rw[a.block p h.lt];exact h
theorem Rd.cells{w:World}{p:Nat}{s:ByteArray}{q:Nat}(h:Rd w p s q):w.cell? ⟨p,0,none⟩=some (.string s)/\w.cell? ⟨p,1,none⟩=some (.int .i64 q)/\w.cell? ⟨p,2,none⟩=some (.bool false)/\w.frozen? ⟨p,1,none⟩=false/\w.frozen? ⟨p,2,none⟩=false:=by
 unfold Rd at h;refine⟨?_,?_,?_,?_,?_⟩<;>simp[World.cell?,World.frozen?,h]
theorem Rd.move{w:World}{p:Nat}{s:ByteArray}{q:Nat}(h:Rd w p s q){z:Int}{q':Nat}(d:z=q')(n:Nat):Rd ((w.setCell ⟨p,1,none⟩ (.int .i64 z)).drewN n) p s q'/\Fr p w ((w.setCell ⟨p,1,none⟩ (.int .i64 z)).drewN n):=by
 subst d;refine⟨?_,⟨rfl,rfl,rfl,by simp[World.setCell],λc _ a=>?_⟩,?_⟩
 .show(w.setCell ⟨p,1,none⟩ (.int .i64 q')).heap[p]?=_;rw[ja _ _ _ _ _ _ h];simp
 .show(w.setCell ⟨p,1,none⟩ (.int .i64 q')).heap[c]?=_;rw[js _ _ _ _ (λb=>a (by simp[b]))]
 .exact KT.setCell (KT.refl _) h.ty (by decide) (by decide) _
def mR(s:ByteArray)(q:Nat)(a:List UInt8):Prop:=q<=s.size/\s.data.toList.drop q=a
theorem mR.cons{s:ByteArray}{q:Nat}{c:UInt8}(h:mR s q (c::L)):∃b:q<s.size,s[q]'b=c/\mR s (q+1) L:=by
 obtain⟨i,a⟩:=h;have b:q<s.data.toList.length:=by
  rcases iX q s.data.toList.length with d|d
  .exact d
  .rw[List.drop_eq_nil_of_le d]at a;cases a
 rw[ow b]at a;injection a with g e
 have f:q<s.size:=by simpa using b
 exact⟨f,g,by omega,e⟩
theorem mR.nil{s:ByteArray}{q:Nat}(h:mR s q []):q=s.size:=by
 obtain⟨c,a⟩:=h;have:=List.drop_eq_nil_iff.1 a;have b:s.data.toList.length=s.size:=by simp
 omega
theorem mR.app{s:ByteArray}{q:Nat}{a:List UInt8}(h:mR s q (a++L)):mR s (q+a.length) L:=by
 induction a generalizing q with
 |nil=>simpa using h
 |cons e b c=>
  obtain⟨_,_,d⟩:=h.cons;have:=c d;rwa[j3,show q+(b.length+1)=q+1+b.length from by omega]
theorem tp{p:Nat}{s:ByteArray}{q:Nat}{c:Int}{x:UInt8}{w:World}(h:Rd w p s q)(b:mR s q (x::L))(_hs:s.size<=4611686018427387904):Calls Tryz.prog 88 #[.pointer (some ⟨p,0,none⟩),.int .u8 c] w λe d=>e=.returned (.bool ((x.toNat:Int)==c))/\∃f,d=w.drewN f:=by
 obtain⟨g,a,-⟩:=b.cons;obtain⟨j,k,m,-,-⟩:=h.cells;have l:(s[q]'g).toNat=x.toNat:=by rw[a]
 have i:(q:Int)<(s.size:Int):=by omega
 clear h b a;go_in;go_wp2_with fail;go_quiet (fail);go_wp2;go_ret;exact⟨rfl,_,rfl⟩
theorem ru{p:Nat}{s:ByteArray}{q:Nat}{c:Int}{x:UInt8}{l:List UInt8}{w:World}(h:Rd w p s q)(b:mR s q (x::l))(g:s.size<=4611686018427387904)(d:(x.toNat:Int)=c):Calls Tryz.prog 56 #[.pointer (some ⟨p,0,none⟩),.int .u8 c] w λe a=>e=.returned (.tuple #[])/\Rd a p s (q+1)/\Fr p w a:=by
 obtain⟨t,-,-⟩:=b.cons;obtain⟨m,n,u,r,o⟩:=h.cells;have k:((x.toNat:Int)==c)=true:=jY.2 d;have f:=a_ h;have i:=a_ b;clear h b d;go_in;go_wp2_with fail;go_fit (tp f.e i.e g);rintro e a⟨rfl,j,rfl⟩;rw[k];go_wp2_with fail;refine ig (v:=.tuple #[]) ?_ rfl ?_
 ·(simp[results,Tryz.results56,go_sem];done)
 .exact⟨rfl,f.e.move (by omega) j⟩
def yW(a:List UInt8):Prop:=a≠[]/\B1 a/\(a.length=1\/∃b c,a=b::c/\b.toNat≠48)
def qa(b:List UInt8):Prop:=b=[]\/∃a c,b=a::c/\(a.toNat<48\/57<a.toNat)
theorem mR.Ll{s:ByteArray}{q:Nat}(h:mR s q (L++K))(k:Nat)(a:k<L.length):∃f:q+k<s.size,s[q+k]'f=L[k]:=by
 induction L generalizing q k with
 |nil=>simp at a
 |cons m l c=>
  obtain⟨d,e,g⟩:=h.cons;match k,a with
  |0,_=>exact⟨d,e⟩
  |k+1,a=>
   obtain⟨i,b⟩:=c g k (by simpa using a);have j:q+(k+1)=q+1+k:=by omega
   refine⟨by omega,?_⟩;simp only[List.getElem_cons_succ,<-b];congr 1
theorem mR.cut{s:ByteArray}{q:Nat}(h:mR s q (L++K)):s.extract q (q+L.length)=⟨L.toArray⟩:=by
 apply zR;obtain⟨c,a⟩:=h;have b:(s.extract q (q+L.length)).data.toList=L:=by
  rw[ByteArray.data_extract,Array.toList_extract,Cj,a,w4,List.take_left]
 show(s.extract q (q+L.length)).data=L.toArray;rw[<-Array.toArray_toList (xs:=(s.extract q (q+L.length)).data),b]
theorem tj{p:Nat}{s:ByteArray}{a:Nat}{w:World}(h:Rd w p s a)(G:mR s a (L++K))(ap:s.size<=4611686018427387904)(hd:yW L)(n:qa K):Calls Tryz.prog 87 #[.pointer (some ⟨p,0,none⟩)] w λW R=>W=.returned (.string ⟨L.toArray⟩)/\Rd R p s (a+L.length)/\Fr p w R:=by
 have ae:=a_ h;have t:=a_ G;have D:=a_ hd;have U:=a_ n;obtain⟨P,T,M,J,H⟩:=h.cells;clear h G hd n;go_in;go_wp2_with fail;go_loopg [] L.length (λaj wr=>∃e c:Nat,e<=L.length/\Rd wr p s c/\Fr p w wr/\f_ (c=a+e/\aj=L.length-e))
 case atStart=>exact⟨0,a,hR,ae.e,Fr.refl _ _,a_ ⟨rfl,rfl⟩⟩
 case round=>
  clear P T M J H;obtain⟨e,c,aq,C,F,v⟩:=hrel;obtain⟨P,T,M,J,H⟩:=C.cells;have j:=a_ C;have i:=a_ F;clear C F;by_cases B:e<L.length
  .obtain⟨N,m⟩:=t.e.Ll e B;have f:c<s.size:=by rw[v.f];exact N
   have hd:=D.g _ (lf B);have S:s[c]'f=L[e]:=by rw[<-m];congr 1;exact v.f
   rw[<-S]at hd;have ah:(48:Int)<=((s[c]'f).toNat:Int):=by omega
   have al:((s[c]'f).toNat:Int)<=57:=by omega
   have ab:(c:Int)<(s.size:Int):=by omega
   clear hd S m N;go_wp2_with fail;go_quiet (fail);go_wp2;go_roundg (L.length-(e+1))
   .have O:=j.e.move (q':=c+1) (z:=(c:Int)+1) (by omega) nq;exact⟨e+1,c+1,by omega,O.1,i.e.trans O.2,a_ ⟨by have:=v.f;omega,rfl⟩⟩
   have:=v.i;omega
  .have Q:e=L.length:=by omega
   have x:c=a+L.length:=by rw[<-Q];exact v.f
   have g:=a_ x;have ao:0<L.length:=rE.2 D.f;obtain⟨b,af⟩:∃b,s.extract a c=b:=⟨_,rfl⟩;have y:b=⟨L.toArray⟩:=by rw[<-af,x];exact t.e.cut
   have ac:b.size=L.length:=by rw[y];rfl
   have E:f_ (b.size=1\/(1<b.size/\∃A:0<b.size,((b[0]'A).toNat==48)=false)):=by
    refine a_ ?_;rcases D.l with d|⟨V,Z,d,ai⟩
    .exact .inl (by omega)
    .by_cases Y:b.size=1
     .exact .inl Y
     .refine .inr ⟨by omega,by omega,?_⟩;have ag:b[0]'(by omega)=V:=by subst d;subst y;rfl
      rw[ag];exact iK.2 ai
   have l:=a_ y;have ar:1<=b.size:=by omega
   have am:a<=c:=by omega
   have ak:c<=s.size:=by have:=t.e.app;rw[x];exact this.1
   clear y x Q ac B;rcases U.e with n|⟨ad,Z,n,r⟩
   .have an:decide (c<s.size)=false:=by
     have d:=t.e.app;rw[n,<-g.e]at d;have:=d.nil;simp;omega
    go_wp2_with fail;go_quiet (fail);go_wp2_with fail;go_quiet (fail);rcases E.e with d|⟨d,u⟩
    .have o:((b.size:Int)==0)=false:=iK.2 (by omega);have q:decide (1<(b.size:Int))=false:=by simp;omega
     go_wp2;go_ret;exact⟨l0 l.e,by rw[<-g.e];exact j.e.below (im hP _),i.e.trans (Fr.I (im hP _))⟩
    .have o:((b.size:Int)==0)=false:=iK.2 (by omega);have q:(1:Int)<(b.size:Int):=by omega
     obtain⟨A,I⟩:=u;go_wp2;go_ret;exact⟨l0 l.e,by rw[<-g.e];exact j.e.below (im hP _),i.e.trans (Fr.I (im hP _))⟩
   .have d:=t.e.app;rw[n,<-g.e]at d;obtain⟨f,m,-⟩:=d.cons;have k:(s[c]'f).toNat=ad.toNat:=by rw[m]
    have ab:(c:Int)<(s.size:Int):=by omega
    rcases r with r|r
    .have X:decide ((48:Int)<=((s[c]'f).toNat:Int))=false:=by rw[k];simp;omega
     have aa:decide (48<=(s[c]'f).toNat)=false:=by rw[k];simp;omega
     clear k m d r;go_wp2_with fail;go_quiet (fail);go_wp2_with fail;go_quiet (fail);rcases E.e with d|⟨d,u⟩
     .have o:((b.size:Int)==0)=false:=iK.2 (by omega);have q:decide (1<(b.size:Int))=false:=by simp;omega
      go_wp2;go_ret;exact⟨l0 l.e,by rw[<-g.e];exact j.e.below (im hP _),i.e.trans (Fr.I (im hP _))⟩
     .have o:((b.size:Int)==0)=false:=iK.2 (by omega);have q:(1:Int)<(b.size:Int):=by omega
      obtain⟨A,I⟩:=u;go_wp2;go_ret;exact⟨l0 l.e,by rw[<-g.e];exact j.e.below (im hP _),i.e.trans (Fr.I (im hP _))⟩
    .have ah:(48:Int)<=((s[c]'f).toNat:Int):=by rw[k];omega
     have X:decide (((s[c]'f).toNat:Int)<=57)=false:=by rw[k];simp;omega
     have aa:decide ((s[c]'f).toNat<=57)=false:=by rw[k];simp;omega
     clear k m d r;go_wp2_with fail;go_quiet (fail);go_wp2_with fail;go_quiet (fail);rcases E.e with d|⟨d,u⟩
     .have o:((b.size:Int)==0)=false:=iK.2 (by omega);have q:decide (1<(b.size:Int))=false:=by simp;omega
      go_wp2;go_ret;exact⟨l0 l.e,by rw[<-g.e];exact j.e.below (im hP _),i.e.trans (Fr.I (im hP _))⟩
     .have o:((b.size:Int)==0)=false:=iK.2 (by omega);have q:(1:Int)<(b.size:Int):=by omega
      obtain⟨A,I⟩:=u;go_wp2;go_ret;exact⟨l0 l.e,by rw[<-g.e];exact j.e.below (im hP _),i.e.trans (Fr.I (im hP _))⟩
def jP:Nat->(Nat->Int)->Int
 |0,_=>0
 |a+1,b=>jP a b+b a
def signed(c:Nat)(z:Int):Int:=if c%2=1 then-z else z
def jn:Nat->(Nat->Nat->Int)->Int
 |0,_=>1
 |c+1,b=>jP (c+1) λa=>signed a (b 0 a*jn c λe d=>b (e+1) (skip a d))
def Jn(n:Nat)(zs:List Int)(f:Nat->Nat->Int):Prop:=∀a b,a<n->b<n->zs.getD (a*n+b) 0=f a b
theorem Jn.minor{n:Nat}{zs ms:List Int}{f:Nat->Nat->Int}(h:Jn (n+1) zs f)(c:CM (n+1) (n+1) i zs ms):Jn n ms λb a=>f (b+1) (skip i a):=by
 intro b a d e;have:=c b a (by omega) (by omega);simp only[Nat.add_sub_cancel]at this;rw[this];exact h (b+1) (skip i a) (by omega) (by unfold skip;split<;>omega)
def LD(L:Nat):Nat->Nat
 |0=>2
 |a+1=>L+LD L a+(a+1)
theorem Dt(L:Nat)(n:Nat):LD L n<=LD L (n+1):=by rw[LD];omega
def oD(w:World)(b d r c:Nat)(e:Value)(a:Bool)(s:Value):Prop:=
 w.cell? ⟨b,0,none⟩=some (.int .i64 r)/\w.cell? ⟨b,1,none⟩=some (.int .i64 c)/\w.cell? ⟨b,2,none⟩=some e/\w.cell? ⟨d,0,none⟩=some (.bool a)/\w.cell? ⟨d,1,none⟩=some s/\w.frozen? ⟨d,0,none⟩=false/\w.frozen? ⟨d,1,none⟩=false
theorem oD.lt{w:World}{b d r c:Nat}{s:Value}(h:oD w b d r c x u s):b<w.heap.size/\d<w.heap.size:=⟨sD w _ h.1,sD w _ h.2.2.2.1⟩
theorem oD.below{w:World}{b d r c:Nat}{s:Value}(h:oD w b d r c x u s)(a:Below w.heap.size w v):oD v b d r c x u s:=by
 have e:=h.lt.2;obtain⟨i,j,m,g,f,l,k⟩:=h;exact⟨g_ a i,g_ a j,g_ a m,g_ a g,g_ a f,by rw[a.frozen (p:=⟨d,0,none⟩) e];exact l,by rw[a.frozen (p:=⟨d,1,none⟩) e];exact k⟩
theorem oD.put{w:World}{b d r c:Nat}{e:Bool}{s:Value}(h:oD w b d r c x u s)(k:b≠d):oD ((w.setCell ⟨d,0,none⟩ (.bool e)).setCell ⟨d,1,none⟩ y) b d r c x e y:=by
 obtain⟨n,o,v,m,j,t,q⟩:=h;have a:∀i g:Nat,(⟨d,i,none⟩:Addr)≠⟨b,g,none⟩:=λi g p=>k (by injection p with f;exact f.symm);have l:(w.setCell ⟨d,0,none⟩ (.bool e)).cell? ⟨d,0,none⟩=some (.bool e):=sH _ _ _ m;have f:(w.setCell ⟨d,0,none⟩ (.bool e)).cell? ⟨d,1,none⟩=some s:=by rw[jZ _ _ _ _ (by simp)];exact j
 refine⟨?_,?_,?_,?_,?_,by simpa using t,by simpa using q⟩
 .rw[jZ _ _ _ _ (a _ _),jZ _ _ _ _ (a _ _)];exact n
 .rw[jZ _ _ _ _ (a _ _),jZ _ _ _ _ (a _ _)];exact o
 .rw[jZ _ _ _ _ (a _ _),jZ _ _ _ _ (a _ _)];exact v
 .rw[jZ _ _ _ _ (by simp)];exact l
 .exact sH _ _ _ f
def vo(n:Nat):Prop:=∀(f:Value) (c:List Int) (d:Nat->Nat->Int) (a:Nat) (b:World),i_ b f n n c a->Jn n c d->LD a n<=10000->a<=5000->
 Calls Tryz.prog 39 #[f] b λh g=>∃e,h=.returned e/\jD b g e (jn n d) (LD a n)
theorem GN:vo 0:=by
 intro u z s C c n r D x;obtain⟨_,_,w,rfl,d⟩:=n;obtain⟨q,E,rfl,-⟩:=d.shape;clear d;go_in;go_wp2_with (first|(go_at_call 38;refine(nC).mono ?_;rintro h B⟨rfl,rfl⟩));go_fit (mU);rintro h f⟨t,rfl,b,a⟩;obtain⟨l,o,p,m,rfl⟩:=b.shape;obtain⟨i,A⟩:=oG a;have e:Ty f (c.heap.size+1) 79:=Ty.below (Ty.alloc (Ty.at_ _ _ _ (by simp)) _) a (by simp);have y:c.heap.size+2<f.heap.size:=by have:=a.size;simp at this;omega
 have g:=a_ e;have k:=a_ b;have j:=a_ a;clear a b e;go_wp2_with fail;refine ig (v:=.agg #[.bool l,.slice o p m]) ?_ rfl ?_
 ·(simp[results,Tryz.results39,go_sem,i];done)
 .refine⟨_,rfl,k.e.hV (KU.setCell (KU.setCell (KU.refl _) g.e (by decide) _) (g.e.setCell _ _) (by decide) _),?_⟩;refine uu (uu ?_ (by simp) _) (by simp) _;refine Below.trans ?_ (j.e.mono (by simp<;>omega));repeat(first|exact hP|refine ia ?_ (by simp<;>omega) _)
def Two(w:World)(b:Nat)(x y:Value):Prop:=w.heap[b]?=some (.cells #[x,y] 79 (0,0))
theorem Two.lt{w:World}{b:Nat}{x y:Value}(h:Two w b x y):b<w.heap.size:=(jt.1 h).1
theorem Two.below{w:World}{b:Nat}{x y:Value}(h:Two w b x y)(a:Below w.heap.size w v):Two v b x y:=by unfold Two;rw[a.block b h.lt];exact h
theorem Two.fr{w:World}{p b:Nat}{x y:Value}(h:Two w b x y)(c:Fr p w v)(a:b≠p):Two v b x y:=by unfold Two;rw[c.1.block b h.lt (by simpa using a)];exact h
theorem Two.new(w:World)(x y:Value){b:Nat}(a:b=w.heap.size):Two (w.alloc (.cells #[x,y] 79)) b x y:=by rw[a];exact iP w _
theorem Two.ty{w:World}{b:Nat}{x y:Value}(h:Two w b x y):Ty w b 79:=⟨_,_,h⟩
theorem Two.cells{w:World}{b:Nat}{x y:Value}(h:Two w b x y):w.cell? ⟨b,0,none⟩=some x/\w.cell? ⟨b,1,none⟩=some y/\w.frozen? ⟨b,0,none⟩=false/\w.frozen? ⟨b,1,none⟩=false:=by
 unfold Two at h;refine⟨?_,?_,?_,?_⟩<;>simp[World.cell?,World.frozen?,h]
theorem Fr.nU{p b o:Nat}{w:World}(h:Fr p w v)(i:w.heap.size<=b)(u:Value):Fr p w (v.setCell ⟨b,o,none⟩ u):=by
 refine⟨⟨h.1.os,h.1.tape,h.1.output,by have:=h.1.size;simp[World.setCell];omega,λe f g=>?_⟩,λd c a=>?_,λd c a=>?_⟩
 .rw[js _ _ _ _ (by simp;omega)];exact h.1.block e f g
 .have:=(jt.1 a).1;rw[js _ _ _ _ (by simp;omega)];exact h.2.1 d c a
 .have:=(jt.1 a).1;rw[js _ _ _ _ (by simp;omega)];exact h.2.2 d c a
theorem Rd.kU{w:World}{p b o:Nat}{s:ByteArray}{q:Nat}(h:Rd w p s q)(a:b≠p)(u:Value):Rd (w.setCell ⟨b,o,none⟩ u) p s q:=by
 unfold Rd;rw[js _ _ _ _ (by simp;omega)];exact h
theorem Rd.Kj{w:World}{p:Nat}{s:ByteArray}{q:Nat}(h:Rd w p s q){z:Int}{q':Nat}(a:z=q'):Rd (w.setCell ⟨p,1,none⟩ (.int .i64 z)) p s q'/\Fr p w (w.setCell ⟨p,1,none⟩ (.int .i64 z)):=h.move a 0
def Tok(b:List UInt8)(z:Int):Prop:=(yW b/\z=iO b)\/(∃a,b=45::a/\yW a/\a≠[48]/\z=-(iO a:Int))
theorem Bl{p:Nat}{s:ByteArray}{a:Nat}{w:World}(h:Rd w p s a)(f:mR s a (L++K))(Y:s.size<=4000)(hd:yW L)(D:qa K):Calls Tryz.prog 89 #[.pointer (some ⟨p,0,none⟩)] w λg k=>∃q,g=.returned q/\jE k q (iO L) L.length/\Rd k p s (a+L.length)/\Fr p w k:=by
 have C:=a_ h;have Q:=a_ f;have x:=a_ hd;have J:=a_ D;have Z:=h.lt;obtain⟨b,d,m⟩:∃b d,L=b::d:=by
  cases L with
  |nil=>exact absurd rfl hd.1
  |cons b d=>exact⟨b,d,rfl⟩
 have E:mR s a (b::(d++K)):=by rw[<-mS,<-m];exact f
 have S:=hd.2.1 b (by rw[m];simp);have N:((b.toNat:Int)==45)=false:=iK.2 (by omega);have aa:L.length<=s.size:=by have:=f.app.1;omega
 have R:=a_ E;clear h f hd D m E S;go_in;go_wp2_with fail;go_fit (tp (C.e.below hS) R.e (by omega));rintro g k⟨rfl,o,rfl⟩;rw[N];have B:Two ((w.alloc (.cells #[.bool false,.slice none 0 0] 79)).drewN o) w.heap.size (.bool false) (.slice none 0 0):=Two.new w _ _ rfl;have r:Fr p w ((w.alloc (.cells #[.bool false,.slice none 0 0] 79)).drewN o):=Fr.I (im hS _);have u:Rd ((w.alloc (.cells #[.bool false,.slice none 0 0] 79)).drewN o) p s a:=C.e.below (im hS _);have j:=hO B r u;clear B r u;go_wp2_with fail;go_fit (tj j.l Q.e (by omega) x.e J.e);rintro g ab⟨rfl,z,n⟩;have G:=j.f.fr n (by omega);have t:=j.g.trans n;have l:=hO G t z;clear j G n z t;go_wp2_with fail;go_fit (kZ (by show L.toArray.size<=4000;simp;omega) (by simpa using x.g));rintro g P⟨q,rfl,e,i⟩;obtain⟨y,F,H,A,rfl⟩:=e.shape;have c:=l.f.below i;obtain⟨O,V,W,X⟩:=c.cells;have I:=hY c (l.g.trans (Fr.I i)) (l.l.below i) e;clear c e i l;go_wp2_with fail;refine ig (v:=.agg #[.bool y,.slice F H A]) ?_ rfl ?_
 ·(simp[results,Tryz.results89,go_sem,O,V];done)
 .obtain⟨c,T,U,e⟩:=I.e;refine⟨_,rfl,?_,(U.kU (by omega) _).kU (by omega) _,(T.nU c_ _).nU c_ _⟩;have M:jE P (.agg #[.bool y,.slice F H A]) (iO L) L.length:=e;exact M.hV (KU.setCell (KU.setCell (KU.refl _) c.ty (by decide) _) (c.ty.setCell _ _) (by decide) _)
theorem Ab{p:Nat}{s:ByteArray}{a:Nat}{w:World}(h:Rd w p s a)(m:mR s a (45::(L++K)))(ak:s.size<=4000)(hd:yW L)(I:qa K)(y:L≠[48]):Calls Tryz.prog 89 #[.pointer (some ⟨p,0,none⟩)] w λc k=>∃n,c=.returned n/\jE k n (-(iO L:Int)) L.length/\Rd k p s (a+1+L.length)/\Fr p w k:=by
 have H:=a_ h;have Y:=a_ m;have C:=a_ hd;have P:=a_ I;have am:=h.lt;obtain⟨ah,-,u⟩:=m.cons;have Z:=a_ u;have U:(((45:UInt8).toNat:Int)==45)=true:=by decide
 have an:L.length<=s.size:=by have:=u.app.1;omega
 have R:=a_ y;clear h m hd I u y;go_in;go_wp2_with fail;go_fit (tp (H.e.below hS) Y.e (by omega));rintro c k⟨rfl,ae,rfl⟩;rw[U];obtain⟨x,d⟩:=hQ ((w.alloc (.cells #[.bool false,.slice none 0 0] 79)).drewN ae);have G:Two x w.heap.size (.bool false) (.slice none 0 0):=by rw[d];exact Two.new w _ _ rfl
 have A:Fr p w x:=by rw[d];exact Fr.I (im hS _)
 have o:Rd x p s a:=by rw[d];exact H.e.below (im hS _)
 obtain⟨aa,ac,V,S,Q⟩:=o.cells;rw[<-d];have i:=hO G A o;clear G A o d;go_wp2_with fail;have f:=i.l.Kj (z:=(a:Int)+1) (q':=a+1) (by omega);go_fit (tj f.1 Z.e (by omega) C.e P.e);rintro c ap⟨rfl,E,r⟩;have N:=(i.f.fr f.2 (by omega)).fr r (by omega);have B:=(i.g.trans f.2).trans r;have l:=hO N B E;clear i N r E B f aa ac V S Q;have y:(L==[48])=false:=iK.2 R.e;go_wp2_with fail;go_fit (kZ (by show L.toArray.size<=4000;simp;omega) (by simpa using C.g));rintro c al⟨n,rfl,j,g⟩;have b:=hY (l.f.below g) (l.g.trans (Fr.I g)) (l.l.below g) j;clear j g l;go_wp2_with fail;go_fit (nA b.o);rintro c X⟨ao,rfl,q,e⟩;obtain⟨D,J,O,F,rfl⟩:=q.shape;have t:=b.f.below e;obtain⟨W,ag,ai,aj⟩:=t.cells;have ab:=hY t (b.g.trans (Fr.I e)) (b.j.below e) q;clear t q e b;go_wp2_with fail;refine ig (v:=.agg #[.bool D,.slice J O F]) ?_ rfl ?_
 ·(simp[results,Tryz.results89,go_sem,W,ag];done)
 .obtain⟨M,ad,af,j⟩:=ab.e;have T:jE X (.agg #[.bool D,.slice J O F]) (-(iO L:Int)) L.length:=j;exact⟨_,rfl,T.hV (KU.setCell (KU.setCell (KU.refl _) M.ty (by decide) _) (M.ty.setCell _ _) (by decide) _),(af.kU (by omega) _).kU (by omega) _,(ad.nU c_ _).nU c_ _⟩
theorem wK{p:Nat}{s:ByteArray}{a:Nat}{c l:List UInt8}{z:Int}{w:World}(h:Rd w p s a)(g:mR s a (c++l))(f:s.size<=4000)(n:Tok c z)(i:qa l):Calls Tryz.prog 89 #[.pointer (some ⟨p,0,none⟩)] w λj b=>∃d,j=.returned d/\jE b d z c.length/\Rd b p s (a+c.length)/\Fr p w b:=by
 rcases n with⟨e,rfl⟩|⟨k,rfl,e,o,rfl⟩
 .exact Bl h g f e i
 .go_fit (Ab h g f e i o);rintro j b⟨d,rfl,m,r,q⟩;exact⟨d,rfl,m.mono (by simp),by rw[j3,show a+(k.length+1)=a+1+k.length from by omega];exact r,q⟩
theorem A3(c:List UInt8):∀(b a:Nat),a+b=c.length->iO (c.take a)<=iO c:=by
 intro b;induction b with
 |zero=>intro a d;rw[ka (by omega)];exact c_
 |succ b e=>
  intro a d;have f:=e (a+1) (by omega);rw[uJ c a (by omega)]at f;omega
theorem Dg{p:Nat}{s:ByteArray}{a:Nat}{w:World}(h:Rd w p s a)(i:mR s a (L++K))(M:s.size<=4000)(hd:yW L)(u:qa K)(E:iO L<=99):Calls Tryz.prog 55 #[.pointer (some ⟨p,0,none⟩)] w λl t=>l=.returned (.int .i64 (iO L))/\Rd t p s (a+L.length)/\Fr p w t:=by
 have F:=a_ h;have A:=a_ i;have n:=a_ hd;have y:=a_ u;have J:L.length<=4000:=by have:=i.app.1;omega
 clear h i hd u;go_in;go_wp2_with fail;go_fit (tj F.e A.e (by omega) n.e y.e);rintro l Q⟨rfl,o,q⟩;have x:=b_ o q;clear o q;obtain⟨c,g⟩:∃c:ByteArray,c=⟨L.toArray⟩:=⟨_,rfl⟩;have r:c.size=L.length:=by rw[g];rfl
 have m:c.data.toList=L:=by rw[g]
 have f:=b_ r m;have R:c.size<=4000:=by omega
 rw[<-g];clear g r m;go_wp2_with fail;go_loop [4,5] (λB j=>∃b d:Nat,b<=c.size/\j=.int .i64 b/\d<=99/\B=.int .i64 d/\f_ (d=iO (L.take b))) (λ_ j=>c.size-(intOf j).toNat)
 case atStart=>exact⟨0,0,hR,rfl,by omega,rfl,a_ rfl⟩
 case round=>
  obtain⟨b,d,P,rfl,N,rfl,v⟩:=hrel;by_cases e:b<c.size
  .have G:=Ch (by rw[f.i];exact n.g) b e;obtain⟨S,H⟩:=G;have k:iO (L.take (b+1))=10*d+((c[b]'e).toNat-48):=by
    have:=rb c b e;rw[f.i]at this;rw[this,v.e]
   have C:iO (L.take (b+1))<=99:=iy (A3 L (L.length-(b+1)) (b+1) (by have:=f.f;omega)) E;have z:=a_ k;have D:10*d+((c[b]'e).toNat-48)<=99:=by omega
   clear k C;go_wp2_with fail;go_round
   case rel=>exact⟨b+1,10*d+((c[b]'e).toNat-48),by omega,by go_num,D,by go_num,a_ z.e.symm⟩
   case measure=>simp[intOf];omega
  .have I:decide (b<c.size)=false:=by simp;omega
   have O:decide ((b:Int)<(c.size:Int))=false:=by simp;omega
   go_wp2;go_ret;refine⟨lb ?_,x.f,x.i⟩;have:=v.e;rw[ka (by have:=f.f;omega)]at this;omega
def lr(B:Nat)(w:World)(e:Value)(n:Nat)(zs:List Int)(L:Nat):Prop:=
 zs.length=n/\∃b,w.ownsRow B 79 2 e n b/\∀a,a<n->∃d c,b[2*a]?=some d/\b[2*a+1]?=some c/\jE w (.agg #[d,c]) (zs.getD a 0) L
theorem lr.kA{B:Nat}{w:World}{n L:Nat}{zs:List Int}(h:lr B w x n zs L):iA w x n zs L:=by
 obtain⟨b,d,a,c⟩:=h;refine⟨b,d,⟨a.1,?_⟩,c⟩;rcases a.2 with k|⟨e,j,i,f,_,g⟩
 .exact .inl k
 .exact .inr ⟨e,j,i,f,hR,g⟩
theorem lr.hV{B:Nat}{w W:World}{n L:Nat}{zs:List Int}(h:lr B w x n zs L)(b:KT w W):lr B W x n zs L:=by
 obtain⟨r,e,c,s⟩:=h;refine⟨r,e,⟨c.1,?_⟩,λm q=>?_⟩
 .rcases c.2 with g|⟨d,v,a,p,j,u,l⟩
  .exact .inl g
  .exact .inr ⟨d,v,a,p,j,b.1 d a u,l⟩
 .obtain⟨t,i,f,o,k⟩:=s m q;exact⟨t,i,f,o,k.hV b.2⟩
theorem lr.lt{B:Nat}{w:World}{n L:Nat}{zs:List Int}(h:lr B w x n zs L):∀a,x.ownBlock=some a->B<=a/\Ty w a 79:=by
 intro a b;obtain⟨f,j,d,i⟩:=h;rcases d.2 with⟨rfl,_⟩|⟨k,g,m,rfl,c,e,l⟩
 .simp[Value.ownBlock]at b
 .simp[Value.ownBlock]at b;subst b;exact⟨c,_,_,e⟩
theorem KU.grown{w:World}{row:Option Nat}(h:w.grownBy v row)(e:∀c,row=some c->Ty w c 79):KU w v:=by
 intro b i a;rw[h.block b (jt.1 a).1 ?_]
 .exact a
 .intro f;obtain⟨j,g,d⟩:=e b f.symm;rw[a]at d;simp at d
theorem mu{w:World}{ops:Array Oper}{l:List Oper}{o:Oper}{a:Act}{Q:Exit->Act->World->Prop}(t:o.guard=none)(s x:Operand)(u:o.op=.call {callee:=.builtin .append,args:=#[s,x],argTypes:=#[64,64]}){B:Nat}{v:Value}{n:Nat}{zs:List Int}{L:Nat}(F:a.eval s=v)(k:lr B w v n zs L)(h:Addr)(W:a.eval x=.slice (some h) 1 1){e d:Value}{z:Int}(Z:w.cell? (h.add 0)=some e)(S:w.cell? (h.add 1)=some d)(V:e.oneCell'=true)(ac:d.oneCell'=true)(X:jE w (.agg #[e,d]) z L)(ad:n<=10000)(aa:B<=w.heap.size)(T:∀i g,lr B g i (n+1) (zs++[z]) L->w.grownBy g v.ownBlock->wpList Tryz.prog ops Q l (a.put o.dst i) g):wpList Tryz.prog ops Q (o::l) a w:=by
 obtain⟨M,U,A,O,E⟩:=kO Tryz.w3;have G:=k.lt;obtain⟨p,f,j,I⟩:=k;refine wC w t s x 64 u B 79 M (.agg #[.bool false,.slice none 0 0]) 2 32 Tryz.underlying64 U A O E rfl (by decide) v n f F j h 1 1 [e,d] W rfl ?_ ?_ ?_ ?_ aa ?_
 .intro b H c;match b,c with
  |0,c=>simp at c;subst c;exact Z
  |1,c=>simp at c;subst c;exact S
 .intro H r;simp at r;rcases r with rfl|rfl
  .exact V
  .exact ac
 .unfold maxLen;omega
 .omega
 .intro i g C q _;have m:=KU.grown q (λy R=>(G y R).2);have ae:f.length=n*2:=j.1;refine T i g ⟨by simp[p],f++[e,d],C,λb c=>?_⟩ q;by_cases N:b<n
  .obtain⟨Y,ab,D,P,J⟩:=I b N;refine⟨Y,ab,by rw[lQ (by omega)];exact D,by rw[lQ (by omega)];exact P,?_⟩;rw[show(zs++[z]).getD b 0=zs.getD b 0 from by simp[List.getD,lQ (show b<zs.length from by omega)]];exact J.hV m
  .have K:b=n:=by omega
   subst K;refine⟨e,d,?_,?_,?_⟩
   .rw[uP (by omega),show 2*b-f.length=0 from by omega];rfl
   .rw[uP (by omega),show 2*b+1-f.length=1 from by omega];rfl
   .rw[show(zs++[z]).getD b 0=z from by simp[List.getD,<-p]];exact X.hV m
theorem Fr.grown{p:Nat}{w:World}{row:Option Nat}(h:Fr p v w)(b:w.grownBy W row)(i:∀a,row=some a->v.heap.size<=a):Fr p v W:=by
 have k:=h.1.size;have e:∀a,a<v.heap.size->W.heap[a]?=w.heap[a]?:=λa g=>b.block a (by omega) (λj=>by have:=i a j.symm;omega);refine⟨⟨b.os.trans h.1.os,b.tape.trans h.1.tape,b.output.trans h.1.output,iy k b.size,λa g l=>?_⟩,λd f c=>?_,λd f c=>?_⟩
 .rw[e a g];exact h.1.block a g l
 .rw[e d (jt.1 c).1];exact h.2.1 d f c
 .rw[e d (jt.1 c).1];exact h.2.2 d f c
theorem Rd.grown{w:World}{p:Nat}{s:ByteArray}{q:Nat}{row:Option Nat}(h:Rd w p s q)(b:w.grownBy v row)(a:row≠some p):Rd v p s q:=by
 unfold Rd;rw[b.block p h.lt (Ne.symm a)];exact h
def iM(c:Nat):Nat->List (List UInt8)->List UInt8
 |_,[]=>[]
 |a,b::d=>(if 0<a/\a%c=0 then[59]else[])++(32::(b++iM c (a+1) d))
theorem qP(c t:Nat)(a:List (List UInt8)):qa (iM c t a):=by
 cases a with
 |nil=>exact .inl rfl
 |cons b d=>
  refine .inr ?_;unfold iM;split
  .exact⟨59,_,rfl,.inr (by decide)⟩
  .exact⟨32,_,rfl,.inl (by decide)⟩
theorem GL(c t:Nat)(a:List (List UInt8))(b:t<a.length):iM c t (a.drop t)=(if 0<t/\t%c=0 then[59]else[])++(32::(a.getD t []++iM c (t+1) (a.drop (t+1)))):=by
 rw[ow b,iM];simp[List.getD,iI b]
theorem CY{row c k:Nat}(d:k<c):(0<row*c+k/\(row*c+k)%c=0)↔(0<row/\k=0):=by
 have e:(row*c+k)%c=k:=by rw[ij,ue,oO d]
 rw[e];constructor
 .rintro⟨a,rfl⟩;refine⟨?_,rfl⟩;rcases kl row with b|b
  .subst b;simp at a
  .exact b
 .rintro⟨a,rfl⟩;exact⟨by have:=jR a (Nat.succ_le_of_lt d);omega,rfl⟩
theorem r0(zs:List Int)(t:Nat)(a:t<zs.length):zs.take t++[zs[t]?.getD 0]=zs.take (t+1):=by
 rw[oW a];simp[iI a]
theorem BO{p:Nat}{s:ByteArray}{a r c:Nat}{f:List (List UInt8)}{zs:List Int}{L:Nat}{w:World}(h:Rd w p s a)(ap:mR s a (iM c 0 f))(ai:s.size<=4000)(aV:r<=99)(aJ:c<=99)(ay:f.length=r*c)(az:zs.length=r*c)(ax:∀ad,ad<r*c->Tok (f.getD ad []) (zs.getD ad 0)/\(f.getD ad []).length<=L):Calls Tryz.prog 57 #[.pointer (some ⟨p,0,none⟩),.int .i64 r,.int .i64 c] w λg aj=>∃X,g=.returned X/\iA aj X (r*c) zs L/\Rd aj p s s.size/\Fr p w aj:=by
 have aK:=a_ h;have aQ:=a_ ap;have aM:=a_ ax;have V:=b_ ay az;have aX:=h.lt;clear h ap ax ay az;go_in;go_wp2_with fail;go_loopw [7,8] (λX P wr=>∃j n b:Nat,j<=r/\P=.int .i64 j/\lr w.heap.size wr X b (zs.take b) L/\Rd wr p s n/\Fr p w wr/\f_ (b=j*c/\mR s n (iM c b (f.drop b)))) (λ_ P _=>r-(intOf P).toNat)
 case atStart=>
  refine⟨0,a,0,hR,rfl,⟨rfl,[],?_,λP a2=>by omega⟩,aK.e.below hS,Fr.I hS,a_ ⟨by simp,by simpa using aQ.e⟩⟩;have:=uS (base:=w.heap.size) (e:=79) (size:=2) w #[] 0 c_ (by simp[maxLen]) rfl;simpa using this
 case round=>
  obtain⟨j,n,b,aY,rfl,K,x,J,m⟩:=hrel;have ac:=hO K x J;clear K x J;by_cases aI:j<r
  .go_wp2_with fail;go_loopw [7,9] (λX P ag=>∃A n b:Nat,A<=c/\P=.int .i64 A/\lr w.heap.size ag X b (zs.take b) L/\Rd ag p s n/\Fr p w ag/\f_ (b=j*c+A/\mR s n (iM c b (f.drop b)))) (λ_ P _=>c-(intOf P).toNat)
   case atStart=>exact⟨0,n,b,hR,rfl,ac.f,ac.g,ac.l,m⟩
   case round=>
    clear ac m;obtain⟨A,n,b,a1,rfl,K,x,J,m⟩:=hrel;obtain⟨aT,aL,aE,aD,aC⟩:=x.cells;by_cases aA:A<c
    .have aR:b<r*c:=by rw[m.f];exact jq aI aA
     have aZ:r*c<=9801:=jR aV aJ;have W:=a_ (aM.e b aR);have I:=m.i;rw[GL c b f (by have:=V.f;omega)]at I;have Z:=CY (row:=j) aA;rw[<-m.f]at Z;by_cases aa:0<j/\A=0
     .rw[if_pos (Z.2 aa)]at I;obtain⟨_,_,ae⟩:=I.cons;obtain⟨a3,rfl⟩:=aa;obtain⟨_,_,T⟩:=ae.cons;obtain⟨o,Y⟩:=hQ (n+1);rw[<-Y]at ae T;have aS:=a_ I;have af:=a_ ae;have U:=a_ T;have aN:=a_ Y;have M:=hO K x J;clear I ae T Z K x J Y;go_wp2_with fail;go_fit (@ru p s n 59 59 _ _ M.g aS.e (by omega) rfl);rintro g aG⟨rfl,an,ah⟩;have l:=hO (M.f.hV ah.2) (show Rd aG p s o from by rw[aN.e];exact an) (M.l.trans ah);clear an ah M aT aL aE aD aC;go_wp2_with fail;go_fit (@ru p s o 32 32 (f.getD b []++iM c (b+1) (f.drop (b+1))) _ l.g af.e (by omega) rfl);rintro g al⟨rfl,R,F⟩;have k:=hO (l.f.hV F.2) R (l.l.trans F);clear R F l;go_wp2_with fail;go_fit (@wK p s (o+1) (f.getD b []) (iM c (b+1) (f.drop (b+1))) (zs.getD b 0) _ k.g U.e ai W.f (qP _ _ _));rintro g C⟨ao,rfl,E,S,v⟩;obtain⟨q,z,G,D,rfl⟩:=E.shape;have d:=hY (k.f.hV v.2) S (k.l.trans v) (E.mono W.i);clear E S v k;go_wp2_with (at_builtin;refine @mu _ _ _ _ _ _ rfl (.tmp 41) (.tmp 43) rfl w.heap.size _ b (zs.take b) L rfl ?_ ⟨_,0,none⟩ rfl (.bool q) (.slice z G D) (zs.getD b 0) ?_ ?_ rfl rfl ?_ (by omega) ?_ ?_)
      .refine d.f.hV (KT.I ?_);repeat(first|exact hP|refine ia ?_ (by simp<;>omega) _)
      .simp[Addr.add]
      .simp[Addr.add]
      .refine d.o.below ?_;repeat(first|exact hP|refine ia ?_ (by simp<;>omega) _)
      .have:=d.j.1.size;simp;omega
      intro ar Q y u;have H:Below C.heap.size C ((C.alloc (.cells #[.bool q,.slice z G D] 79)).alloc (.cells #[.bool q,.slice z G D] 79)):=by
       repeat(first|exact hP|refine ia ?_ (by simp<;>omega) _)
      have B:∀i,u7.ownBlock=some i->w.heap.size<=i:=λi ab=>(d.f.lt i ab).1;have O:Fr p w Q:=(d.j.trans (Fr.I H)).grown u B;have N:Rd Q p s (o+1+(f.getD b []).length):=(d.g.below H).grown u (λg=>by have:=B p g;omega);rw[r0 zs b (by have:=V.i;omega)]at y;have t:=hO y N O;clear y N O u H B d;go_wp2;go_roundw
      case rel=>exact⟨0+1,_,b+1,by omega,by go_num,t.f,t.g,t.l,a_ ⟨by have:=m.f;omega,U.e.app⟩⟩
      case measure=>simp[intOf];omega
     .rw[if_neg (λg=>aa (Z.1 g)),om]at I;obtain⟨_,_,T⟩:=I.cons;obtain⟨o,Y⟩:=hQ n;rw[<-Y]at I T x;have af:=a_ I;have U:=a_ T;have l:=hO K x J;clear I T Z K x J Y;by_cases aB:j=0
      .have aF:decide (0<j)=false:=by simp;omega
       have aU:decide ((0:Int)<(j:Int))=false:=by simp;omega
       clear aa aB;go_wp2_with fail;go_fit (@ru p s o 32 32 (f.getD b []++iM c (b+1) (f.drop (b+1))) _ l.g af.e (by omega) rfl);rintro g al⟨rfl,R,F⟩;have k:=hO (l.f.hV F.2) R (l.l.trans F);clear R F l;go_wp2_with fail;go_fit (@wK p s (o+1) (f.getD b []) (iM c (b+1) (f.drop (b+1))) (zs.getD b 0) _ k.g U.e ai W.f (qP _ _ _));rintro g C⟨ao,rfl,E,S,v⟩;obtain⟨q,z,G,D,rfl⟩:=E.shape;have d:=hY (k.f.hV v.2) S (k.l.trans v) (E.mono W.i);clear E S v k;go_wp2_with (at_builtin;refine @mu _ _ _ _ _ _ rfl (.tmp 41) (.tmp 43) rfl w.heap.size _ b (zs.take b) L rfl ?_ ⟨_,0,none⟩ rfl (.bool q) (.slice z G D) (zs.getD b 0) ?_ ?_ rfl rfl ?_ (by omega) ?_ ?_)
       .refine d.f.hV (KT.I ?_);repeat(first|exact hP|refine ia ?_ (by simp<;>omega) _)
       .simp[Addr.add]
       .simp[Addr.add]
       .refine d.o.below ?_;repeat(first|exact hP|refine ia ?_ (by simp<;>omega) _)
       .have:=d.j.1.size;simp;omega
       intro ar Q y u;have H:Below C.heap.size C ((C.alloc (.cells #[.bool q,.slice z G D] 79)).alloc (.cells #[.bool q,.slice z G D] 79)):=by
        repeat(first|exact hP|refine ia ?_ (by simp<;>omega) _)
       have B:∀i,u7.ownBlock=some i->w.heap.size<=i:=λi ab=>(d.f.lt i ab).1;have O:Fr p w Q:=(d.j.trans (Fr.I H)).grown u B;have N:Rd Q p s (o+1+(f.getD b []).length):=(d.g.below H).grown u (λg=>by have:=B p g;omega);rw[r0 zs b (by have:=V.i;omega)]at y;have t:=hO y N O;clear y N O u H B d;go_wp2;go_roundw
       case rel=>exact⟨A+1,_,b+1,by omega,by go_num,t.f,t.g,t.l,a_ ⟨by have:=m.f;omega,U.e.app⟩⟩
       case measure=>simp[intOf];omega
      .have aF:((A:Int)==0)=false:=iK.2 (by omega);have aU:0<j:=by omega
       clear aa aB;go_wp2_with fail;go_fit (@ru p s o 32 32 (f.getD b []++iM c (b+1) (f.drop (b+1))) _ l.g af.e (by omega) rfl);rintro g al⟨rfl,R,F⟩;have k:=hO (l.f.hV F.2) R (l.l.trans F);clear R F l;go_wp2_with fail;go_fit (@wK p s (o+1) (f.getD b []) (iM c (b+1) (f.drop (b+1))) (zs.getD b 0) _ k.g U.e ai W.f (qP _ _ _));rintro g C⟨ao,rfl,E,S,v⟩;obtain⟨q,z,G,D,rfl⟩:=E.shape;have d:=hY (k.f.hV v.2) S (k.l.trans v) (E.mono W.i);clear E S v k;go_wp2_with (at_builtin;refine @mu _ _ _ _ _ _ rfl (.tmp 41) (.tmp 43) rfl w.heap.size _ b (zs.take b) L rfl ?_ ⟨_,0,none⟩ rfl (.bool q) (.slice z G D) (zs.getD b 0) ?_ ?_ rfl rfl ?_ (by omega) ?_ ?_)
       .refine d.f.hV (KT.I ?_);repeat(first|exact hP|refine ia ?_ (by simp<;>omega) _)
       .simp[Addr.add]
       .simp[Addr.add]
       .refine d.o.below ?_;repeat(first|exact hP|refine ia ?_ (by simp<;>omega) _)
       .have:=d.j.1.size;simp;omega
       intro ar Q y u;have H:Below C.heap.size C ((C.alloc (.cells #[.bool q,.slice z G D] 79)).alloc (.cells #[.bool q,.slice z G D] 79)):=by
        repeat(first|exact hP|refine ia ?_ (by simp<;>omega) _)
       have B:∀i,u7.ownBlock=some i->w.heap.size<=i:=λi ab=>(d.f.lt i ab).1;have O:Fr p w Q:=(d.j.trans (Fr.I H)).grown u B;have N:Rd Q p s (o+1+(f.getD b []).length):=(d.g.below H).grown u (λg=>by have:=B p g;omega);rw[r0 zs b (by have:=V.i;omega)]at y;have t:=hO y N O;clear y N O u H B d;go_wp2;go_roundw
       case rel=>exact⟨A+1,_,b+1,by omega,by go_num,t.f,t.g,t.l,a_ ⟨by have:=m.f;omega,U.e.app⟩⟩
       case measure=>simp[intOf];omega
    .have aw:A=c:=by omega
     have aH:=a_ aw;clear aw;have a0:decide (A<c)=false:=by simp;omega
     have M:=hO K x J;clear K x J;go_wp2;go_roundw
     case rel=>exact⟨j+1,n,b,by omega,by go_num,M.f,M.g,M.l,a_ ⟨by rw[m.f,aH.e,jV,j7],m.i⟩⟩
     case measure=>simp[intOf];omega
  .have av:j=r:=by omega
   have aW:=a_ av;clear av;go_wp2;go_ret;have aq:b=r*c:=by rw[<-aW.e];exact m.f
   have au:=m.i;rw[aq,lA (by have:=V.f;omega)]at au;have aP:=au.nil;obtain⟨am,ak,aO⟩:=ac.e;rw[aP]at ak;rw[aq,ka (by have:=V.i;omega)]at am;exact⟨_,rfl,am.kA,ak,aO⟩
theorem y1(w:World)(i:TypeId)(g n h:Nat)(c:Addr)(d:Array Value)(a:List Value)(k:w.heap[g]?=some (.cells d 79 (0,0)))(t:d.size=n*2)(j:a.length=n*2)(l:∀f b,a[f]?=some b->w.cell? (c.add f)=some b)(o:∀b∈a,b.oneCell'=true):(Builtin.copy_ #[64,64] i #[.slice (some ⟨g,0,none⟩) n n,.slice (some c) n h]).run Tryz.prog w=.ok (goInt n) (w.setRow g a.toArray):=by
 obtain⟨u,p,r,m,s⟩:=kO Tryz.w3;have q:=run_firstCells_some (P:=Tryz.prog) w 2 n c n h a j l;have e:=run_storeCells_at Tryz.prog g 0 79 a 0 d w k (by omega) o;simp only[nt,jF,List.take_zero,om]at e;rw[lA (by rw[Array.length_toList];omega),rV]at e;simp[Builtin.copy_,run_underlying Tryz.underlying64,Builtin.lenOf,sizeOf,typeInfo,p,m,q,e]
theorem rL(w:World)(a:TypeId)(g:Nat):(Builtin.copy_ #[64,64] a #[.slice (some ⟨g,0,none⟩) 0 0,.slice none 0 0]).run Tryz.prog w=.ok (goInt 0) w:=by
 obtain⟨f,b,d,c,e⟩:=kO Tryz.w3;simp[Builtin.copy_,run_underlying Tryz.underlying64,Builtin.lenOf,sizeOf,typeInfo,b,Builtin.firstCells,storeCells]
theorem Ef{w:World}{ops:Array Oper}{z:List Oper}{o:Oper}{a:Act}{Q:Exit->Act->World->Prop}(P:o.guard=none)(d s:Operand)(u:o.op=.call {callee:=.builtin .copy,args:=#[d,s],argTypes:=#[64,64]}){g n:Nat}{C:Value}{ys zs:List Int}{M L:Nat}(hd:a.eval d=.slice (some ⟨g,0,none⟩) n n)(y:a.eval s=C)(B:iA w (.slice (some ⟨g,0,none⟩) n n) n ys M)(ac:iA w C n zs L)(F:∀t,iA t (.slice (some ⟨g,0,none⟩) n n) n zs L->w.grownBy t (some g)->wpList Tryz.prog ops Q z (a.put o.dst (goInt n)) t):wpList Tryz.prog ops Q (o::z) a w:=by
 refine wpList_plain P λan x=>?_;have ab:=B.ty;obtain⟨ay,Z,E,aA⟩:=B;rcases E.2 with⟨W,_⟩|⟨ax,aj,V,i,al,O,ai,ad,Y,ap⟩
 .simp at W
 simp only[iC,iH,jj,jh,nh]at i;obtain⟨rfl,rfl⟩:=i;obtain⟨H,c,f,J⟩:=ac;rcases f.2 with⟨rfl,S⟩|⟨U,af,aB,rfl,ao,au,ag,ah,av,ak⟩
 .subst S;have p:=rL w o.type g;unfold Oper.wp;simp[execOp,u,resolve,invoke,builtin,hd,y,p,Result.andThen];exact x _ _ (F w ⟨H,Z,E,λA G=>by omega⟩ (jM _ _))
 .have ae:∀h∈c,h.oneCell'=true:=by
   intro h i;obtain⟨e,r,R⟩:=List.getElem_of_mem i;have az:c.length=n*2:=f.1;obtain⟨N,I,j,q,k⟩:=J (e/2) (by omega);obtain⟨am,ar,aq,aw,l⟩:=k.shape;simp only[j9,j_,kb,jh]at l;have b:c[e]?=some h:=by rw[iI r,R]
   rcases(show e=2*(e/2)\/e=2*(e/2)+1 from by omega)with m|m
   .rw[m,j]at b;injection b with b;rw[<-b,l.1];rfl
   .rw[m,q]at b;injection b with b;rw[<-b,l.2];rfl
  have p:=y1 w o.type g n af ⟨U,0,none⟩ V c O Y f.1 (λe h r=>World.ownsRow.cells f rfl e h r) ae;unfold Oper.wp;simp[execOp,u,resolve,invoke,builtin,hd,y,p,Result.andThen];have K:w.grownBy (w.setRow g c.toArray) (some g):=⟨rfl,rfl,rfl,by simp[World.setRow],λv _ X=>setRow_other w g v _ (λT=>X (by simp[T]))⟩;have aa:KU w (w.setRow g c.toArray):=KU.grown K (λv D=>by simp at D;subst D;exact ab);refine x _ _ (F _ ⟨H,c,⟨f.1,.inr ⟨g,n,c.toArray,rfl,hR,setRow_heap w g _ _ _ _ O,c_,ad,by simpa using f.1,?_⟩⟩,λA G=>?_⟩ K)
  .rw[ka (by simp[f.1])]
  .obtain⟨N,I,j,q,k⟩:=J A G;exact⟨N,I,j,q,k.hV aa⟩
theorem mF{r c:Nat}{z:Value}{zs:List Int}{L:Nat}{w:World}(D:r<=99)(F:c<=99)(k:iA w z (r*c) zs L):Calls Tryz.prog 58 #[.int .i64 r,.int .i64 c,z] w λo B=>∃a,o=.returned (.agg #[.int .i64 r,.int .i64 c,.slice (some ⟨a,0,none⟩) (r*c) (r*c)])/\w.heap.size<=a/\iA B (.slice (some ⟨a,0,none⟩) (r*c) (r*c)) (r*c) zs L/\Below w.heap.size w B:=by
 obtain⟨O,Z,rfl,-⟩:=k.shape;have u:=a_ k;clear k;go_in;go_wp2_with fail;go_fit (@kh r c _ D F);rintro o d⟨a,rfl,A,l,j⟩;obtain⟨N,H⟩:=oG j;have R:w.heap.size<d.heap.size:=by have:=j.size;simp at this;omega
 have T:a<d.heap.size:=l.ty.lt;have U:w.heap.size+1<=a:=by simpa using A
 have s:Below w.heap.size w d:=by
  refine Below.trans ?_ (j.mono (by simp<;>omega));repeat(first|exact hP|refine ia ?_ (by simp<;>omega) _)
 have C:d.heap[w.heap.size]?=some (.cells #[.int .i64 0,.int .i64 0,.slice none 0 0] 66 (0,0)):=by
  rw[j.block _ (by simp)];exact iP w _
 have i:=hO l s C;clear A l j s C N H;go_wp2_with (refine @Ef _ _ _ _ _ _ rfl (.tmp 12) (.tmp 13) rfl a (r*c) _ (List.replicate (r*c) 0) zs 0 L rfl rfl ?_ ?_ ?_)
 .exact i.f.below hS
 .exact(u.e.below i.g).below hS
 intro b t g;obtain⟨h,f⟩:=hQ (d.alloc (.cells #[.int .i64 r,.int .i64 c,.slice (some ⟨a,0,none⟩) (r*c) (r*c)] 66));rw[<-f]at g;have p:h.cell? ⟨d.heap.size,0,none⟩=some (.int .i64 r):=by rw[f];simp
 have x:h.cell? ⟨d.heap.size,1,none⟩=some (.int .i64 c):=by rw[f];simp
 have q:h.cell? ⟨d.heap.size,2,none⟩=some (.slice (some ⟨a,0,none⟩) (r*c) (r*c)):=by rw[f];simp
 have X:=g.cell p (by simp;omega);have P:=g.cell x (by simp;omega);have Q:=g.cell q (by simp;omega);have I:h.heap.size=d.heap.size+1:=by rw[f];simp
 have e:b.heap[w.heap.size]?=some (.cells #[.int .i64 0,.int .i64 0,.slice none 0 0] 66 (0,0)):=by
  rw[g.block _ (by omega) (by simp;omega),f,qL _ _ _ (by omega)];exact i.l
 have y:Below w.heap.size w b:=by
  have J:Below w.heap.size w h:=by rw[f];exact i.g.alloc (by omega) _
  exact J.grown g (by omega) (λV M=>by simp at M;omega)
 have G:b.cell? ⟨w.heap.size,0,none⟩=some (.int .i64 0):=by simp[World.cell?,e]
 have E:b.cell? ⟨w.heap.size,1,none⟩=some (.int .i64 0):=by simp[World.cell?,e]
 have K:b.cell? ⟨w.heap.size,2,none⟩=some (.slice none 0 0):=by simp[World.cell?,e]
 have Y:b.frozen? ⟨w.heap.size,0,none⟩=false:=by simp[World.frozen?,e]
 have S:b.frozen? ⟨w.heap.size,1,none⟩=false:=by simp[World.frozen?,e]
 have W:b.frozen? ⟨w.heap.size,2,none⟩=false:=by simp[World.frozen?,e]
 have m:f_ (Ty b w.heap.size 66):=a_ ⟨_,_,e⟩;have n:=b_ t y;clear t y g e p x q f I i u;go_wp2_with fail;refine ig (v:=.agg #[.int .i64 r,.int .i64 c,.slice (some ⟨a,0,none⟩) (r*c) (r*c)]) ?_ rfl ?_
 ·(simp[results,Tryz.results58,go_sem,G,E,K];done)
 .refine⟨a,rfl,by omega,n.f.hV (KT.setCell (KT.setCell (KT.setCell (KT.refl _) m.e (by decide) (by decide) _) (m.e.setCell _ _) (by decide) (by decide) _) ((m.e.setCell _ _).setCell _ _) (by decide) (by decide) _),?_⟩;exact((n.i.setCell c_ _).setCell c_ _).setCell c_ _
theorem rI{r c:Nat}{g:Value}{zs:List Int}{L:Nat}{w:World}(b:r<=99)(d:c<=99)(h:iA w g (r*c) zs L):Calls Tryz.prog 58 #[.int .i64 r,.int .i64 c,g] w λe a=>∃f,e=.returned f/\i_ a f r c zs L/\Below w.heap.size w a:=by
 go_fit (mF b d h);rintro e a⟨k,rfl,-,i,j⟩;exact⟨_,rfl,⟨b,d,_,rfl,i⟩,j⟩
theorem Fr.below{p B:Nat}{a b:World}(h:Fr p a b)(d:B<=p)(f:B<=a.heap.size):Below B a b:=⟨h.1.os,h.1.tape,h.1.output,h.1.size,λc e=>h.1.block c (by omega) (by simp;omega)⟩
def n0(s:ByteArray)(r c:Nat)(zs:List Int)(L:Nat):Prop:=∃e d a,s.data.toList=e++(120::(d++(58::iM c 0 a)))/\yW e/\yW d/\iO e=r/\iO d=c/\a.length=r*c/\zs.length=r*c/\
 ∀b,b<r*c->Tok (a.getD b []) (zs.getD b 0)/\(a.getD b []).length<=L
theorem Hj(a:List UInt8):qa (120::a):=.inr ⟨120,a,rfl,.inr (by decide)⟩
theorem AB(a:List UInt8):qa (58::a):=.inr ⟨58,a,rfl,.inr (by decide)⟩
theorem G6{s:ByteArray}{r c:Nat}{zs:List Int}{L:Nat}{w:World}(x:s.size<=4000)(t:r<=99)(B:c<=99)(aC:n0 s r c zs L):Calls Tryz.prog 32 #[.string s] w λd af=>∃q,d=.returned (.tuple #[q,.bool true])/\i_ af q r c zs L/\Below w.heap.size w af:=by
 obtain⟨aD,aI,aE,I,R,ad,Y,F,ah,an,E⟩:=aC;obtain⟨T,k⟩:=hQ (w.heap.size+1);have al:Rd ((w.alloc (.cells #[.int .i64 0,.int .i64 0,.slice none 0 0] 66)).alloc (.cells #[.string s,.int .i64 0,.bool false] 106)) T s 0:=by
  have:=iP (w.alloc (.cells #[.int .i64 0,.int .i64 0,.slice none 0 0] 66)) (.cells #[.string s,.int .i64 0,.bool false] 106);rw[k];simpa[Rd]using this
 have D:mR s 0 (aD++(120::(aI++(58::iM c 0 aE)))):=⟨hR,by simpa using I⟩;have am:=a_ D;have H:=b_ R ad;have g:=b_ Y F;have p:=hO ah an E;have aw:=a_ k;have ai:=a_ al;clear I R ad Y F ah an E D al;go_in;go_wp2_with fail;rw[<-aw.e];obtain⟨h,f⟩:=hQ ((w.alloc (.cells #[.int .i64 0,.int .i64 0,.slice none 0 0] 66)).alloc (.cells #[.string s,.int .i64 0,.bool false] 106));rw[<-f]at ai|-;have P:Below w.heap.size w h:=by
  rw[f];repeat(first|exact hP|refine ia ?_ (by simp<;>omega) _)
 have X:h.heap[w.heap.size]?=some (.cells #[.int .i64 0,.int .i64 0,.slice none 0 0] 66 (0,0)):=by
  rw[f,qL _ _ _ (by simp)];exact iP w _
 have ae:h.heap.size=w.heap.size+2:=by rw[f];simp
 have z:=hO P X ae;clear P X ae f;have aS:w.heap.size<T:=by omega
 clear k;go_fit (Dg ai.e am.e x H.f (Hj _) (by have:=g.f;omega));rintro d aL⟨rfl,J,aa⟩;rw[g.f];have j:=b_ J aa;have ag:=am.e.app;have aj:=a_ ag;clear J aa ag;go_wp2_with fail;go_fit (ru j.f aj.e (by omega) rfl);rintro d aM⟨rfl,U,V⟩;have o:=b_ U (j.i.trans V);obtain⟨_,_,W⟩:=aj.e.cons;have Z:=a_ W;clear U V W j;go_wp2_with fail;go_fit (Dg o.f Z.e x H.i (AB _) (by have:=g.i;omega));rintro d aR⟨rfl,ap,M⟩;rw[g.i];have m:=b_ ap (o.i.trans M);have O:=Z.e.app;have Q:=a_ O;clear ap M O o;go_wp2_with fail;go_fit (ru m.f Q.e (by omega) rfl);rintro d aK⟨rfl,G,S⟩;have A:=b_ G (m.i.trans S);obtain⟨_,_,K⟩:=Q.e.cons;have aF:=a_ K;clear G S K m;go_wp2_with fail;go_fit (BO A.f aF.e x t B p.f p.g p.l);rintro d aA⟨aQ,rfl,ac,l,N⟩;obtain⟨aH,az,av,au,aq⟩:=l.cells;have e:=hO ac l (A.i.trans N);clear ac l N A;have aP:((s.size:Int)!=(s.size:Int))=false:=by simp
 go_wp2_with fail;go_fit (rI t B e.f);rintro d a⟨q,rfl,ao,n⟩;have b:a.heap[w.heap.size]?=some (.cells #[.int .i64 0,.int .i64 0,.slice none 0 0] 66 (0,0)):=by
  have i:=e.j.size;have C:=z.l;rw[n.block _ (by omega),e.j.block _ (by omega) (by simp;omega)];exact z.g
 have ak:Below w.heap.size w a:=by
  have i:=z.f;have C:Below w.heap.size h aA:=e.l.below (by omega) i.size;exact(i.trans C).trans (n.mono (iy i.size C.size))
 obtain⟨_,_,aN,rfl,u⟩:=id ao;obtain⟨ar,aB,rfl,-⟩:=u.shape;have aG:a.cell? ⟨w.heap.size,0,none⟩=some (.int .i64 0):=by simp[World.cell?,b]
 have ax:a.cell? ⟨w.heap.size,1,none⟩=some (.int .i64 0):=by simp[World.cell?,b]
 have ay:a.cell? ⟨w.heap.size,2,none⟩=some (.slice none 0 0):=by simp[World.cell?,b]
 have aO:a.frozen? ⟨w.heap.size,0,none⟩=false:=by simp[World.frozen?,b]
 have aJ:a.frozen? ⟨w.heap.size,1,none⟩=false:=by simp[World.frozen?,b]
 have aT:a.frozen? ⟨w.heap.size,2,none⟩=false:=by simp[World.frozen?,b]
 have y:f_ (Ty a w.heap.size 66):=a_ ⟨_,_,b⟩;have ab:=b_ u ak;clear u ak ao n b e aH az av au aq;go_wp2_with fail;refine ig (v:=.tuple #[.agg #[.int .i64 r,.int .i64 c,.slice ar (r*c) aB],.bool true]) ?_ rfl ?_
 ·(simp[results,Tryz.results32,go_sem,aG,ax,ay];done)
 .refine⟨_,rfl,⟨t,B,_,rfl,ab.f.hV (KT.setCell (KT.setCell (KT.setCell (KT.refl _) y.e (by decide) (by decide) _) (y.e.setCell _ _) (by decide) (by decide) _) ((y.e.setCell _ _).setCell _ _) (by decide) (by decide) _)⟩,?_⟩;exact((ab.i.setCell c_ _).setCell c_ _).setCell c_ _
theorem kG{w:World}{b i j:Nat}{u x:Value}(h:w.cell? ⟨b,j,none⟩=some x)(a:i≠j):(w.setCell ⟨b,i,none⟩ u).cell? ⟨b,j,none⟩=some x:=by
 rw[jZ _ _ _ _ (λc=>a (by injection c))];exact h
theorem Fr.nk{b o:Nat}{w W:World}{t:TypeId}(h:Fr b w W)(a:Ty W b t)(c:t≠144)(d:t≠79)(u:Value):Fr b w (W.setCell ⟨b,o,none⟩ u):=by
 refine h.trans ⟨⟨rfl,rfl,rfl,by simp[World.setCell],λg _ f=>?_⟩,KT.setCell (KT.refl _) a c d u⟩;rw[js _ _ _ _ (λe=>f (by simp[e]))]
theorem rf{w:World}{a:Addr}(h:w.frozen? a=false)(c:a.block<w.heap.size):∀b,(w.alloc b).frozen? a=false:=λb=>by
 rw[Below.frozen (w:=w) (B:=w.heap.size) hS c];exact h
theorem kD{w:World}{b i j:Nat}{u:Value}(h:w.frozen? ⟨b,j,none⟩=false):(w.setCell ⟨b,i,none⟩ u).frozen? ⟨b,j,none⟩=false:=by simpa using h
theorem og(w:World)(a:Addr)(u:Value):(w.setCell a u).heap.size=w.heap.size:=by simp[World.setCell]
theorem alloc_drew(X:World)(o:Obj):Below X.heap.size X (X.alloc o).drew:=(hS).drew
abbrev qT:=Option (Nat×Nat×Nat×Value)
def o0(a:Array Value)(i:Nat):qT->Prop
 |none=>a[i*5]?=some (.bool false)
 |some b=>a[i*5]?=some (.bool true)/\a[i*5+1]?=some (.int .i64 (b.1:Nat))/\a[i*5+2]?=some (.int .i64 (b.2.1:Nat))/\a[i*5+3]?=some (.int .i64 (b.2.2.1:Nat))/\a[i*5+4]?=some b.2.2.2
def Sg(w:World)(b:Nat)(d:List qT)(nx:Nat):Prop:=
 d.length=24/\∃a,w.heap[b]?=some (.cells a 103 (0,0))/\a.size=121/\a[120]?=some (.int .i64 (nx:Nat))/\∀c,c<24->o0 a c (d.getD c none)
theorem Sg.lt{w:World}{b:Nat}{a:List qT}{nx:Nat}(h:Sg w b a nx):b<w.heap.size:=by
 obtain⟨_,d,c,_⟩:=h;exact(jt.1 c).1
theorem Sg.ty{w:World}{b:Nat}{a:List qT}{nx:Nat}(h:Sg w b a nx):Ty w b 103:=by
 obtain⟨_,d,c,_⟩:=h;exact⟨_,_,c⟩
theorem Sg.J{w:World}{b:Nat}{a:List qT}{nx:Nat}(h:Sg w b a nx)(g:v.heap[b]?=w.heap[b]?):Sg v b a nx:=by
 obtain⟨d,c,e,f⟩:=h;exact⟨d,c,by rw[g];exact e,f⟩
theorem Sg.below{w:World}{b:Nat}{a:List qT}{nx:Nat}(h:Sg w b a nx)(c:Below w.heap.size w v):Sg v b a nx:=h.J (c.block b h.lt)
theorem Sg.fr{w:World}{b p:Nat}{a:List qT}{nx:Nat}(h:Sg w b a nx)(d:Fr p w v)(c:b≠p):Sg v b a nx:=h.J (d.1.block b h.lt (by simpa using c))
theorem Sg.cell{w:World}{b:Nat}{f:List qT}{nx:Nat}(h:Sg w b f nx):∃a:Array Value,a.size=121/\(∀c,w.cell? ⟨b,c,none⟩=a[c]?)/\(∀c,w.frozen? ⟨b,c,none⟩=false)/\a[120]?=some (.int .i64 (nx:Nat))/\(∀d,d<24->o0 a d (f.getD d none)):=by
 obtain⟨k,a,e,i,j,g⟩:=h;exact⟨a,i,λc=>by simp[World.cell?,e],λc=>by simp[World.frozen?,e],j,g⟩
def Hp(c:List qT)(h i:Int):Prop:=(∃a:Nat,a<24/\i=(a:Int)/\∃b,c.getD a none=some b/\(b.1:Int)=h)\/(i=-1/\∀a,a<24->∀b,c.getD a none=some b->(b.1:Int)≠h)
theorem xI{b:Nat}{h:Int}{k:List qT}{nx:Nat}{w:World}(x:Sg w b k nx):Calls Tryz.prog 54 #[.pointer (some ⟨b,0,none⟩),.int .i64 h] w λB G=>(∃f,B=.returned (.int .i64 f)/\Hp k h f)/\G=w:=by
 obtain⟨L,J,u,F,D,A⟩:=x.cell;have i:=b_ u A;clear x u F D A J;go_in;go_wp2_with fail;go_loop [5] (λf=>∃a:Nat,a<=24/\f=.int .i64 a/\f_ (∀c,c<a->∀d,k.getD c none=some d->(d.1:Int)≠h)) (λf=>24-(intOf f).toNat)
 case atStart=>exact⟨0,by omega,rfl,a_ (λc l=>absurd l (by omega))⟩
 case round=>
  obtain⟨a,K,rfl,s⟩:=hrel;by_cases y:a<24
  .have g:=i.i a y
   cases hx:k.getD a none with
   |none=>
    rw[hx]at g;have E:w.cell? ⟨b,a*5,none⟩=some (.bool false):=by rw[i.f];exact g
    have j:=a_ hx;clear g hx;go_wp2_with fail;go_round
    case rel=>
     refine⟨a+1,by omega,by go_num,a_ λc l d m=>?_⟩;by_cases o:c=a
     .subst o;rw[j.e]at m;cases m
     .exact s.e c (by omega) d m
    case measure=>simp[intOf];omega
   |some d=>
    rw[hx]at g;obtain⟨z,t,-,-,-⟩:=g;have E:w.cell? ⟨b,a*5,none⟩=some (.bool true):=by rw[i.f];exact z
    have I:w.cell? ⟨b,a*5+1,none⟩=some (.int .i64 (d.1:Nat)):=by rw[i.f];exact t
    have j:=a_ hx;clear z t hx;obtain⟨q,p⟩:=hQ d.1;rw[<-p]at I;have v:=a_ p;clear p;by_cases e:(q:Int)=h
    .have C:((q:Int)==h)=true:=jY.2 e;have n:=a_ e;clear e;go_wp2;go_ret;exact⟨⟨_,rfl,.inl ⟨a,y,rfl,d,j.e,by rw[<-v.e];exact n.e⟩⟩,rfl⟩
    .have C:((q:Int)==h)=false:=iK.2 e;have n:=a_ e;clear e;go_wp2_with fail;go_round
     case rel=>
      refine⟨a+1,by omega,by go_num,a_ λc l H r=>?_⟩;by_cases o:c=a
      .subst o;rw[j.e]at r
       cases r;rw[<-v.e];exact n.e
      .exact s.e c (by omega) H r
     case measure=>simp[intOf];omega
  .go_wp2;go_ret;exact⟨⟨_,rfl,.inr ⟨rfl,λc l=>s.e c (by omega)⟩⟩,rfl⟩
theorem w7(a:List qT)(k:Nat)(b:k<a.length):(a.take (k+1)).countP Option.isNone=(a.take k).countP Option.isNone+(if(a.getD k none).isNone then 1 else 0):=by
 rw[qU,List.countP_append,iI b];simp[List.getD,iI b]
theorem zM{b:Nat}{f:List qT}{nx:Nat}{w:World}(h:Sg w b f nx):Calls Tryz.prog 34 #[.pointer (some ⟨b,0,none⟩)] w λn u=>n=.returned (.int .i64 ((f.countP Option.isNone:Nat):Int))/\u=w:=by
 have m:=h.1;obtain⟨y,v,k,t,o,l⟩:=h.cell;have d:=hO k l m;clear h k t o l v m;go_in;go_wp2_with fail;go_loop [3,4] (λp i=>∃a c:Nat,a<=24/\i=.int .i64 a/\p=.int .i64 c/\c<=a/\f_ (c=(f.take a).countP Option.isNone)) (λ_ i=>24-(intOf i).toNat)
 case atStart=>exact⟨0,0,by omega,rfl,rfl,by omega,a_ (by simp)⟩
 case round=>
  obtain⟨a,c,x,rfl,rfl,z,j⟩:=hrel;by_cases s:a<24
  .have e:=d.g a s
   cases hx:f.getD a none with
   |some A=>
    rw[hx]at e;have q:w.cell? ⟨b,a*5,none⟩=some (.bool true):=by rw[d.f];exact e.1
    have g:=a_ hx;clear e hx;go_wp2_with fail;go_round
    case rel=>exact⟨a+1,c,by omega,by go_num,rfl,by omega,a_ (by rw[w7 f a (by have:=d.l;omega),g.e,<-j.e];simp)⟩
    case measure=>simp[intOf];omega
   |none=>
    rw[hx]at e;have q:w.cell? ⟨b,a*5,none⟩=some (.bool false):=by rw[d.f];exact e
    have g:=a_ hx;clear e hx;go_wp2_with fail;go_round
    case rel=>exact⟨a+1,c+1,by omega,by go_num,by go_num,by omega,a_ (by rw[w7 f a (by have:=d.l;omega),g.e,<-j.e];simp)⟩
    case measure=>simp[intOf];omega
  .go_wp2;go_ret;refine⟨lb ?_,rfl⟩;have r:=j.e;rw[ka (by have:=d.l;omega)]at r;omega
def I6(d:List qT)(h:Int)(v:Value)(c:Bool):Prop:=(c=true/\∃b,b<24/\∃a,d.getD b none=some a/\(a.1:Int)=h/\v=.agg #[.int .i64 (a.2.1:Nat),.int .i64 (a.2.2.1:Nat),a.2.2.2])\/
 (c=false/\v=.agg #[.int .i64 0,.int .i64 0,.slice none 0 0]/\∀b,b<24->∀a,d.getD b none=some a->(a.1:Int)≠h)
theorem AY{b:Nat}{h:Int}{p:List qT}{nx:Nat}{w:World}(n:Sg w b p nx)(B:∀a c,p.getD a none=some c->∃d g i,c.2.2.2=.slice d g i):Calls Tryz.prog 36 #[.pointer (some ⟨b,0,none⟩),.int .i64 h] w λs C=>(∃o x,s=.returned (.tuple #[o,.bool x])/\I6 p h o x)/\Below w.heap.size w C:=by
 have O:=n.lt;have j:=b_ n B;clear n B;go_in;go_wp2_with fail;go_fit (xI (j.f.below hS));rintro s C⟨⟨P,rfl,I⟩,rfl⟩;rcases I with⟨a,y,rfl,c,f,m⟩|⟨rfl,E⟩
 .obtain⟨d,g,i,z⟩:=j.i a c f;obtain⟨S,L,e,J,H,D⟩:=j.f.cell;have t:=D a y;rw[f]at t;obtain⟨K,G,q,k,l⟩:=t;obtain⟨Q,u,A,o⟩:=c;simp only at z q k l m;subst z;have N:=iL (show w.cell? ⟨b,a*5+2,none⟩=some (.int .i64 u)from by rw[e];exact q);have R:=iL (show w.cell? ⟨b,a*5+3,none⟩=some (.int .i64 A)from by rw[e];exact k);have M:=iL (show w.cell? ⟨b,a*5+4,none⟩=some (.slice d g i)from by rw[e];exact l);have r:=b_ f m;clear e J H D L K G q k l f m;go_wp2_with fail;refine ig (v:=.tuple #[.agg #[.int .i64 u,.int .i64 A,.slice d g i],.bool true]) ?_ rfl ?_
  ·(simp[results,Tryz.results36,go_sem];done)
  .exact⟨⟨_,_,rfl,.inl ⟨rfl,a,y,_,r.f,r.i,rfl⟩⟩,by repeat(first|exact hP|refine ia ?_ (by simp<;>omega) _)⟩
 .have F:=a_ E;clear E;go_wp2_with fail;refine ig (v:=.tuple #[.agg #[.int .i64 0,.int .i64 0,.slice none 0 0],.bool false]) ?_ rfl ?_
  ·(simp[results,Tryz.results36,go_sem];done)
  .exact⟨⟨_,_,rfl,.inr ⟨rfl,rfl,F.e⟩⟩,by repeat(first|exact hP|refine ia ?_ (by simp<;>omega) _)⟩
theorem o0.same{c d:Array Value}{i:Nat}{x:qT}(h:o0 c i x)(a:∀b,i*5<=b->b<=i*5+4->d[b]?=c[b]?):o0 d i x:=by
 cases x with
 |none=>unfold o0 at*;rw[a _ (by omega) (by omega)];exact h
 |some l=>
  obtain⟨g,e,k,f,j⟩:=h;exact⟨by rw[a _ (by omega) (by omega)];exact g,by rw[a _ (by omega) (by omega)];exact e,by rw[a _ (by omega) (by omega)];exact k,by rw[a _ (by omega) (by omega)];exact f,by rw[a _ (by omega) (by omega)];exact j⟩
theorem vi{b:List qT}{k i:Nat}{x:qT}(c:k<b.length):(b.set k x).getD i none=if i=k then x else b.getD i none:=by
 by_cases a:i=k
 .subst a;simp[List.getD,c]
 .have e:¬k=i:=λd=>a d.symm;simp[List.getD,a,e]
theorem xK{f c:Array Value}{d:List qT}{k:Nat}(m:k<24)(l:d.length=24)(i:∀a,a<24->o0 f a (d.getD a none))(h:∀b,(b<k*5\/k*5+4<b)->b<120->c[b]?=f[b]?){x:qT}(g:o0 c k x):∀a,a<24->o0 c a ((d.set k x).getD a none):=by
 intro a j;rw[vi (by omega)];by_cases e:a=k
 .subst e;simpa using g
 .rw[if_neg e];exact(i a j).same (λb n o=>h b (by omega) (by omega))
theorem jc(a:Array Value)(i j:Nat)(v:Value)(h:i≠j):(a.setIfInBounds i v)[j]?=a[j]?:=r8 h
theorem rZ(a:Array Value)(i:Nat)(v:Value)(h:i<a.size):(a.setIfInBounds i v)[i]?=some v:=by rw[yt,if_pos h]
theorem Sg.push{w:World}{b:Nat}{d:List qT}{nx:Nat}(h:Sg w b d nx){k:Nat}(m:k<24)(r c:Nat)(v:Value){u:Int}(q:u=((nx+1:Nat):Int)):Sg ((((((w.setCell ⟨b,120,none⟩ (.int .i64 u)).setCell ⟨b,k*5,none⟩ (.bool true)).setCell ⟨b,k*5+1,none⟩ (.int .i64 (nx:Nat))).setCell ⟨b,k*5+2,none⟩ (.int .i64 (r:Nat))).setCell ⟨b,k*5+3,none⟩ (.int .i64 (c:Nat))).setCell ⟨b,k*5+4,none⟩ v) b (d.set k (some (nx,r,c,v))) (nx+1):=by
 subst q;obtain⟨a,g,o,p,z,i⟩:=h;have s:=ja w b 120 g 103 (.int .i64 ((nx+1:Nat):Int)) o;have f:=ja _ b (k*5) _ 103 (.bool true) s;have j:=ja _ b (k*5+1) _ 103 (.int .i64 (nx:Nat)) f;have n:=ja _ b (k*5+2) _ 103 (.int .i64 (r:Nat)) j;have l:=ja _ b (k*5+3) _ 103 (.int .i64 (c:Nat)) n;have e:=ja _ b (k*5+4) _ 103 v l;refine⟨by simp[a],_,e,by simp[p],?_,xK m a i (λx t y=>?_) ⟨?_,?_,?_,?_,?_⟩⟩
 .rw[jc _ _ _ _ (by omega),jc _ _ _ _ (by omega),jc _ _ _ _ (by omega),jc _ _ _ _ (by omega),jc _ _ _ _ (by omega),rZ _ _ _ (by omega)]
 .rw[jc _ _ _ _ (by omega),jc _ _ _ _ (by omega),jc _ _ _ _ (by omega),jc _ _ _ _ (by omega),jc _ _ _ _ (by omega),jc _ _ _ _ (by omega)]
 .rw[jc _ _ _ _ (by omega),jc _ _ _ _ (by omega),jc _ _ _ _ (by omega),jc _ _ _ _ (by omega),rZ _ _ _ (by simp;omega)]
 .rw[jc _ _ _ _ (by omega),jc _ _ _ _ (by omega),jc _ _ _ _ (by omega),rZ _ _ _ (by simp;omega)]
 .rw[jc _ _ _ _ (by omega),jc _ _ _ _ (by omega),rZ _ _ _ (by simp;omega)]
 .rw[jc _ _ _ _ (by omega),rZ _ _ _ (by simp;omega)]
 .rw[rZ _ _ _ (by simp;omega)]
theorem Sg.K5{w:World}{b:Nat}{a:List qT}{nx:Nat}(h:Sg w b a nx){k:Nat}(o:k<24)(e g d c:Value):Sg (((((w.setCell ⟨b,k*5,none⟩ (.bool false)).setCell ⟨b,k*5+1,none⟩ e).setCell ⟨b,k*5+2,none⟩ g).setCell ⟨b,k*5+3,none⟩ d).setCell ⟨b,k*5+4,none⟩ c) b (a.set k none) nx:=by
 obtain⟨f,x,p,s,i,r⟩:=h;have n:=ja _ b (k*5) _ 103 (.bool false) p;have j:=ja _ b (k*5+1) _ 103 e n;have m:=ja _ b (k*5+2) _ 103 g j;have l:=ja _ b (k*5+3) _ 103 d m;have q:=ja _ b (k*5+4) _ 103 c l;refine⟨by simp[f],_,q,by simp[s],?_,xK o f r (λu v t=>?_) ?_⟩
 .rw[jc _ _ _ _ (by omega),jc _ _ _ _ (by omega),jc _ _ _ _ (by omega),jc _ _ _ _ (by omega),jc _ _ _ _ (by omega)];exact i
 .rw[jc _ _ _ _ (by omega),jc _ _ _ _ (by omega),jc _ _ _ _ (by omega),jc _ _ _ _ (by omega),jc _ _ _ _ (by omega)]
 .unfold o0;rw[jc _ _ _ _ (by omega),jc _ _ _ _ (by omega),jc _ _ _ _ (by omega),jc _ _ _ _ (by omega),rZ _ _ _ (by omega)]
theorem Sg.Kp{w:World}{b:Nat}(p:Ty w b 103)(g h c f d n:Value)(e j i a q:Nat):Fr b w ((((((w.setCell ⟨b,120,none⟩ g).setCell ⟨b,e,none⟩ h).setCell ⟨b,j,none⟩ c).setCell ⟨b,i,none⟩ f).setCell ⟨b,a,none⟩ d).setCell ⟨b,q,none⟩ n):=by
 have k:=p.setCell ⟨b,120,none⟩ g;have r:=k.setCell ⟨b,e,none⟩ h;have m:=r.setCell ⟨b,j,none⟩ c;have l:=m.setCell ⟨b,i,none⟩ f;have u:=l.setCell ⟨b,a,none⟩ d;have s:=(Fr.refl b w).nk (o:=120) p (by decide) (by decide) g;have x:=s.nk (o:=e) k (by decide) (by decide) h;have t:=x.nk (o:=j) r (by decide) (by decide) c;have v:=t.nk (o:=i) m (by decide) (by decide) f;have y:=v.nk (o:=a) l (by decide) (by decide) d;exact y.nk (o:=q) u (by decide) (by decide) n
theorem Sg.IM{w:World}{b:Nat}(j:Ty w b 103)(f i e c m:Value)(d h g a n:Nat):Fr b w (((((w.setCell ⟨b,d,none⟩ f).setCell ⟨b,h,none⟩ i).setCell ⟨b,g,none⟩ e).setCell ⟨b,a,none⟩ c).setCell ⟨b,n,none⟩ m):=by
 have p:=j.setCell ⟨b,d,none⟩ f;have l:=p.setCell ⟨b,h,none⟩ i;have k:=l.setCell ⟨b,g,none⟩ e;have r:=k.setCell ⟨b,a,none⟩ c;have u:=(Fr.refl b w).nk (o:=d) j (by decide) (by decide) f;have q:=u.nk (o:=h) p (by decide) (by decide) i;have s:=q.nk (o:=g) l (by decide) (by decide) e;have t:=s.nk (o:=a) k (by decide) (by decide) c;exact t.nk (o:=n) r (by decide) (by decide) m
def nO(a:List qT)(i:Nat):Prop:=i<24/\a.getD i none=none/\∀b,b<i->a.getD b none≠none
theorem nO.exists{c:List qT}(l:c.length=24)(h:0<c.countP Option.isNone):∃a,nO c a:=by
 have:∃a,a<24/\c.getD a none=none:=by
  obtain⟨k,i,m⟩:=List.countP_pos_iff.1 h;obtain⟨a,f,e⟩:=lZ.1 i;refine⟨a,by omega,?_⟩;rw[List.getD,iI f,e]
  cases k<;>simp_all
 obtain⟨a,f,e⟩:=this;induction a using Nat.strongRecOn with
 |ind a j=>
  by_cases h:∃b,b<a/\c.getD b none=none
  .obtain⟨b,g,d⟩:=h;exact j b g (by omega) d
  .exact⟨a,f,e,λb g d=>h ⟨b,g,d⟩⟩
theorem AQ{b r c:Nat}{m:Nat}{v:List qT}{nx n:Nat}{w:World}(t:Sg w b v nx)(p:nO v n)(al:nx<=1000000000):Calls Tryz.prog 35 #[.pointer (some ⟨b,0,none⟩),.agg #[.int .i64 r,.int .i64 c,.slice O m i]] w λac Y=>ac=.returned (.int .i64 (nx:Nat))/\Sg Y b (v.set n (some (nx,r,c,.slice O m i))) (nx+1)/\Fr b w Y:=by
 have o:=t.lt;obtain⟨x,ah,j,k,S,L⟩:=t.cell;have l:=hO j L p;have R:=a_ t;have aa:n<24:=p.1;have W:w.cell? ⟨b,120,none⟩=some (.int .i64 (nx:Nat)):=by rw[j];exact S
 have U:w.cell? ⟨b,n*5,none⟩=some (.bool false):=by
  have:=L n p.1;rw[p.2.1]at this;rw[j];exact this
 clear p;obtain⟨H,T⟩:∃H,w.cell? ⟨b,n*5+1,none⟩=some H:=⟨x[n*5+1]'(by omega),by rw[j];exact pw _⟩;obtain⟨Q,X⟩:∃Q,w.cell? ⟨b,n*5+2,none⟩=some Q:=⟨x[n*5+2]'(by omega),by rw[j];exact pw _⟩;obtain⟨A,Z⟩:∃A,w.cell? ⟨b,n*5+3,none⟩=some A:=⟨x[n*5+3]'(by omega),by rw[j];exact pw _⟩;obtain⟨M,V⟩:∃M,w.cell? ⟨b,n*5+4,none⟩=some M:=⟨x[n*5+4]'(by omega),by rw[j];exact pw _⟩;have K:=iL W;have D:=rf (k 120) o;have J:∀a,∀e,((w.setCell ⟨b,120,none⟩ a).alloc e).cell? ⟨b,n*5,none⟩=some (.bool false):=λa=>iL (kG U (by omega));have y:∀a d,∀e,(((w.setCell ⟨b,120,none⟩ a).setCell ⟨b,n*5,none⟩ d).alloc e).cell? ⟨b,n*5+1,none⟩=some H:=λa d=>iL (kG (kG T (by omega)) (by omega));have C:∀a d f,∀e,((((w.setCell ⟨b,120,none⟩ a).setCell ⟨b,n*5,none⟩ d).setCell ⟨b,n*5+1,none⟩ f).alloc e).cell? ⟨b,n*5+2,none⟩=some Q:=λa d f=>iL (kG (kG (kG X (by omega)) (by omega)) (by omega));have z:∀a d f h,∀e,(((((w.setCell ⟨b,120,none⟩ a).setCell ⟨b,n*5,none⟩ d).setCell ⟨b,n*5+1,none⟩ f).setCell ⟨b,n*5+2,none⟩ h).alloc e).cell? ⟨b,n*5+3,none⟩=some A:=λa d f h=>iL (kG (kG (kG (kG Z (by omega)) (by omega)) (by omega)) (by omega));have G:∀a d f h s,∀e,((((((w.setCell ⟨b,120,none⟩ a).setCell ⟨b,n*5,none⟩ d).setCell ⟨b,n*5+1,none⟩ f).setCell ⟨b,n*5+2,none⟩ h).setCell ⟨b,n*5+3,none⟩ s).alloc e).cell? ⟨b,n*5+4,none⟩=some M:=λa d f h s=>iL (kG (kG (kG (kG (kG V (by omega)) (by omega)) (by omega)) (by omega)) (by omega));have P:∀a,∀e,((w.setCell ⟨b,120,none⟩ a).alloc e).frozen? ⟨b,n*5,none⟩=false:=λa=>rf (kD (k _)) (by rw[og];exact o);have B:∀a d,∀e,(((w.setCell ⟨b,120,none⟩ a).setCell ⟨b,n*5,none⟩ d).alloc e).frozen? ⟨b,n*5+1,none⟩=false:=λa d=>rf (kD (kD (k _))) (by rw[og,og];exact o);have N:∀a d f,∀e,((((w.setCell ⟨b,120,none⟩ a).setCell ⟨b,n*5,none⟩ d).setCell ⟨b,n*5+1,none⟩ f).alloc e).frozen? ⟨b,n*5+2,none⟩=false:=λa d f=>rf (kD (kD (kD (k _)))) (by rw[og,og,og];exact o);have F:∀a d f h,∀e,(((((w.setCell ⟨b,120,none⟩ a).setCell ⟨b,n*5,none⟩ d).setCell ⟨b,n*5+1,none⟩ f).setCell ⟨b,n*5+2,none⟩ h).alloc e).frozen? ⟨b,n*5+3,none⟩=false:=λa d f h=>rf (kD (kD (kD (kD (k _))))) (by rw[og,og,og,og];exact o);have I:∀a d f h s,∀e,((((((w.setCell ⟨b,120,none⟩ a).setCell ⟨b,n*5,none⟩ d).setCell ⟨b,n*5+1,none⟩ f).setCell ⟨b,n*5+2,none⟩ h).setCell ⟨b,n*5+3,none⟩ s).alloc e).frozen? ⟨b,n*5+4,none⟩=false:=λa d f h s=>rf (kD (kD (kD (kD (kD (k _)))))) (by rw[og,og,og,og,og];exact o);have ai:=zf K D J y C z G P B N F I;clear K D J y C z G P B N F I U T X Z V W t j k ah S L;go_in;go_wp2_with fail;go_loop [5] (λE=>∃g:Nat,g<=n/\E=.int .i64 g) (λE=>n-(intOf E).toNat)
 case atStart=>exact⟨0,hR,rfl⟩
 case round=>
  obtain⟨g,aj,rfl⟩:=hrel;by_cases ae:g<n
  .have ad:=iL (show w.cell? ⟨b,g*5,none⟩=some (.bool true)from by
    have q:=l.g g (by omega)
    cases hx:v.getD g none with
    |none=>exact absurd hx (l.x g ae)
    |some ak=>rw[hx]at q;rw[l.f];exact q.1)
   go_wp2_with fail;go_round
   case rel=>exact⟨g+1,by omega,by go_num⟩
   case measure=>simp[intOf];omega
  .have af:g=n:=by omega
   have ad:=iL (show w.cell? ⟨b,n*5,none⟩=some (.bool false)from by
    have q:=l.g n aa;rw[l.m]at q;rw[l.f];exact q)
   obtain⟨K,D,J,y,C,z,G,P,B,N,F,I⟩:=ai.e;subst af;go_wp2_with fail;go_region;all_goals
    go_wp2;go_ret;have ag:=R.e.push aa r c (.slice O m i) (u:=((nx:Nat):Int)+1) (by omega);have ab:=Sg.Kp R.e.ty (.int .i64 (((nx:Nat):Int)+1)) (.bool true) (.int .i64 (nx:Nat)) (.int .i64 (r:Nat)) (.int .i64 (c:Nat)) (.slice O m i) (g*5) (g*5+1) (g*5+2) (g*5+3) (g*5+4);exact⟨rfl,ag.below (alloc_drew _ _),ab.trans (Fr.I (alloc_drew _ _))⟩
def Ie(b:Nat)(f:List qT)(nx:Nat)(h:Int)(w d:World)(e:Int):Prop:=(e=0/\∃a,a<24/\(∃c,f.getD a none=some c/\(c.1:Int)=h)/\Sg d b (f.set a none) nx/\Fr b w d)\/(e=2/\d=w/\∀a,a<24->∀c,f.getD a none=some c->(c.1:Int)≠h)
theorem E9{b:Nat}{h:Int}{v:List qT}{nx:Nat}{w:World}(m:Sg w b v nx):Calls Tryz.prog 29 #[.pointer (some ⟨b,0,none⟩),.int .i64 h] w λr d=>∃n:Int,r=.returned (.int .i64 n)/\Ie b v nx h w d n:=by
 have O:=m.lt;have k:=a_ m;clear m;go_in;go_wp2_with fail;go_fit (xI k.e);rintro r d⟨⟨n,rfl,H⟩,rfl⟩;rcases H with⟨a,y,rfl,K,A,u⟩|⟨rfl,D⟩
 .obtain⟨i,J,f,g,G,I⟩:=k.e.cell;have E:=b_ A u;obtain⟨t,P⟩:∃t,d.cell? ⟨b,a*5,none⟩=some t:=⟨i[a*5]'(by omega),by rw[f];exact pw _⟩;obtain⟨o,s⟩:∃o,d.cell? ⟨b,a*5+1,none⟩=some o:=⟨i[a*5+1]'(by omega),by rw[f];exact pw _⟩;obtain⟨q,B⟩:∃q,d.cell? ⟨b,a*5+2,none⟩=some q:=⟨i[a*5+2]'(by omega),by rw[f];exact pw _⟩;obtain⟨l,C⟩:∃l,d.cell? ⟨b,a*5+3,none⟩=some l:=⟨i[a*5+3]'(by omega),by rw[f];exact pw _⟩;obtain⟨p,x⟩:∃p,d.cell? ⟨b,a*5+4,none⟩=some p:=⟨i[a*5+4]'(by omega),by rw[f];exact pw _⟩;have U:∀c,(d.setCell ⟨b,a*5,none⟩ c).cell? ⟨b,a*5+1,none⟩=some o:=λc=>kG s (by omega);have L:∀c e,((d.setCell ⟨b,a*5,none⟩ c).setCell ⟨b,a*5+1,none⟩ e).cell? ⟨b,a*5+2,none⟩=some q:=λc e=>kG (kG B (by omega)) (by omega);have V:∀c e j,(((d.setCell ⟨b,a*5,none⟩ c).setCell ⟨b,a*5+1,none⟩ e).setCell ⟨b,a*5+2,none⟩ j).cell? ⟨b,a*5+3,none⟩=some l:=λc e j=>kG (kG (kG C (by omega)) (by omega)) (by omega);have N:∀c e j z,((((d.setCell ⟨b,a*5,none⟩ c).setCell ⟨b,a*5+1,none⟩ e).setCell ⟨b,a*5+2,none⟩ j).setCell ⟨b,a*5+3,none⟩ z).cell? ⟨b,a*5+4,none⟩=some p:=λc e j z=>kG (kG (kG (kG x (by omega)) (by omega)) (by omega)) (by omega);have M:=g (a*5);have Q:=g (a*5+1);have T:=g (a*5+2);have R:=g (a*5+3);have S:=g (a*5+4);clear f g G I J A u s B C x;go_wp2;go_ret;exact⟨_,rfl,.inl ⟨rfl,a,y,⟨K,E.e⟩,k.e.K5 y _ _ _ _,Sg.IM k.e.ty _ _ _ _ _ _ _ _ _ _⟩⟩
 .have F:=a_ D;clear D;go_wp2;go_ret;exact⟨_,rfl,.inr ⟨rfl,rfl,F.e⟩⟩
def hW(r c:Nat)(zs:List Int):Prop:=r<=4/\c<=4/\∀a,a<r*c->(zs.getD a 0).natAbs<281474976710656
def CL(r c:Nat)(zs:List Int)(b:Bool):Prop:=b=true↔hW r c zs
theorem EP{v:Value}{r c:Nat}{zs:List Int}{L:Nat}{w:World}(S:i_ w v r c zs L)(P:L<=1000000000):Calls Tryz.prog 59 #[v,.int .i64 4,.int .i64 48] w λy W=>∃f,y=.returned (.bool f)/\CL r c zs f/\Below w.heap.size w W:=by
 obtain⟨R,aa,ag,rfl,m⟩:=S;obtain⟨z,J,rfl,ab,ac,H⟩:=m.shape;have C:=a_ m;have G:=a_ H;have U:r*c<=9801:=jR R aa;clear m H;obtain⟨g,s⟩:=hQ (r*c);have u:=a_ s;rw[<-s]at ab U C G|-;clear s;by_cases j:r<=4
 .by_cases n:c<=4
  .go_in;go_wp2_with fail;obtain⟨e,i⟩:=hQ (w.alloc (.cells #[.int .i64 r,.int .i64 c,.slice z g J] 66));rw[<-i];have l:e.cell? ⟨w.heap.size,2,none⟩=some (.slice z g J):=by rw[i];simp
   have k:Below w.heap.size w e:=by rw[i];exact hS
   have O:=a_ l;clear l i;go_loopw [7] (λo wr=>∃b:Nat,b<=g/\o=.int .i64 b/\Below e.heap.size e wr/\f_ (∀d,d<b->(zs.getD d 0).natAbs<281474976710656)) (λo _=>g-(intOf o).toNat)
   case atStart=>exact⟨0,hR,rfl,hP,a_ (λd q=>by omega)⟩
   case round=>
    obtain⟨b,ah,rfl,h,B⟩:=hrel;have l:=g_ h O.e;by_cases t:b<g
    .obtain⟨ak,rfl⟩:=G.e b t;have E:=(C.e.below k).below h;obtain⟨ae,al,am,ai,Y,M,x⟩:=E.cell b t;rw[ij 2]at Y M;have N:=a_ h;have Z:=a_ x;clear h x E;go_wp2_with fail;go_fit (Gi Z.e P);rintro y X⟨f,rfl,A,I⟩;have F:=a_ (A 48);have D:Below e.heap.size e X:=d_ N.e I;clear A I;by_cases p:f<=48
     .go_wp2;go_roundw
      case rel=>
       refine⟨b+1,by omega,by go_num,D,a_ λd q=>?_⟩;by_cases K:d=b
       .rw[K];exact F.e.1 p
       .exact B.e d (by omega)
      case measure=>simp[intOf];omega
     .have ad:(48:Int)<(f:Int):=by omega
      have V:=a_ p;clear p;go_wp2;go_ret;refine⟨_,rfl,⟨(λa=>by cases a),λa=>?_⟩,d_ k D⟩;exact absurd (F.e.2 (a.2.2 b (by rw[<-u.e];exact t))) V.e
    .go_wp2;go_ret;exact⟨_,rfl,⟨λ_=>⟨j,n,λd q=>B.e d (by rw[<-u.e]at q;omega)⟩,λ_=>rfl⟩,d_ k h⟩
  .have aj:(4:Int)<(c:Int):=by omega
   have Q:=a_ n;clear n;go_in;go_wp2;go_ret;exact⟨_,rfl,⟨(λa=>by cases a),λa=>absurd a.2.1 Q.e⟩,hS⟩
 .have af:(4:Int)<(r:Int):=by omega
  have T:=a_ j;clear j;go_in;go_wp2;go_ret;exact⟨_,rfl,⟨(λa=>by cases a),λa=>absurd a.1 T.e⟩,hS⟩
theorem jl{v:Value}{r c:Nat}{zs:List Int}{L:Nat}{w:World}(g:i_ w v r c zs L)(l:L<=1000000000):Calls Tryz.prog 33 #[v] w λf k=>∃a,f=.returned (.bool (!a))/\CL r c zs a/\Below w.heap.size w k:=by
 have e:=a_ g;obtain⟨_,_,q,rfl,b⟩:=g;obtain⟨p,o,rfl,-⟩:=b.shape;clear b;obtain⟨m,h⟩:=hQ (r*c);rw[<-h]at e|-;clear h;go_in;go_wp2_with fail;go_fit (EP (e.e.below hS) l);rintro f n⟨a,rfl,d,j⟩;have i:=b_ d j;clear d j;go_wp2;go_ret;exact⟨_,rfl,i.f,(hU w _).trans (i.i.mono (by simp))⟩
def Rb(w:World)(p:Nat)(s:ByteArray)(q:Nat)(a:Bool):Prop:=w.heap[p]?=some (.cells #[.string s,.int .i64 q,.bool a] 106 (0,0))
theorem Rb.lt{w:World}{p:Nat}{s:ByteArray}{q:Nat}(h:Rb w p s q u):p<w.heap.size:=(jt.1 h).1
theorem Rb.ty{w:World}{p:Nat}{s:ByteArray}{q:Nat}(h:Rb w p s q u):Ty w p 106:=⟨_,_,h⟩
theorem Rb.below{w:World}{p:Nat}{s:ByteArray}{q:Nat}(h:Rb w p s q u)(a:Below w.heap.size w v):Rb v p s q u:=by unfold Rb;rw[a.block p h.lt];exact h
theorem Rb.cells{w:World}{p:Nat}{s:ByteArray}{q:Nat}(h:Rb w p s q u):w.cell? ⟨p,0,none⟩=some (.string s)/\w.cell? ⟨p,1,none⟩=some (.int .i64 q)/\w.cell? ⟨p,2,none⟩=some (.bool u)/\w.frozen? ⟨p,1,none⟩=false/\w.frozen? ⟨p,2,none⟩=false:=by
 unfold Rb at h;refine⟨?_,?_,?_,?_,?_⟩<;>simp[World.cell?,World.frozen?,h]
theorem Rb.Im{w:World}{p:Nat}{s:ByteArray}{q:Nat}{c:Bool}(h:Rb w p s q c)(o:Nat)(u:Value)(n:Nat):Fr p w ((w.setCell ⟨p,o,none⟩ u).drewN n):=by
 refine⟨⟨rfl,rfl,rfl,by simp[World.setCell],λd _ a=>?_⟩,?_⟩
 .show(w.setCell ⟨p,o,none⟩ u).heap[d]?=_;rw[js _ _ _ _ (λb=>a (by simp[b]))]
 .exact KT.setCell (KT.refl _) h.ty (by decide) (by decide) _
theorem Rb.move{w:World}{p:Nat}{s:ByteArray}{q:Nat}(h:Rb w p s q u){z:Int}{q':Nat}(a:z=q')(n:Nat):Rb ((w.setCell ⟨p,1,none⟩ (.int .i64 z)).drewN n) p s q' u/\Fr p w ((w.setCell ⟨p,1,none⟩ (.int .i64 z)).drewN n):=by
 subst a;refine⟨?_,h.Im _ _ _⟩;show(w.setCell ⟨p,1,none⟩ (.int .i64 q')).heap[p]?=_;rw[ja _ _ _ _ _ _ h];simp
theorem Rb.fault{w:World}{p:Nat}{s:ByteArray}{q:Nat}(h:Rb w p s q u)(n:Nat):Rb ((w.setCell ⟨p,2,none⟩ (.bool true)).drewN n) p s q true/\Fr p w ((w.setCell ⟨p,2,none⟩ (.bool true)).drewN n):=by
 refine⟨?_,h.Im _ _ _⟩;show(w.setCell ⟨p,2,none⟩ (.bool true)).heap[p]?=_;rw[ja _ _ _ _ _ _ h];simp
theorem Rb.kU{w:World}{p b o:Nat}{s:ByteArray}{q:Nat}{a:Bool}(h:Rb w p s q a)(c:b≠p)(u:Value):Rb (w.setCell ⟨b,o,none⟩ u) p s q a:=by
 unfold Rb;rw[js _ _ _ _ (by simp;omega)];exact h
theorem mR.rest(s:ByteArray)(q:Nat)(a:q<=s.size):mR s q (s.data.toList.drop q):=⟨a,rfl⟩
theorem pt(g:List UInt8):∃c d,g=c++d/\B1 c/\qa d:=by
 induction g with
 |nil=>exact⟨[],[],rfl,(λe a=>by cases a),.inl rfl⟩
 |cons b f i=>
  by_cases h:48<=b.toNat/\b.toNat<=57
  .obtain⟨c,d,j,k,l⟩:=i;refine⟨b::c,d,by rw[j];rfl,λe a=>?_,l⟩;rcases jU.1 a with rfl|a
   .exact h
   .exact k e a
  .exact⟨[],b::f,rfl,(λe a=>by cases a),.inr ⟨b,f,rfl,by omega⟩⟩
theorem AF{p:Nat}{s:ByteArray}{q:Nat}{o:Bool}{c:UInt8}{w:World}(h:Rb w p s q o)(r:q<=s.size)(_hs:s.size<=4611686018427387904):Calls Tryz.prog 88 #[.pointer (some ⟨p,0,none⟩),.int .u8 (c.toNat:Nat)] w λf u=>(∃g,f=.returned (.bool g)/\(g=true->∃b,mR s q (c::b))/\(g=false->∀b,¬mR s q (c::b)))/\∃v,u=w.drewN v:=by
 obtain⟨C,E,y,-,-⟩:=h.cells;by_cases d:q<s.size
 .obtain⟨k,i⟩:=hQ (s[q]'d);have x:(s[q]'d).toNat=k.toNat:=by rw[i]
  have B:(q:Int)<(s.size:Int):=by omega
  have n:mR s q (k::s.data.toList.drop (q+1)):=by
   refine⟨r,?_⟩;rw[ow (show q<s.data.toList.length from by simpa using d),i];rfl
  have m:=a_ n;clear h n i;go_in;go_wp2_with fail;go_quiet (fail);go_wp2;go_ret;refine⟨⟨_,rfl,λa=>?_,λa b j=>?_⟩,_,rfl⟩
  .have f:k=c:=UInt8.toNat_inj.1 (by have:=jY.1 a;omega);rw[<-f];exact⟨_,m.e⟩
  .have e:=m.i;rw[j.2]at e;injection e with e _
   rw[e]at a;simp at a
 .have z:decide (q<s.size)=false:=by simp;omega
  have A:decide ((q:Int)<(s.size:Int))=false:=by simp;omega
  have l:q=s.size:=by omega
  have t:=a_ l;clear h d l;go_in;go_wp2_with fail;go_quiet (fail);go_wp2;go_ret;refine⟨⟨_,rfl,(λa=>by cases a),λ_ b j=>?_⟩,_,rfl⟩;obtain⟨D,-⟩:=j.cons;have:=t.e;omega
theorem sV{p:Nat}{s:ByteArray}{q:Nat}{j:Bool}{c:UInt8}{w:World}(h:Rb w p s q j)(k:q<=s.size)(u:s.size<=4611686018427387904):Calls Tryz.prog 56 #[.pointer (some ⟨p,0,none⟩),.int .u8 (c.toNat:Nat)] w λa f=>a=.returned (.tuple #[])/\(∃d m,Rb f p s d m/\d<=s.size/\(m=false->j=false/\d=q+1/\∃e,mR s q (c::e)))/\Fr p w f:=by
 obtain⟨D,E,B,A,y⟩:=h.cells;have b:=a_ h;clear h;go_in;go_wp2_with fail;go_fit (AF b.e k u);rintro a f⟨⟨t,rfl,n,o⟩,i,rfl⟩;have x:=b_ n o;clear n o
 cases t
 .go_wp2;go_end0;exact⟨rfl,⟨_,_,(b.e.fault i).1,k,(λa=>by cases a)⟩,(b.e.fault i).2⟩
 .obtain⟨e,g⟩:=x.f rfl;obtain⟨C,-,-⟩:=g.cons;have r:=a_ g;clear g;go_wp2_with fail;refine ig (v:=.tuple #[]) ?_ rfl ?_
  ·(simp[results,Tryz.results56,go_sem];done)
  .have l:=b.e.move (q':=q+1) (z:=(q:Int)+1) (by omega) i;exact⟨rfl,⟨_,_,l.1,by omega,λa=>⟨a,rfl,e,r.e⟩⟩,l.2⟩
theorem su{p:Nat}{s:ByteArray}{a:Nat}{n:Bool}{e S:List UInt8}{w:World}(h:Rb w p s a n)(K:mR s a (e++S))(ar:s.size<=4611686018427387904)(hd:B1 e)(m:qa S):Calls Tryz.prog 87 #[.pointer (some ⟨p,0,none⟩)] w λi Y=>i=.returned (.string ⟨e.toArray⟩)/\(∃V,Rb Y p s (a+e.length) V/\(V=false->n=false/\yW e))/\Fr p w Y:=by
 have ai:=a_ h;have r:=a_ K;have H:=a_ hd;have ac:=a_ m;obtain⟨W,aa,O,N,L⟩:=h.cells;clear h K hd m;go_in;go_wp2_with fail;go_loopg [] e.length (λam wr=>∃g b:Nat,g<=e.length/\Rb wr p s b n/\Fr p w wr/\f_ (b=a+g/\am=e.length-g))
 case atStart=>exact⟨0,a,hR,ai.e,Fr.refl _ _,a_ ⟨rfl,rfl⟩⟩
 case round=>
  clear W aa O N L;obtain⟨g,b,au,G,J,x⟩:=hrel;obtain⟨W,aa,O,N,L⟩:=G.cells;have k:=a_ G;have o:=a_ J;clear G J;by_cases C:g<e.length
  .obtain⟨R,j⟩:=r.e.Ll g C;have d:b<s.size:=by rw[x.f];exact R
   have hd:=H.e _ (lf C);have Z:s[b]'d=e[g]:=by rw[<-j];congr 1;exact x.f
   rw[<-Z]at hd;have al:(48:Int)<=((s[b]'d).toNat:Int):=by omega
   have M:((s[b]'d).toNat:Int)<=57:=by omega
   have U:(b:Int)<(s.size:Int):=by omega
   clear hd Z j R;go_wp2_with fail;go_quiet (fail);go_wp2;go_roundg (e.length-(g+1))
   .have T:=k.e.move (q':=b+1) (z:=(b:Int)+1) (by omega) nq;exact⟨g+1,b+1,by omega,T.1,o.e.trans T.2,a_ ⟨by have:=x.f;omega,rfl⟩⟩
   have:=x.i;omega
  .have X:g=e.length:=by omega
   have A:b=a+e.length:=by rw[<-X];exact x.f
   have l:=a_ A;obtain⟨c,ak⟩:∃c,s.extract a b=c:=⟨_,rfl⟩;have B:c=⟨e.toArray⟩:=by rw[<-ak,A];exact r.e.cut
   have u:c.size=e.length:=by rw[B];rfl
   have aj:f_ ((c.size=0)\/(c.size=1/\yW e)\/(1<c.size/\∃v:0<c.size,((c[0]'v).toNat==48)=false/\yW e)\/(1<c.size/\∃v:0<c.size,((c[0]'v).toNat==48)=true)):=by
    refine a_ ?_
    cases hds:e with
    |nil=>exact .inl (by rw[u,hds];rfl)
    |cons E Q=>
     cases Q with
     |nil=>exact .inr (.inl ⟨by rw[u,hds];rfl,by simp,by rw[<-hds];exact H.e,.inl rfl⟩)
     |cons M ah=>
      have f:1<c.size:=by rw[u,hds];simp
      have ab:c[0]'(by omega)=E:=by subst hds;subst B;rfl
      by_cases F:E.toNat=48
      .exact .inr (.inr (.inr ⟨f,by omega,by rw[ab];simp[F]⟩))
      .exact .inr (.inr (.inl ⟨f,by omega,by rw[ab];exact iK.2 F,by simp,by rw[<-hds];exact H.e,.inr ⟨E,M::ah,rfl,F⟩⟩))
   have y:=a_ B;have ap:a<=b:=by omega
   have an:b<=s.size:=by have:=r.e.app;rw[A];exact this.1
   have av:c.size<=4611686018427387904:=by rw[u];omega
   clear B A X u C;have ad:decide (b<s.size)=false\/(∃d:b<s.size,(s[b]'d).toNat<48)\/(∃d:b<s.size,48<=(s[b]'d).toNat/\57<(s[b]'d).toNat):=by
    rcases ac.e with m|⟨aw,Q,m,q⟩
    .have f:=r.e.app;rw[m,<-l.e]at f;have:=f.nil;exact .inl (by simp;omega)
    .have f:=r.e.app;rw[m,<-l.e]at f;obtain⟨d,j,-⟩:=f.cons;rcases q with q|q
     .exact .inr (.inl ⟨d,by rw[j];exact q⟩)
     .exact .inr (.inr ⟨d,by rw[j];omega,by rw[j];exact q⟩)
   rcases ad with aq|⟨d,j⟩|⟨d,ao,ax⟩
   case' inr.inl=>
    have U:(b:Int)<(s.size:Int):=by omega
    have af:decide ((48:Int)<=((s[b]'d).toNat:Int))=false:=by simp;omega
    have ag:decide (48<=(s[b]'d).toNat)=false:=by simp;omega
   case' inr.inr=>
    have U:(b:Int)<(s.size:Int):=by omega
    have al:(48:Int)<=((s[b]'d).toNat:Int):=by omega
    have af:decide (((s[b]'d).toNat:Int)<=57)=false:=by simp;omega
    have ag:decide ((s[b]'d).toNat<=57)=false:=by simp;omega
   all_goals
    go_wp2_with fail;go_quiet (fail);go_wp2_with fail;go_quiet (fail);rcases aj.e with f|⟨f,t⟩|⟨f,v,ae,t⟩|⟨f,v,ae⟩
    .have D:((c.size:Int)==0)=true:=jY.2 (by omega);go_wp2;go_ret;exact⟨l0 y.e,⟨true,by rw[<-l.e];exact(k.e.fault _).1,(λi=>by cases i)⟩,o.e.trans (k.e.fault _).2⟩
    .have D:((c.size:Int)==0)=false:=iK.2 (by omega);have P:decide (1<(c.size:Int))=false:=by simp;omega
     have I:=a_ t;clear t;go_wp2;go_ret;exact⟨l0 y.e,⟨n,by rw[<-l.e];exact k.e.below (im hP _),λi=>⟨i,I.e⟩⟩,o.e.trans (Fr.I (im hP _))⟩
    .have D:((c.size:Int)==0)=false:=iK.2 (by omega);have P:(1:Int)<(c.size:Int):=by omega
     have I:=a_ t;clear t;go_wp2;go_ret;exact⟨l0 y.e,⟨n,by rw[<-l.e];exact k.e.below (im hP _),λi=>⟨i,I.e⟩⟩,o.e.trans (Fr.I (im hP _))⟩
    .have D:((c.size:Int)==0)=false:=iK.2 (by omega);have P:(1:Int)<(c.size:Int):=by omega
     go_wp2;go_ret;exact⟨l0 y.e,⟨true,by rw[<-l.e];exact(k.e.fault _).1,(λi=>by cases i)⟩,o.e.trans (k.e.fault _).2⟩
end Go.Proofs.YtfjbijpagaipnabGreatDoor
