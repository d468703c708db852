import Derived.Test.YtfjbijpagaipnabGreatDoorA15
set_option maxRecDepth 100000
set_option maxHeartbeats 8000000
namespace Go.Proofs.YtfjbijpagaipnabGreatDoor
open Go.RowKit
variable{i j k l m n p q r s:Nat}{w v W:World}{x y z:Value}{a b c d:Int}{e f g:List Int}{L K:List UInt8}
section
open R
variable{E:List o4}
theorem mJ.Kb{w:World}{f:Nat->Prop}(g:mJ w E f){e:o4}(j:e∈E){r c:Nat}{zs:List Int}(h:e.2.1=lk r c zs)(i:mK r c zs):∃a b,kH w a b e.2.2 r c (fz c zs)/\∀d,f d->d<a\/b<=d:=by
 obtain⟨q,p,o,a,b,l,m,n,k⟩:=g e j;obtain⟨rfl,rfl,rfl⟩:=yA m i (by rw[<-l,h]);exact⟨a,b,n,k⟩
def I_(ms:List Hm)(r q:Nat)(zs ys:List Int)(y:Bool)(e:Int)(xs:List Mx):Prop:=
 ((¬xn r q zs ys/\na (e_ r (jA r q zs)) q r)/\y=false/\e=0/\xs=[])\/((xn r q zs ys/\na (e_ r (jA r q zs)) q r)/\ms.countP Option.isNone<2/\y=false/\e=5/\xs=[])\/((xn r q zs ys/\na (e_ r (jA r q zs)) q r)/\2<=ms.countP Option.isNone/\y=true/\e=0/\∃c b a,mA r q zs ys c b a/\xs=[(q,1,c),(b,q,a)])
theorem AZ{ms:List Hm}{g h e:Int}{a b:Value}{y:Bool}{xs:List Mx}(hd:pq ms)(t:rN (λi _ F D=>D=1/\F=i) E ms g h a b c)(s:r2 ms g h y e xs):((c=2\/c=3\/c=4)/\e=c/\y=false/\xs=[])\/(c=0/\∃k l o i m n p j,k∈E/\l∈E/\o<24/\ms.getD o none=some (k.1,i,m,n)/\p<24/\ms.getD p none=some (l.1,i,1,j)/\hW i m n/\hW i 1 j/\a=.pointer (some ⟨k.2.2,0,none⟩)/\b=.pointer (some ⟨l.2.2,0,none⟩)/\I_ ms i m n j y e xs):=by
 rcases s with⟨C,rfl,rfl,rfl⟩|⟨o,I,i,m,n,p,K,J,D,j,w,z,G,x,v,H,s⟩
 .exact .inl ⟨.inl (t.no C),(t.no C).symm,rfl,rfl⟩
 .obtain⟨k,l,B,A,rfl,rfl,t⟩:=t.yes hd w z G x v H;rcases t with⟨r,rfl⟩|⟨r,d,rfl⟩|⟨r,d,rfl,rfl,rfl⟩
  .rcases s with⟨-,rfl,rfl,rfl⟩|⟨f,-⟩|⟨f,-⟩|⟨f,-⟩|⟨f,-⟩
   .exact .inl ⟨.inr (.inl rfl),rfl,rfl,rfl⟩
   all_goals exact absurd f r
  .rcases s with⟨f,-⟩|⟨-,-,rfl,rfl,rfl⟩|⟨-,u,-⟩|⟨-,u,-⟩|⟨-,u,-⟩
   .exact absurd r f
   .exact .inl ⟨.inr (.inr rfl),rfl,rfl,rfl⟩
   all_goals exact absurd u d
  .rcases s with⟨f,-⟩|⟨-,u,-⟩|⟨⟨rfl,rfl⟩,-,q⟩|⟨⟨rfl,rfl⟩,-,q⟩|⟨⟨rfl,rfl⟩,-,q⟩
   .exact absurd r f
   .exact absurd d u
   .exact .inr ⟨rfl,k,l,o,_,m,n,p,j,B,A,w,z,x,v,d.1,d.2,rfl,rfl,.inl q⟩
   .exact .inr ⟨rfl,k,l,o,_,m,n,p,j,B,A,w,z,x,v,d.1,d.2,rfl,rfl,.inr (.inl q)⟩
   .exact .inr ⟨rfl,k,l,o,_,m,n,p,j,B,A,w,z,x,v,d.1,d.2,rfl,rfl,.inr (.inr q)⟩
theorem Cl{B W:Nat}{ms:List Hm}{nx:Nat}{g h:Int}{w:World}(a0:jL B w W i j l ms nx E)(dy:nx<1000000-5):Calls Tryz.prog 116 #[.pointer (some ⟨W,0,none⟩),.int .i64 g,.int .i64 h] w λu aH=>u=.returned (.bool true)/\ie B w aH W i j l nx:=by
 have dT:=a0.size;have bE:=a0.uZ;have s:=a_ a0;clear a0;go_in;go_wp2_with fail;go_fit (@qv B W i j l ms nx E g h 9 _ _ s.e (.inl ⟨rfl,rfl⟩));rintro u bq⟨⟨cn,di,eI,rfl,cd⟩,aY⟩;have bm:=s.e.below aY;obtain⟨eJ,e0,bl,eM,eO,dV,-⟩:=bm.il;have ap:=hO cd aY bm;have eA:=aY.size;clear cd aY bm;go_wp2_with fail;go_fit (@Aw B i j l g h ms nx _ ap.j s.l.dst dy);rintro u y⟨dB,d9,eC,o,rfl,hrel,aV⟩;have dl:=AZ s.l.dst ap.f hrel;have aG:j5 (tN j l) bq y:=by rcases aV with⟨-,-,-,cK⟩|⟨-,-,-,cK⟩<;>exact cK
 have b5:Below B w y:=(ap.g.mono dT).trans (aG.below (tN.le s.f.2.2.2.2.2.2.1 s.f.2.2.2.2.2.2.2) (by omega));have eK:=b5.size;have eQ:=aG.size;obtain⟨aU,bM,bg,rfl⟩:∃dP aK d2,d9=.slice dP aK d2:=by rcases aV with⟨-,rfl,-⟩|⟨-,⟨_,_,rfl,-⟩,-⟩<;>exact⟨_,_,_,rfl⟩
 have cD:=s.l.num;have bB:=sR ms;rw[s.l.len,<-cD]at bB;have cM:=a_ bB;have cT:=ap.l.pK aG;obtain⟨an,cR,dd,cc⟩:∃an,bq.heap.size<=an/\(∀G aK f,Value.slice aU bM bg=.slice (some ⟨G,0,none⟩) aK f->G=an)/\(dB=true->an<y.heap.size):=by
  rcases aV with⟨x,Z,-⟩|⟨-,⟨G,T,Z,ae,-,-,az⟩,-⟩
  .refine⟨bq.heap.size,c_,λG aK f h=>?_,λh=>by rw[x]at h;cases h⟩;rw[Z]at h;simp at h
  .refine⟨G,ae,λeV aK f h=>?_,λ_=>?_⟩
   .rw[Z]at h;simp only[iC,iH,jj]at h;exact h.1.1.symm
   .rw[Z]at az;exact az.lt
 obtain⟨da,c5,dh,ds,b9,aW,cY,cs,c9,b1,dk,cu,dm,cI⟩:=ap.l.vj aG an cR;have aL:¬S4 W c5 dh ds an:=λd=>by have:=(b1 an d).2;omega
 have r:=tk aW cY cs c9 b1 dk cu dm cI aL;have c3:=b_ dd cc;clear aW cY cs c9 b1 dk cu dm cI dd cc aL;have H:=iu aV aG b5 dl cT;clear hrel aV dl aG b5 cD bB cT dV;have ex:=pW;rcases H.m with⟨T,rfl,rfl,rfl⟩|⟨rfl,x,Z,ab,e,c,U,a,aS,bd,a1,v,bn,b,bi,aX,b3,rfl,rfl,cH⟩
 .rcases H.f with⟨-,ai,J,-⟩|⟨x,-⟩
  rotate_left
  .cases x
  simp only[iC]at ai;obtain⟨rfl,rfl,rfl⟩:=ai;have ag:f_ (ie B w y W i j l nx):=a_ ⟨⟨ms,nx,E,⟨J,H.x,s.l⟩,by omega⟩,H.j⟩;clear J;rcases T with rfl|rfl|rfl
  .go_wp2;go_ret;exact⟨rfl,ag.e⟩
  .go_wp2;go_ret;exact⟨rfl,ag.e⟩
  .go_wp2;go_ret;exact⟨rfl,ag.e⟩
 .have b0:=r.y;obtain⟨c1,cS,-⟩:=ap.l.entry bd v bn rfl;obtain⟨df,b8,-⟩:=ap.l.entry a1 b bi rfl;obtain⟨a4,eP,bC,am⟩:=b0.Kb bd c1 cS;obtain⟨d3,eS,dn⟩:=b0.find a1 df b8;obtain⟨dZ,c0,bA,bQ,ck,d8⟩:=id bC;obtain⟨dY,bI⟩:=dn.qk;have ct:=aX.1;have a9:=aX.2.1;have aC:=b_ r.f r.g;have dN:=a_ am;obtain⟨bf,bO⟩:=hQ x.2.2;obtain⟨cV,bK⟩:=hQ Z.2.2;rw[<-bO]at bQ|-;rw[<-bK]at bI|-;have ac:=C_ bd a1 v bn b bi aX b3 cH;have de:=b_ bO bK;have aQ:=iu (bQ.tight (jT aX)) (bI.tight (jT b3)) ck bA bC;have ci:c0.heap.size<=y.heap.size:=by omega
  have a2:=a_ bA;clear b0 am bd a1 v bn b bi aX b3 bC dn bQ bI bO bK c1 df cS b8 cH ck bA d8;go_wp2_with fail;go_fit (@DQ bf e c a4 dZ (fz c U) 4 c0 _ aQ.f aQ.j ci (by omega) (by omega));rintro u el⟨rfl,⟨bU,dp⟩,bF⟩;have d7:=bF.size;have bb:=b_ dp bF;clear dp bF;go_wp2_with fail;go_fit (@wb cV e 1 dY (fz 1 aS) d3 4 _ (aQ.g.hV (KR.I bb.i)) (by omega) (by omega));rintro u c8⟨rfl,⟨ei,cl⟩,aP⟩;have d5:=aP.size;have bN:Below y.heap.size y c8:=bb.i.trans (aP.mono d7);have dg:=(bb.f c8 (λf _ aq=>aP.block f aq) (aQ.j.trans (AJ.I bN) ci)).congr (λab a v b=>(q8 e c U v b).symm);have bw:=hO dg (cl.congr (λab a v b=>(q8 e 1 aS v b).symm)) bN;have ek:=a_ aP;clear dg cl aP bN;go_wp2_with fail;go_fit (@o9 y.heap.size el.heap.size c 1 e bU ei (fz e (jA e c U)) (fz e (jA e 1 aS)) a4 0 4 _ bw.f bw.g (by omega) (by omega) (by omega));rintro u bS⟨aN,rfl,cq,bc⟩;have c2:na (e_ e (jA e c U)) c e->(aN=true↔xn e c U aS):=λdH=>by
   rw[cq];refine(na.say (N:=fz e (jA e 1 aS)) (n:=1) dH a9 ct).trans ⟨λh=>h 0 (by omega),λh ab v=>?_⟩;obtain rfl:ab=0:=by omega
   exact h
  have bY:Below y.heap.size y bS:=d_ bw.l bc;have q:=b_ c2 bY;have c4:=a_ (ek.e.trans (bc.mono d5));have eW:=bY.size;have ep:=bc.size;clear cq c2 bc bY;rcases ac.M with⟨⟨af,aj⟩,rfl,rfl,rfl⟩|⟨⟨af,aj⟩,cQ,rfl,rfl,rfl⟩|⟨⟨af,aj⟩,cz,rfl,rfl,bz,O,aT,cW,rfl⟩
  .obtain rfl:aN=false:=by
    cases aN
    .rfl
    .exact absurd ((q.f aj).1 rfl) af
   rcases H.f with⟨-,ai,J,-⟩|⟨x,-⟩
   rotate_left
   .cases x
   simp only[iC]at ai;obtain⟨rfl,rfl,rfl⟩:=ai;have ag:f_ (ie B w bS W i j l nx):=a_ ⟨⟨ms,nx,E,(show jL B y W i j l ms nx E from⟨J,H.x,s.l⟩).below q.i,by omega⟩,H.j.trans (q.i.mono (by omega))⟩;clear af aj J;go_wp2;go_ret;exact⟨rfl,ag.e⟩
  .obtain rfl:aN=true:=(q.f aj).2 af;rcases H.f with⟨-,ai,J,-⟩|⟨x,-⟩
   rotate_left
   .cases x
   simp only[iC]at ai;obtain⟨rfl,rfl,rfl⟩:=ai;have ag:f_ (ie B w bS W i j l nx):=a_ ⟨⟨ms,nx,E,(show jL B y W i j l ms nx E from⟨J,H.x,s.l⟩).below q.i,by omega⟩,H.j.trans (q.i.mono (by omega))⟩;have d1:=a_ cQ;clear af aj J cQ;go_wp2_with fail;go_fit (@lq W i nx 2 _ _ _ _ E _ (by omega) (aC.f.J (q.i.block W aC.f.lt)) (aC.i.below q.i) bE);rintro u aH⟨rfl,rfl⟩;have aO:decide (24<E.length+2)=true:=jm (by have:=cM.e;have:=d1.e;omega);rw[aO];clear aO;go_wp2;go_ret;exact⟨rfl,ag.e⟩
  .obtain rfl:aN=true:=(q.f aj).2 af;have ay:=hO af cW cz;clear af aj cW cz;go_wp2_with fail;go_fit (@lq W i nx 2 _ _ _ _ E _ (by omega) (aC.f.J (q.i.block W aC.f.lt)) (aC.i.below q.i) bE);rintro u aH⟨rfl,rfl⟩;have aO:decide (24<E.length+2)=false:=ic (by have:=cM.e;have:=ay.l;omega);rw[aO];clear aO;go_wp2_with fail;obtain⟨o,aB⟩:∃o:List Mx,o=[(c,1,bz),(O,c,aT)]:=⟨_,rfl⟩;rw[<-aB]at H;obtain⟨J,G,T,bP,cp,cJ⟩:nu B aH i j l (jX ms nx o) (nx+2)/\∃G T,(Value.slice aU bM bg=.slice (some ⟨G,0,none⟩) 2 2)/\(T.length=2/\∀a,a<2->T.getD a 0=nx+a)/\R.Own aH (Value.slice aU bM bg) T:=by
    rcases H.f with⟨x,-⟩|⟨-,⟨G,T,Y,ad,cA,eb,eg⟩,dx,-⟩
    .cases x
    .exact⟨dx.below q.i,G,T,Y,⟨cA,eb⟩,eg.below q.i⟩
   obtain rfl:=c3.f G 2 2 bP;have eE:=c3.i trivial;simp only[iC]at bP;obtain⟨rfl,rfl,rfl⟩:=bP;obtain⟨dr,d6,eH,cN,cG,cj,dv⟩:=ay.g.kernel ct a9;have dQ:O<=4:=by omega
   have eD:(c:Int)-(dr:Int)=(O:Int):=by omega
   clear d6;have ah:o.length=2:=by rw[aB];rfl
   have ak:o.length<=ms.countP Option.isNone:=by rw[ah];exact ay.l
   have b7:∀a,a<2->mK (o.getD a l5).1 (o.getD a l5).2.1 (o.getD a l5).2.2:=λa b=>by
    obtain⟨Y,ad⟩:=mI (nx:=nx) s.l.len ak a (by rw[ah];exact b);refine J.2.1.fine (hd:=nx+a) Y ad ?_ ?_
    .rw[aB];match a,b with
     |0,_=>exact a9
     |1,_=>exact dQ
    .rw[aB];match a,b with
     |0,_=>show 1<=4;omega
     |1,_=>exact a9
   have c7:pq (jX ms nx o):=(s.l.w5 o [0,0] ak (by rw[ah];rfl)).dst;have aW:=r.f.J (q.i.block W r.f.lt);have p:=zf J cp cJ aW (r.g.below q.i) (r.j.below q.i) (r.m.below q.i) b7 c7 ak ah aB;have ba:=hY cN cG cj dv;clear J cp cJ aW b7 c7 cN cG cj dv;go_fit (@qz B W i j l G 2 nx (nx+2) _ c5 dh ds (jX ms nx o) E o (BC ms nx o) _ p.f p.m p.r p.y p.A (λf aq=>(r.r f aq).1) (by omega) (by omega) (λa b=>?_) p.D bE (λa b=>?_) r.K)
   .obtain⟨Y,ad⟩:=mI (nx:=nx) s.l.len ak a (by rw[ah];exact b);exact⟨Y,ad,p.B a b⟩
   .have:=p.j.cell p.g.1 a b;rw[p.g.2 a b]at this;exact this
   rintro u cr⟨dJ,bs,aE,rfl,cX⟩;have c6:=cX;obtain⟨dU,ef,ed,⟨bJ,ea⟩,⟨bZ,-⟩,-,-,X⟩:=cX;rw[aE]at bZ;have aL:=r.K;have bL:=r.A.below q.i;have cy:R.Own cr (.slice (some ⟨G,0,none⟩) 2 2) T:=p.j.J (λg cw=>by
    simp[Value.ownBlock]at cw;subst cw;exact X.block p.j.lt aL)
   have cv:ix cr 51 da (zZ b9):=bL.1.lP X (λf aq d=>bL.2.1 f aq (.inl (.inl d)));have S:=kM c6 bJ bZ cy cv aE X;have eG:=X.size;obtain⟨aD,a3,rfl⟩:∃aD a3,dJ=.slice (some ⟨aD,0,none⟩) 2 a3:=by
    rcases bJ with⟨-,ar⟩|⟨g,bV,eF,Q,-⟩
    .have:=kX List.length ar;rw[kR,aE]at this;simp at this
    .rw[kR,aE]at Q;exact⟨g,bV,Q⟩
   clear c6 bJ ea bZ cy cv X bL aL;go_wp2_with fail;go_fit (@sW W i (nx+2) G 2 da dU ef ed b9 T _ S.j S.r S.m p.g.1 (by omega) (by have:=r.B;omega));rintro u t⟨rfl,bT⟩;obtain⟨aM,du,-⟩:=sL p.f ah (by omega) (by omega) s.l ay.l p.m p.r p.y p.A r.r (r.y.below q.i) (r.A.below q.i) r.B r.D p.j.lt cR (R.Own.GS p.j) (by omega) aE p.B S.f (λY ad cA em=>by
     obtain⟨rfl,rfl,rfl⟩:=Lw.inj em S.j;exact bT)
   have bX:ix t 164 (.slice (some ⟨aD,0,none⟩) 2 a3) (ko bs):=by
    obtain⟨_,_,_,_,be,_⟩:=bT;refine S.g.lP be (λf aq d=>?_);have bD:=(S.g.own f aq).2;rcases d with d|d|d
    .exact iB bD S.j.ty (by decide) d
    .exact iB bD (S.r.own f d).2 (by decide) rfl
    .exact iB bD (R.Own.GS S.m) (by decide) d
   have bu:Below B w t:=(H.j.trans (q.i.mono (by omega))).trans du;have es:=bu.size;have cC:jO a4 t y.heap.size c e bU (fz e (jA e c U)) 4:=by
    obtain⟨_,_,_,_,be,_⟩:=bT;have X:=S.C;refine(bb.f t (λf Q b6=>?_) (λf Q b6=>?_)).congr (λab a v b=>(q8 e c U v b).symm)
    .have d4:f<aH.heap.size:=by have:=c4.e.size;omega
     rw[be.block (by have:=X.size;omega) (λd=>?_),X.block d4 (λd=>by have:=(r.r f d).2;omega),c4.e.block f b6];rcases d with d|d|d
     .have:=(r.r f (.inl d)).2;omega
     .have:=(r.D f d).2;omega
     .omega
    .have dz:f<y.heap.size:=by omega
     have am:=dN.e;rw[be.block (by have:=X.size;omega) (λd=>?_),X.block (by omega) (λd=>?_),q.i.block f dz]
     .exact aQ.j f Q b6
     .have:=am f (.inl (.inl (.inl d)));have:=a2.e;omega
     .rcases d with d|d|d
      .have:=am f (.inl (.inl (.inl (.inl d))));have:=a2.e;omega
      .have:=am f (.inl (.inr d));have:=a2.e;omega
      .have:=am f (.inr d);have:=a2.e;omega
   obtain⟨al,aa,rfl⟩:∃al aa,bs=[al,aa]:=by
    match bs,aE with
    |[cn,di],_=>exact⟨cn,di,rfl⟩
   have bk:∀a,a<2->∃aU v,kH t aU v ([al,aa].getD a 0) (o.getD a l5).1 (o.getD a l5).2.1 (fz (o.getD a l5).2.1 (o.getD a l5).2.2):=λa b=>by
    obtain⟨Y,ad⟩:=mI (nx:=nx) s.l.len ak a (by rw[ah];exact b);have ee:(nx+a,Ex (o.getD a l5),[al,aa].getD a 0)∈E++nB nx o [al,aa]:=ji.2 (.inr (kt.2 ⟨a,jB.2 b,rfl⟩));exact(aM.entry ee Y ad rfl).2.2
   obtain⟨D,dA⟩:=hQ 400000000;have bW:∀a,a<2->∀cO,cO<(o.getD a l5).1*(o.getD a l5).2.1->((o.getD a l5).2.2.getD cO 0).natAbs<2^(16*D):=λa b=>by
    obtain⟨Y,ad⟩:=mI (nx:=nx) s.l.len ak a (by rw[ah];exact b);exact p.f.2.1.bits (hd:=nx+a) Y ad (m:=D) (by omega)
   have ar:=bk 0 (by omega);have Q:=bk 1 (by omega);have bx:=bW 0 (by omega);have bp:=bW 1 (by omega);rw[aB]at ar Q bx bp;obtain⟨cE,eU,ar⟩:=ar;obtain⟨aZ,ez,Q⟩:=Q;obtain⟨ce,cL⟩:=ar.qk;obtain⟨a5,cU⟩:=Q.qk;have b2:jO cE t al c 1 ce (fz 1 bz) (2*D):=cL.fit (λab a v b=>bx _ (jq v b));have bj:jO aZ t aa O c a5 (fz c aT) (2*D):=cU.fit (λab a v b=>bp _ (jq v b));obtain⟨-,-,bl,ev,ca⟩:=aM.entry (ji.2 (.inl ac.f)) ac.j (pk o ms nx ab _ s.l.len ak ac.m) rfl;obtain⟨-,-,dF,eY,ch⟩:=aM.entry (ji.2 (.inl ac.g)) ac.r (pk o ms nx a _ s.l.len ak ac.y) rfl;obtain⟨cf,a6⟩:=ca.qk;obtain⟨dI,b4⟩:=ch.qk;rw[<-de.f]at a6;rw[<-de.i]at b4;have en:t.cell? ⟨aD,0,none⟩=some (.pointer (some ⟨al,0,none⟩)):=by
    obtain⟨bo,dw,x,-,-,-,Z⟩:=bX.shape;simp only[iC]at x;obtain⟨dW,ae,az⟩:=Z 0 (by simp[ko]);rw[<-x.1]at ae;simp only[iH,jj]at ae;rw[ae.1,az];simp[ko]
   have C:t.cell? ⟨aD,1,none⟩=some (.pointer (some ⟨aa,0,none⟩)):=by
    obtain⟨bo,dw,x,-,-,-,Z⟩:=bX.shape;simp only[iC]at x;obtain⟨dW,ae,az⟩:=Z 1 (by simp[ko]);rw[<-x.1]at ae;simp only[iH,jj]at ae;rw[ae.1,az];simp[ko]
   have eN:D<=400000000:=by omega
   obtain⟨-,er,eo,dO,d0,-⟩:=b2.open_;obtain⟨-,ew,ey,z,dD,-⟩:=bj.open_;obtain⟨-,eq,et,A,F,-⟩:=a6.open_;have V:=kM b2 bj (a6.tight (jT ac.A)) (b4.tight (jT ac.B)) cC aM bu;have eR:=oP ⟨aD,0,none⟩ 2 a3;have eZ:((c:Int)!=(c:Int))=false:=by simp
   clear bk bW ar Q bx bp cL cU b2 bj a6 b4 ca ch cC aM bu du bX dA;go_wp2_with fail;try go_quiet (fail)
   try go_wp2_with fail
   have a8:=im (kQ t.heap.size t) nq;go_fit (@kn 4 (2*D) bf e c cf (fz c U) bl al 1 ce (fz 1 bz) cE _ (V.j.hV (KR.I a8)) (V.f.hV (KR.I a8)) (by omega) (by omega) (by omega) (by omega));rintro u ec⟨rfl,⟨dM,cg⟩,cP⟩;have ao:Below t.heap.size t ec:=d_ a8 cP;have br:=hO cg ((V.m.hV (KR.I ao)).mono (show 4<=4+2*D+12 by omega)) ao;have M:=g_ ao C;have I:=g_ ao z;have P:=g_ ao A;have K:=g_ ao F;clear cg cP ao a8 dO d0 z dD A F en C;go_wp2_with fail;go_fit (@lM _ e 1 dM _ 0 cV dI _ dF (4+2*D+12) _ br.f br.g (ay.g.back ay.f) (by omega) (by omega) (by omega));rintro u eh⟨rfl,aI⟩;have dt:Below t.heap.size t eh:=d_ br.l aI;have cZ:=a_ dt;have C:=g_ aI M;have z:=g_ aI I;have A:=g_ aI P;have F:=g_ aI K;clear aI dt M I P K;go_wp2_with fail;go_fit (@mW bf e c cf (fz c U) bl 4 _ (V.j.hV (KR.I cZ.e)) (by omega) (by omega) (by omega));rintro u eL⟨dS,rfl,db,aJ⟩;have dL:dr=dS:=(kf db ba.f).symm;subst dL;have cB:=a_ (d_ cZ.e aJ);have M:=g_ aJ C;have I:=g_ aJ z;have P:=g_ aJ A;have K:=g_ aJ F;clear aJ db C z A F;go_wp2_with fail;go_fit (@mW aa O c a5 (fz c aT) aZ (2*D) _ (V.g.hV (KR.I cB.e)) (by omega) (by omega) (by omega));rintro u eu⟨dR,rfl,cb,aF⟩;have dX:O=dR:=(kf cb ba.g).symm;subst dX;have bH:=a_ (d_ cB.e aF);have C:=g_ aF M;have z:=g_ aF I;have A:=g_ aF P;have F:=g_ aF K;clear aF cb M I P K;go_wp2_with fail;go_fit (@kn (2*D) 4 aa O c a5 (fz c aT) aZ y.heap.size e bU (fz e (jA e c U)) a4 _ (V.g.hV (KR.I bH.e)) (V.r.hV (KR.I bH.e)) (by omega) (by omega) (by omega) (by omega));rintro u bG⟨rfl,⟨dG,cm⟩,aA⟩;have cF:=b_ cm (d_ bH.e aA);have M:=g_ aA C;have I:=g_ aA z;have P:=g_ aA A;have K:=g_ aA F;clear cm aA C z A F;go_wp2_with fail;go_still_tail 10,(by kernel_rfl);go_wp2_with fail;have dj:Below t.heap.size t bG.drew:=cF.i.drew;go_fit (@mw O e _ (by omega) (by omega));rintro u eX⟨rfl,⟨ej,dc⟩,au⟩;have bt:=hO ((cF.f.hV (KR.I ((kQ bG.heap.size bG).drew.trans au)))) ((dc.xl hR).mono (AW (2*D+4+12))) (d_ dj au);have C:=g_ au M;have z:=g_ au I;have A:=g_ au P;have F:=g_ au K;clear dc au dj M I P K;go_wp2_with fail;try go_quiet (fail)
   try go_wp2_with fail
   go_fit (@lM _ O e dG _ 0 _ ej _ 0 (2*D+4+12) _ bt.f bt.g (λab a v b=>ba.o ab a v b) (by omega) (by omega) (by omega));rintro u eB⟨rfl,ax⟩;have co:=a_ (d_ bt.l ax);have M:=g_ ax C;have I:=g_ ax z;have P:=g_ ax A;have K:=g_ ax F;clear ax C z A F;go_wp2_with fail;go_fit (@mX aa O c O a5 (fz c aT) aZ (2*D) _ (V.g.hV (KR.I co.e)) (by omega) (by omega) (by omega) (by omega) (uN (by omega) (by omega)));rintro u aR⟨eT,rfl,a7,av⟩;rw[ba.j]at a7;have cx:=b_ a7 (d_ co.e av);have C:=g_ av M;have z:=g_ av I;have A:=g_ av P;have F:=g_ av K;obtain⟨dK,bo,bV,dE,rfl,-⟩:=a7.parts;clear a7 av M I P K;go_wp2_with fail;have bh:Below aR.heap.size aR (aR.alloc (.cells #[.bool dK,.slice bo dE.length bV] 171)):=hS;go_fit (@sZ _ _ _ _ (cx.f.below bh) (by have:=uN (L:=2*D) (k:=O) (by omega) (by omega);omega));rintro u bv⟨rfl,dq⟩;have aw:Below aR.heap.size aR bv:=d_ bh dq;have M:=g_ aw C;have I:=g_ aw z;have P:=g_ aw A;have K:=g_ aw F;have bR:Below t.heap.size t bv:=d_ cx.i aw;have ag:f_ (ie B w bv W i j l nx):=a_ ⟨⟨_,_,_,V.y.below bR,by omega⟩,V.C.trans (bR.mono (by omega))⟩;have dC:Lib.itoa (((1:Nat):Int))=[49]:=by rw[Lib.itoa_nonneg,Lib.decDigits_one (by omega)];rfl
   rw[dC];clear dq aw bR bh C z A F;go_wp2;go_ret;exact⟨rfl,ag.e⟩
def wz(D:Nat->Nat->Int):Nat->Int
 |0=>1
 |a+1=>if D a a=0 then wz D a else wz D a*D a a
theorem Jf{r c k:Nat}{D:Nat->Nat->Int}(h:lz r c k D):∀a,a<=r->a<=c->wz D a=pr D 0 (min a k):=by
 intro a;induction a with
 |zero=>intro _ _;simp[wz,pr]
 |succ a b=>
  intro e g;rw[wz,b (by omega) (by omega)];by_cases d:a<k
  .have f:=h.pos a d;rw[if_neg (by omega),show min a k=a by omega,show min (a+1) k=a+1 by omega,sO,jF]
  .rw[if_pos (h.out a a (by omega) (by omega) (.inl (by omega))),show min a k=k by omega,show min (a+1) k=k by omega]
theorem Ey{r c:Nat}{aT aE:Value}{vs ts:List Int}{L K:Nat}{w:World}(d:i_ w (.agg #[.int .i64 r,.int .i64 c,x]) r c e L)(aG:i_ w (.agg #[.int .i64 r,.int .i64 r,y]) r r f K)(aA:i_ w (.agg #[.int .i64 r,.int .i64 r,z]) r r g K)(aM:i_ w (.agg #[.int .i64 c,.int .i64 c,aT]) c c vs K)(aK:i_ w (.agg #[.int .i64 c,.int .i64 c,aE]) c c ts K)(bo:r<=4)(bv:c<=4)(a4:L<=10000000):Calls Tryz.prog 42 #[.agg #[.int .i64 r,.int .i64 c,x,.int .i64 r,.int .i64 r,y,.int .i64 r,.int .i64 r,z,.int .i64 c,.int .i64 c,aT,.int .i64 c,.int .i64 c,aE]] w λF be=>∃aR,F=.returned aR/\jD w be aR (wz (e_ c e) (min r c)) 50000000:=by
 have aF:=a_ d;obtain⟨ab,W,rfl⟩:=d.slice;obtain⟨aY,aL,rfl⟩:=aG.slice;obtain⟨a0,aW,rfl⟩:=aA.slice;obtain⟨aw,aD,rfl⟩:=aM.slice;obtain⟨az,aI,rfl⟩:=aK.slice;clear d aG aA aM aK;obtain⟨ag,aH⟩:=hQ (r*c);obtain⟨N,aU⟩:=hQ (r*r);obtain⟨P,aX⟩:=hQ (c*c);rw[<-aH]at aF|-;rw[<-aU,<-aX];clear aH aU aX;go_in;go_wp2_with fail;obtain⟨H,q⟩:=hQ ((w.alloc (.cells #[.int .i64 r,.int .i64 c,.slice ab ag W,.int .i64 r,.int .i64 r,.slice aY N aL,.int .i64 r,.int .i64 r,.slice a0 N aW,.int .i64 c,.int .i64 c,.slice aw P aD,.int .i64 c,.int .i64 c,.slice az P aI] 83)).alloc (.cells #[.bool false,.slice none 0 0] 79));have bp:H.heap.size=w.heap.size+2:=by rw[q];simp
 have aC:Below w.heap.size w H:=by rw[q];repeat(first|exact hP|refine ia ?_ (by simp<;>omega) _)
 have aZ:jk H w.heap.size (.int .i64 r) (.int .i64 c) (.slice ab ag W):=by
  rw[q];exact jk.later (w:=w.alloc (.cells #[.int .i64 r,.int .i64 c,.slice ab ag W,.int .i64 r,.int .i64 r,.slice aY N aL,.int .i64 r,.int .i64 r,.slice a0 N aW,.int .i64 c,.int .i64 c,.slice aw P aD,.int .i64 c,.int .i64 c,.slice az P aI] 83)) ⟨fa _ _ _ _ _ rfl rfl,fa _ _ _ _ _ rfl rfl,fa _ _ _ _ _ rfl rfl⟩ hS
 have aO:iw H (w.heap.size+1) (.bool false) (.slice none 0 0):=by rw[q];exact iw.new _ _ _ (by simp)
 have S:=hO aC aZ aO;rw[<-q];clear q aC aZ aO;go_fit (mU);rintro F B⟨bs,rfl,af,ae⟩;obtain⟨U,ai,Z,ap,rfl⟩:=af.shape;have O:=hU B (.cells #[.bool U,.slice ai Z ap] 79);have aV:=ae.size;obtain⟨ad,E⟩:=hQ (B.alloc (.cells #[.bool U,.slice ai Z ap] 79));have bn:ad.heap.size=B.heap.size+1:=by rw[E];simp
 have aq:iw ad B.heap.size (.bool U) (.slice ai Z ap):=by rw[E];exact iw.new _ _ _ rfl
 rw[<-E]at O;have J:=ae.trans (O.mono aV);obtain⟨aS,Q⟩:=hQ B.heap.size;rw[<-Q]at aq bn aV;have n:=ju (af.below O) aq (S.g.later J) (S.l.below J (by omega)) (S.f.trans (J.mono (by omega))) E;have bb:=a_ Q;clear af ae O J aq E;go_wp2_with fail;rw[<-n.z,<-bb.e];clear Q;go_loopw [4] (λY wr=>∃(a:Nat) (k:Bool) (l:Option Addr) (j m:Nat),a<=4/\Y=.int .i64 a/\iw wr aS (.bool k) (.slice l j m)/\f_ ((a<=r/\a<=c)/\jE wr (.agg #[.bool k,.slice l j m]) (wz (e_ c e) a) (2+a*L)/\ad.grownBy wr (some aS)/\Below w.heap.size w wr)) (λY _=>4-(intOf Y).toNat)
 case atStart=>exact⟨0,_,_,_,_,by omega,rfl,n.g,a_ ⟨by omega,by rw[wz,pS];exact n.f,jM _ _,n.r⟩⟩
 case round=>
  obtain⟨a,k,l,j,m,bf,rfl,d,b⟩:=hrel;obtain⟨a5,a2,a6⟩:=n.j.grown b.j (by omega);have ay:=b.o.size;have br:=b.j.size;have ax:=d.ty.lt;have K:=a_ d;have bu:a*L<=4*10000000:=jR bf a4;by_cases bm:a<r
  .have a1:(a:Int)<(r:Int):=by omega
   by_cases bj:a<c
   .have a8:(a:Int)<(c:Int):=by omega
    obtain⟨A,u,s,t⟩:=d.cells;clear d;go_wp2_with fail;go_fit (jy (aF.e.below b.o) bm bj);rintro F I⟨ba,rfl,o,aj⟩;obtain⟨aa,am,al,ar,rfl⟩:=o.shape;have V:=hU I (.cells #[.bool aa,.slice am al ar] 79);have aB:Below wr.heap.size wr (I.alloc (.cells #[.bool aa,.slice am al ar] 79)):=d_ aj V;have ao:=iw.new I (.bool aa) (.slice am al ar) rfl;have M:=hO aB ao (o.below V);have bt:=aj.size;obtain⟨av,ak,-,-⟩:=ao.cells;clear o aj V aB ao a5 a2 a6 A u s t;go_wp2_with fail;go_fit (n_ M.l);rintro F aN⟨rfl,D⟩;obtain⟨bc,ah⟩:=hQ (decide (e.getD (a*c+a) 0=0));rw[<-ah];have bq:I.heap.size+1<=aN.heap.size:=by have:=D.size;simpa using this
    have au:Below wr.heap.size wr aN:=M.f.trans (D.mono (by simp;omega));have aQ:=M.g.below D (by simp);have h:=iu au (M.l.below D) ah aQ (K.e.below au ax);clear D ah au aQ av ak
    cases bc
    .obtain⟨av,ak,-,-⟩:=h.m.cells;obtain⟨A,u,s,t⟩:=h.x.cells;go_wp2_with fail;go_fit (j0 (b.g.below h.f) h.g (by omega) (by omega));rintro F bi⟨ba,rfl,o,aJ⟩;obtain⟨bh,a3,bg,bl,rfl⟩:=o.shape;have ac:Below wr.heap.size wr bi:=h.f.trans (aJ.mono (by omega));have aP:=K.e.below ac ax;have p:=hO ac o aP;clear o aJ ac aP av ak A u s t;obtain⟨A,u,s,t⟩:=p.l.cells;go_wp2;go_roundw
     .refine⟨a+1,bh,a3,bg,bl,by omega,by go_num,p.l.put _ _,a_ ⟨by omega,?_,lD (ib b.j p.f),((b.o.trans (p.f.mono ay)).setCell (by simp;omega) _).setCell (by simp;omega) _⟩⟩;have an:¬e_ c e a a=0:=t_ h.j.symm;rw[wz,if_neg an,rG];exact(p.g.s_ p.l _ _).mono (by omega)
     simp[intOf];omega
    .go_wp2;go_roundw
     .have an:e_ c e a a=0:=yO h.j.symm;refine⟨a+1,k,l,j,m,by omega,by go_num,h.x,a_ ⟨by omega,?_,ib b.j h.f,b.o.trans (h.f.mono ay)⟩⟩;rw[wz,if_pos an,rG];exact(b.g.below h.f).mono (by omega)
     simp[intOf];omega
   .have a8:¬(a:Int)<(c:Int):=by omega
    have X:f_ (a=min r c):=a_ (by have:=b.f;omega);obtain⟨A,u,s,t⟩:=d.cells;have i:iw wr (w.heap.size+1) (.bool false) (.slice none 0 0):=(b.j.block _ (by omega) (by simp;omega)).trans n.m;have C:=(i.put (.bool k) (.slice l j m)).cells;have G:=b_ i C;obtain⟨a7,a9,bd,bk⟩:=i.cells;clear i C d;go_wp2_with fail;obtain⟨T,R,-,-⟩:=G.i;refine ig (v:=.agg #[.bool k,.slice l j m]) ?_ rfl ?_
    ·(simp[results,Tryz.results42,go_sem,T,R];done)
    .refine⟨_,rfl,?_,(b.o.setCell (by simp) _).setCell (by simp) _⟩;rw[<-X.e];exact(b.g.s_ G.f _ _).mono (by omega)
  .have a1:¬(a:Int)<(r:Int):=by omega
   have X:f_ (a=min r c):=a_ (by have:=b.f;omega);obtain⟨A,u,s,t⟩:=d.cells;have i:iw wr (w.heap.size+1) (.bool false) (.slice none 0 0):=(b.j.block _ (by omega) (by simp;omega)).trans n.m;have C:=(i.put (.bool k) (.slice l j m)).cells;have G:=b_ i C;obtain⟨a7,a9,bd,bk⟩:=i.cells;clear i C d;go_wp2_with fail;obtain⟨T,R,-,-⟩:=G.i;refine ig (v:=.agg #[.bool k,.slice l j m]) ?_ rfl ?_
   ·(simp[results,Tryz.results42,go_sem,T,R];done)
   .refine⟨_,rfl,?_,(b.o.setCell (by simp) _).setCell (by simp) _⟩;rw[<-X.e];exact(b.g.s_ G.f _ _).mono (by omega)
def rR(ms:List Hm)(h:Int)(t:List UInt8)(e:Int):Prop:=
 ((∀d,d<24->∀i,ms.getD d none=some i->(i.1:Int)≠h)/\t=[]/\e=2)\/∃d f c a b,d<24/\ms.getD d none=some (f,c,a,b)/\((f:Nat):Int)=h/\((¬hW c a b/\t=[]/\e=4)\/(hW c a b/\e=0/\∃g,iF (gz a b) c a g/\t=Lib.itoa ((iU (gz a b) c a g:Nat):Int)))
theorem DT.index{r c:Nat}{zs:List Int}{x:D5}(h:DT r c zs x):∃a,iF (gz c zs) r c a/\wz (e_ c x.d) (min r c)=((iU (gz c zs) r c a:Nat):Int):=by
 obtain⟨a,b⟩:=h.low;refine⟨a,b.rk,?_⟩;have e:=b.low.kr;have f:=b.low.kc;rw[Jf b.low (min r c) (by omega) (by omega),show min (min r c) a=a by omega];have g:=b.low.lF (BL a);have d:(pr (e_ c x.d) 0 a).natAbs=iU (gz c zs) r c a:=b.q;omega
theorem vR{b:Nat}{h:Int}{ms:List Hm}{nx:Nat}{w:World}(E:jf w b ms nx)(D:vx w):Calls Tryz.prog 18 #[.pointer (some ⟨b,0,none⟩),.int .i64 h] w λR aa=>∃z c,R=.returned (.tuple #[.string ⟨z.toArray⟩,.int .i64 c])/\rR ms h z c/\Below w.heap.size w aa:=by
 have N:=b_ E D;clear E D;go_in;go_wp2_with fail;go_fit (jS N.f);rintro c k⟨⟨g,i,x,Q,S,ag,rfl,s⟩,p⟩;have n:=hU k (.cells #[.int .i64 g,.int .i64 i,.slice x Q S] 66);have m:=d_ p n;have ae:=p.size;rcases id s with⟨rfl,F,I,o,M,A,B,u⟩|⟨rfl,P⟩
 .have a:=iu (u.below n) m M A B;clear s u p n m M A B;go_wp2_with fail;go_fit (jl a.f (by omega));rintro c q⟨U,rfl,L,f⟩;have al:k.heap.size+1<=q.heap.size:=by have:=f.size;simpa using this
  have W:q.cell? ⟨k.heap.size,0,none⟩=some (.int .i64 g):=g_ f (by simp);have Z:q.cell? ⟨k.heap.size,1,none⟩=some (.int .i64 i):=g_ f (by simp);have V:q.cell? ⟨k.heap.size,2,none⟩=some (.slice x Q S):=g_ f (by simp);have j:=hO (a.f.below f) (d_ a.g f) L;clear f L
  cases U
  .have Y:f_ (¬hW g i o):=a_ (λh=>by have:=j.l.2 h;cases this);go_wp2;go_ret2;exact⟨[],_,rfl,.inr ⟨F,I,g,i,o,a.j,a.m,a.x,.inl ⟨Y.e,rfl,rfl⟩⟩,j.g⟩
  .have e:f_ (hW g i o):=a_ (j.l.1 rfl);go_wp2_with fail;go_fit (xP (j.f.tight e.e) e.f e.g e.e.e_);rintro c ad⟨R,af,ak,ah,am,ab,rfl,G,H,J⟩;have d:=hO G H (d_ j.g J);clear G H J W Z V;go_wp2_with fail;go_fit (Ey d.f.1 d.f.2.1 d.f.2.2.1 d.f.2.2.2.1 d.f.2.2.2.2 e.f e.g (by omega));rintro c ac⟨aj,rfl,r,v⟩;obtain⟨T,K,y⟩:=d.g.index;rw[y]at r;have t:=d_ d.l v;have l:=hY r t (N.i.below t) K;clear r v y K t;go_wp2_with fail;go_fit (qE l.f (by omega) l.j);rintro c ai⟨rfl,O⟩;have X:=a_ (d_ l.g O);clear O;go_wp2;go_ret2;exact⟨_,_,rfl,.inr ⟨F,I,g,i,o,a.j,a.m,a.x,.inr ⟨e.e,rfl,T,l.o,rfl⟩⟩,X.e⟩
 .have C:=b_ P m;clear P m p n s;go_wp2;go_ret2;exact⟨[],_,rfl,.inl ⟨C.f,rfl,rfl⟩,C.i⟩
theorem rR.uniq{ms:List Hm}{h e:Int}{t:List UInt8}(hd:pq ms)(a:rR ms h t e)(b:rR ms h L c):t=L/\e=c:=by
 rcases a with⟨l,rfl,rfl⟩|⟨d,p,v,x,y,j,f,n,l⟩
 .rcases b with⟨-,rfl,rfl⟩|⟨d,p,v,x,y,j,f,n,-⟩
  .exact⟨rfl,rfl⟩
  .exact absurd n (l d j _ f)
 .rcases b with⟨i,-⟩|⟨o,w,B,C,E,u,g,A,i⟩
  .exact absurd n (i d j _ f)
  .have s:d=o:=hd d o _ _ j u f g (by show p=w;omega);subst s;rw[f]at g;simp only[iH,lN]at g;obtain⟨rfl,rfl,rfl,rfl⟩:=g;rcases l with⟨k,rfl,rfl⟩|⟨k,rfl,z,r,rfl⟩
   .rcases i with⟨-,rfl,rfl⟩|⟨m,_⟩
    .exact⟨rfl,rfl⟩
    .exact absurd m k
   .rcases i with⟨m,_⟩|⟨-,rfl,D,q,rfl⟩
    .exact absurd k m
    .rw[kf r q];exact⟨rfl,rfl⟩
theorem z7{B:Nat}{h:Int}{ms:List Hm}{nx:Nat}{w:World}(n:nu B w i j k ms nx)(hd:pq ms):Calls Tryz.prog 161 #[.pointer (some ⟨i,0,none⟩),.int .i64 h] w λf s=>∃a c,f=.returned (.tuple #[.string ⟨a.toArray⟩,.int .i64 c])/\rR ms h a c/\Below w.heap.size w s:=by
 obtain⟨o,p,l,-⟩:=n.1.cells;have d:=b_ n hd;clear n hd;go_in;go_wp2_with fail;go_fit (vR d.f.2.1 d.f.2.2.2.2.1.tab);rintro f y⟨a,c,rfl,hrel,e⟩;have g:=d.f.below e;clear o p l;obtain⟨o,p,l,-⟩:=g.1.cells;have b:=hO g hrel e;have x:=e.size;clear g hrel e;go_wp2_with fail;go_fit (vR b.f.2.2.1 b.f.2.2.2.2.1.tab);rintro f A⟨C,z,rfl,q,t⟩;obtain⟨rfl,rfl⟩:=rR.uniq d.i b.g q;have u:=a_ (b.l.trans (t.mono x));clear t q o p l;obtain⟨r,m⟩:∃r:ByteArray,r=⟨a.toArray⟩:=⟨_,rfl⟩;have v:=a_ m;rw[<-m];clear m;go_wp2_with fail;go_fit (xO);rintro f s⟨rfl,rfl⟩;go_wp2;go_ret2;exact⟨a,c,by rw[v.e];rfl,b.g,u.e⟩
variable{E:List o4}
theorem Bw{ms:List Hm}{h e:Int}{v:Value}{t:List UInt8}(hd:pq ms)(q:EL E ms false h v a)(k:rR ms h t e):((a=2\/a=3\/a=4)/\e=a/\t=[])\/(a=0/\e=0/\∃g b d c f l,g∈E/\b<24/\ms.getD b none=some (g.1,d,c,f)/\hW d c f/\v=.pointer (some ⟨g.2.2,0,none⟩)/\iF (fz c f) d c l/\t=Lib.itoa ((iU (fz c f) d c l:Nat):Int)):=by
 rcases q with⟨o,rfl⟩|⟨g,b,d,c,f,z,j,i,p,q⟩
 .rcases k with⟨-,rfl,rfl⟩|⟨b,u,d,c,f,j,i,p,-⟩
  .exact .inl ⟨.inl rfl,rfl,rfl⟩
  .exact absurd p (o b j _ i)
 .rcases k with⟨o,-⟩|⟨s,u,C,D,F,w,m,B,k⟩
  .exact absurd p (o b j _ i)
  .have y:b=s:=hd b s _ _ j w i m (by show g.1=u;omega);subst y;rw[i]at m;simp only[iH,lN]at m;obtain⟨rfl,rfl,rfl,rfl⟩:=m;rcases q with⟨A,-⟩|⟨-,n,rfl⟩|⟨-,n,rfl,rfl⟩
   .cases A
   .rcases k with⟨-,rfl,rfl⟩|⟨r,_⟩
    .exact .inl ⟨.inr (.inr rfl),rfl,rfl⟩
    .exact absurd r n
   .rcases k with⟨r,_⟩|⟨-,rfl,l,x,rfl⟩
    .exact absurd n r
    .exact .inr ⟨rfl,rfl,g,b,d,c,f,l,z,j,i,n,rfl,x,rfl⟩
theorem yN{B W:Nat}{ms:List Hm}{nx:Nat}{h:Int}{w:World}(y:jL B w W i j l ms nx E):Calls Tryz.prog 113 #[.pointer (some ⟨W,0,none⟩),.int .i64 6,.int .i64 h] w λb ac=>b=.returned (.bool true)/\ie B w ac W i j l nx:=by
 have P:=y.size;have a:=a_ y;clear y;go_in;go_wp2_with fail;go_fit (rv a.e);rintro b au⟨⟨aD,ay,rfl,D⟩,g⟩;have z:=a.e.below g;obtain⟨az,aJ,aB,aH,ar,ak,-⟩:=z.il;have u:=hO D g z;have aj:=g.size;clear D g z;go_wp2_with fail;go_fit (z7 u.j a.l.dst);rintro b C⟨ao,aA,rfl,hrel,J⟩;have G:=Bw a.l.dst u.f hrel;have f:Below w.heap.size w C:=u.g.trans (J.mono aj);have c:=hO (a.e.below f) f G;have ag:=f.size;clear hrel J f G ak;rcases c.l with⟨al,rfl,rfl⟩|⟨rfl,rfl,Z,ax,aa,O,am,ah,Q,N,R,o,rfl,M,rfl⟩
 .have e:f_ (ie B w C W i j l nx):=a_ ⟨⟨ms,nx,E,c.f,by omega⟩,c.g.mono P⟩;rcases al with rfl|rfl|rfl
  .go_wp2;go_ret;exact⟨rfl,e.e⟩
  .go_wp2;go_ret;exact⟨rfl,e.e⟩
  .go_wp2;go_ret;exact⟨rfl,e.e⟩
 .obtain⟨-,-,aC,av,T⟩:=c.f.entry Q N R rfl;obtain⟨ap,r⟩:=T.qk;obtain⟨aq,A⟩:=hQ Z.2.2;rw[<-A]at r|-;have d:=hY (r.tight (jT o)) o.1 o.2.1 M;clear Q N R T r A o M;obtain⟨m,v⟩:∃m:ByteArray,m=⟨(Lib.itoa ((iU (fz O am) aa O ah:Nat):Int)).toArray⟩:=⟨_,rfl⟩;have X:=a_ v;rw[<-v];clear v;have aG:(m.toList==m.toList)=true:=by simp
  have an:=d.g;have aI:=d.j;go_wp2_with fail;go_fit (mW d.f (by omega) (by omega) (by omega));rintro b aF⟨ad,rfl,x,s⟩;obtain rfl:=kf x d.o;have aw:=x.1;have F:=a_ (c.g.trans (s.mono ag));have ae:=a_ (d.f.hV (KR.I s));have af:=F.e.size;clear x s;go_wp2_with fail;go_fit (mX ae.e (by omega) (by omega) (by omega) (by omega) (uN (by omega) (by omega)));rintro b q⟨aE,rfl,S,K⟩;have n:=b_ S (F.e.trans (K.mono af));have ab:=n.i.size;clear S K;obtain⟨V,U,Y,ai,rfl,-⟩:=n.f.parts;go_wp2_with fail;have t:Below q.heap.size q (q.alloc (.cells #[.bool V,.slice U ai.length Y] 171)):=hS;go_fit (sZ (n.f.below t) (by have:=uN (L:=4) (k:=ad) (by omega) (by omega);omega));rintro b I⟨rfl,H⟩;have p:Below w.heap.size w I:=n.i.trans ((d_ t H).mono ab);have e:f_ (ie B w I W i j l nx):=a_ ⟨⟨ms,nx,E,a.e.below p,by omega⟩,p.mono P⟩;rw[<-X.e];clear H p t;go_wp2;go_ret;exact⟨rfl,e.e⟩
end
def qK(x y:Int):Int:=if y<2*(x-x.fdiv y*y)\/(x.fdiv y<0/\2*(x-x.fdiv y*y)=y)then x.fdiv y+1 else x.fdiv y
theorem xG{x y:Int}(a:0<y):0<=x-x.fdiv y*y/\x-x.fdiv y*y<y:=by
 have b:=Int.fmod_add_mul_fdiv x y;have c:=Int.fmod_nonneg_of_pos x a;have d:=Int.fmod_lt_of_pos x a;rw[wa]at b;omega
theorem Ah{x y:Int}(c:0<y):2*(x-qK x y*y)<=y/\-y<=2*(x-qK x y*y):=by
 have d:=xG (x:=x) c;unfold qK;split
 .rename_i a;rw[Int.add_mul,Int.one_mul];rcases a with a|⟨-,a⟩<;>omega
 .rename_i a;have:¬y<2*(x-x.fdiv y*y):=λb=>a (.inl b);omega
def Iq(c:Nat)(x y:Nat->Int):Int:=sm (λa=>x a*y a) c
def o2(c:Nat)(b:Nat->Nat->Int)(n:Nat):Int:=jn n (λa d=>Iq c (b a) (b d))
theorem lH:∀(c:Nat) (i g:Nat->Nat->Int),(∀e b,e<c->b<c->i e b=g e b)->jn c i=jn c g:=by
 intro c;induction c with
 |zero=>intro i g _;rfl
 |succ c n=>
  intro i g j;rw[jn,jn];have m:∀(d:Nat) (h f:Nat->Int),(∀a,a<d->h a=f a)->jP d h=jP d f:=by
   intro d;induction d with
   |zero=>intro h f _;rfl
   |succ d o=>intro h f l;rw[jP,jP,o h f (λa k=>l a (by omega)),l d (by omega)]
  refine m _ _ _ (λa k=>?_);rw[j 0 a (by omega) k,n _ (λe b=>g (e+1) (skip a b)) (λe b p q=>j (e+1) (skip a b) (by omega) (by unfold skip;split<;>omega))]
def sM(c:Nat)(b:Nat->Nat->Int)(row q:Nat):Int:=jn (q+1) (λa d=>Iq c (if a=q then b row else b a) (b d))
theorem nL{c:Nat}{b b':Nat->Nat->Int}{n:Nat}(h:∀d a,d<n->a<c->b d a=b' d a):o2 c b n=o2 c b' n:=
 lH n _ _ (λd a g i=>iq c λe f=>by rw[h d e g f,h a e i f])
theorem w2{c:Nat}{b b':Nat->Nat->Int}{row q:Nat}(h:∀d a,d<=q->a<c->b d a=b' d a)(i:∀a,a<c->b row a=b' row a):sM c b row q=sM c b' row q:=
 lH (q+1) _ _ (λd a j k=>iq c λe f=>by
  by_cases g:d=q
  .rw[if_pos g,if_pos g,i e f,h a e (by omega) f]
  .rw[if_neg g,if_neg g,h d e (by omega) f,h a e (by omega) f])
def GU(c:Nat)(b:Nat->Nat->Int)(k q:Nat):Int:=qK (sM c b k q) (o2 c b (q+1))
def jQ(c k:Nat)(b:Nat->Nat->Int):Nat->Nat->Nat->Int
 |0=>b
 |a+1=>wj (jQ c k b a) k (k-1-a) (GU c (jQ c k b a) k (k-1-a))
def pe(c k:Nat)(b t:Nat->Nat->Int):Nat->Nat->Nat->Int
 |0=>t
 |a+1=>wj (pe c k b t a) k (k-1-a) (GU c (jQ c k b a) k (k-1-a))
theorem Ga{v u:Value}{x y:Int}{L M:Nat}{w:World}(aH:jE w v x L)(aQ:jE w u y M)(bt:0<y)(bL:L<=100000000)(bT:M<=100000000):Calls Tryz.prog 185 #[v,u] w λJ e=>∃a9,J=.returned a9/\jD w e a9 (qK x y) (L+4):=by
 obtain⟨T,O,Q,V,rfl⟩:=aH.shape;obtain⟨R,Y,aa,ac,rfl⟩:=aQ.shape;have ak:=b_ aH aQ;clear aH aQ;go_in;go_wp2_with fail;obtain⟨B,N⟩:=hQ (((w.alloc (.cells #[.bool T,.slice O Q V] 79)).alloc (.cells #[.bool R,.slice Y aa ac] 79)).alloc (.cells #[.bool false,.slice none 0 0] 79));have aW:B.heap.size=w.heap.size+3:=by rw[N];simp
 have aX:Below w.heap.size w B:=by rw[N];repeat(first|exact hP|refine ia ?_ (by simp<;>omega) _)
 have a0:iw B w.heap.size (.bool T) (.slice O Q V):=by
  rw[N];exact((iw.new w _ _ rfl).below hS (by simp)).below hS (by simp;omega)
 have bd:iw B (w.heap.size+1) (.bool R) (.slice Y aa ac):=by
  rw[N];exact(iw.new _ _ _ (by simp)).below hS (by simp)
 have aY:iw B (w.heap.size+1+1) (.bool false) (.slice none 0 0):=by rw[N];exact iw.new _ _ _ (by simp)
 rw[<-N];have k:=iu a0 bd aY aX aW;clear a0 bd aY aX N aW;go_fit (n_ (ak.i.below k.m));rintro J bK⟨rfl,ag⟩;have bz:decide (y=0)=false:=ic (by omega);rw[bz];have br:=ag.size;have aA:=k.x;obtain⟨ah,am,-,-⟩:=(k.f.below ag (by omega)).cells;obtain⟨G,F,-,-⟩:=(k.g.below ag (by omega)).cells;have an:=b_ ag aA;clear ag aA;go_wp2_with fail;go_fit (nQ ((ak.f.below k.m).below an.f) ((ak.i.below k.m).below an.f) (by omega) (by omega));rintro J g⟨bS,rfl,az,a5⟩;obtain⟨r,m,p,n,rfl⟩:=az.shape;obtain⟨t,aI⟩:=hQ (x.fdiv y);rw[<-aI]at az;have a7:=a_ aI;clear aI;have aB:=hU g (.cells #[.bool r,.slice m p n] 79);have aG:Below B.heap.size B g:=d_ an.f a5;obtain⟨a,al⟩:=hQ (g.alloc (.cells #[.bool r,.slice m p n] 79));have bh:iw a g.heap.size (.bool r) (.slice m p n):=by rw[al];exact iw.new g _ _ rfl
 rw[<-al]at aB;have H:Below B.heap.size B a:=d_ aG aB;have bu:=aG.size;have bB:=H.size;have aA:=k.x;have b:f_ (iw a w.heap.size (.bool T) (.slice O Q V)/\iw a (w.heap.size+1) (.bool R) (.slice Y aa ac)/\iw a (w.heap.size+1+1) (.bool false) (.slice none 0 0)/\iw a g.heap.size (.bool r) (.slice m p n)/\jE a (.agg #[.bool T,.slice O Q V]) x L/\jE a (.agg #[.bool R,.slice Y aa ac]) y M/\jE a (.agg #[.bool r,.slice m p n]) t (L+1)/\Below w.heap.size w a/\w.heap.size+3<=g.heap.size/\g.heap.size<a.heap.size):=
  a_ ⟨k.f.below H (by omega),k.g.below H (by omega),k.j.below H (by omega),bh,(ak.f.below k.m).below H,(ak.i.below k.m).below H,az.below aB,k.m.trans (H.mono (by omega)),by omega,by rw[al];simp⟩
 have bs:=a_ al;clear az a5 aB aG H bh an ah am G F bu bB br aA al;have ay:f_ (∀e,Below a.heap.size a e->e.cell? ⟨w.heap.size,0,none⟩=some (.bool T)/\e.cell? ⟨w.heap.size,1,none⟩=some (.slice O Q V)/\e.cell? ⟨w.heap.size+1,0,none⟩=some (.bool R)/\e.cell? ⟨w.heap.size+1,1,none⟩=some (.slice Y aa ac)/\e.cell? ⟨g.heap.size,0,none⟩=some (.bool r)/\e.cell? ⟨g.heap.size,1,none⟩=some (.slice m p n)):=a_ λe aS=>by
  have av:=b.M;obtain⟨ah,am,-,-⟩:=(b.f.below aS (by omega)).cells;obtain⟨G,F,-,-⟩:=(b.g.below aS (by omega)).cells;obtain⟨W,ae,-,-⟩:=(b.m.below aS (by omega)).cells;exact⟨ah,am,G,F,W,ae⟩
 go_upto_region 4 with fail
 rw[<-bs.e];go_cut [6]from 14 to 18 (λbv aD=>px a (x-t*y) (L+M+3) bv aD)
 case first=>
  go_region_held3 (λe=>e.cell? ⟨w.heap.size,0,none⟩=some (.bool T)/\e.cell? ⟨w.heap.size,1,none⟩=some (.slice O Q V)/\e.cell? ⟨w.heap.size+1,0,none⟩=some (.bool R)/\e.cell? ⟨w.heap.size+1,1,none⟩=some (.slice Y aa ac)/\e.cell? ⟨g.heap.size,0,none⟩=some (.bool r)/\e.cell? ⟨g.heap.size,1,none⟩=some (.slice m p n)) (exact ay.e _ (by first|exact hbW6|exact hbW6.alloc hbW6.size _|exact(hbW6.setCell c_ _).setCell c_ _|exact(hbW6.setCell hw5s _).setCell hw5s _|exact hbW5|exact hbW5.alloc hbW5.size _|exact hP.drew|exact(hS).drew)) (first
    |(go_at_call 65;refine(j0 (b.A.below (hP.drew)) (b.y.below (hP.drew)) (by omega) (by omega)).mono ?_;rintro X l⟨bg,rfl,A,i⟩;obtain⟨a6,a4,bj,ba,rfl⟩:=A.shape;have hbW5:Below a.heap.size a l:=(hP.drew).trans i;clear i)
    |(go_at_call 65;refine(j0 (b.A.below ((hS).drew)) (b.y.below ((hS).drew)) (by omega) (by omega)).mono ?_;rintro X l⟨bg,rfl,A,i⟩;obtain⟨a6,a4,bj,ba,rfl⟩:=A.shape;have hbW5:Below a.heap.size a l:=((hS).drew).trans (i.mono (by simp));have bk:iw l a.heap.size (.bool false) (.slice none 0 0):=iw.below (iw.drew (iw.jg a)) i (by simp);clear i)
    |(go_at_call 145;refine(nE (b.r.below hbW5) A (by omega) (by omega)).mono ?_;rintro X q⟨aO,rfl,c,d⟩;obtain⟨ab,P,Z,ad,rfl⟩:=c.shape;replace c:=c.mono (show max L (L+1+M)+1<=L+M+3 by omega);have hbW6:Below a.heap.size a q:=d_ hbW5 d;have I:iw q a.heap.size (.bool false) (.slice none 0 0):=bk.below d (jt.1 bk).1;have bo:=I.cells;clear d)
    |(go_at_call 145;refine(nE (b.r.below hbW5) A (by omega) (by omega)).mono ?_;rintro X q⟨aO,rfl,c,d⟩;obtain⟨ab,P,Z,ad,rfl⟩:=c.shape;replace c:=c.mono (show max L (L+1+M)+1<=L+M+3 by omega);have hbW6:Below a.heap.size a q:=d_ hbW5 d;clear d)
    |(go_at_call 145;refine(nE ((b.r.below hbW5).below (hU l _)) (A.below (hU l _)) (by omega) (by omega)).mono ?_;rintro X q⟨aO,rfl,c,d⟩;obtain⟨ab,P,Z,ad,rfl⟩:=c.shape;replace c:=c.mono (show max L (L+1+M)+1<=L+M+3 by omega);have hbW6:Below a.heap.size a q:=hbW5.trans (((hU l _).trans (d.mono (by simp))).mono hbW5.size);have hw5s:=hbW5.size;have I:iw q l.heap.size (.bool false) (.slice none 0 0):=iw.below (iw.jg l) d (by simp);have bo:=I.cells;clear d))
  all_goals
   go_wp2_with fail;go_meet
   case rel=>
    first
     |exact⟨_,_,_,_,_,rfl,hbW6.size,iw.new _ _ _ rfl,c.below hS,hbW6.alloc hbW6.size _⟩
     |exact⟨_,_,_,_,_,rfl,c_,I.put _ _,c.s_ I _ _,(hbW6.setCell c_ _).setCell c_ _⟩
     |exact⟨_,_,_,_,_,rfl,hw5s,I.put _ _,c.s_ I _ _,(hbW6.setCell hw5s _).setCell hw5s _⟩
 case rest=>
  rename World=>bV;obtain⟨bM,bQ,bR,bJ,bN,rfl,bf,aE,aR,aZ⟩:=hcut;obtain⟨f,aP⟩:=hQ (x-t*y);rw[<-aP]at aR;have bm:=a_ aP;obtain⟨bG,bx,-,-⟩:=aE.cells;have ai:=hY aE aR aZ bf;clear aE aR aZ aP bf;go_wp2_with fail;go_fit (ny ai.g ai.g (by omega) (by omega));rintro J C⟨bW,rfl,aC,aN⟩;obtain⟨au,aw,ar,ao,rfl⟩:=aC.shape;obtain⟨o,aj⟩:=hQ (C.alloc (.cells #[.bool au,.slice aw ar ao] 79));have aK:Below C.heap.size C o:=by rw[aj];exact hS
  have aL:iw o C.heap.size (.bool au) (.slice aw ar ao):=by rw[aj];exact iw.new C _ _ rfl
  have aU:Below a.heap.size a o:=ai.j.trans ((d_ aN aK).mono ai.j.size);have a8:=(aC.below aK);have av:=b.M;have s:f_ (iw o C.heap.size (.bool au) (.slice aw ar ao)/\jE o (.agg #[.bool au,.slice aw ar ao]) (f+f) (max (L+M+3) (L+M+3)+1)/\Below a.heap.size a o/\C.heap.size<o.heap.size/\a.heap.size<=C.heap.size):=a_ ⟨aL,a8,aU,by rw[aj];simp,iy ai.j.size aN.size⟩;obtain⟨ah,am,G,F,W,ae⟩:=ay.e o aU;obtain⟨aV,aT,-,-⟩:=aL.cells;have bw:=a_ aj;clear aC aN aK aL aU a8 aj bG bx av;obtain⟨U,be⟩:∃U:Bool,U=decide (y<2*f\/(t<0/\2*f=y)):=⟨_,rfl⟩;have bq:f_ (0<=f/\f<y):=a_ (by rw[bm.e,a7.e];exact xG bt);have ap:=a_ be;clear be;go_upto_region 6 with fail
  rw[<-bw.e];go_cut [33]from 22 to 33 (λbF aD=>bF=.bool U/\Below o.heap.size o aD)
  case first=>
   go_wp2_with fail;go_fit (oX (b.y.below s.j) s.g);rintro J l⟨rfl,i⟩;have bc:=bq.f;by_cases E:y<2*f
   .have h:decide (y.natAbs<(f+f).natAbs)=true:=jm (by omega);rw[h];have D:=b_ E i;clear E i h bc;go_wp2_with fail;go_meet
    case rel=>exact⟨by rw[ap.e];exact kX Value.bool (jm (.inl D.f)).symm,D.i⟩
   .have h:decide (y.natAbs<(f+f).natAbs)=false:=ic (by omega);rw[h];have D:=b_ E i;clear E i h bc;obtain⟨-,-,G,F,W,ae⟩:=ay.e l (d_ s.j D.i);go_wp2_with fail;go_fit (uj (b.A.below (d_ s.j D.i)));rintro J q⟨rfl,d⟩;have ax:Below o.heap.size o q:=d_ D.i d;by_cases af:t<0
    .have h:decide (t<0)=true:=jm af;rw[h];have z:=b_ af ax;clear af ax h d G F W ae aV aT;obtain⟨-,-,G,F,-,-⟩:=ay.e q (d_ s.j z.i);obtain⟨aV,aT,-,-⟩:=(s.f.below z.i s.m).cells;go_wp2_with fail;go_fit (wF (s.g.below z.i) (b.y.below (d_ s.j z.i)));rintro J bU⟨rfl,a2⟩;have h:decide (f+f=y)=U:=by
      rw[ap.e];have bI:=D.f;have bH:=z.f;by_cases a3:f+f=y
      .rw[jm a3,jm (.inr ⟨bH,by omega⟩)]
      .rw[ic a3,ic (λK=>by rcases K with K|⟨-,K⟩<;>omega)]
     rw[h];have bn:=a_ (d_ z.i a2);clear a2 h;go_wp2_with fail;go_meet
     case rel=>exact⟨rfl,bn.e⟩
    .have h:decide (t<0)=false:=ic af;rw[h];have z:=b_ af ax;clear af ax h d;go_wp2_with fail;go_meet
     case rel=>exact⟨by rw[ap.e];exact kX Value.bool (ic (λK=>by have bO:=D.f;have bX:=z.f;rcases K with K|⟨K,-⟩<;>omega)).symm,z.i⟩
  case rest=>
   obtain⟨rfl,bb⟩:=hcut;have S:Below a.heap.size a wc:=d_ s.j bb;have av:=b.M;have bC:=S.size;have a1:qK x y=if U=true then t+1 else t:=by
    unfold qK;rw[<-a7.e,<-bm.e,ap.e];simp only[pA]
   have bi:=b.j.below S (by omega);have j:f_ (Below w.heap.size w wc/\jE wc (.agg #[.bool r,.slice m p n]) t (L+1)/\iw wc (w.heap.size+1+1) (.bool false) (.slice none 0 0)/\iw wc g.heap.size (.bool r) (.slice m p n)/\w.heap.size+3<=g.heap.size/\g.heap.size<wc.heap.size):=a_ ⟨b.B.trans (S.mono (by omega)),b.A.below S,bi,b.m.below S (by omega),by omega,by omega⟩;have bl:=a_ a1;clear bb S a1 ah am G F W ae aV aT bi av bC;obtain⟨W,ae,-,-⟩:=j.m.cells
   cases U
   .obtain⟨bD,bE,bA,bp⟩:=j.j.cells;go_wp2_with fail;obtain⟨aJ,aF,-,-⟩:=(j.j.put (.bool r) (.slice m p n)).cells;refine ig (v:=.agg #[.bool r,.slice m p n]) ?_ rfl ?_
    ·(simp[results,Tryz.results185,go_sem,aJ,aF];done)
    .refine⟨_,rfl,?_,(j.f.setCell (by simp;omega) _).setCell (by simp;omega) _⟩;have E:=j.g.s_ j.j (.bool r) (.slice m p n);rw[bl.e,if_neg (by simp)];exact E.mono (by omega)
   .go_upto_region 7 with fail
    go_region_with (first
     |(go_at_call 62;refine(mU).mono ?_;rintro X l⟨bg,rfl,A,i⟩;obtain⟨a6,a4,bj,ba,rfl⟩:=A.shape;have hbW5:Below wc.heap.size wc l:=(hP.drew).trans i;have bP:=(j.m.below hbW5 j.z).cells;clear i)
     |(go_at_call 67;refine(ny (j.g.below hbW5) A (by omega) (by omega)).mono ?_;rintro X q⟨aO,rfl,c,d⟩;obtain⟨ab,P,Z,ad,rfl⟩:=c.shape;have hbW6:Below wc.heap.size wc q:=d_ hbW5 d;have aM:=j.j.below hbW6 (by have:=j.x;omega);obtain⟨bD,bE,bA,bp⟩:=aM.cells;clear d))
    all_goals
     have aq:=hO c aM (j.f.trans (hbW6.mono (by have:=j.f.size;omega)));clear c aM hbW6;go_wp2_with fail;obtain⟨aJ,aF,-,-⟩:=(aq.g.put (.bool ab) (.slice P Z ad)).cells;refine ig (v:=.agg #[.bool ab,.slice P Z ad]) ?_ rfl ?_
     ·(simp[results,Tryz.results185,go_sem,aJ,aF];done)
     .refine⟨_,rfl,?_,(aq.l.setCell (by simp;omega) _).setCell (by simp;omega) _⟩;have E:=aq.f.s_ aq.g (.bool ab) (.slice P Z ad);rw[bl.e,if_pos trivial];exact E.mono (by omega)
theorem Dl(L n:Nat)(a:n<=4):LD L n<=4*L+12:=by
 obtain rfl|rfl|rfl|rfl|rfl:n=0\/n=1\/n=2\/n=3\/n=4:=by omega
 all_goals(simp only[LD];omega)
theorem H2{n c:Nat}{zs ms:List Int}(f:∀b a,b<c->a<n->e_ n e b a=e_ c zs a b)(h:nZ n c n zs e ms):Jn n ms (λb a=>Iq c (e_ c zs b) (e_ c zs a)):=by
 intro b a k d;have j:=h b a k d;rw[j];unfold Iq;rw[iD];exact iq c λg i=>by
  have:=f g a i d;rw[<-this];rfl
theorem pQ{v:Value}{r c n:Nat}{zs:List Int}{L:Nat}{w:World}(R:i_ w v r c zs L)(ak:n<=r)(K:n<=4)(aU:c<=4)(aF:L<=1000):Calls Tryz.prog 184 #[v,.int .i64 n] w λV e=>∃U,V=.returned U/\jD w e U (o2 c (e_ c zs) n) (8*L+40):=by
 have ai:=a_ R;obtain⟨aL,ab,aI,rfl,m⟩:=R;obtain⟨ac,an,rfl,-⟩:=m.shape;obtain⟨aC,B⟩:=hQ (r*c);rw[<-B]at m ai|-;have ap:=a_ B;have aq:=a_ m;clear m B;go_in;go_wp2_with fail;obtain⟨j,k⟩:=hQ ((w.alloc (.cells #[.int .i64 r,.int .i64 c,.slice ac aC an] 66)).alloc (.cells #[.bool false,.slice none 0 0] 79));have l:j.heap.size=w.heap.size+2:=by rw[k];simp
 have I:Below w.heap.size w j:=by rw[k];repeat(first|exact hP|refine ia ?_ (by simp<;>omega) _)
 have J:iw j (w.heap.size+1) (.bool false) (.slice none 0 0):=by rw[k];exact iw.new _ _ _ (by simp)
 rw[<-k];have o:=hO J I l;clear J I k l;go_fit (lV (by omega) ab (by rw[ap.e];exact jo c ak) (aq.e.below o.g));rintro V d⟨h,rfl,ah,E,t⟩;obtain⟨b,q⟩:=hQ (n*c);rw[<-q]at E|-;obtain⟨a,f⟩:=hQ (d.alloc (.cells #[.int .i64 n,.int .i64 c,.slice (some ⟨h,0,none⟩) b b] 66));have G:Below d.heap.size d a:=by rw[f];exact hS
 have M:=t.size;have l:=o.l;have Z:i_ a (.agg #[.int .i64 n,.int .i64 c,.slice (some ⟨h,0,none⟩) b b]) n c (zs.take b) L:=by
  refine⟨by omega,ab,.slice (some ⟨h,0,none⟩) b b,rfl,?_⟩;have i:=E.below G;rw[q]at i|-;exact i
 have W:a.heap[d.heap.size]?=some (.cells #[.int .i64 n,.int .i64 c,.slice (some ⟨h,0,none⟩) b b] 66 (0,0)):=by rw[f];exact iP d _
 have D:Below j.heap.size j a:=t.trans (G.mono M);have af:=a_ q;have am:=a_ f;have g:f_ (i_ a (.agg #[.int .i64 n,.int .i64 c,.slice (some ⟨h,0,none⟩) b b]) n c (zs.take b) L/\iw a (w.heap.size+1) (.bool false) (.slice none 0 0)/\Below w.heap.size w a/\w.heap.size+2<=d.heap.size/\d.heap.size<a.heap.size):=a_ ⟨Z,o.f.below D (by omega),o.g.trans (D.mono (by omega)),by omega,by rw[f];simp⟩;have aa:f_ (∀e,Below a.heap.size a e->e.cell? ⟨d.heap.size,0,none⟩=some (.int .i64 n)/\e.cell? ⟨d.heap.size,1,none⟩=some (.int .i64 c)/\e.cell? ⟨d.heap.size,2,none⟩=some (.slice (some ⟨h,0,none⟩) b b)):=a_ λe ay=>by
  have i:e.heap[d.heap.size]?=_:=(ay.block _ (by rw[f];simp)).trans W;refine⟨?_,?_,?_⟩<;>simp[World.cell?,i]
 clear E t q f G M l Z W D ah;go_upto_region 2 with fail
 rw[<-am.e];obtain⟨aH,aD,aV⟩:=aa.e a hP;go_region_with (first
  |(go_at_call 105;refine(ob (g.f.below hP.drew)).mono ?_;rintro X T⟨aR,aP,rfl,ag,aw,S⟩;have x:Below a.heap.size a T:=(hP.drew).trans S;obtain⟨aJ,aK,aG⟩:=aa.e T x;clear S)
  |(go_at_call 86;refine(mn (g.f.below x) ag (by omega)).mono ?_;rintro X ax⟨aN,rfl,⟨al,aA,C⟩,P⟩;have ae:Below a.heap.size a ax:=d_ x P;replace C:=H2 aw C;clear P)
  |(go_at_call 39;refine(y4 n _ al _ (L+L+1+c) _ aA C (by have:=Dl (L+L+1+c) n K;omega) (by omega)).mono ?_;rintro X az⟨aO,rfl,z,O⟩;obtain⟨s,A,u,F,rfl⟩:=z.shape;have y:Below a.heap.size a az:=d_ ae O;have H:=g.g.below y (by have:=g.o;omega);obtain⟨aS,aT,aM,aE⟩:=H.cells;clear O))
 all_goals
  have p:=hO z H (g.j.trans (y.mono (by have:=g.j.size;omega)));clear z H y;go_wp2_with fail;obtain⟨aj,ad,-,-⟩:=(p.g.put (.bool s) (.slice A u F)).cells;refine ig (v:=.agg #[.bool s,.slice A u F]) ?_ rfl ?_
  ·(simp[results,Tryz.results184,go_sem,aj,ad];done)
  .refine⟨_,rfl,?_,(p.l.setCell (by simp) _).setCell (by simp) _⟩;have i:=p.f.s_ p.g (.bool s) (.slice A u F);have aB:o2 c (e_ c zs) n=jn n (λQ N=>Iq c (e_ c (zs.take b) Q) (e_ c (zs.take b) N)):=by
    refine lH n _ _ (λQ N au av=>iq c λaQ Y=>?_);have ao:=jq au Y;have ar:=jq av Y;unfold e_;rw[af.e];simp[List.getD,ao,ar]
   rw[aB];exact i.mono (by have:=Dl (L+L+1+c) n K;omega)
theorem E8{n c:Nat}{zs ys ms:List Int}(f:∀b a,b<c->a<n->e_ n e b a=e_ c zs a b)(h:nZ n c n ys e ms):Jn n ms (λb a=>Iq c (e_ c ys b) (e_ c zs a)):=by
 intro b a k d;have j:=h b a k d;rw[j];unfold Iq;rw[iD];exact iq c λg i=>by
  have:=f g a i d;rw[<-this];rfl
theorem zT{v:Value}{r c row q:Nat}{zs:List Int}{L:Nat}{w:World}(aM:i_ w v r c zs L)(bg:row<r)(bZ:q<r)(bF:q<=3)(b3:c<=4)(bE:L<=1000):Calls Tryz.prog 183 #[v,.int .i64 row,.int .i64 q] w λb t=>∃ad,b=.returned ad/\jD w t ad (sM c (e_ c zs) row q) (8*L+40):=by
 have aD:=a_ aM;obtain⟨bP,O,bK,rfl,H⟩:=aM;obtain⟨R,ae,rfl,-⟩:=H.shape;obtain⟨aw,ag⟩:=hQ (r*c);rw[<-ag]at H aD|-;have aR:=a_ ag;have aS:=a_ H;obtain⟨a,aG⟩:=hQ (q+1);have bI:(q:Int)+1=(a:Nat):=by omega
 have bq:=a_ aG;have aA:a<=4:=by omega
 have aU:a<=r:=by omega
 have a2:q<a:=by omega
 clear H ag aG;go_in;go_wp2_with fail;obtain⟨k,A⟩:=hQ ((w.alloc (.cells #[.int .i64 r,.int .i64 c,.slice R aw ae] 66)).alloc (.cells #[.bool false,.slice none 0 0] 79));have Q:k.heap.size=w.heap.size+2:=by rw[A];simp
 have az:Below w.heap.size w k:=by rw[A];repeat(first|exact hP|refine ia ?_ (by simp<;>omega) _)
 have B:iw k (w.heap.size+1) (.bool false) (.slice none 0 0):=by rw[A];exact iw.new _ _ _ (by simp)
 have aL:x4 k w.heap.size 0 (.int .i64 r) (.int .i64 c) (.slice R aw ae):=by
  have f:k.heap[w.heap.size]?=some (.cells #[.int .i64 r,.int .i64 c,.slice R aw ae] 66 (0,0)):=by
   rw[A];exact((hS).block _ (by simp)).trans (iP w _)
  refine⟨?_,?_,?_⟩<;>simp[World.cell?,f]
 rw[<-A];have x:=hY B az Q aL;clear B az A Q aL;go_fit (lV (by omega) O (by rw[aR.e];exact jo c aU) (aS.e.below x.g));rintro b p⟨s,rfl,bc,am,T⟩;obtain⟨d,K⟩:=hQ (a*c);have a6:=a_ K;rw[<-K]at am|-;obtain⟨g,C⟩:=hQ (p.alloc (.cells #[.int .i64 a,.int .i64 c,.slice (some ⟨s,0,none⟩) d d] 66));have ar:Below p.heap.size p g:=by rw[C];exact hS
 have a7:=T.size;have Q:=x.j;have aT:i_ g (.agg #[.int .i64 a,.int .i64 c,.slice (some ⟨s,0,none⟩) d d]) a c (zs.take d) L:=by
  refine⟨by omega,O,.slice (some ⟨s,0,none⟩) d d,rfl,?_⟩;have f:=am.below ar;rw[K]at f|-;exact f
 have N:Below k.heap.size k g:=T.trans (ar.mono a7);have aY:x4 g p.heap.size 0 (.int .i64 a) (.int .i64 c) (.slice (some ⟨s,0,none⟩) d d):=by
  have f:g.heap[p.heap.size]?=some (.cells #[.int .i64 a,.int .i64 c,.slice (some ⟨s,0,none⟩) d d] 66 (0,0)):=by rw[C];exact iP p _
  refine⟨?_,?_,?_⟩<;>simp[World.cell?,f]
 have bQ:p.heap.size<g.heap.size:=by rw[C];simp
 have bk:=a_ C;have u:f_ (i_ g (.agg #[.int .i64 a,.int .i64 c,.slice (some ⟨s,0,none⟩) d d]) a c (zs.take d) L/\x4 g p.heap.size 0 (.int .i64 a) (.int .i64 c) (.slice (some ⟨s,0,none⟩) d d)/\Below k.heap.size k g/\Below w.heap.size w g):=a_ ⟨aT,aY,N,x.g.trans (N.mono (by omega))⟩;obtain⟨bd,aQ,aE⟩:=x.o.later N;simp only[jF]at aQ aE;clear am T K ar aT N bc aY C;go_upto_region 2 with fail
 rw[<-bk.e];go_wp2_with fail;go_fit (lV (by omega) O (by rw[aR.e];exact jo c aU) (aS.e.below u.o));rintro b i⟨n,rfl,bG,an,ac⟩;obtain⟨o,E⟩:=hQ (i.alloc (.cells #[.int .i64 a,.int .i64 c,.slice (some ⟨n,0,none⟩) (a*c) (a*c)] 66));have aq:Below i.heap.size i o:=by rw[E];exact hS
 have bB:=ac.size;have bJ:i.heap.size<o.heap.size:=by rw[E];simp
 have bT:n<i.heap.size:=an.ty.lt;have aC:iT o i.heap.size 0 n a c (zs.take (a*c)) L:=by
  refine⟨by omega,O,?_,an.below aq⟩;have f:o.heap[i.heap.size]?=some (.cells #[.int .i64 a,.int .i64 c,.slice (some ⟨n,0,none⟩) (a*c) (a*c)] 66 (0,0)):=by rw[E];exact iP i _
  refine⟨?_,?_,?_⟩<;>simp[World.cell?,f]
 have Y:Below g.heap.size g o:=ac.trans (aq.mono bB);have a8:=a_ E;have aK:f_ (iT o i.heap.size 0 n a c (zs.take (a*c)) L/\Below g.heap.size g o/\Below w.heap.size w o):=a_ ⟨aC,Y,u.o.trans (Y.mono (by omega))⟩;have bn:i.heap.size≠n:=by omega
 clear an ac E aq aC Y bd aQ aE;go_upto_region 3 with fail
 rw[<-a8.e];go_wp2_with fail;go_loopw [9] (λP wr=>∃(b:Nat) (D:List Int),b<=c/\P=.int .i64 b/\f_ (iT wr i.heap.size 0 n a c D L/\o.grownBy wr (some n)/\∀h e,h<a->e<c->e_ c D h e=if h=q/\e<b then e_ c zs row e else e_ c zs h e)) (λP _=>c-(intOf P).toNat)
 case atStart=>
  refine⟨0,_,hR,rfl,a_ ⟨aK.f,jM _ _,λh e F z=>?_⟩⟩;rw[if_neg (by omega)];unfold e_;have:=jq F z;simp[List.getD,this]
 case round=>
  rename World=>j;obtain⟨b,D,bO,rfl,l⟩:=hrel;have bY:=l.g.size;have I:Below g.heap.size g j:=aK.g.trans (iG l.g (by omega) (by omega));have aZ:Below w.heap.size w j:=u.o.trans (I.mono (by omega));have ap:Below k.heap.size k j:=u.j.trans (I.mono (by omega));obtain⟨bb,ay,aH⟩:=x.o.later ap;simp only[jF]at ay aH;have y:=hO aZ I ap;clear aZ I ap;by_cases ah:b<c
  .have bL:(b:Int)<(c:Int):=by omega
   go_wp2_with fail;go_fit (jy (aD.e.below y.f) bg ah);rintro M bv⟨ad,rfl,au,aB⟩;obtain⟨be,bl,bh,bw,rfl⟩:=au.shape;have aa:=hU bv (.cells #[.bool be,.slice bl bh bw] 79);have a0:=d_ aB aa;have W:=b_ a0 (au.below aa);clear au aB aa a0 bb ay aH;go_wp2_with fail;go_fit (oQ (l.f.later W.f) bn W.i a2 ah);rintro M bC⟨rfl,ax,aO,-⟩;have aX:=b_ ax (hZ (ib l.g W.f) aO);clear ax aO;go_wp2;go_roundw
   .refine⟨b+1,_,by omega,by go_num,a_ ⟨aX.f,aX.i,λh e F z=>?_⟩⟩;rw[kN D a c l.f.len q b h e _ a2 ah z];by_cases ab:h=q/\e=b
    .obtain⟨rfl,rfl⟩:=ab;rw[if_pos ⟨rfl,rfl⟩,if_pos ⟨rfl,by omega⟩];rfl
    .rw[if_neg ab,l.l h e F z];by_cases f:h=q/\e<b
     .rw[if_pos f,if_pos ⟨f.1,by omega⟩]
     .rw[if_neg f,if_neg (λG=>by
       rcases G with⟨m,a1⟩
       exact(by by_cases bf:e=b;exact ab ⟨m,bf⟩;exact f ⟨m,by omega⟩))]
   simp[intOf];omega
  .obtain rfl:b=c:=by omega
   have B:iw j (w.heap.size+1) (.bool false) (.slice none 0 0):=x.f.below y.l (by omega);obtain⟨bM,bj,aF⟩:=l.f.lX;obtain⟨bN,a4,bA⟩:=u.g.later y.g;simp only[jF]at bj aF a4 bA;have bz:=a_ B;have aV:f_ (∀t,Below j.heap.size j t->t.cell? ⟨i.heap.size,0,none⟩=some (.int .i64 a)/\t.cell? ⟨i.heap.size,1,none⟩=some (.int .i64 b)/\t.cell? ⟨i.heap.size,2,none⟩=some (.slice (some ⟨n,0,none⟩) (a*b) (a*b))):=a_ λt bt=>by
    obtain⟨f,G,m⟩:=l.f.lX.later bt;exact⟨f,by simpa using G,by simpa using m⟩
   clear B;obtain⟨bR,aW⟩:=hQ (a*b);have ak:=l.f.sv;rw[<-aW]at aF aV ak;have ba:=a_ ak;clear ak aW;go_upto_region 8 with fail
   go_region_with (first
    |(go_at_call 105;refine(ob ((u.f.below y.g).below hP.drew)).mono ?_;rintro M aP⟨b0,bW,rfl,a9,br,aN⟩;have V:Below j.heap.size j aP:=(hP.drew).trans aN;obtain⟨bH,bX,b4⟩:=aV.e aP V;clear aN)
    |(go_at_call 86;refine(mn (ba.e.below V) a9 (by omega)).mono ?_;rintro M bs⟨bU,rfl,⟨bi,bx,aj⟩,aJ⟩;have a5:Below j.heap.size j bs:=d_ V aJ;replace aj:=E8 br aj;clear aJ)
    |(go_at_call 39;refine(y4 a _ bi _ (L+L+1+b) _ bx aj (by have:=Dl (L+L+1+b) a aA;omega) (by omega)).mono ?_;rintro M bu⟨bV,rfl,Z,aI⟩;obtain⟨S,af,U,ao,rfl⟩:=Z.shape;have X:Below j.heap.size j bu:=d_ a5 aI;have av:=bz.e.below X (by omega);obtain⟨b1,b2,bS,bD⟩:=av.cells;clear aI))
   all_goals
    have J:=hO Z av (y.f.trans (X.mono (by have:=y.f.size;omega)));clear Z av X;go_wp2_with fail;obtain⟨bp,a3,-,-⟩:=(J.g.put (.bool S) (.slice af U ao)).cells;refine ig (v:=.agg #[.bool S,.slice af U ao]) ?_ rfl ?_
    ·(simp[results,Tryz.results183,go_sem,bp,a3];done)
    .refine⟨_,rfl,?_,(J.l.setCell (by simp) _).setCell (by simp) _⟩;have f:=J.f.s_ J.g (.bool S) (.slice af U ao);have G:sM b (e_ b zs) row q=jn a (λh e=>Iq b (e_ b D h) (e_ b (zs.take d) e)):=by
      unfold sM;rw[<-bq.e];refine lH a _ _ (λh e F z=>iq b λal ai=>?_);have bm:=l.l h al F ai;have bo:e_ b (zs.take d) e al=e_ b zs e al:=by
       have:=jq z ai;unfold e_;rw[a6.e];simp[List.getD,this]
      rw[bm,bo];by_cases m:h=q
      .rw[if_pos m,if_pos ⟨m,ai⟩]
      .rw[if_neg m,if_neg (λa1=>m a1.1)]
     rw[G];exact f.mono (by have:=Dl (L+L+1+b) a aA;omega)
theorem CA{v:Value}{r c row:Nat}{zs:List Int}{L:Nat}{w:World}(Z:i_ w v i c zs L)(V:i=r+1):Calls Tryz.prog 186 #[v,.int .i64 row] w λf ag=>∃e l,f=.returned (.agg #[.int .i64 r,.int .i64 c,.slice (some ⟨e,0,none⟩) (r*c) (r*c)])/\w.heap.size<=e/\iA ag (.slice (some ⟨e,0,none⟩) (r*c) (r*c)) (r*c) l L/\(∀a b,a<r->b<c->e_ c l a b=e_ c zs (if a<row then a else a+1) b)/\Below w.heap.size w ag:=by
 have U:=a_ Z;obtain⟨a3,ak,a0,rfl,T⟩:=Z;have aZ:(i:Int)-1=(r:Nat):=by omega
 have aS:=a_ V;have ap:r<=99:=by omega
 clear V;obtain⟨u,B,rfl,-⟩:=T.shape;clear T;obtain⟨z,ao⟩:=hQ (i*c);rw[<-ao]at U|-;clear ao;go_in;go_wp2_with fail;obtain⟨q,p⟩:=hQ ((w.alloc (.cells #[.int .i64 i,.int .i64 c,.slice u z B] 66)).alloc (.cells #[.int .i64 0,.int .i64 0,.slice none 0 0] 66));have aT:q.heap.size=w.heap.size+2:=by rw[p];simp
 have S:Below w.heap.size w q:=by rw[p];repeat(first|exact hP|refine ia ?_ (by simp<;>omega) _)
 have ai:jk q w.heap.size (.int .i64 i) (.int .i64 c) (.slice u z B):=by
  rw[p];exact jk.later (w:=w.alloc (.cells #[.int .i64 i,.int .i64 c,.slice u z B] 66)) ⟨fa _ _ _ _ _ rfl rfl,fa _ _ _ _ _ rfl rfl,fa _ _ _ _ _ rfl rfl⟩ hS
 have aj:q.heap[w.heap.size+1]?=some (.cells #[.int .i64 0,.int .i64 0,.slice none 0 0] 66 (0,0)):=by
  rw[p];have:=iP (w.alloc (.cells #[.int .i64 i,.int .i64 c,.slice u z B] 66)) (.cells #[.int .i64 0,.int .i64 0,.slice none 0 0] 66);simpa using this
 have A:=hO S ai aj;rw[<-p];clear S ai aj p;go_fit (kh ap ak);rintro f g⟨e,rfl,aX,O,G⟩;have aP:q.heap.size<=g.heap.size:=G.size;have aV:=O.ty.lt;have C:=hU g (.cells #[.int .i64 r,.int .i64 c,.slice (some ⟨e,0,none⟩) (r*c) (r*c)] 66);have F:x4 (g.alloc (.cells #[.int .i64 r,.int .i64 c,.slice (some ⟨e,0,none⟩) (r*c) (r*c)] 66)) g.heap.size 0 (.int .i64 r) (.int .i64 c) (.slice (some ⟨e,0,none⟩) (r*c) (r*c)):=⟨fa _ _ _ _ _ rfl rfl,fa _ _ _ _ _ rfl rfl,fa _ _ _ _ _ rfl rfl⟩;obtain⟨t,y⟩:=hQ (g.alloc (.cells #[.int .i64 r,.int .i64 c,.slice (some ⟨e,0,none⟩) (r*c) (r*c)] 66));have aW:t.heap.size=g.heap.size+1:=by rw[y];simp
 rw[<-y]at C F;have ah:=G.trans (C.mono aP);have n:=hO (show iT t g.heap.size 0 e r c (List.replicate (r*c) 0) L from⟨ap,ak,F,(O.mono hR).below C⟩) ah y;clear O G C F y ah;go_wp2_with fail;rw[<-n.l];have aL:g.heap.size≠e:=by omega
 go_loopw [6] (λa wr=>∃(d:Nat) (l:List Int),d<=r/\a=.int .i64 d/\f_ (iT wr g.heap.size 0 e r c l L/\t.grownBy wr (some e)/\∀a b,a<d->b<c->e_ c l a b=e_ c zs (if a<row then a else a+1) b)) (λa _=>r-(intOf a).toNat)
 case atStart=>exact⟨0,_,hR,rfl,a_ ⟨n.f,jM _ _,λa b ay=>by omega⟩⟩
 case round=>
  rename World=>k;obtain⟨d,l,aU,rfl,j⟩:=hrel;obtain⟨Y,E,P⟩:=j.f.lX;simp only[jF]at E P;by_cases ad:d<r
  .have aK:(d:Int)<(r:Int):=by omega
   obtain⟨x,H⟩:=hQ (if d<row then d else d+1);have av:x<i:=by have:=aS.e;rw[H];split<;>omega
   have K:=a_ H;clear H;go_upto_if 25 with fail
   go_cut [7]from 22 to 27 (λaR ar=>aR=.int .i64 x/\ar=k)
   case first=>
    by_cases af:d<row
    .have J:f_ (x=d):=a_ (by rw[K.e,if_pos af]);go_wp2_with fail;go_meet
     case rel=>exact⟨by rw[J.e],rfl⟩
    .have J:f_ (x=d+1):=a_ (by rw[K.e,if_neg af]);go_wp2_with fail;go_meet
     case rel=>exact⟨by rw[J.e];go_num,rfl⟩
   case rest=>
    obtain⟨rfl,rfl⟩:=hcut;clear Y E P;go_wp2_with fail;go_loopw [8] (λa wr=>∃(f:Nat) (s:List Int),f<=c/\a=.int .i64 f/\f_ (iT wr g.heap.size 0 e r c s L/\t.grownBy wr (some e)/\∀a b,a<=d->b<c->(a<d\/b<f)->e_ c s a b=e_ c zs (if a<row then a else a+1) b)) (λa _=>c-(intOf a).toNat)
    case atStart=>exact⟨0,l,hR,rfl,a_ ⟨j.f,j.g,λa b aI aG ay=>j.l a b (by omega) aG⟩⟩
    case round=>
     rename World=>au;obtain⟨f,s,a2,rfl,h⟩:=hrel;have aN:=(A.g.later n.g).grown h.g (by omega);obtain⟨ax,aq,az⟩:=aN;have al:Below w.heap.size w au:=(A.f.trans (n.g.mono (by omega))).trans (iG h.g (by omega) (by omega));have a5:=h.g.size;have aF:=a_ al;clear al;by_cases M:f<c
     .have aD:(f:Int)<(c:Int):=by omega
      go_wp2_with fail;go_fit (jy (U.e.below aF.e) av M);rintro aM aw⟨aI,rfl,Q,ac⟩;obtain⟨aB,aJ,aC,aO,rfl⟩:=Q.shape;have R:=hU aw (.cells #[.bool aB,.slice aJ aC aO] 79);have an:=d_ ac R;have I:=b_ an (Q.below R);clear Q ac R an ax aq az;go_wp2_with fail;go_fit (oQ (h.f.later I.f) aL I.i ad M);rintro aM a7⟨rfl,am,X,-⟩;have W:=b_ am (hZ (ib h.g I.f) X);clear am X;go_wp2;go_roundw
      .refine⟨f+1,_,by omega,by go_num,a_ ⟨W.f,W.i,λa b N o a1=>?_⟩⟩;rw[kN s r c h.f.len d f a b _ ad M o];by_cases aa:a=d/\b=f
       .obtain⟨rfl,rfl⟩:=aa;rw[if_pos ⟨rfl,rfl⟩,<-K.e];rfl
       .rw[if_neg aa];exact h.l a b N o (by omega)
      simp[intOf];omega
     .have aD:¬(f:Int)<(c:Int):=by omega
      go_wp2;go_roundw;exact⟨d+1,s,by omega,by go_num,a_ ⟨h.f,h.g,λa b N o=>h.l a b (by omega) o (by omega)⟩⟩;simp[intOf];omega
  .have aK:¬(d:Int)<(r:Int):=by omega
   have m:k.heap[w.heap.size+1]?=some (.cells #[.int .i64 0,.int .i64 0,.slice none 0 0] 66 (0,0)):=((j.g.block _ (by omega) (λf=>by injection f with f;omega)).trans (n.g.block _ (by omega))).trans A.l;have aQ:k.cell? ⟨w.heap.size+1,0,none⟩=some (.int .i64 0):=by simp[World.cell?,m]
   have aA:k.cell? ⟨w.heap.size+1,1,none⟩=some (.int .i64 0):=by simp[World.cell?,m]
   have aE:k.cell? ⟨w.heap.size+1,2,none⟩=some (.slice none 0 0):=by simp[World.cell?,m]
   have aY:∀ab,k.frozen? ⟨w.heap.size+1,ab,none⟩=false:=λab=>by simp[World.frozen?,m]
   have aH:f_ (Ty k (w.heap.size+1) 66):=a_ ⟨_,_,m⟩;clear Y E P;obtain⟨a6,a8,a4⟩:=j.f.lX;clear m;go_wp2_with fail;refine ig (v:=.agg #[.int .i64 r,.int .i64 c,.slice (some ⟨e,0,none⟩) (r*c) (r*c)]) ?_ rfl ?_
   ·(simp[results,Tryz.results186,go_sem,aQ,aA,aE];done)
   .have D:=HR aH.e (by decide) (.int .i64 r) (.int .i64 c) (.slice (some ⟨e,0,none⟩) (r*c) (r*c));have ae:Below w.heap.size w k:=(A.f.trans (n.g.mono (by omega))).trans (iG j.g (by omega) (by omega));exact⟨e,rfl,by omega,l,j.f.kA.s4 D.2 D.1 (by omega),λa b N o=>j.l a b (by omega) o,ae.trans (iG D.2 (by omega) ae.size)⟩
theorem Aa(k:Nat)(w:World):Own (w.alloc (.cells #[.int .u32 (k:Nat),.int .u32 0] 144)) (.slice (some ⟨w.heap.size,0,none⟩) 2 2) [k,0]:=by
 have:=uS (base:=0) (e:=144) (size:=1) w #[.int .u32 (k:Nat),.int .u32 0] 2 hR (by simp[maxLen]) rfl;simpa[Own,il]using this
theorem s8{w:World}:Calls Tryz.prog 62 #[.int .i64 4] w λg f=>∃e,g=.returned e/\jD w f e 4 2:=by
 go_in;go_wp2_with fail;go_fit (@mN _ [4,0] _ ?_ (by intro n h;simp at h;omega))
 .have:=Aa 4 (w.alloc (.cells #[.bool false,.slice none 0 0] 79));simpa using this
 rintro g f⟨⟨e,rfl,j⟩,rfl⟩;obtain⟨i,b,c,d,a⟩:=j;obtain⟨l,k,rfl,-⟩:=a.open_;have m:=hY b c d a;clear b c d a;go_wp2_with fail;refine ig (v:=.agg #[.bool false,.slice l i.length k]) ?_ rfl ?_
 ·(simp[results,Tryz.results62,go_sem];done)
 .obtain⟨b,c,d,a⟩:=m.e;refine⟨_,rfl,jE.mk' (by simp) b (by rw[c];simp[val]) (by simpa using d) (a.hV (yf _ _ _ _)),?_⟩;repeat(first|exact hP|refine ia ?_ (by simp<;>omega) _)
theorem xd{w:World}:Calls Tryz.prog 62 #[.int .i64 3] w λg f=>∃e,g=.returned e/\jD w f e 3 2:=by
 go_in;go_wp2_with fail;go_fit (@mN _ [3,0] _ ?_ (by intro n h;simp at h;omega))
 .have:=Aa 3 (w.alloc (.cells #[.bool false,.slice none 0 0] 79));simpa using this
 rintro g f⟨⟨e,rfl,j⟩,rfl⟩;obtain⟨i,b,c,d,a⟩:=j;obtain⟨l,k,rfl,-⟩:=a.open_;have m:=hY b c d a;clear b c d a;go_wp2_with fail;refine ig (v:=.agg #[.bool false,.slice l i.length k]) ?_ rfl ?_
 ·(simp[results,Tryz.results62,go_sem];done)
 .obtain⟨b,c,d,a⟩:=m.e;refine⟨_,rfl,jE.mk' (by simp) b (by rw[c];simp[val]) (by simpa using d) (a.hV (yf _ _ _ _)),?_⟩;repeat(first|exact hP|refine ia ?_ (by simp<;>omega) _)
theorem BI{v:Value}{r c:Nat}{zs:List Int}{L:Nat}{w:World}(f:i_ w v r c zs L):Calls Tryz.prog 126 #[v,.int .i64 0] w λe d=>e=.returned (.bool true)/\Below w.heap.size w d:=by
 obtain⟨h,i,l,rfl,b⟩:=f;obtain⟨k,j,rfl,-⟩:=b.shape;obtain⟨g,a⟩:=hQ (r*c);rw[<-a];clear b a;go_in;go_wp2;go_ret;exact⟨rfl,hS⟩
abbrev tv(c:Nat)(b:Nat->Nat->Int)(k:Nat):Prop:=¬((o2 c b (k+2)*o2 c b k+sM c b (k+1) k*sM c b (k+1) k)*4).natAbs<(o2 c b (k+1)*o2 c b (k+1)*3).natAbs
theorem mc(v:Value)(r c k:Nat)(zs:List Int)(L:Nat)(w:World)(bW:i_ w v r c zs L)(cR:k+1<r)(c3:k<=2)(aM:c<=4)(aD:L<=1000)(row:Nat)(bV:row=k+1):Calls Tryz.prog 126 #[v,.int .i64 row] w λA d=>∃aI:Bool,A=.returned (.bool aI)/\(aI=true↔tv c (e_ c zs) k)/\Below w.heap.size w d:=by
 have ac:=a_ bW;obtain⟨cM,cW,cG,rfl,bP⟩:=bW;obtain⟨aO,bd,rfl,-⟩:=bP.shape;obtain⟨aX,b5⟩:=hQ (r*c);rw[<-b5]at ac|-;clear bP b5;obtain⟨ae,bS⟩:=hQ (k+2);have cT:(row:Int)+1=(ae:Nat):=by omega
 have cB:(row:Int)-1=(k:Nat):=by omega
 have cY:((row:Int)==0)=false:=by simp;omega
 have cr:=b_ bV bS;have ct:ae<=r:=by omega
 have cf:ae<=4:=by omega
 have cv:row<=r:=by omega
 have cg:row<r:=by omega
 have b7:row<=4:=by omega
 have ca:k<=r:=by omega
 have cj:k<r:=by omega
 clear bS bV;obtain⟨b,aH⟩:=hQ (8*L+40);have c1:b<=8040:=by omega
 go_in;go_wp2_with fail;obtain⟨m,aA⟩:=hQ (w.alloc (.cells #[.int .i64 r,.int .i64 c,.slice aO aX bd] 66));have bL:Below w.heap.size w m:=by rw[aA];exact hS
 have bJ:m.heap.size=w.heap.size+1:=by rw[aA];simp
 have bU:x4 m w.heap.size 0 (.int .i64 r) (.int .i64 c) (.slice aO aX bd):=by
  have P:m.heap[w.heap.size]?=some (.cells #[.int .i64 r,.int .i64 c,.slice aO aX bd] 66 (0,0)):=by rw[aA];exact iP w _
  refine⟨?_,?_,?_⟩<;>simp[World.cell?,P]
 rw[<-aA];have D:=hO bL bJ bU;clear bL bJ bU aA;go_fit (pQ (ac.e.below D.f) ct cf aM aD);rintro A u⟨cC,rfl,bg,aW⟩;obtain⟨H,J,S,T,rfl⟩:=bg.shape;obtain⟨t,Z⟩:=hQ (u.alloc (.cells #[.bool H,.slice J S T] 79));have Y:Below u.heap.size u t:=by rw[Z];exact hS
 have bm:Below m.heap.size m t:=d_ aW Y;have cw:u.heap.size<t.heap.size/\m.heap.size<=u.heap.size:=⟨by rw[Z];simp,aW.size⟩;have aa:f_ (iw t u.heap.size (.bool H) (.slice J S T)/\jE t (.agg #[.bool H,.slice J S T]) (o2 c (e_ c zs) ae) b/\Below m.heap.size m t):=a_ ⟨by rw[Z];exact iw.new u _ _ rfl,by rw[aH];exact bg.below Y,bm⟩;have ck:=a_ Z;obtain⟨y,n,F⟩:=D.l.later bm;simp only[jF]at n F;clear bg aW Y bm Z;go_upto_region 4 with fail
 rw[<-ck.e];go_wp2_with fail;go_fit (pQ ((ac.e.below D.f).below aa.l) cv b7 aM aD);rintro A C⟨cI,rfl,ba,a9⟩;obtain⟨ad,aj,av,ay,rfl⟩:=ba.shape;obtain⟨q,ah⟩:=hQ (C.alloc (.cells #[.bool ad,.slice aj av ay] 79));have bG:Below C.heap.size C q:=by rw[ah];exact hS
 have bh:Below t.heap.size t q:=d_ a9 bG;have c4:C.heap.size<q.heap.size/\t.heap.size<=C.heap.size:=⟨by rw[ah];simp,a9.size⟩;have M:f_ (iw q C.heap.size (.bool ad) (.slice aj av ay)/\jE q (.agg #[.bool ad,.slice aj av ay]) (o2 c (e_ c zs) row) b/\Below t.heap.size t q/\Below m.heap.size m q):=a_ ⟨by rw[ah];exact iw.new C _ _ rfl,by rw[aH];exact ba.below bG,bh,aa.l.trans (bh.mono (by omega))⟩;have cc:=a_ ah;clear ba a9 bG bh ah y n F;obtain⟨y,n,F⟩:=D.l.later M.o;simp only[jF]at n F;go_upto_region 5 with fail
 rw[<-cc.e];go_wp2_with fail;go_fit (pQ ((ac.e.below D.f).below M.o) ca (by omega) aM aD);rintro A x⟨cQ,rfl,aT,aU⟩;obtain⟨I,R,N,O,rfl⟩:=aT.shape;obtain⟨s,ak⟩:=hQ (x.alloc (.cells #[.bool I,.slice R N O] 79));have a5:Below x.heap.size x s:=by rw[ak];exact hS
 have bj:Below q.heap.size q s:=d_ aU a5;have c0:x.heap.size<s.heap.size/\q.heap.size<=x.heap.size:=⟨by rw[ak];simp,aU.size⟩;have K:f_ (iw s x.heap.size (.bool I) (.slice R N O)/\jE s (.agg #[.bool I,.slice R N O]) (o2 c (e_ c zs) k) b/\Below q.heap.size q s/\Below m.heap.size m s):=a_ ⟨by rw[ak];exact iw.new x _ _ rfl,by rw[aH];exact aT.below a5,bj,M.o.trans (bj.mono (by omega))⟩;have ci:=a_ ak;clear aT aU a5 bj ak y n F;obtain⟨y,n,F⟩:=D.l.later K.o;simp only[jF]at n F;go_upto_region 6 with fail
 rw[<-ci.e];go_wp2_with fail;go_fit (zT ((ac.e.below D.f).below K.o) cg cj (by omega) aM aD);rintro A G⟨c2,rfl,a6,bf⟩;obtain⟨a4,bn,aY,bA,rfl⟩:=a6.shape;obtain⟨B,af⟩:=hQ (G.alloc (.cells #[.bool a4,.slice bn aY bA] 79));have a2:Below G.heap.size G B:=by rw[af];exact hS
 have aZ:Below s.heap.size s B:=d_ bf a2;have cV:G.heap.size<B.heap.size/\s.heap.size<=G.heap.size:=⟨by rw[af];simp,bf.size⟩;have X:f_ (iw B G.heap.size (.bool a4) (.slice bn aY bA)/\jE B (.agg #[.bool a4,.slice bn aY bA]) (sM c (e_ c zs) row k) b/\Below s.heap.size s B/\Below m.heap.size m B):=a_ ⟨by rw[af];exact iw.new G _ _ rfl,by rw[aH];exact a6.below a2,aZ,K.o.trans (aZ.mono (by omega))⟩;have cl:=a_ af;clear a6 bf a2 aZ af y n F;obtain⟨y,n,-,-⟩:=X.f.cells;go_upto_region 7 with fail
 rw[<-cl.e];go_wp2_with fail;go_fit (j0 X.g X.g (by omega) (by omega));rintro A z⟨cP,rfl,j,l⟩;obtain⟨ai,ag,aq,ao,rfl⟩:=j.shape;obtain⟨a,au⟩:=hQ (z.alloc (.cells #[.bool ai,.slice ag aq ao] 79));have bI:Below z.heap.size z a:=by rw[au];exact hS
 have bs:Below B.heap.size B a:=d_ l bI;have cd:z.heap.size<a.heap.size/\B.heap.size<=z.heap.size:=⟨by rw[au];simp,l.size⟩;have aN:Below s.heap.size s a:=X.j.trans (bs.mono (by omega));have aK:Below q.heap.size q a:=K.j.trans (aN.mono (by omega));have bi:Below t.heap.size t a:=M.j.trans (aK.mono (by omega));obtain⟨bc,bH⟩:=hQ (o2 c (e_ c zs) ae);obtain⟨bD,bo⟩:=hQ (o2 c (e_ c zs) row);obtain⟨bz,bk⟩:=hQ (o2 c (e_ c zs) k);obtain⟨U,bC⟩:=hQ (sM c (e_ c zs) row k);have o:f_ (iw a u.heap.size (.bool H) (.slice J S T)/\iw a C.heap.size (.bool ad) (.slice aj av ay)/\iw a x.heap.size (.bool I) (.slice R N O)/\iw a z.heap.size (.bool ai) (.slice ag aq ao)/\jE a (.agg #[.bool H,.slice J S T]) bc b/\jE a (.agg #[.bool ad,.slice aj av ay]) bD b/\jE a (.agg #[.bool I,.slice R N O]) bz b/\jE a (.agg #[.bool ai,.slice ag aq ao]) (U*U) (b+b)/\Below w.heap.size w a):=
  a_ ⟨aa.f.below bi (by omega),M.f.below aK (by omega),K.f.below aN (by omega),by rw[au];exact iw.new z _ _ rfl,by rw[bH];exact aa.g.below bi,by rw[bo];exact M.g.below aK,by rw[bk];exact K.g.below aN,by rw[bC];exact j.below bI,D.f.trans ((X.o.trans (bs.mono (by omega))).mono (by have:=D.g;omega))⟩
 have a3:u.heap.size<a.heap.size/\C.heap.size<a.heap.size/\x.heap.size<a.heap.size:=by omega
 have ce:=a_ au;have co:=hY bH bo bk bC;clear j l bI bs au y n aN aK bi bH bo bk bC aa M K X;have cq:f_ (∀d,Below a.heap.size a d->d.cell? ⟨u.heap.size,0,none⟩=some (.bool H)/\d.cell? ⟨u.heap.size,1,none⟩=some (.slice J S T)/\d.cell? ⟨x.heap.size,0,none⟩=some (.bool I)/\d.cell? ⟨x.heap.size,1,none⟩=some (.slice R N O)/\d.cell? ⟨z.heap.size,0,none⟩=some (.bool ai)/\d.cell? ⟨z.heap.size,1,none⟩=some (.slice ag aq ao)):=a_ λd aw=>by
  obtain⟨y,n,-,-⟩:=(o.f.below aw a3.1).cells;obtain⟨bB,bw,-,-⟩:=(o.j.below aw a3.2.2).cells;obtain⟨cm,cu,-,-⟩:=(o.m.below aw cd.1).cells;exact⟨y,n,bB,bw,cm,cu⟩
 go_upto_region 8 with fail
 rw[<-ce.e];go_cut [10]from 34 to 38 (λa8 aP=>px a (bc*bz+U*U) (2*b+1) a8 aP)
 case first=>
  go_region_held3 (λd=>d.cell? ⟨u.heap.size,0,none⟩=some (.bool H)/\d.cell? ⟨u.heap.size,1,none⟩=some (.slice J S T)/\d.cell? ⟨x.heap.size,0,none⟩=some (.bool I)/\d.cell? ⟨x.heap.size,1,none⟩=some (.slice R N O)/\d.cell? ⟨z.heap.size,0,none⟩=some (.bool ai)/\d.cell? ⟨z.heap.size,1,none⟩=some (.slice ag aq ao)) (exact cq.e _ (by first|exact hbW6|exact hbW6.alloc hbW6.size _|exact(hbW6.setCell c_ _).setCell c_ _|exact(hbW6.setCell hw5s _).setCell hw5s _|exact hbW5|exact hbW5.alloc hbW5.size _|exact hP.drew|exact(hS).drew)) (first
    |(go_at_call 65;refine(j0 (o.r.below (hP.drew)) (o.A.below (hP.drew)) (by omega) (by omega)).mono ?_;rintro E h⟨bt,rfl,j,l⟩;obtain⟨bv,bF,bx,aV,rfl⟩:=j.shape;have hbW5:Below a.heap.size a h:=(hP.drew).trans l;clear l)
    |(go_at_call 65;refine(j0 (o.r.below ((hS).drew)) (o.A.below ((hS).drew)) (by omega) (by omega)).mono ?_;rintro E h⟨bt,rfl,j,l⟩;obtain⟨bv,bF,bx,aV,rfl⟩:=j.shape;have hbW5:Below a.heap.size a h:=((hS).drew).trans (l.mono (by simp));have az:iw h a.heap.size (.bool false) (.slice none 0 0):=iw.below (iw.drew (iw.jg a)) l (by simp);clear l)
    |(go_at_call 67;refine(ny j (o.B.below hbW5) (by omega) (by omega)).mono ?_;rintro E p⟨an,rfl,f,e⟩;obtain⟨ax,al,ar,ab,rfl⟩:=f.shape;replace f:=f.mono (show max (b+b) (b+b)+1<=2*b+1 by omega);have hbW6:Below a.heap.size a p:=d_ hbW5 e;have i:iw p a.heap.size (.bool false) (.slice none 0 0):=az.below e (jt.1 az).1;have aR:=i.cells;clear e)
    |(go_at_call 67;refine(ny j (o.B.below hbW5) (by omega) (by omega)).mono ?_;rintro E p⟨an,rfl,f,e⟩;obtain⟨ax,al,ar,ab,rfl⟩:=f.shape;replace f:=f.mono (show max (b+b) (b+b)+1<=2*b+1 by omega);have hbW6:Below a.heap.size a p:=d_ hbW5 e;clear e)
    |(go_at_call 67;refine(ny (j.below (hU h _)) ((o.B.below hbW5).below (hU h _)) (by omega) (by omega)).mono ?_;rintro E p⟨an,rfl,f,e⟩;obtain⟨ax,al,ar,ab,rfl⟩:=f.shape;replace f:=f.mono (show max (b+b) (b+b)+1<=2*b+1 by omega);have hbW6:Below a.heap.size a p:=hbW5.trans (((hU h _).trans (e.mono (by simp))).mono hbW5.size);have hw5s:=hbW5.size;have i:iw p h.heap.size (.bool false) (.slice none 0 0):=iw.below (iw.jg h) e (by simp);have aR:=i.cells;clear e))
  all_goals
   go_wp2_with fail;go_meet
   case rel=>
    first
     |exact⟨_,_,_,_,_,rfl,hbW6.size,iw.new _ _ _ rfl,f.below hS,hbW6.alloc hbW6.size _⟩
     |exact⟨_,_,_,_,_,rfl,c_,i.put _ _,f.s_ i _ _,(hbW6.setCell c_ _).setCell c_ _⟩
     |exact⟨_,_,_,_,_,rfl,hw5s,i.put _ _,f.s_ i _ _,(hbW6.setCell hw5s _).setCell hw5s _⟩
 case rest=>
  rename World=>g;obtain⟨V,aG,aE,aJ,aC,rfl,cU,i,a7,e⟩:=hcut;obtain⟨aL,bl⟩:=hQ (bc*bz+U*U);rw[<-bl]at a7;have cs:=a_ bl;have b8:V<g.heap.size:=(jt.1 i).1;have am:f_ (iw g V (.bool aG) (.slice aE aJ aC)/\jE g (.agg #[.bool aG,.slice aE aJ aC]) aL (2*b+1)/\Below a.heap.size a g):=a_ ⟨i,a7,e⟩;have ch:f_ (∀d,Below g.heap.size g d->d.cell? ⟨V,0,none⟩=some (.bool aG)/\d.cell? ⟨V,1,none⟩=some (.slice aE aJ aC)):=a_ λd aw=>by
   obtain⟨y,n,-,-⟩:=(am.f.below aw b8).cells;exact⟨y,n⟩
  clear i a7 e bl;go_upto_region 9 with fail
  go_cut [11]from 39 to 41 (λa8 aP=>px g (aL*4) (2*b+3) a8 aP)
  case first=>
   go_region_held3 (λd=>d.cell? ⟨V,0,none⟩=some (.bool aG)/\d.cell? ⟨V,1,none⟩=some (.slice aE aJ aC)) (exact ch.e _ (by first|exact hbW6|exact hbW6.alloc hbW6.size _|exact(hbW6.setCell c_ _).setCell c_ _|exact(hbW6.setCell hw5s _).setCell hw5s _|exact hbW5|exact hbW5.alloc hbW5.size _|exact hP.drew|exact(hS).drew)) (first
     |(go_at_call 62;refine(s8).mono ?_;rintro E h⟨bt,rfl,j,l⟩;obtain⟨bv,bF,bx,aV,rfl⟩:=j.shape;have hbW5:Below g.heap.size g h:=(hP.drew).trans l;clear l)
     |(go_at_call 62;refine(s8).mono ?_;rintro E h⟨bt,rfl,j,l⟩;obtain⟨bv,bF,bx,aV,rfl⟩:=j.shape;have hbW5:Below g.heap.size g h:=((hS).drew).trans (l.mono (by simp));have az:iw h g.heap.size (.bool false) (.slice none 0 0):=iw.below (iw.drew (iw.jg g)) l (by simp);clear l)
     |(go_at_call 65;refine(j0 (am.g.below hbW5) j (by omega) (by omega)).mono ?_;rintro E p⟨an,rfl,f,e⟩;obtain⟨ax,al,ar,ab,rfl⟩:=f.shape;have hbW6:Below g.heap.size g p:=d_ hbW5 e;have i:iw p g.heap.size (.bool false) (.slice none 0 0):=az.below e (jt.1 az).1;have aR:=i.cells;clear e)
     |(go_at_call 65;refine(j0 (am.g.below hbW5) j (by omega) (by omega)).mono ?_;rintro E p⟨an,rfl,f,e⟩;obtain⟨ax,al,ar,ab,rfl⟩:=f.shape;have hbW6:Below g.heap.size g p:=d_ hbW5 e;clear e)
     |(go_at_call 65;refine(j0 ((am.g.below hbW5).below (hU h _)) (j.below (hU h _)) (by omega) (by omega)).mono ?_;rintro E p⟨an,rfl,f,e⟩;obtain⟨ax,al,ar,ab,rfl⟩:=f.shape;have hbW6:Below g.heap.size g p:=hbW5.trans (((hU h _).trans (e.mono (by simp))).mono hbW5.size);have hw5s:=hbW5.size;have i:iw p h.heap.size (.bool false) (.slice none 0 0):=iw.below (iw.jg h) e (by simp);have aR:=i.cells;clear e))
   all_goals
    go_wp2_with fail;go_meet
    case rel=>
     first
      |exact⟨_,_,_,_,_,rfl,hbW6.size,iw.new _ _ _ rfl,f.below hS,hbW6.alloc hbW6.size _⟩
      |exact⟨_,_,_,_,_,rfl,c_,i.put _ _,f.s_ i _ _,(hbW6.setCell c_ _).setCell c_ _⟩
      |exact⟨_,_,_,_,_,rfl,hw5s,i.put _ _,f.s_ i _ _,(hbW6.setCell hw5s _).setCell hw5s _⟩
  case rest=>
   rename World=>Q;obtain⟨bR,bQ,bN,bY,b1,rfl,cN,a0,b0,bT⟩:=hcut;have cb:bR<Q.heap.size:=(jt.1 a0).1;have bb:Below a.heap.size a Q:=d_ am.l bT;obtain⟨bB,bw,-,-⟩:=(o.g.below bb a3.2.1).cells;have W:f_ (iw Q bR (.bool bQ) (.slice bN bY b1)/\jE Q (.agg #[.bool bQ,.slice bN bY b1]) (aL*4) (2*b+3)/\Below a.heap.size a Q):=a_ ⟨a0,b0,bb⟩;clear a0 b0 bT bb;go_wp2_with fail;go_fit (j0 (o.y.below W.l) (o.y.below W.l) (by omega) (by omega));rintro A cK⟨cD,rfl,br,bX⟩;obtain⟨c5,cH,cL,cE,rfl⟩:=br.shape;have bZ:=b_ br bX;clear br bX bB bw;go_wp2_with fail;go_fit (xd);rintro A cF⟨cx,rfl,bE,aQ⟩;obtain⟨cO,cA,cS,cy,rfl⟩:=bE.shape;have aF:=hO bE aQ (d_ bZ.i aQ);clear bE aQ;go_wp2_with fail;go_fit (j0 (bZ.f.below aF.g) aF.f (by omega) (by omega));rintro A ap⟨cz,rfl,bq,b3⟩;obtain⟨bK,bM,b6,bO,rfl⟩:=bq.shape;obtain⟨be,aB⟩:=hQ (ap.alloc (.cells #[.bool bK,.slice bM b6 bO] 79));have aS:Below ap.heap.size ap be:=by rw[aB];exact hS
   have bu:Below Q.heap.size Q be:=aF.l.trans ((d_ b3 aS).mono aF.l.size);obtain⟨y,n,-,-⟩:=(W.f.below bu cb).cells;have b2:iw be ap.heap.size (.bool bK) (.slice bM b6 bO):=by rw[aB];exact iw.new ap _ _ rfl
   obtain⟨cZ,cJ,-,-⟩:=b2.cells;have bp:=b_ (bq.below aS) bu;have cp:=a_ aB;clear bq b3 aS bu b2 aB;go_upto_region 11 with fail
   rw[<-cp.e];go_wp2_with fail;go_fit (oX (W.g.below bp.i) bp.f);rintro A cX⟨rfl,Y⟩;obtain⟨aI,a1⟩:=hQ (decide ((aL*4).natAbs<(bD*bD*3).natAbs));rw[<-a1];have b9:=a_ a1;have cn:=a_ (o.M.trans ((W.l.trans ((d_ bp.i Y).mono W.l.size)).mono (by have:=o.M.size;omega)));clear a1 Y;go_wp2;go_ret;refine⟨!aI,rfl,?_,cn.e⟩;unfold tv;have P:=co.e;have b4:=cr.e;rw[b4.1,b4.2]at P;rw[<-P.1,<-P.2.1,<-P.2.2.1,<-P.2.2.2,<-cs.e,b9.e];simp
structure Cw (w:World) (p gR gT n c m:Nat) (zs ts:List Int) (L K:Nat):Prop where
 R:iT w p 0 gR n c zs L
 T:iT w p 3 gT n m ts K
 d1:p≠gR
 d2:p≠gT
 d3:gR≠gT
theorem Cw.later{w:World}{p n c m L K:Nat}{zs ts:List Int}(h:Cw w p i j n c m zs ts L K)(a:Below w.heap.size w v):Cw v p i j n c m zs ts L K:=⟨h.R.later a,h.T.later a,h.d1,h.d2,h.d3⟩
def EW:Nat->Nat
 |0=>6
 |a+1=>9*EW a+45
theorem Jy{j:Nat}(a:j<=2):EW j<=936:=by
 obtain rfl|rfl|rfl:j=0\/j=1\/j=2:=by omega
 all_goals decide
theorem BV{p n c m k:Nat}{zs ts:List Int}{K:Nat}{w:World}(h:Cw w p i l n c m zs ts 6 K)(Q:k<n)(bm:k<=3)(a1:c<=4)(bq:K<=100000000)(aQ:∀a,a<k->0<o2 c (jQ c k (e_ c zs) a) (k-1-a+1)):Calls Tryz.prog 123 #[.pointer (some ⟨p,0,none⟩),.int .i64 k] w λq B=>q=.returned (.tuple #[])/\∃V Z,Cw B p i l n c m V Z (EW k) (K+EW k)/\(∀b a,b<n->a<c->e_ c V b a=jQ c k (e_ c zs) k b a)/\(∀b a,b<n->a<m->e_ m Z b a=pe c k (e_ c zs) (e_ m ts) k b a)/\jv w B i l l:=by
 have N:=b_ h aQ;clear h aQ;go_in;go_wp2_with fail;go_loopw [4] (λaj wr=>∃(a:Nat) (V Z:List Int),a<=k/\aj=.int .i64 ((k:Int)-1-a)/\f_ (Cw wr p i l n c m V Z (EW a) (K+EW a)/\(∀b d,b<n->d<c->e_ c V b d=jQ c k (e_ c zs) a b d)/\(∀b d,b<n->d<m->e_ m Z b d=pe c k (e_ c zs) (e_ m ts) a b d)/\jv w wr i l l)) (λaj _=>(intOf aj+1).toNat)
 case atStart=>
  refine⟨0,zs,ts,hR,by simp,a_ ⟨⟨N.f.R,N.f.T.mono (by omega),N.f.d1,N.f.d2,N.f.d3⟩,λ_ _ _ _=>rfl,λ_ _ _ _=>rfl,jv.refl _ _ _ _⟩⟩
 case round=>
  rename World=>wr;obtain⟨a,I,aD,bu,rfl,e⟩:=hrel;by_cases bc:a<k
  .obtain⟨t,aZ⟩:=hQ (k-1-a);have aO:(k:Int)-1-a=(t:Nat):=by omega
   have ae:=a_ aZ;have bv:t<k:=by omega
   have a9:(t:Int)+1=((t+1:Nat):Int):=by omega
   have a4:=Jy (j:=a) (by omega);obtain⟨y,ag⟩:=hQ (EW a);rw[<-ag]at e a4;have a2:=a_ ag;clear aZ ag;rw[aO];obtain⟨R,aH⟩:=hQ (t+1);rw[<-aH]at a9;have aR:=a_ aH;have bg:R<=n:=by omega
   have bd:R<=4:=by omega
   clear aO aH;obtain⟨bs,av⟩:=hQ (n*c);have af:=e.f.R.sv;have a3:=e.f.R.lX;rw[<-av]at af a3;obtain⟨am,Y,M⟩:=a3;simp only[jF]at Y M;have aN:=a_ af;have a6:=a_ av;clear af av;go_wp2_with fail;go_fit (zT aN.e Q (by omega) (by omega) a1 (by omega));rintro q C⟨bp,rfl,aw,al⟩;obtain⟨ah,ak,aE,aF,rfl⟩:=aw.shape;obtain⟨s,S⟩:=hQ (C.alloc (.cells #[.bool ah,.slice ak aE aF] 79));have aK:Below C.heap.size C s:=by rw[S];exact hS
   have aU:Below wr.heap.size wr s:=d_ al aK;have a7:C.heap.size<s.heap.size/\wr.heap.size<=C.heap.size:=⟨by rw[S];simp,al.size⟩;have L:f_ (iw s C.heap.size (.bool ah) (.slice ak aE aF)/\jE s (.agg #[.bool ah,.slice ak aE aF]) (sM c (e_ c I) k t) (8*y+40)/\Below wr.heap.size wr s):=a_ ⟨by rw[S];exact iw.new C _ _ rfl,aw.below aK,aU⟩;have bf:=a_ S;clear aw al aK aU S am Y M;obtain⟨am,Y,M⟩:=e.f.R.lX.later L.l;rw[<-a6.e]at M;simp only[jF]at Y M;go_upto_region 4 with fail
   rw[<-bf.e];go_wp2_with fail;go_fit (pQ (aN.e.below L.l) bg bd a1 (by omega));rintro q E⟨br,rfl,ar,aq⟩;obtain⟨an,au,az,aC,rfl⟩:=ar.shape;obtain⟨z,W⟩:=hQ (E.alloc (.cells #[.bool an,.slice au az aC] 79));have aJ:Below E.heap.size E z:=by rw[W];exact hS
   have ax:Below s.heap.size s z:=d_ aq aJ;have bA:E.heap.size<z.heap.size/\s.heap.size<=E.heap.size:=⟨by rw[W];simp,aq.size⟩;have aM:0<o2 c (e_ c I) R:=by
    have aV:=N.i a bc;rw[<-ae.e,<-aR.e]at aV;rw[nL (b':=jQ c k (e_ c zs) a) (λb d A g=>e.g b d (by omega) g)];exact aV
   have O:f_ (iw z E.heap.size (.bool an) (.slice au az aC)/\jE z (.agg #[.bool an,.slice au az aC]) (o2 c (e_ c I) R) (8*y+40)/\Below s.heap.size s z/\Below wr.heap.size wr z):=a_ ⟨by rw[W];exact iw.new E _ _ rfl,ar.below aJ,ax,L.l.trans (ax.mono (by omega))⟩;have a5:=a_ aM;have a8:=a_ W;clear ar aq aJ ax W am Y M aM;obtain⟨bj,bi,-,-⟩:=(L.f.below O.j a7.1).cells;obtain⟨bk,be,-,-⟩:=O.f.cells;go_upto_region 5 with fail
   rw[<-a8.e];go_wp2_with fail;go_fit (Ga (L.g.below O.j) O.g a5.e (by omega) (by omega));rintro q o⟨bt,rfl,ab,ai⟩;obtain⟨D,H,F,G,rfl⟩:=ab.shape;obtain⟨r,X⟩:=hQ (o.alloc (.cells #[.bool D,.slice H F G] 79));have ao:Below o.heap.size o r:=by rw[X];exact hS
   have ay:Below wr.heap.size wr r:=O.o.trans ((d_ ai ao).mono (by omega));have bz:o.heap.size<r.heap.size/\z.heap.size<=o.heap.size:=⟨by rw[X];simp,ai.size⟩;obtain⟨aT,aA⟩:=hQ (qK (sM c (e_ c I) k t) (o2 c (e_ c I) R));rw[<-aA]at ab;have ba:=a_ aA;have f:f_ (iw r o.heap.size (.bool D) (.slice H F G)/\jE r (.agg #[.bool D,.slice H F G]) aT (8*y+40+4)/\Cw r p i l n c m I aD y (K+y)/\Below wr.heap.size wr r):=a_ ⟨by rw[X];exact iw.new o _ _ rfl,ab.below ao,e.f.later ay,ay⟩;have bb:=a_ X;have bl:=e.f.R.Be;have bx:=e.f.T.Be;have bo:=e.f.R.vf;clear ab ai ao ay X bj bi bk be aA L O;have P:Below r.heap.size r r.drew:=hP.drew;go_upto_region 6 with fail
   rw[<-bb.e];go_region_held3 (λB=>B.cell? ⟨o.heap.size,0,none⟩=some (.bool D)/\B.cell? ⟨o.heap.size,1,none⟩=some (.slice H F G)) (first|exact hS4|exact⟨f.f.cells.1,f.f.cells.2.1⟩) (first|(go_at_call 108;refine(lK (f.j.R.later P) (f.g.below P) (by omega) (by omega) f.j.d1 Q (by omega) (by omega)).mono ?_;rintro q u⟨rfl,⟨ac,aL,a0⟩,J⟩;have ad:iw u o.heap.size (.bool D) (.slice H F G):=(J.block _ (show o.heap.size<r.heap.size by omega) (λq=>by injection q with q;omega)).trans f.f;have hS4:=oB ad.cells.1 ad.cells.2.1));have aI:KU r.drew u:=KU.N J (f.j.R.later P).kA.ty (by decide);have aX:iT u p 3 l n m aD (K+y):=(f.j.T.later P).other J aI f.j.d1 (λq=>f.j.d3 q.symm);have bw:r.heap.size<=u.heap.size:=J.size;have v:=ju aL a0 aX ad ((f.g.below P).hV aI) (jv.N (g1:=i) (g2:=l) (g3:=l) J (.inl rfl));have T:Below u.heap.size u u.drew:=hP.drew;clear aL a0 J aI aX ad hS4;go_wp2_with fail;go_region_held3 (λB=>B.cell? ⟨o.heap.size,0,none⟩=some (.bool D)/\B.cell? ⟨o.heap.size,1,none⟩=some (.slice H F G)) (first|exact hS5|exact⟨v.m.cells.1,v.m.cells.2.1⟩) (first|(go_at_call 108;refine(lK (v.j.later T) (v.r.below T) (by omega) (by omega) f.j.d2 Q (by omega) (by omega)).mono ?_;rintro q U⟨rfl,⟨ap,aW,aY⟩,aa⟩;have aG:iw U o.heap.size (.bool D) (.slice H F G):=(aa.block _ (show o.heap.size<u.heap.size by omega) (λq=>by injection q with q;omega)).trans v.m;have hS5:=oB aG.cells.1 aG.cells.2.1));have aS:KU u.drew U:=KU.N aa (v.j.later T).kA.ty (by decide);have aP:iT U p 0 i n c ac (y+(8*y+40+4)+1):=(v.f.later T).other aa aS f.j.d2 f.j.d3;have aB:GU c (jQ c k (e_ c zs) a) k t=aT:=by
    unfold GU;rw[ba.e,<-aR.e,w2 (b':=jQ c k (e_ c zs) a) (λb d A g=>e.g b d (by omega) g) (λd g=>e.g k d Q g),nL (b':=jQ c k (e_ c zs) a) (λb d A g=>e.g b d (by omega) g)]
   have bh:f_ (Cw U p i l n c m ac ap (EW (a+1)) (K+EW (a+1))/\(∀b d,b<n->d<c->e_ c ac b d=jQ c k (e_ c zs) (a+1) b d)/\(∀b d,b<n->d<m->e_ m ap b d=pe c k (e_ c zs) (e_ m ts) (a+1) b d)/\jv w U i l l):=a_ ⟨⟨aP.mono (by rw[EW,<-a2.e];omega),aW.mono (by rw[EW,<-a2.e];omega),f.j.d1,f.j.d2,f.j.d3⟩,λb d A g=>by
    rw[v.g b d A g,jQ,<-ae.e,aB];unfold wj;by_cases x:b=k
    .rw[if_pos x,if_pos x,e.g k d Q g,e.g t d (by omega) g]
    .rw[if_neg x,if_neg x,e.g b d A g],λb d A g=>by
    rw[aY b d A g,pe,<-ae.e,aB];unfold wj;by_cases x:b=k
    .rw[if_pos x,if_pos x,e.j k d Q g,e.j t d (by omega) g]
    .rw[if_neg x,if_neg x,e.j b d A g],(((e.o.trans (jv.I _ _ _ f.o)).trans (jv.I _ _ _ P)).trans v.z).trans ((jv.I _ _ _ T).trans (jv.N aa (.inr (.inl rfl))))⟩
   clear aW aY aa aS aP aG hS5 aB;go_wp2;go_roundw;exact⟨a+1,ac,ap,by omega,by have:=ae.e;go_num,bh⟩;simp[intOf]
  .obtain rfl:a=k:=by omega
   have bn:¬(0:Int)<=(a:Int)-1-a:=by omega
   go_wp2;go_end0;exact⟨rfl,I,aD,e.f,e.g,e.j,e.o⟩
end Go.Proofs.YtfjbijpagaipnabGreatDoor
