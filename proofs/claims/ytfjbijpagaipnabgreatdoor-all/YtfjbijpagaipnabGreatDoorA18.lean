import Derived.Test.YtfjbijpagaipnabGreatDoorA17
set_option maxRecDepth 100000
set_option maxHeartbeats 8000000
namespace Go.Proofs.YtfjbijpagaipnabGreatDoor
open Go.RowKit
variable{i j k l m n p q r s:Nat}{x y z:Value}{a b c d:Int}
namespace R
def dL(f:Nat->Nat->Int)(c k:Nat):List Int:=(List.range k).map (λk=>jn k (rA f c))
theorem HN(f:Nat->Nat->Int)(c k:Nat):dL f c (k+1)=dL f c k++[jn k (rA f c)]:=by unfold dL;rw[lW,kT];rfl
theorem IH(f:Nat->Nat->Int)(c k i:Nat)(h:i<k):(dL f c k).getD i 0=jn i (rA f c):=by simp[dL,List.getD,h]
theorem G9(L:Nat){m n:Nat}(h:m<=n):LM L m<=LM L n:=by
 induction n with
 |zero=>have:m=0:=by omega
        rw[this];exact c_
 |succ n a=>
  rcases iX m (n+1)with b|b
  .exact iy (a (by omega)) (by rw[LM];omega)
  .have:m=n+1:=by omega
   rw[this];exact c_
theorem u_{L n:Nat}(a:n<=4):LM L n<=4*L+100:=iy (G9 L a) (by simp[LM];omega)
def Kl(W:World)(z:Int)(L:Nat)(p:Value)(b:World):Prop:=∃(a:Nat) (f:Bool) (c:Option Addr) (d e:Nat),p=.pointer (some ⟨a,0,none⟩)/\W.heap.size<=a/\ih b a (.bool f) (.slice c d e)/\kB b (.agg #[.bool f,.slice c d e]) z L/\Below W.heap.size W b
theorem I7{a b:Int}(h:a<=b):oi (a-b)<=0:=by unfold oi;grind
theorem IJ{a b:Int}(h:b<=a):¬oi (a-b)<0:=by unfold oi;grind
theorem G7{a:Int}(h:0<a):oi a=1:=by unfold oi;grind
theorem NL.open_{B:Nat}{w:World}{n L:Nat}{zs:List Int}(h:NL B w x n zs L):∃g c,x=.slice g n c/\n<=c/\c<=9223372036854775807/\(∀a,a<n->∃b f e m d,g=some ⟨b,0,none⟩/\w.cell? ⟨b,a*2,none⟩=some (.bool f)/\w.cell? ⟨b,a*2+1,none⟩=some (.slice e m d)/\kB w (.agg #[.bool f,.slice e m d]) (zs.getD a 0) L):=by
 obtain⟨D,v,t,u⟩:=h;rcases t.2 with⟨rfl,rfl⟩|⟨b,c,y,rfl,C,q,r,s,F,j⟩
 .exact⟨none,0,rfl,c_,by simp,λa p=>by omega⟩
 .refine⟨_,c,rfl,r,by simpa[maxLen]using s,λa p=>?_⟩;obtain⟨E,A,i,o,k⟩:=u a p;obtain⟨f,e,d,z,l,-⟩:=k.parts;simp only[j9,j_,kb,jh]at l;obtain⟨rfl,rfl⟩:=l;rw[<-j,sJ,if_pos (by omega)]at i;rw[<-j,sJ,if_pos (by omega)]at o;refine⟨b,f,e,_,d,rfl,?_,?_,k⟩
  .rw[ij a 2];simp only[World.cell?,q];simpa using i
  .rw[ij a 2];simp only[World.cell?,q];simpa using o
theorem BD{n:Nat}{w:World}(y:n<=1000):Calls Tryz.prog 204 #[.int .i64 n] w λq d=>∃l,q=.returned l/\lB w.heap.size d l (List.range n)/\Below w.heap.size w d:=by
 go_in;go_wp2_with fail;go_loopw [3,4] (λs f wr=>∃a:Nat,a<=n/\f=.int .i64 a/\lB w.heap.size wr s (List.range a)/\Below w.heap.size w wr) (λ_ f _=>n-(intOf f).toNat)
 case atStart=>exact⟨0,hR,rfl,oI _ _ _ _,hP⟩
 case round=>
  obtain⟨a,D,rfl,g,e⟩:=hrel;obtain⟨z,H,m,-⟩:=g.own.open_;rw[j1]at m;subst m;have r:=e.size;have b:=b_ g e;clear g e;by_cases E:a<n
  .have x:(a:Int)<(n:Int):=by omega
   go_wp2_with (at_builtin;refine iZ rfl _ _ rfl (B:=w.heap.size) (zs:=List.range a) rfl ?_ ⟨_,0,none⟩ rfl a ?_ ?_ ?_ ?_)
   .exact kK b.f _
   .simp[Addr.add]
   .rw[j1];omega
   .simp;omega
   intro C d c h;have p:Below w.heap.size w d:=(b.i.alloc r _).grown h (by simp;omega) (λt v=>(kF b.f t v).1);rw[<-lW]at c;obtain⟨G,A,k,-⟩:=c.own.open_;obtain⟨F,j⟩:=hQ ((List.range (a+1)).length);rw[<-j]at k;subst k;have i:=b_ c p;clear c h p j;go_wp2;go_roundw;exact⟨a+1,by omega,by go_num,i.f,i.i⟩;simp[intOf];omega
  .have o:a=n:=by omega
   have u:=a_ o;clear o;go_wp2;go_ret;refine⟨_,rfl,?_,b.i⟩;have:=b.f;rw[u.e]at this|-;exact this
theorem DE{b r c:Nat}{cq:Nat->Nat}{f:Nat->Nat->Int}{B L:Nat}{w:World}(h:jO B w b r c cq f L)(eT:Lf f r c)(g9:L<=1000000)(gP:r<=4)(g4:c<=4):Calls Tryz.prog 181 #[.pointer (some ⟨b,0,none⟩)] w λk l=>k=.returned (.bool true)/\Below w.heap.size w l:=by
 have O:=b_ h eT;obtain⟨gK,dD,eQ,aq,am,ay,-⟩:=h.open_;clear h eT;go_in;go_wp2_with fail;go_fit (@wb b r c cq f B L _ O.f (by omega) (by omega));rintro k dF⟨rfl,a9,bS⟩;obtain⟨f2,a9⟩:=a9;have dG:=bS.size;have bs:=b_ a9 bS;clear a9 bS aq am ay;go_wp2_with fail;go_fit (@kn L L b r c cq f B _ r f2 _ 0 dF (O.f.hV (KR.I bs.i)) bs.f (by omega) (by omega) (by omega) (by omega));rintro k Z⟨rfl,av,dS⟩;obtain⟨e0,av⟩:=av;obtain⟨ee,aF⟩:=hQ dF.heap.size;rw[<-aF]at av|-;obtain⟨bo,dB⟩:=hQ (L+L+12);rw[<-dB]at av;have g6:bo<=2000012:=by omega
 have bV:Below w.heap.size w Z:=bs.i.trans (dS.mono dG);have gf:=bV.size;have c1:=b_ av bV;clear av dS bV dB aF bs dG;obtain⟨d,ex⟩:=hQ (4*bo+100);have gW:d<=10000000:=by omega
 have dE:=a_ ex;clear ex;go_wp2_with fail;go_loopw [5,6] (λfl F wr=>∃i:Nat,i<=r+1/\F=.int .i64 i/\NL Z.heap.size wr fl i (dL f c i) d/\Below Z.heap.size Z wr) (λ_ F _=>r+1-(intOf F).toNat)
 case atStart=>exact⟨0,hR,rfl,NL.nil _ _ _,hP⟩
 case round=>
  rename World=>aQ;obtain⟨i,hz,rfl,c7,v⟩:=hrel;have f6:=v.size;have ab:Below w.heap.size w aQ:=c1.i.trans (v.mono gf);obtain⟨-,dD,eQ,aq,am,ay,-⟩:=(O.f.hV (KR.I ab)).open_;obtain⟨gN,gR,e8,gU,g3,-⟩:=c7.open_;subst e8;have ax:=hO c7 v ab;clear c7 v ab;by_cases f3:i<=r
  .have fx:(i:Int)<=(r:Int):=by omega
   go_wp2_with fail;go_fit (@r3 i _ (by omega));rintro k R⟨hd,rfl,cW,Y⟩;obtain⟨hm,hF,eV,-⟩:=cW.open_;rw[j1]at eV;subst eV;have cv:=Y.size;have Q:=b_ cW Y;clear cW Y aq am ay;go_wp2_with fail;go_fit (me i ee r r e0 (rA f c) 0 bo _ _ (List.range i) (List.range i) _ ((c1.f.hV (KR.I ax.g)).hV (KR.I Q.i)) (by have:=IR.pU Q.f;exact this) (by have:=IR.pU Q.f;exact this) j1 j1 (λa bb=>by have:=jB.1 bb;omega) (λa bb=>by have:=jB.1 bb;omega) (by omega) (iy (u_ (by omega)) (by omega)) (by omega));rintro k N⟨fE,rfl,H,V⟩;rw[qS]at H;obtain⟨al,ao,aC,cX,rfl,-⟩:=H.parts;obtain⟨aw,aW⟩:=hQ cX.length;rw[<-aW]at H|-;have db:=V.size;have ec:Below aQ.heap.size aQ N:=Q.i.trans (V.mono cv);have X:=b_ (H.mono (M:=d) (iy (u_ (by omega)) (by have:=dE.e;omega))) ec;clear H V ec aW;have dg:=a_ (ax.f.below X.i);go_wp2_with (at_builtin;refine @BS _ _ _ _ _ _ rfl _ _ rfl Z.heap.size _ i (dL f c i) d rfl ?_ ⟨_,0,none⟩ rfl (.bool al) (.slice ao aw aC) (jn i (rA f c)) ?_ ?_ rfl rfl ?_ ?_ ?_ ?_)
   .exact(dg.e.below hS).below hS
   .simp[Addr.add]
   .simp[Addr.add]
   .exact(X.f.below hS).below hS
   .omega
   .simp;omega
   intro fj l J aK;have e5:Below Z.heap.size Z l:=(((ax.g.trans (X.i.mono f6)).alloc (by omega) _).alloc (by simp;omega) _).grown aK (by simp;omega) (λS cQ=>(dg.e.lt S cQ).1);rw[<-HN]at J;obtain⟨hl,gm,fc,-⟩:=J.open_;subst fc;obtain⟨fM,eJ⟩:=hQ (i+1);rw[<-eJ]at J|-;have dU:=b_ J e5;clear J aK e5;go_wp2;go_roundw;exact⟨fM,by omega,by rw[eJ];go_num,dU.f,dU.i⟩;simp[intOf];omega
  .have fx:¬(i:Int)<=(r:Int):=by omega
   have fu:=a_ (show i=r+1 by omega);clear f3;go_wp2_with fail;clear aq am ay;go_fit (@pX 2 _ (by omega));rintro k R⟨hu,rfl,ba,Y⟩;obtain⟨bI,bM,bk,fb,rfl,-⟩:=ba.parts;obtain⟨bn,eS⟩:=hQ fb.length;rw[<-eS]at ba|-;have cv:=Y.size;have Q:=b_ ba Y;clear ba Y eS;go_wp2_with fail;go_fit (@pX 3 _ (by omega));rintro k N⟨fE,rfl,H,V⟩;obtain⟨al,ao,aC,cX,rfl,-⟩:=H.parts;obtain⟨aw,aW⟩:=hQ cX.length;rw[<-aW]at H|-;have db:=V.size;have X:=b_ H V;clear H V aW;go_wp2_with fail;go_fit (@pX 4 _ (by omega));rintro k n⟨hg,rfl,bA,c5⟩;obtain⟨eo,eO,dY,fp,rfl,-⟩:=bA.parts;obtain⟨d6,dV⟩:=hQ fp.length;rw[<-dV]at bA|-;have ei:=c5.size;simp at db ei;obtain⟨e,bB⟩:=hQ (n.alloc (.cells #[.bool eo,.slice eO d6 dY] 171));have bP:Below n.heap.size n e:=by rw[bB];exact hS
   have cK:Below (N.alloc (.cells #[.bool al,.slice ao aw aC] 171)).heap.size (N.alloc (.cells #[.bool al,.slice ao aw aC] 171)) e:=d_ c5 bP;have cl:Below N.heap.size N e:=(hS).trans (cK.mono (by simp));have cG:Below (R.alloc (.cells #[.bool bI,.slice bM bn bk] 171)).heap.size (R.alloc (.cells #[.bool bI,.slice bM bn bk] 171)) e:=d_ X.i cl;have b3:Below R.heap.size R e:=(hS).trans (cG.mono (by simp));have bE:Below aQ.heap.size aQ e:=d_ Q.i b3;have dK:ih e R.heap.size (.bool bI) (.slice bM bn bk):=(ih.new R (.bool bI) (.slice bM bn bk) rfl).below cG (by simp);have eM:ih e N.heap.size (.bool al) (.slice ao aw aC):=(ih.new N (.bool al) (.slice ao aw aC) rfl).below cK (by simp);have dv:ih e n.heap.size (.bool eo) (.slice eO d6 dY):=by rw[bB];exact ih.new n _ _ rfl
   have P:=ju (Q.f.below b3) (X.f.below cl) (bA.below bP) (ax.f.below bE) (c1.f.hV (KR.I (d_ ax.g bE))) (d_ ax.l bE);have T:=hO dK eM dv;obtain⟨he,cS⟩:=hQ R.heap.size;obtain⟨gw,cm⟩:=hQ N.heap.size;obtain⟨hi,bZ⟩:=hQ n.heap.size;rw[<-cS,<-cm,<-bZ]at T;rw[<-cS,<-cm];clear cS cm bP cK cl cG b3 bE dK eM dv bA c5 dV cv db ei;go_wp2_with fail;rw[<-bB,<-bZ];clear bZ bB Q X;have fv:=P.z.size;go_loopw [12] (λc4 wr=>∃a:Nat,a<=r/\c4=.int .i64 a/\Below e.heap.size e wr) (λc4 _=>r-(intOf c4).toNat)
   case atStart=>exact⟨0,hR,rfl,hP⟩
   case round=>
    rename World=>fs;obtain⟨a,bb,rfl,v⟩:=hrel;have fg:=v.size;have ab:Below w.heap.size w fs:=P.z.trans (v.mono fv);obtain⟨-,dD,eQ,aq,am,ay,-⟩:=(O.f.hV (KR.I ab)).open_;have bJ:=b_ v ab;clear v ab;by_cases d0:a<r
    .have gc:(a:Int)<(r:Int):=by omega
     obtain⟨o,dT⟩:=hQ (a+1);have gH:(a:Int)+1=(o:Int):=by omega
     have gy:IntKind.i64.wrap (o:Int)=(o:Int):=oV _ (by omega);have c2:o<i:=by have:=fu.e;omega
     have hc:(o:Int)<(i:Int):=by omega
     have aM:=a_ dT;clear dT;obtain⟨hD,g5,dW,-,-,el⟩:=(P.m.below bJ.f).open_;simp only[iC,nh]at dW;obtain⟨rfl,rfl⟩:=dW;obtain⟨s,hJ,gi,hx,hN,rfl,fL,fN,ea⟩:=el o c2;have du:=a_ ea;have bp:=a_ (show∀aO,Below e.heap.size e aO->∀F,F<i->∃bv a6 bD a0,aO.cell? ⟨s,F*2,none⟩=some (.bool bv)/\aO.cell? ⟨s,F*2+1,none⟩=some (.slice a6 bD a0)/\kB aO (.agg #[.bool bv,.slice a6 bD a0]) (jn F (rA f c)) d from λaO fZ F es=>by
      obtain⟨_,_,c0,-,-,fm⟩:=(P.m.below fZ).open_;obtain⟨ha,bv,a6,bD,a0,fa,fn,fK,ek⟩:=fm F es;rw[fa]at c0;simp only[iC,iH,jj,nh,jh]at c0;obtain⟨rfl,-⟩:=c0;rw[IH _ _ _ _ es]at ek;exact⟨bv,a6,bD,a0,fn,fK,ek⟩)
     clear ea el;go_wp2_with fail;go_fit (@kp _ _ d _ du.e);rintro k g1⟨rfl,bu⟩;have hI:=bu.size;have eE:oi ((dL f c i).getD o 0)=1:=by
      rw[IH _ _ _ _ c2,aM.e];exact G7 (O.i.pos a d0)
     rw[eE];have fQ:=b_ (bJ.f.trans (bu.mono fg)) (d_ bJ.i bu);clear bu eE fL fN du aq am ay;go_wp2_with fail;go_loopw [14] (λS wr=>∃g:Nat,g<=a/\S=.int .i64 g/\Below e.heap.size e wr) (λS _=>a-(intOf S).toNat)
     case atStart=>exact⟨0,hR,rfl,fQ.f⟩
     case round=>
      rename World=>gp;obtain⟨g,gr,rfl,v⟩:=hrel;have ff:=v.size;have er:=a_ v;clear v;by_cases fA:g<a
      .have fi:(g:Int)<(a:Int):=by omega
       obtain⟨u,dw⟩:=hQ (g+1);have hk:(g:Int)+1=(u:Int):=by omega
       have gM:IntKind.i64.wrap (u:Int)=(u:Int):=oV _ (by omega);have f5:u<i:=by have:=aM.e;omega
       have gn:(u:Int)<(i:Int):=by omega
       have p:=a_ dw;clear dw;go_wp2_with fail;go_fit (@r3 u _ (by have:=aM.e;omega));rintro k b6⟨hb,rfl,bU,cf⟩;obtain⟨gk,gt,dA,-⟩:=bU.open_;rw[j1]at dA;subst dA;have fh:=cf.size;have dZ:=b_ bU cf;clear bU cf;go_wp2_with fail;go_fit (@BD g _ (by omega));rintro k hj⟨hB,rfl,cO,m⟩;obtain⟨gD,gz,eC,-⟩:=cO.own.open_;rw[j1]at eC;subst eC;have fP:=m.size;have bh:=b_ cO m;clear cO m;go_wp2_with (at_builtin;refine @iZ _ _ _ _ _ _ rfl _ _ rfl b6.heap.size _ (List.range g) rfl ?_ ⟨_,0,none⟩ rfl a ?_ ?_ ?_ ?_)
       .exact kK bh.f _
       .simp[Addr.add]
       .rw[j1];omega
       .simp;omega
       intro fj eK J aK;have bf:Below b6.heap.size b6 eK:=(bh.i.alloc fP _).grown aK (by simp;omega) (λS cQ=>(kF bh.f S cQ).1);have gZ:=bf.size;obtain⟨gL,gx,de,-⟩:=J.own.open_;have ak:(List.range g++[a]).length=u:=by rw[p.e];simp
       rw[ak]at de;subst de;obtain⟨di,b0⟩:=hQ (List.range g++[a]);rw[<-b0]at J ak;have ac:=iu J.own bf ak b0 (dZ.i.trans (bf.mono fh));clear J aK bf ak b0 bh;go_wp2_with fail;have dc:Below e.heap.size e eK:=er.e.trans (ac.x.mono ff);go_fit (me u ee r r e0 (rA f c) 0 bo _ _ (List.range u) di _ (P.r.hV (KR.I dc)) (by have:=(IR.pU dZ.f).below ac.g;exact this) (by have:=IR.pU ac.f;exact this) j1 ac.j (λfJ bN=>by have:=jB.1 bN;have:=p.e;omega) (λfJ bN=>by rw[ac.m]at bN;simp at bN;omega) (by omega) (iy (u_ (by have:=p.e;omega)) (by omega)) (by have:=p.e;omega));rintro k x⟨gI,rfl,aP,eh⟩;obtain⟨eu,dC,e1,fD,rfl,-⟩:=aP.parts;obtain⟨dM,d7⟩:=hQ fD.length;rw[<-d7]at aP|-;obtain⟨K,bQ⟩:=hQ (je (rA f c) (List.range u) di);rw[<-bQ]at aP;have cH:Below e.heap.size e x:=d_ dc eh;have dk:=cH.size;obtain⟨j,aZ⟩:=hQ (x.alloc (.cells #[.bool eu,.slice dC dM e1] 171));have bc:Below x.heap.size x j:=by rw[aZ];exact hS
       have b7:=cH.trans (bc.mono dk);have aN:ih j x.heap.size (.bool eu) (.slice dC dM e1):=by rw[aZ];exact ih.new x _ _ rfl
       have gl:=bc.size;have f4:x.heap.size<j.heap.size:=aN.lt;obtain⟨g2,cz⟩:=hQ x.heap.size;rw[<-cz]at aN f4;obtain⟨fr,fR,-,-⟩:=aN.cells;obtain⟨eA,ey,-,-⟩:=(T.f.below b7 T.f.lt).cells;have t:=hY ((aP.mono (M:=d) (iy (u_ (by have:=p.e;omega)) (by have:=dE.e;omega))).below bc) aN b7 bQ;have d2:=b_ aZ cz;clear aP eh d7 bQ cH dk bc b7 aN dc fr fR;rw[aZ]at eA ey;clear aZ cz;go_wp2_with fail;rw[<-d2.f,<-d2.i];go_fit (@j4 _ _ K 2 d 3 _ t.f (P.f.below t.j) (by omega) (by omega));rintro k bX⟨gv,rfl,bK,cp⟩;obtain⟨e4,dp,ew,fo,rfl,-⟩:=bK.parts;obtain⟨d8,dJ⟩:=hQ fo.length;rw[<-dJ]at bK|-;have fH:=cp.size;have ev:=b_ bK cp;clear bK cp dJ eA ey;go_wp2_with fail;go_fit (@sk _ (K*2) (d+3+1) _ (ev.f.below hS));rintro k aA⟨hn,rfl,aE,a2⟩;obtain⟨bY,cd,ca,f0,rfl,-⟩:=aE.parts;obtain⟨cA,eD⟩:=hQ f0.length;rw[<-eD]at aE|-;have fq:=a2.size;simp at fq;have au:ih aA bX.heap.size (.bool e4) (.slice dp d8 ew):=(ih.new bX (.bool e4) (.slice dp d8 ew) rfl).below a2 (by simp);have bz:Below j.heap.size j aA:=ev.i.trans ((hS).trans (a2.mono (by simp))|>.mono fH);obtain⟨aU,df⟩:=hQ bX.heap.size;rw[<-df]at au|-;have hL:j.heap.size<=aU:=by omega
       have hw:aU<aA.heap.size:=by omega
       clear df;obtain⟨fw,fW,ge,fe⟩:=au.cells;have hf:=hO aE au bz;have fO:Below e.heap.size e aA:=d_ t.j bz;obtain⟨G,aH⟩:=hQ ((aA.setCell ⟨aU,0,none⟩ (.bool bY)).setCell ⟨aU,1,none⟩ (.slice cd cA ca));have bF:=t.j.size;have dz:Below j.heap.size aA G:=by rw[aH];exact(hP.setCell (by simp;omega) _).setCell (by simp;omega) _
       have a3:Below j.heap.size j G:=bz.trans dz;have cU:Below e.heap.size e G:=t.j.trans (a3.mono bF);have dN:ih G aU (.bool bY) (.slice cd cA ca):=by rw[aH];exact au.put _ _
       have dl:kB G (.agg #[.bool bY,.slice cd cA ca]) (((K*2).natAbs:Nat):Int) (d+3+1):=by rw[aH];exact aE.box au.ty (by decide) _ _
       have fy:=a3.size;have cL:=hO dl a3 cU;have fX:=a_ aH;obtain⟨fT,gb,-,-⟩:=dN.cells;obtain⟨hy,gV,hs,hv,ae,aa,dr⟩:=bp.e G cU u f5;have fd:=a_ dr;clear dr fO aE a2 au bz eD aH dz a3 cU dN dl;go_wp2_with fail;rw[<-fX.e];clear fw fW ge fe;go_still_tail 6,(by kernel_rfl);go_wp2_with fail;have ag:=(kQ G.heap.size G).drew;go_fit (mc _ _ _ _ (d+3+1) d _ (cL.f.below ag) (fd.e.below ag) (by omega) (by omega));rintro k y⟨rfl,eq⟩;have a1:Below G.heap.size G y:=d_ ag eq;have gC:=a1.size;obtain⟨dP,cE⟩:=hQ (oi ((((K*2).natAbs:Nat):Int)-jn u (rA f c)));rw[<-cE];have gu:dP<=0:=by
        have a7:=O.i.half a g d0 fA;have dd:=O.i.pos g (by omega);rw[<-ac.m,<-p.e,<-t.o]at a7;rw[<-p.e]at dd;rw[cE];exact I7 (by omega)
       have ar:=b_ (cL.g.trans (a1.mono fy)) (d_ cL.l a1);have hM:¬0<dP:=by omega
       clear eq a1 ag cE ae aa fT gb;by_cases cu:u=a
       .have eB:((g:Int)==(a:Int)-1)=true:=by have:=p.e;simp;omega
        have eZ:IntKind.i64.wrap ((a:Int)-1)=(a:Int)-1:=oV _ (by omega);have bm:=a_ cu;clear cu;go_wp2_with fail;have gT:(a:Int)-1=(g:Int):=by have:=p.e;have:=bm.e;omega
        have gO:IntKind.i64.wrap (g:Int)=(g:Int):=oV _ (by omega);have fY:g<i:=by omega
        have hG:(g:Int)<(i:Int):=by omega
        have fC:a<i:=by omega
        have ht:(a:Int)<(i:Int):=by omega
        obtain⟨e2,dX,d1,dH,ae,aa,dQ⟩:=bp.e y ar.i o c2;obtain⟨dt,eR,eg,ed,en,dm,d9⟩:=bp.e y ar.i g fY;have bd:=b_ dQ d9;clear dQ d9 eB eZ;have fU:=a_ (show∀l,Below y.heap.size y l->((l.cell? ⟨s,o*2,none⟩=some (.bool e2)/\l.cell? ⟨s,o*2+1,none⟩=some (.slice dX d1 dH))/\l.cell? ⟨s,g*2,none⟩=some (.bool dt)/\l.cell? ⟨s,g*2+1,none⟩=some (.slice eR eg ed))from λl aj=>⟨⟨g_ aj ae,g_ aj aa⟩,g_ aj en,g_ aj dm⟩);go_upto_region 32 with fail
        go_cut [20]from 65 to 137 (λcI x=>Kl y (jn o (rA f c)*jn g (rA f c)) (d+d+1) cI x)
        case first=>
         go_region_held3 (λl=>(l.cell? ⟨s,o*2,none⟩=some (.bool e2)/\l.cell? ⟨s,o*2+1,none⟩=some (.slice dX d1 dH))/\l.cell? ⟨s,g*2,none⟩=some (.bool dt)/\l.cell? ⟨s,g*2+1,none⟩=some (.slice eR eg ed)) (exact fU.e _ (by first|exact hb9|exact hP.drew|exact(hS).drew|exact hb9.alloc hb9.size _|exact(hb9.setCell c_ _).setCell c_ _)) (first
           |(go_at_call 212;refine(@j4 _ _ _ _ d d _ (bd.f.below hP.drew) (bd.i.below hP.drew) (by omega) (by omega)).mono ?_;rintro k n⟨cN,rfl,E,m⟩;obtain⟨b2,cC,cB,cw,rfl,-⟩:=E.parts;have hb9:Below y.heap.size y n:=hP.drew.trans m;clear m)
           |(go_at_call 212;refine(@j4 _ _ _ _ d d _ (bd.f.below hS.drew) (bd.i.below hS.drew) (by omega) (by omega)).mono ?_;rintro k n⟨cN,rfl,E,m⟩;obtain⟨b2,cC,cB,cw,rfl,-⟩:=E.parts;have hb9:Below y.heap.size y n:=(hS).drew.trans (m.mono (by simp));have ad:ih n y.heap.size (.bool false) (.slice none 0 0):=(ih.new y (.bool false) (.slice none 0 0) rfl).CQ.below m (by simp);have fk:=ad.cells;clear m))
         all_goals
          go_wp2_with fail;go_meet
          case rel=>
           first
            |exact⟨_,_,_,_,_,rfl,hb9.size,ih.new _ _ _ rfl,E.below hS,hb9.alloc hb9.size _⟩
            |exact⟨_,_,_,_,_,rfl,c_,ad.put _ _,E.box ad.ty (by decide) _ _,(hb9.setCell c_ _).setCell c_ _⟩
        case rest=>
         rename World=>U;obtain⟨I,g8,hE,g7,g0,rfl,hp,eP,dy,bi⟩:=hcut;have gE:=ar.f.size;have eF:j.heap.size<=I:=by omega
         have da:Below j.heap.size j U:=d_ ar.f bi;have et:Below e.heap.size e U:=d_ ar.i bi;have aL:=b_ da et;have cy:=hO dy eP bi;obtain⟨z,A,-,-⟩:=(t.g.below da t.g.lt).cells;clear ae aa en dm bi da et eP dy;go_wp2_with fail;go_fit (@j4 _ _ K K d d _ (t.f.below aL.f) (t.f.below aL.f) (by omega) (by omega));rintro k ah⟨gq,rfl,bx,eI⟩;obtain⟨dq,dI,dO,fS,rfl,-⟩:=bx.parts;obtain⟨eU,ep⟩:=hQ fS.length;rw[<-ep]at bx|-;clear ep;have cF:Below U.heap.size U ah:=eI;have fG:=cF.size;obtain⟨W,aY⟩:=hQ (ah.alloc (.cells #[.bool dq,.slice dI eU dO] 171));have ct:Below ah.heap.size ah W:=by rw[aY];exact hS
         have an:Below U.heap.size U W:=cF.trans (ct.mono fG);have ds:Below j.heap.size j W:=d_ aL.f an;have eG:Below e.heap.size e W:=d_ aL.i an;have bC:ih W ah.heap.size (.bool dq) (.slice dI eU dO):=by rw[aY];exact ih.new ah _ _ rfl
         have ez:=bx.below ct;have ho:=aL.f.size;obtain⟨dh,bL⟩:=hQ ah.heap.size;rw[<-bL]at bC;have hr:U.heap.size<=dh:=by omega
         have gF:j.heap.size<=dh:=by omega
         have d4:=b_ ds eG;have f8:=hO ez bC an;have ef:=b_ aY bL;clear z A;have cY:=cy.g.below an cy.g.lt;obtain⟨z,A,-,-⟩:=cY.cells;obtain⟨C,D,-,-⟩:=bC.cells;rw[aY]at z A C D;have b5:=b_ (cy.f.below an) cY;clear bx eI cF ct an ds eG bC ez cY;rw[bL]at C D;clear aY bL;go_wp2_with fail;rw[<-ef.f,<-ef.i];go_fit (@pg _ _ _ _ (d+d+1) (d+d+1) _ b5.f f8.f (by omega) (by omega));rintro k wc⟨gJ,rfl,bq,eY⟩;obtain⟨c8,cc,cM,ft,rfl,-⟩:=bq.parts;obtain⟨cn,ak⟩:=hQ ft.length;rw[<-ak]at bq|-;clear ak;have aI:Below W.heap.size W wc:=eY;have gB:=aI.size;have bl:=(b5.i).below aI (b5.i).lt;obtain⟨aJ,aX,aV,aS⟩:=bl.cells;obtain⟨az,aB⟩:=hQ ((wc.setCell ⟨I,0,none⟩ (.bool c8)).setCell ⟨I,1,none⟩ (.slice cc cn cM));have hC:=d4.f.size;have cg:Below I wc az:=by rw[aB];exact(hP.setCell (by simp) _).setCell (by simp) _
         have cD:Below j.heap.size j az:=(d_ d4.f aI).trans (cg.mono eF);have ce:Below e.heap.size e az:=t.j.trans (cD.mono bF);have bT:ih az I (.bool c8) (.slice cc cn cM):=by rw[aB];exact bl.put _ _
         have cx:=bq.box bl.ty (by decide) (.bool c8) (.slice cc cn cM);rw[<-aB]at cx;have b4:=b_ cD ce;have b1:=hY cx bT aI cg;have f1:=a_ aB;clear z A C D;obtain⟨z,A,-,-⟩:=bT.cells;obtain⟨C,D,-,-⟩:=(T.l.below ce T.l.lt).cells;rw[aB]at z A C D;clear bq eY aI bl cg cD ce bT cx aB;go_wp2_with fail;rw[<-f1.e];go_fit (@j4 _ _ _ 4 (max (d+d+1) (d+d+1)+1) 3 _ b1.f (P.j.below b4.i) (by omega) (by omega));clear aJ aX aV aS;rintro k cJ⟨hH,rfl,bt,ag⟩;obtain⟨b9,cT,ck,e7,rfl,-⟩:=bt.parts;obtain⟨ch,d5⟩:=hQ e7.length;rw[<-d5]at bt|-;clear d5;have aT:Below az.heap.size az cJ:=ag;have gs:=aT.size;have a8:=(b1.g).below aT (b1.g).lt;obtain⟨aJ,aX,aV,aS⟩:=a8.cells;obtain⟨q,aG⟩:=hQ ((cJ.setCell ⟨I,0,none⟩ (.bool b9)).setCell ⟨I,1,none⟩ (.slice cT ch ck));have gh:=b4.f.size;have c6:Below I cJ q:=by rw[aG];exact(hP.setCell (by simp) _).setCell (by simp) _
         have cb:Below j.heap.size j q:=(d_ b4.f aT).trans (c6.mono eF);have bR:Below e.heap.size e q:=t.j.trans (cb.mono bF);have eH:ih q I (.bool b9) (.slice cT ch ck):=by rw[aG];exact a8.put _ _
         have bW:=bt.box a8.ty (by decide) (.bool b9) (.slice cT ch ck);rw[<-aG]at bW;have co:=b_ cb bR;have a5:=hY bW eH aT c6;have fI:=a_ aG;clear z A C D;obtain⟨eL,e3,eb,dj,ae,aa,dR⟩:=bp.e q bR a fC;have bw:=a_ dR;clear bt ag aT a8 c6 cb bR eH bW aG dR;go_wp2_with fail;rw[<-fI.e];clear aJ aX aV aS;have ga:=a_ (show∀l,Below q.heap.size q l->(l.cell? ⟨s,a*2,none⟩=some (.bool eL)/\l.cell? ⟨s,a*2+1,none⟩=some (.slice e3 eb dj))from λl aj=>⟨g_ aj ae,g_ aj aa⟩);go_upto_region 36 with fail
         go_cut [22]from 65 to 137 (λcI x=>Kl q (jn a (rA f c)*jn a (rA f c)) (d+d+1) cI x)
         case first=>
          go_region_held3 (λl=>l.cell? ⟨s,a*2,none⟩=some (.bool eL)/\l.cell? ⟨s,a*2+1,none⟩=some (.slice e3 eb dj)) (exact ga.e _ (by first|exact hb9|exact hP.drew|exact(hS).drew|exact hb9.alloc hb9.size _|exact(hb9.setCell c_ _).setCell c_ _)) (first
            |(go_at_call 212;refine(@j4 _ _ _ _ d d _ (bw.e.below hP.drew) (bw.e.below hP.drew) (by omega) (by omega)).mono ?_;rintro k n⟨cN,rfl,E,m⟩;obtain⟨b2,cC,cB,cw,rfl,-⟩:=E.parts;have hb9:Below q.heap.size q n:=hP.drew.trans m;clear m)
            |(go_at_call 212;refine(@j4 _ _ _ _ d d _ (bw.e.below hS.drew) (bw.e.below hS.drew) (by omega) (by omega)).mono ?_;rintro k n⟨cN,rfl,E,m⟩;obtain⟨b2,cC,cB,cw,rfl,-⟩:=E.parts;have hb9:Below q.heap.size q n:=(hS).drew.trans (m.mono (by simp));have ad:ih n q.heap.size (.bool false) (.slice none 0 0):=(ih.new q (.bool false) (.slice none 0 0) rfl).CQ.below m (by simp);have fk:=ad.cells;clear m))
          all_goals
           go_wp2_with fail;go_meet
           case rel=>
            first
             |exact⟨_,_,_,_,_,rfl,hb9.size,ih.new _ _ _ rfl,E.below hS,hb9.alloc hb9.size _⟩
             |exact⟨_,_,_,_,_,rfl,c_,ad.put _ _,E.box ad.ty (by decide) _ _,(hb9.setCell c_ _).setCell c_ _⟩
         case rest=>
          rename World=>bO;obtain⟨aD,gX,gj,gG,gA,rfl,gS,cP,dx,ap⟩:=hcut;have hq:=co.f.size;have f7:j.heap.size<=aD:=by omega
          have em:Below j.heap.size j bO:=d_ co.f ap;have cZ:Below e.heap.size e bO:=d_ co.i ap;have c3:=b_ em cZ;have cs:=hO dx cP ap;clear ae aa;obtain⟨z,A,-,-⟩:=cP.cells;obtain⟨C,D,-,-⟩:=(T.g.below cZ T.g.lt).cells;have fF:I<aD:=by have:=a5.g.lt;omega
          have d3:=a5.g.below ap a5.g.lt;have cj:=b_ (a5.f.below ap) d3;clear ap em cZ cP dx d3;go_wp2_with fail;go_fit (@j4 _ _ _ 3 (d+d+1) 3 _ cs.f (P.g.below c3.i) (by omega) (by omega));rintro k cV⟨hh,rfl,bj,ej⟩;obtain⟨bG,a4,be,gg,rfl,-⟩:=bj.parts;obtain⟨br,eX⟩:=hQ gg.length;rw[<-eX]at bj|-;clear eX;have ai:Below bO.heap.size bO cV:=ej;have gY:=ai.size;have aR:=(cs.g).below ai (cs.g).lt;obtain⟨aJ,aX,aV,aS⟩:=aR.cells;obtain⟨bg,af⟩:=hQ ((cV.setCell ⟨aD,0,none⟩ (.bool bG)).setCell ⟨aD,1,none⟩ (.slice a4 br be));have hK:=c3.f.size;have bH:Below aD cV bg:=by rw[af];exact(hP.setCell (by simp) _).setCell (by simp) _
          have cR:Below j.heap.size j bg:=(d_ c3.f ai).trans (bH.mono f7);have dn:Below e.heap.size e bg:=t.j.trans (cR.mono bF);have ci:ih bg aD (.bool bG) (.slice a4 br be):=by rw[af];exact aR.put _ _
          have b8:=bj.box aR.ty (by decide) (.bool bG) (.slice a4 br be);rw[<-af]at b8;have fB:=b_ cR dn;have fz:=hY b8 ci ai bH;have f9:=a_ af;clear z A C D;obtain⟨z,A,-,-⟩:=ci.cells;have eW:=(cj.i.below ai cj.i.lt).below bH fF;obtain⟨C,D,-,-⟩:=eW.cells;have c9:=(cj.f.below ai).box aR.ty (by decide) (.bool bG) (.slice a4 br be);rw[<-af]at c9;rw[af]at z A C D;have e9:=a_ c9;clear bj ej ai aR bH cR dn ci b8 af eW c9;go_wp2_with fail;rw[<-f9.e];go_fit (mc _ _ _ _ (max (d+d+1) (d+d+1)+1+3+1) (d+d+1+3+1) _ e9.e fz.f (by omega) (by omega));rintro k gQ⟨rfl,aF⟩;clear aJ aX aV aS z A C D;obtain⟨eN,cr⟩:=hQ (oi ((jn o (rA f c)*jn g (rA f c)+K*K)*4-jn a (rA f c)*jn a (rA f c)*3));rw[show oi _=eN from cr.symm];have hA:¬eN<0:=by
           have a7:=O.i.ord g (by have:=p.e;have:=bm.e;omega);have dd:g+1=a:=by have:=p.e;have:=bm.e;omega
           have e6:g+2=o:=by have:=aM.e;omega
           rw[e6,dd]at a7;have gd:K=je (rA f c) (List.range a) (List.range g++[a]):=by rw[t.o,ac.m,bm.e]
           rw[<-gd]at a7;rw[cr];exact IJ (by omega)
          have fV:=a_ (d_ fB.i aF);clear aF cr;go_wp2;go_roundw;exact⟨g+1,by omega,by rw[<-p.e],fV.e⟩;simp[intOf];omega
       .have eB:((g:Int)==(a:Int)-1)=false:=by have:=p.e;simp;omega
        have eZ:IntKind.i64.wrap ((a:Int)-1)=(a:Int)-1:=oV _ (by omega);clear cu;go_wp2;go_roundw;exact⟨g+1,by omega,by rw[<-p.e],ar.i⟩;simp[intOf];omega
      .have fi:¬(g:Int)<(a:Int):=by omega
       go_wp2;go_roundw;exact⟨a+1,by omega,by rw[<-aM.e],er.e⟩;simp[intOf];omega
    .have gc:¬(a:Int)<(r:Int):=by omega
     go_wp2;go_ret;exact⟨rfl,bJ.i⟩
end R
section
open R
theorem R.Bt(f:Nat->Nat->Int)(c i j:Nat):rA f c i j=ip c (f i) (f j):=by unfold rA ip;rw[iD]
theorem R.tY(f:Nat->Nat->Int)(c k:Nat):jn k (rA f c)=iv c f k:=by
 rw[<-vU];exact lH k _ _ (λa b _ _=>Bt f c a b)
theorem R.Fg(f:Nat->Nat->Int)(c i j:Nat)(k:j<=3):je (rA f c) (List.range (j+1)) (List.range j++[i])=lam c f i j:=by
 rw[tl _ _ _ (by simp)];unfold lam;rw[C3,yo c _ _ (by simp) (by simp;omega),Ci,j1];refine lH (j+1) _ _ (λe b g h=>?_);show rA f c _ _=_;rw[Bt,r1 _ _ g];by_cases d:b=j
 .rw[if_pos d,d];have:(List.range j++[i]).getD j 0=i:=by simp[List.getD]
  rw[this];by_cases a:e=j
  .rw[if_pos a,a]
  .rw[if_neg a]
 .rw[if_neg d];have:(List.range j++[i]).getD b 0=b:=by
   rw[List.getD,lQ (by simp;omega),vG (by omega)];rfl
  rw[this];by_cases a:e=j
  .rw[if_pos a,a]
  .rw[if_neg a]
theorem R.ll.Ls{c m n:Nat}{A b t:Nat->Nat->Int}(h:ll c m n n i A b t):Lf b n c:=by
 obtain⟨p,a,-⟩:=h.st;have l:=a.kz;have o:=a.zn;have j:=a.n4;refine⟨λe d=>by rw[tY];exact a.pos _ (by omega),λe f d g=>?_,λe d=>?_⟩
 .rw[tY,Fg _ _ _ _ (by omega)];have:=a.red e d f g;have k:=a.pos (f+1) (by omega);omega
 .rw[tY,tY,tY,Fg _ _ _ _ (by omega)];exact a.ord e d
theorem R.zG{c n:Nat}{b:Nat->Nat->Int}(e:n<=4)(h:0<iv c b n):n<=c/\iU b n c n≠0:=by
 have g:iU b n c n≠0:=by
  intro d;rw[<-sa b n c n e,oF _ _ _ _ e,po]at d;have j:List.range n∈ik n n:=by
   have:=d;rw[nv];simp
  have a:yY 0 (rA b c) n (List.range n):=by
   refine k_ (d _ j) (λl m=>⟨b l,λk f=>?_⟩);rw[Bt];rfl
  have i:=a (List.range n) rfl (λk f=>jB.1 f);rw[<-qR,qS,tY]at i;have:=uK.1 i;omega
 refine⟨?_,g⟩;rcases iX c n with a|a
 .exfalso;apply g;rw[<-sa b n c n e];exact zb _ a
 .exact a
theorem R.ll.H7{c m n k:Nat}{A b t:Nat->Nat->Int}(h:ll c m n n i A b t)(o:iF A m c k):iF b n c n/\n=k:=by
 obtain⟨v,d,-⟩:=h.st;have s:=d.kz;have u:=d.zn;have f:=d.n4;obtain⟨q,j⟩:=zG f (d.pos n (by omega));have e:=qV f q j;have g:∀a,a<n->Sp A m c (b a):=λa r=>⟨t a,λp l=>(h.tm a p r l).symm⟩;exact⟨e,kf e (q_ h.back g h.c4 o)⟩
theorem R.ll.J2{c m n:Nat}{A b t:Nat->Nat->Int}(h:ll c m n n i A b t):∃d,iF b n c d/\iF (ov n b A) (n+m) c d/\iU (ov n b A) (n+m) c d=iU b n c d:=by
 obtain⟨w,e,-⟩:=h.st;have u:=e.kz;have v:=e.zn;have f:=e.n4;obtain⟨s,r⟩:=zG f (e.pos n (by omega));have q:=qV f s r;have j:∀a,a<n->Sp (ov n b A) (n+m) c (b a):=λa o=>by
  have:=Sp.row (ov n b A) c (show a<n+m by omega);refine Sp.eq this (λl k=>?_);unfold ov;rw[if_pos o]
 have p:∀a,a<n+m->Sp b n c (ov n b A a):=λa o=>by
  by_cases g:a<n
  .exact Sp.eq (Sp.row b c g) (λl k=>by unfold ov;rw[if_pos g])
  .exact Sp.eq (h.back (a-n) (by omega)) (λl k=>by unfold ov;rw[if_neg g])
 exact⟨n,q,q_ j p h.c4 q,(oa j p f).symm⟩
theorem R.ll.IA{c m n:Nat}{A b t:Nat->Nat->Int}(h:ll c m n n k A b t){E:Nat}(e:147200001<=E)(i j:Nat)(a:i<n)(d:j<m):(t i j).natAbs<2^E:=iW (h.bits i j a d) (by have:=h.le;omega)
theorem R.ll.n4{c m n k:Nat}{A b t:Nat->Nat->Int}(h:ll c m n k i A b t):n<=4:=by
 obtain⟨d,a,-⟩:=h.st;exact a.n4
theorem wk.fine{r c:Nat}{zs:List Int}{xs:List Mx}(h:wk r c zs xs)(i:r<=4)(l:c<=4)(j:Nat)(a:j<2):mK (xs.getD j l5).1 (xs.getD j l5).2.1 (xs.getD j l5).2.2:=by
 obtain⟨q,p,s,n,rfl,b,-,k,m⟩:=h;obtain⟨g,o⟩:=hQ 60000000;match j,a with
 |0,_=>exact ks b.n4 l k (mD (P:=λd=>d.natAbs<2^(16*(g+1))) (λf j e a=>iW (b.short f j e a) (by omega))) (by omega)
 |1,_=>exact ks b.n4 i m (mD (P:=λd=>d.natAbs<2^(16*(g+1))) (λf j e a=>b.IA (by omega) f j e a)) (by omega)
variable{E:List o4}
theorem zO{B W:Nat}{ms:List Hm}{nx:Nat}{h:Int}{w:World}(ap:jL B w W i j k ms nx E)(cd:nx<1000000-5):Calls Tryz.prog 120 #[.pointer (some ⟨W,0,none⟩),.int .i64 h] w λP Q=>P=.returned (.bool true)/\ie B w Q W i j k nx:=by
 have cs:=ap.size;have ba:=ap.uZ;have e:=a_ ap;clear ap;go_in;go_wp2_with fail;go_fit (@rv B W i j k ms nx E h false _ e.e);rintro P a7⟨⟨cW,cR,rfl,bZ⟩,ab⟩;have aP:=e.e.below ab;obtain⟨cS,c8,cT,c5,cJ,cC,-⟩:=aP.il;have T:=hO bZ ab aP;have c3:=ab.size;clear bZ ab aP;go_wp2_with fail;go_fit (@y0 B i j k h ms nx _ T.j e.l.dst cd);rintro P be⟨cz,bB,cX,l,rfl,hrel,an⟩;have br:=tR e.l.dst T.f hrel;have ak:j5 (tN j k) a7 be:=by rcases an with⟨-,-,-,bU⟩|⟨-,-,-,bU⟩<;>exact bU
 have aT:Below B w be:=(T.g.mono cs).trans (ak.below (tN.le e.f.2.2.2.2.2.2.1 e.f.2.2.2.2.2.2.2) (by omega));have c1:=aT.size;obtain⟨ai,bS,a8,rfl⟩:∃ch v cg,cz=.slice ch v cg:=by rcases an with⟨-,rfl,-⟩|⟨-,⟨_,_,rfl,-⟩,-⟩<;>exact⟨_,_,_,rfl⟩
 have bm:=e.l.num;have aR:=sR ms;rw[e.l.len,<-bm]at aR;have bX:=a_ aR;have aC:=T.l.pK ak;obtain⟨cU,cL,c4,cY,b1,bp,-⟩:=id aC;have o:=kM an ak aT br aC b1 bp;clear hrel an br ak aT bm aR aC b1 bp cC;go_wp2_with fail;go_fit (@lq W i nx 2 _ _ _ _ E _ (by omega) o.y o.C ba);rintro P Q⟨rfl,rfl⟩;rcases o.m with⟨rfl,rfl,cn⟩|⟨rfl,rfl,rfl,aa⟩|⟨rfl,rfl,rfl,aa,ce,x,A,f,ar,bh,t,b2,b3,rfl,bd,bz⟩
 .rcases o.f with⟨-,Y,F,-⟩|⟨p,-⟩
  .simp only[iC]at Y;obtain⟨rfl,rfl,rfl⟩:=Y;have S:f_ (ie B w Q W i j k nx):=a_ ⟨⟨ms,nx,E,⟨F,o.r,e.l⟩,by omega⟩,o.j⟩;have bA:=pW;clear F;have c7:(bB==bB)=true:=by simp
   rcases cn with rfl|rfl
   .go_wp2;go_ret;exact⟨rfl,S.e⟩
   .go_wp2;go_ret;exact⟨rfl,S.e⟩
  .cases p
 .rcases o.f with⟨-,Y,F,-⟩|⟨p,-⟩
  .simp only[iC]at Y;obtain⟨rfl,rfl,rfl⟩:=Y;have S:f_ (ie B w Q W i j k nx):=a_ ⟨⟨ms,nx,E,⟨F,o.r,e.l⟩,by omega⟩,o.j⟩;have bA:=pW;clear F;have V:decide (24<E.length+2)=true:=jm (by have:=bX.e;omega);rw[V];clear aa V;go_wp2;go_ret;exact⟨rfl,S.e⟩
  .cases p
 .have V:decide (24<E.length+2)=false:=ic (by have:=bX.e;omega);rw[V];have d:=kM aa bh t b2 b3 bd bz;obtain⟨aw,au⟩:=hQ ce.2.2;rw[<-au];have ct:=a_ au;clear aa bh t b2 b3 bd bz V au;go_wp2_with fail;obtain⟨F,r,G,aX,aE,bL,bQ⟩:nu B Q i j k (jX ms nx l) (nx+2)/\∃r G,(Value.slice ai bS a8=.slice (some ⟨r,0,none⟩) 2 2)/\a7.heap.size<=r/\(G.length=2/\∀b,b<2->G.getD b 0=nx+b)/\R.Own Q (Value.slice ai bS a8) G:=by
   rcases o.f with⟨p,-⟩|⟨-,⟨r,G,z,N,bb,cb,cr⟩,cc,-⟩
   .cases p
   .exact⟨cc,r,G,z,N,⟨bb,cb⟩,cr⟩
  simp only[iC]at aX;obtain⟨rfl,rfl,rfl⟩:=aX;obtain⟨bc,aU,bi,bN,a6,bP,bH,bR,a2,aO,bq,aV,bt,bJ⟩:=T.l.vj o.g r aE;have L:l.length<=ms.countP Option.isNone:=by have:=d.f;have:=d.y;omega
  have aZ:=wk.fine d.C d.r.1 d.r.2.1;have aY:pq (jX ms nx l):=(e.l.w5 l [0,0] L (by rw[d.y];rfl)).dst;have bo:¬S4 W aU bi bN r:=λq=>by have:=(aO r q).2;omega
  have a:=Bs F aE bL bQ bP bH bR a2 aO bq aV bt bJ aZ aY L;clear F aE bL bQ bP bH bR a2 aO bq aV bt bJ aZ aY;go_fit (@qz B W i j k r 2 nx (nx+2) _ aU bi bN (jX ms nx l) E l (BC ms nx l) _ a.f a.r a.y a.A a.B (λJ C=>(a.D J C).1) (by omega) (by omega) (λb g=>?_) a.P ba (λb g=>?_) bo)
  .obtain⟨z,N⟩:=mI (nx:=nx) e.l.len L b (by rw[d.y];exact g);exact⟨z,N,a.L b g⟩
  .have:=a.m.cell a.j.1 b g;rw[a.j.2 b g]at this;exact this
  rintro P bT⟨b9,aG,K,rfl,bE⟩;have aW:=bE;obtain⟨cw,cq,cm,⟨aJ,ca⟩,⟨aN,-⟩,-,-,X⟩:=bE;rw[K]at aN;have a3:R.Own bT (.slice (some ⟨r,0,none⟩) 2 2) G:=a.m.J (λbf a1=>by
   simp[Value.ownBlock]at a1;subst a1;exact X.block a.m.lt bo)
  have a0:ix bT 51 bc (zZ a6):=a.F.1.lP X (λJ C q=>a.F.2.1 J C (.inl (.inl q)));have u:=kM aW aJ aN a3 a0 K X;have c0:=X.size;obtain⟨M,ag,rfl⟩:∃M ag,b9=.slice (some ⟨M,0,none⟩) 2 ag:=by
   rcases aJ with⟨-,I⟩|⟨bf,cl,cO,D,-⟩
   .have:=kX List.length I;rw[kR,K]at this;simp at this
   .rw[kR,K]at D;exact⟨bf,cl,D⟩
  clear aW aJ ca aN a3 a0 X;go_wp2_with fail;go_fit (@sW W i (nx+2) r 2 bc cw cq cm a6 G _ u.j u.r u.m a.j.1 (by omega) (by have:=a.G;omega));rintro P c⟨rfl,bw⟩;obtain⟨am,b0,-⟩:=sL a.f d.y (by omega) (by omega) e.l d.f a.r a.y a.A a.B a.D a.Q a.F a.G a.O a.m.lt a.g (R.Own.GS a.m) (by omega) K a.L u.f (λz N bb cA=>by
    obtain⟨rfl,rfl,rfl⟩:=Lw.inj cA u.j;exact bw)
  have aI:ix c 164 (.slice (some ⟨M,0,none⟩) 2 ag) (ko aG):=by
   obtain⟨_,_,_,_,cF,_⟩:=bw;refine u.g.lP cF (λJ C q=>?_);have ax:=(u.g.own J C).2;rcases q with q|q|q
   .exact iB ax u.j.ty (by decide) q
   .exact iB ax (u.r.own J q).2 (by decide) rfl
   .exact iB ax (R.Own.GS u.m) (by decide) q
  have ay:Below B w c:=o.j.trans b0;have cV:=ay.size;obtain⟨v,cQ,aK,aA,bO,U,-⟩:=d.C;obtain⟨s,y,rfl⟩:∃s y,aG=[s,y]:=by
   match aG,K with
   |[cu,cf],_=>exact⟨cu,cf,rfl⟩
  have aF:∀b,b<2->∃ai t,kH c ai t ([s,y].getD b 0) (l.getD b l5).1 (l.getD b l5).2.1 (fz (l.getD b l5).2.1 (l.getD b l5).2.2):=λb g=>by
   obtain⟨z,N⟩:=mI (nx:=nx) e.l.len L b (by rw[d.y];exact g);have cp:(nx+b,Ex (l.getD b l5),[s,y].getD b 0)∈E++nB nx l [s,y]:=ji.2 (.inr (kt.2 ⟨b,jB.2 g,rfl⟩));exact(am.entry cp z N rfl).2.2
  have I:=aF 0 (by omega);have D:=aF 1 (by omega);rw[bO]at I D;obtain⟨aj,cZ,I⟩:=I;obtain⟨bC,cM,D⟩:=D;obtain⟨ad,bW⟩:=I.qk;obtain⟨a5,bj⟩:=D.qk;obtain⟨-,-,aS,cN,bs⟩:=am.entry (ji.2 (.inl d.g)) d.j (pk l ms nx x _ e.l.len L d.m) rfl;obtain⟨av,ac⟩:=bs.qk;rw[<-ct.e]at ac;obtain⟨O,cv⟩:=hQ 60000000;have cH:=d.r.1;have c6:=d.r.2.1;have cK:=U.n4;have cI:O<=60000000:=by omega
  have az:jO aj c s v f ad (fz f aK) 8:=bW.fit (m:=4) (λx b t g=>iW (U.short x b t g) (by omega));have aB:jO bC c y v A a5 (fz A aA) (2*O):=bj.fit (m:=O) (λx b t g=>U.IA (by omega) x b t g);have n:=ju az aB (ac.tight (jT d.r)) U am ay;obtain⟨-,-,-,co,cD,-⟩:=ac.open_;obtain⟨-,-,-,bg,z,-⟩:=az.open_;obtain⟨-,-,-,cB,j,-⟩:=aB.open_;have b6:c.cell? ⟨M,0,none⟩=some (.pointer (some ⟨s,0,none⟩)):=by
   obtain⟨b7,b8,p,-,-,-,aM⟩:=aI.shape;simp only[iC]at p;obtain⟨cG,H,aQ⟩:=aM 0 (by simp[ko]);rw[<-p.1]at H;simp only[iH,jj]at H;rw[H.1,aQ];simp[ko]
  have ci:c.cell? ⟨M,1,none⟩=some (.pointer (some ⟨y,0,none⟩)):=by
   obtain⟨b7,b8,p,-,-,-,aM⟩:=aI.shape;simp only[iC]at p;obtain⟨cG,H,aQ⟩:=aM 1 (by simp[ko]);rw[<-p.1]at H;simp only[iH,jj]at H;rw[H.1,aQ];simp[ko]
  have bA:=oP ⟨M,0,none⟩ 2 ag;clear aF I D bW bj az aB ac bs am ay b0 aI bO U cv L;go_wp2_with fail;try go_quiet (fail)
  try go_wp2_with fail
  go_fit (@kn (2*O) 4 y v A a5 (fz A aA) bC aw f av (fz f ar) aS _ (n.g.hV (KR.I (im hP _))) (n.j.hV (KR.I (im hP _))) (by omega) (by omega) (by omega) (by omega));rintro aq bx⟨rfl,⟨bY,ah⟩,bu⟩;have ao:Below c.heap.size c bx:=(im hP _).trans bu;have ah:jO 0 bx c.heap.size v f bY (λx b=>dot (fz A aA) (fz f ar) x b A) (2*O+4+12):=ah;have bG:=g_ ao b6;have bV:=g_ ao bg;have aL:=b_ ah ao;clear ah bu ao b6 ci co cD bg z cB j;go_wp2_with fail;try go_quiet (fail)
  try go_wp2_with fail
  go_fit (@lM _ v f bY _ 0 s ad _ aj (2*O+4+12) _ aL.f ((n.f.hV (KR.I aL.i)).mono (by omega)) (λx b t g=>by rw[iD];exact n.m.tm x b t g) (by omega) (by omega) (by omega));rintro aq cx⟨rfl,af⟩;have bK:Below c.heap.size c cx:=d_ aL.i af;have bM:=a_ bK;have bD:=g_ af bG;have a4:=g_ af bV;clear af bK bG bV;go_wp2_with fail;go_fit (@mW aw A f av (fz f ar) aS 4 _ (n.j.hV (KR.I bM.e)) (by omega) (by omega) (by omega));rintro aq cy⟨J,rfl,C,ae⟩;have cE:=(n.m.H7 C).2;have bk:Below c.heap.size c cy:=d_ bM.e ae;have bI:=a_ bk;have b4:=g_ ae bD;have b5:=g_ ae a4;subst cE;clear ae bk bD a4 C;go_wp2_with fail;go_fit (@DE s v f ad (fz f aK) aj 8 _ (n.f.hV (KR.I bI.e)) n.m.Ls (by omega) (by omega) (by omega));rintro aq ck⟨rfl,al⟩;have bv:Below c.heap.size c ck:=d_ bI.e al;have aD:=a_ bv;have a9:=g_ al b4;have bF:=g_ al b5;clear al bv b4 b5;go_wp2_with fail;try go_quiet (fail)
  try go_wp2_with fail
  go_fit (@o9 s aw v A f ad av (fz f aK) (fz f ar) aj aS 8 _ (n.f.hV (KR.I aD.e)) ((n.j.hV (KR.I aD.e)).mono (by omega)) (by omega) (by omega) (by omega));rintro aq bn⟨cj,rfl,bl,Z⟩;obtain rfl:cj=true:=bl.2 n.m.J2;have aH:Below c.heap.size c bn:=d_ aD.e Z;have c2:=g_ Z a9;have cP:=g_ Z bF;have S:f_ (ie B w bn W i j k nx):=a_ ⟨⟨_,_,_,n.r.below aH,by omega⟩,n.z.trans (aH.mono (by omega))⟩;clear Z aH bl a9 bF;go_wp2_with fail;try go_quiet (fail)
  try go_wp2
  go_ret;exact⟨rfl,S.e⟩
theorem zF{w:World}{g:Nat}{a b c:Int}{s t:ByteArray}(h:w.heap[g]?=some (.cells #[.int .i64 d,.int .i64 a,.int .i64 b,.int .i64 c,.string s,.string t] 87 (0,0))):w.cell? ⟨g,0,none⟩=some (.int .i64 d)/\w.cell? ⟨g,2,none⟩=some (.int .i64 b)/\w.cell? ⟨g,3,none⟩=some (.int .i64 c)/\w.cell? ⟨g,4,none⟩=some (.string s):=by
 simp[World.cell?,h]
theorem GH:F8 (λa=>1<=a/\a<=14):=by
 intro L M J O I V K Q a v r u q s c h o G D E H A g;have l:=a_ h;have F:=h.size;have C:=a_ o;clear h o;unfold Lj;go_in;go_wp2_with fail;obtain⟨p,d⟩:=hQ (c.alloc (.cells #[.int .i64 a,.int .i64 v,.int .i64 r,.int .i64 u,.string q,.string s] 87));have x:Below c.heap.size c p:=by rw[d];exact hS
 have P:p.heap.size=c.heap.size+1:=by rw[d];simp
 have j:=iP c (.cells #[.int .i64 a,.int .i64 v,.int .i64 r,.int .i64 u,.string q,.string s] 87);rw[<-d]at j;have k:=b_ x j;rw[<-d];clear x d j;go_fit (w6 (l.e.below k.f) G D);rintro w R⟨⟨X,rfl⟩,e⟩;have f:=b_ (d_ k.f e) ((e.block _ (by omega)).trans k.i);obtain⟨t,B,y,-⟩:=zF f.i;have S:=e.size;clear e;go_wp2_with fail;go_fit (w6 (l.e.below f.f) E H);rintro w W⟨⟨U,rfl⟩,m⟩;have i:=d_ f.f m;clear t B y;obtain⟨t,-,-,T⟩:=zF ((m.block _ (by omega)).trans f.i);have b:=b_ i (l.e.below i);clear m i;obtain rfl|rfl|rfl|rfl|rfl|rfl|rfl|rfl|rfl|rfl|rfl|rfl|rfl|rfl:a=1\/a=2\/a=3\/a=4\/a=5\/a=6\/a=7\/a=8\/a=9\/a=10\/a=11\/a=12\/a=13\/a=14:=by
  have:=C.e;omega
 all_goals go_wp2_with fail
 go_fit (Ed b.i A (by omega));rotate_left;go_fit (xL b.i);rotate_left;go_fit (xL b.i);rotate_left;go_fit (Br b.i);rotate_left;go_fit (zH b.i);rotate_left;go_fit (yN b.i);rotate_left;go_fit (Aq b.i g);rotate_left;go_fit (za b.i g);rotate_left;go_fit (Cl b.i g);rotate_left;go_fit (BJ b.i (by omega));rotate_left;go_fit (DI b.i);rotate_left;go_fit (BM b.i (by omega));rotate_left;go_fit (zO b.i g);rotate_left;go_fit (Ev b.i (by omega));all_goals
  rintro w N⟨rfl,n⟩;have z:=a_ (n.after (b.f.mono F));clear n;go_wp2;go_ret;exact⟨rfl,z.e⟩
end
end Go.Proofs.YtfjbijpagaipnabGreatDoor
