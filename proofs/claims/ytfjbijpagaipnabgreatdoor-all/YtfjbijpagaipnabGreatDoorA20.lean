import Derived.Test.YtfjbijpagaipnabGreatDoorCards
import Derived.Test.YtfjbijpagaipnabGreatDoorTie
import Derived.Test.YtfjbijpagaipnabGreatDoorA18
import Derived.Test.YtfjbijpagaipnabGreatDoorA19
import Derived.LaidMore
import Derived.OpenShut
import Derived.Stop.Joined
import Derived.SevenTiedAt
import Derived.Stop.LaidErr
namespace Go.Proofs.YtfjbijpagaipnabGreatDoor
open Go.RowKit
section
open Go.ChangeShapes Go.WideShapes Go.ChangeAt
theorem yg{o:pd}(h:Bf [4,5,6,7,8,9,10,11,12,13,14] o=true):1<=o.kd/\o.kd<=14:=by
 simp[Bf,pl]at h;omega
set_option maxRecDepth 100000 in
theorem GW{ops:List pd}{e:Option Addr}{n:Nat}{w:World}(l:vx w)(k:vZ w e ops)(q:ops.length<=281474976710656)(i:∀b∈ops,b.s.size<=281474976710656/\b.t.size<=281474976710656)(h:∀b∈ops,(-9223372036854775808<=b.a/\b.a<=9223372036854775807)/\(-9223372036854775808<=b.b/\b.b<=9223372036854775807)):Calls Tryz.prog 7 #[.slice e ops.length n] w λf y=>f=.returned (.bool true)/\Below w.heap.size w y:=by
 have d:=hY l k i h;clear l k i h;go_in;go_wp2_with fail;have c:Below w.heap.size w (w.alloc (.cells #[.int .i64 4,.int .i64 5,.int .i64 6,.int .i64 7,.int .i64 8,.int .i64 9,.int .i64 10,.int .i64 11,.int .i64 12,.int .i64 13,.int .i64 14] 3)):=hS;have v:=a_ c;have j:Kh (w.alloc (.cells #[.int .i64 4,.int .i64 5,.int .i64 6,.int .i64 7,.int .i64 8,.int .i64 9,.int .i64 10,.int .i64 11,.int .i64 12,.int .i64 13,.int .i64 14] 3)) (some ⟨w.heap.size,0,none⟩) [4,5,6,7,8,9,10,11,12,13,14]:=λa x=>by
  obtain rfl|rfl|rfl|rfl|rfl|rfl|rfl|rfl|rfl|rfl|rfl:a=0\/a=1\/a=2\/a=3\/a=4\/a=5\/a=6\/a=7\/a=8\/a=9\/a=10:=by simp at x;omega
  all_goals exact⟨w.heap.size,0,rfl,by simp,by simp⟩
 refine(@D_ ops e n [4,5,6,7,8,9,10,11,12,13,14] (some ⟨w.heap.size,0,none⟩) 11 _ (d.f.below c) (d.g.below c (Nat.le_refl _)) j (by simp) q d.j ?_).mono ?_
 .intro A p B z E F u;refine @E7 _ GH _ p B A z u ?_ ?_
  .have:=List.length_filter_le (Bf [4,5,6,7,8,9,10,11,12,13,14]) ops;omega
  .intro b o;obtain⟨m,t⟩:=List.mem_filter.1 o;have:=FB m;obtain⟨r,s⟩:=d.o b m;exact⟨⟨r,s,by omega⟩,yg t⟩
 .rintro f D⟨rfl,g⟩;have C:=a_ (d_ v.e g);clear g c j;go_wp2_with fail;go_ret;exact⟨rfl,C.e⟩
theorem KY:ownKnob Tryz.prog.godebug=none:=by kernel_rfl
theorem Gg:laidOutB Tryz.prog=true:=by kernel_rfl
theorem GB:Rows.laid_internal_strconv_uint64pow10=(Lib.tabData .u64 Lib.pow10Tab:DataW Unit):=by kernel_rfl
theorem La:Tryz.prog.globalNamed "internal/strconv.uint64pow10"=some ((Tryz.prog.globalNamed "internal/strconv.uint64pow10").getD 0):=by kernel_rfl
theorem EJ:(Tryz.prog.globals[(Tryz.prog.globalNamed "internal/strconv.uint64pow10").getD 0]?).map (·.type)=some 193:=by kernel_rfl
theorem EK:Tryz.prog.cellsOf 117=1:=by kernel_rfl
theorem FC:Tryz.prog.cellsOf 193=20:=by kernel_rfl
theorem zS{W:World}(h:laidMet Tryz.prog Rows.allRow.laid W):vx W:=by
 have b:laidMet Tryz.prog [("internal/strconv.uint64pow10",Lib.tabData .u64 Lib.pow10Tab)] W:=by
  have a:=laidMet.tail (laidMet.tail h);rw[GB]at a;exact a
 exact Lib.tabIs_of_head La EJ Tryz.underlying193 Tryz.underlying117 EK FC b
theorem FN(os:Os)(a:Array Value):laidMet Tryz.prog Rows.allRow.laid ((World.doorLaid Tryz.prog 2000 os).forCall (λ_ _=>0) ⟨#[],a,[]⟩).memory:=
 laidMet_of_run' 8 (by kernel_rfl) (by kernel_rfl)
set_option maxRecDepth 100000 in
theorem Cv(os:Os)(I:os.Started){Q:Type}(enc:TypeId×Value->Q):ReturnsInHanded {} Tryz.checked os 7 .any (λa b=>(Rows.allSpec.pre enc Tryz.prog Tryz.f7 [] false a b/\laidMet Tryz.prog Rows.allRow.laid a)/\sizedMet enc Tryz.prog Tryz.f7 (OpenSpec.ofChange Rows.allSpec) false a b) (Rows.allSpec.post enc Tryz.prog Tryz.f7 false true false false):=by
 refine returnsInHanded_of_change_and (C:=Tryz.checked) (X:=λa _=>laidMet Tryz.prog Rows.allRow.laid a) (λ_ _ _ U f=>f.of_heap U) KY I (by kernel_rfl) Tryz.func7 (ChangeSpec.witness_shaped (enc:=enc) (C:=Tryz.checked) (os:=os) (X:=λa _=>laidMet Tryz.prog Rows.allRow.laid a) false (World.doorLaid Tryz.prog 2000 os) #[.slice none 0 0] 8 rfl (World.shaped_of_RefB (by kernel_rfl) (by kernel_rfl)) (by kernel_rfl) (by kernel_rfl) (by kernel_rfl) (FN os _)) ?_;intro c J b u D aj w k _ v N _;have p:(DataW.weightsEach Tryz.prog (Tryz.f7.params.toList++Rows.allSpec.plain.varTypes Tryz.prog) (u++D)).all (· <=reachBytes)=true:=v;clear v;have o:∀(t:Nat) l s,Tryz.f7.params[t]?=some l->b[t]?=some s->Value.okWide Tryz.prog c .any J l s:=w;have d:=k;obtain⟨L,ad,m,R,rfl,ab,al⟩:=k;have A:DataW.TrodAll enc Tryz.prog c 0 (λ_=>true) true Tryz.f7.params.toList b.toList u L:=m;rw[Tryz.params7]at A o p;obtain⟨q,ah,r,Z,h,ak,ai,rfl,rfl,y,M⟩:=trodAll_cons A;obtain⟨rfl,rfl,rfl⟩:=trodAll_nil M;obtain rfl:b=#[q]:=by cases b;simp_all
 obtain⟨rfl,rfl⟩:=trodVars_none R;clear m w;simp only[List.append_nil]at d;have K:∀i∈h,i.block<c.heap.size:=λi S=>by simpa using d.lt i S
 obtain⟨Y,ag,af,rfl⟩:=okWide_slice Tryz.underlying49 (o 0 49 q rfl rfl);have n:=y;obtain⟨ae,T⟩:=y;have P:∀e∈r.weights Tryz.prog 49,e<=reachBytes:=λe g=>of_decide_eq_true (List.all_eq_true.1 p e (DataW.weights_mem_each (j:=0) rfl rfl e g));obtain⟨V,E,W,O,g,G,H,F⟩:=vM (x:=(r,h)) (by simpa[Value.cells]using T) P;rw[O]at n d|-;refine(@GW V E W c (zS N) G g H F).mono λaa ac ⟨B,z⟩=>?_;subst B;exact⟨_,rfl,_,_,_,[],h++[],[],d,trodAll_cons_mk (shut_bool Tryz.underlying4 _) trodAll_mk0,trodAll_cons_mk (Below.trod Gg (by kernel_rfl) (of_decide_eq_true (by kernel_rfl)) n z K) trodAll_mk0,rfl,z.frame _,λf=>by cases f⟩
theorem xg:Rows.AllSaid:=
 OpenClaim.holds_of_wide 7 Tryz.f7 rfl rfl rfl rfl rfl rfl rfl ⟨rfl,rfl,rfl,rfl,rfl⟩ rfl rfl rfl rfl rfl (by kernel_rfl) Tryz.func7 Ec (yO (by kernel_rfl)) (by unfold Func.isWrapper;first|(rw[if_pos (by decide+kernel)];kernel_rfl)|(rw[if_neg (by decide+kernel)];exact⟨rfl,rfl⟩)) (λa c d b _=>Cv a c b)
theorem all_card_holds:Rows.AllCardSaid:=
 Claim7.holds_tied_plain_at .later [] [.data,.data,.data] true Rows.allCard.stood.harness false xg (λ_ a=>by cases a) (by kernel_rfl) (λ_ a=>by cases a) all_row_tie rfl ⟨rfl,rfl⟩ (by kernel_rfl) rfl (λe i d j=>by
   obtain rfl:e=7:=Option.some.inj ((show Tryz.prog.funcNamed "matrices/matriceslaw.All"=some 7 by kernel_rfl).symm.trans d)|>.symm;obtain rfl:i=Tryz.f7:=(Option.some.inj (Tryz.func7.symm.trans j)).symm;exact⟨by kernel_rfl,λk b c=>by
    rw[Tryz.params7]at c;have h:b∈[49]:=by simpa using Array.mem_of_getElem? c
    have g:([49].all λf=>!Tryz.prog.wantsStandIn f)=true:=by kernel_rfl
    exact(show Tryz.prog.wantsStandIn b=false by simpa using List.all_eq_true.1 g b h)⟩)
  (by kernel_rfl)
#print axioms all_card_holds
end
end Go.Proofs.YtfjbijpagaipnabGreatDoor
