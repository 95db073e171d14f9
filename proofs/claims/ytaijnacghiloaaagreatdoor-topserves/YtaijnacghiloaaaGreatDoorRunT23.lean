/-
  Several texts as one: GSum, GVote, GTog.
-/
import Derived.Test.YtaijnacghiloaaaGreatDoorRunT6
import Derived.Test.YtaijnacghiloaaaGreatDoorRunT11
import Derived.Maps.OwnOps
import Derived.Maps.Views
import Derived.RegionTactic
import Derived.BigQuiet
import Derived.Deep.QuietTactic
import Derived.Deep.Cut
import Derived.Deep.CutRange
namespace Go.Proofs.YtaijnacghiloaaaGreatDoor
open Go.ChangeShapes Go.WideShapes Go.ChangeAt Go.RowKit Go.Lib Go.Maps
set_option linter.unusedVariables false
theorem gdown_any (a b:Int) (w:World) (hb:0<b) (hb2:b<=9007199254740992) (ha : -9007199254740992<=a) (ha2:a<=9007199254740992) :
 Calls Tryz.prog 78 #[.int .i64 a, .int .i64 b] w λ e w'=>e = .returned (.int .i64 (a / b))/\w'=w:=by
 obtain ⟨q1,q2⟩:=M.tdiv_bd a b 9007199254740992 hb ha ha2;have D:=hide (M.down_eq a b hb)
 by_cases h:a.tmod b<0
 · go_enter Tryz.func78, Tryz.ntmps78
   go_wp2
   go_ret
   exact ⟨ret_int (by rw [←D.out,if_pos h]),rfl⟩
 · go_enter Tryz.func78, Tryz.ntmps78
   go_wp2
   go_ret
   exact ⟨ret_int (by rw [←D.out,if_neg (by omega)]),rfl⟩
structure Vw (ws vs:List Int):Prop where
 len:ws.length=vs.length
 pos:0<vs.length
 top:vs.length<=12
 vals : ∀ i,i<vs.length -> -1000000<=vs.getD i 0/\vs.getD i 0<=1000000
 wts : ∀ i,i<vs.length->1<=ws.getD i 0/\ws.getD i 0<=1000
set_option maxHeartbeats 2000000 in
theorem gsum_in (a b:Option Addr) (ws vs:List Int) (ca cb:Nat) (w:World) (ha:Rd w a ws) (hb:Rd w b vs) (V:Vw ws vs) :
 Calls Tryz.prog 79 #[.slice a ws.length ca, .slice b vs.length cb] w λ e w'=>e = .returned (.int .i64 (M.sumK vs ws vs.length))/\w'=w:=by
 have n12:=V.top;have hl:=hide V.len;obtain ⟨ba,oa,rfl,hba,hca⟩:=ha.2 (by intro e;have:=V.len;have:=V.pos;rw [e] at *;simp at *;omega);obtain ⟨bb,ob,rfl,hbb,hcb⟩:=hb.2 (by intro e;have:=V.pos;rw [e] at *;simp at *);have HA:Hid (∀ i,i<vs.length->w.cell? ⟨ba,oa+i,none⟩=some (.int .i64 (ws.getD i 0))):=λ i hi=>hca i (by rw [hl.out];exact hi);have HB:=hide hcb;have HX:=hide (λ i (hi:i<vs.length)=>(⟨(V.vals i hi).1,(V.vals i hi).2,(V.wts i hi).1,(V.wts i hi).2⟩ : -1000000<=vs.getD i 0/\vs.getD i 0<=1000000/\1<=ws.getD i 0/\ws.getD i 0<=1000));have SB:=hide (λ k (hk:k<=vs.length)=>M.sum_bound (l:=vs) (ws:=ws) k (λ i hi=>HX.out i (by omega)))
 have W12:ws.length<=12:=by rw [hl.out];exact n12
 clear ha hb hca hcb hba hbb V
 go_enter Tryz.func79, Tryz.ntmps79
 go_wp2
 go_loopw [5,10] (λ s i wr => ∃ k:Nat,k<=vs.length/\s = .int .i64 (M.sumK vs ws k)/\i = .int .i64 k/\wr=w) (λ _ i _=>vs.length-(intOf i).toNat)
 case atStart=>exact ⟨0,Nat.zero_le _,rfl,rfl,rfl⟩
 case round =>
  obtain ⟨k,hk,rfl,rfl,ew⟩:=hrel;subst wr
  by_cases hlt:k<vs.length
  · have c1:=HA.out k hlt
    have c2:=HB.out k hlt;obtain ⟨x1,x2,y1,y2⟩:=HX.out k hlt;obtain ⟨s1,s2⟩:=SB.out k hk;have SS:Hid (M.sumK vs ws k+vs.getD k 0*ws.getD k 0=M.sumK vs ws (k+1)):=rfl
    have kz:(k:Int)<(vs.length:Int):=by omega
    have kw:(k:Int)<(ws.length:Int):=by rw [hl.out];exact kz
    obtain ⟨m1,m2⟩:=M.mul_far x1 x2 y1 y2;clear HA HB HX SB;generalize vs.getD k 0=x at *;generalize ws.getD k 0=y at *
    go_wp2_with (first
     | (go_at_call 120;refine (mul_small _ _ _ (by omega) (by omega) (by omega) (by omega)).mono ?_;rintro e w1 ⟨rfl,e1⟩;subst w1)
     | (go_at_call 121;refine (add_in _ _ _ (by omega) (by omega) (by omega) (by omega)).mono ?_;rintro e w1 ⟨rfl,e1⟩;subst w1))
    go_roundw
    case rel=>exact ⟨k+1,by omega,by rw [SS.out],by go_num,(by first | rfl | trivial)⟩
    case measure=>simp [intOf];omega
  · have ek:k=vs.length:=by omega
    have EE:=hide ek;clear ek HA HB HX SB
    go_wp2
    go_ret
    exact ⟨ret_int (by rw [EE.out]),rfl⟩
theorem keyI:Keyed Tryz.prog 3:=int_keyed Tryz.underlying3
theorem zeroI (w:World):(zeroValue 3).run Tryz.prog w = .ok (.int .i64 0) w:=by kernel_rfl
def Vm (w:World) (B k:Nat) (vs ws:List Int) (D:DataW Unit):Prop :=
 w.ownsMap Tryz.prog 3 (plainElem Tryz.prog 3) B k D/\IsMap D /\ ∀ v:Int,D.atKey (.int .i64 v) (.lit (.int .i64 0)) = .lit (.int .i64 (M.votK vs ws v k))
theorem vm_none (w:World) (vs ws:List Int):Vm (w.alloc (.map #[] 0)) w.heap.size 0 vs ws (.map []):=⟨World.ownsMap_made _ _ _ _,isMap_empty,λ v=>rfl⟩
theorem wfI {x:Int} (h1 : -1000000<=x) (h2:x<=1000000):(Lit.int .i64 x).wf=true:=WalkArith.wf_i64 (by omega)
theorem Vm.look {w:World} {B k:Nat} {vs ws:List Int} {D:DataW Unit} (h:Vm w B k vs ws D) {x:Int} (h1 : -1000000<=x) (h2:x<=1000000) :
 (Instr.lookup 208 (.map (some B)) (.int .i64 x) false).run Tryz.prog w = .ok (.int .i64 (M.votK vs ws x k)) w:=by
 obtain ⟨c,hrun,hat,_⟩:=h.1.lookup_int keyI Tryz.underlying208 Tryz.underlying3 (zeroI w) (keyOf_int_mk Tryz.underlying3 (wfI h1 h2));have e:=hat.symm.trans (h.2.2 x);cases e;exact hrun
theorem Vm.put {w:World} {B k:Nat} {vs ws:List Int} {D:DataW Unit} (h:Vm w B k vs ws D) (hk:k<12) {x y z:Int} (h1 : -1000000<=x) (h2:x<=1000000) (hx:vs.getD k 0=x) (hy:ws.getD k 0=y) (hz:z=M.votK vs ws x k+y) (z1 : -1000000<=z) (z2:z<=1000000) :
 ∃ w',(Instr.mapUpdate 208 (.map (some B)) (.int .i64 x) (.int .i64 z)).run Tryz.prog w = .ok () w'/\(∃ D',Vm w' B (k+1) vs ws D')/\w.grownBy w' (some B):=by
 obtain ⟨w',hrun,hown,hg⟩:=h.1.update keyI Tryz.underlying208 (by unfold maxLen;omega) (keyOf_int_mk Tryz.underlying3 (wfI h1 h2)) (plainElem_int Tryz.underlying3 (wfI z1 z2))
 refine ⟨w',hrun,⟨_,hown,h.2.1.put _ _,λ v => ?_⟩,hg⟩
 show _=DataW.lit (.int .i64 (M.votK vs ws v k+if vs.getD k 0=v then ws.getD k 0 else 0))
 by_cases e:x=v
 · subst e
   rw [atKey_put_same h.2.1 (by first | trivial | exact ⟨_,_,rfl⟩ | simp [WideAt.IsKeyLit]),hz,if_pos hx,hy]
 · rw [atKey_put_other (by intro q;cases q;exact e rfl),h.2.2 v,if_neg (by rw [hx];exact e)]
   rw [Int.add_zero]
set_option maxHeartbeats 4000000 in
theorem gvote_in (a b:Option Addr) (ws vs:List Int) (ca cb:Nat) (w:World) (ha:Rd w a ws) (hb:Rd w b vs) (V:Vw ws vs) :
 Calls Tryz.prog 81 #[.slice a ws.length ca, .slice b vs.length cb] w λ e w'=>e = .returned (.int .i64 (M.bestK vs ws vs.length).2)/\Below w.heap.size w w':=by
 have hmm := @run_makeMap Tryz.prog;have n12:=V.top;have n0:=V.pos;have hl:=hide V.len;obtain ⟨ba,oa,rfl,hba,hca⟩:=ha.2 (by intro e;have:=V.len;have:=V.pos;rw [e] at *;simp at *;omega);obtain ⟨bb,ob,rfl,hbb,hcb⟩:=hb.2 (by intro e;have:=V.pos;rw [e] at *;simp at *);have HA:Hid (∀ W,Below w.heap.size w W -> ∀ i,i<vs.length->W.cell? ⟨ba,oa+i,none⟩=some (.int .i64 (ws.getD i 0))):=λ W hW i hi=>(hW.cell (p:=⟨ba,oa+i,none⟩) hba).trans (hca i (by rw [hl.out];exact hi));have HB:Hid (∀ W,Below w.heap.size w W -> ∀ i,i<vs.length->W.cell? ⟨bb,ob+i,none⟩=some (.int .i64 (vs.getD i 0))):=λ W hW i hi=>(hW.cell (p:=⟨bb,ob+i,none⟩) hbb).trans (hcb i hi);have HX:=hide (λ i (hi:i<vs.length)=>(⟨(V.vals i hi).1,(V.vals i hi).2,(V.wts i hi).1,(V.wts i hi).2⟩ : -1000000<=vs.getD i 0/\vs.getD i 0<=1000000/\1<=ws.getD i 0/\ws.getD i 0<=1000));have VB:=hide (λ x k (hk:k<=vs.length)=>M.vot_bound (l:=vs) (ws:=ws) x k (λ i hi=>(HX.out i (by omega)).2.2));have BU:=hide (λ b hb hm=>M.best_unique (l:=vs) (ws:=ws) (b:=b) (λ i hi=>(HX.out i hi).2.2.1) n0 hb hm)
 have W12:ws.length<=12:=by rw [hl.out];exact n12
 have M0:=hide (vm_none w vs ws);have B0:Hid (Below w.heap.size w (w.alloc (.map #[] 0))):=(Below.refl _ _).alloc (Nat.le_refl _) _;clear ha hb hca hcb hba hbb V;generalize (M.bestK vs ws vs.length).2=res at *
 go_enter Tryz.func81, Tryz.ntmps81
 go_wp2
 go_loopw [14] (λ i wr => ∃ k:Nat,k<=vs.length/\i = .int .i64 k/\Hid (∃ D,Vm wr w.heap.size k vs ws D)/\Below w.heap.size w wr) (λ i _=>vs.length-(intOf i).toNat)
 case atStart=>exact ⟨0,Nat.zero_le _,rfl,⟨_,M0.out⟩,B0.out⟩
 case round =>
  obtain ⟨k,hk,rfl,VM,hbl⟩:=hrel;clear M0 B0
  by_cases hlt:k<vs.length
  · have c1:=HA.out wr hbl k hlt
    have c2:=HB.out wr hbl k hlt;obtain ⟨x1,x2,y1,y2⟩:=HX.out k hlt;obtain ⟨D,hD⟩:=VM.out
    obtain ⟨x,hx⟩ : ∃ x,vs.getD k 0=x:=⟨_,rfl⟩
    obtain ⟨y,hy⟩ : ∃ y,ws.getD k 0=y:=⟨_,rfl⟩
    rw [hx] at x1 x2 c2;rw [hy] at y1 y2 c1;obtain ⟨s1,s2⟩:=VB.out x k hk
    obtain ⟨c,hc⟩ : ∃ c,M.votK vs ws x k=c:=⟨_,rfl⟩
    have lk:=hD.look x1 x2;obtain ⟨w2,up,VM2,gr⟩:=hD.put (z:=c+y) (by omega) x1 x2 hx hy (by rw [hc]) (by omega) (by omega);rw [hc] at lk s1 s2
    have lkd:(Instr.lookup 208 (.map (some w.heap.size)) (.int .i64 x) false).run Tryz.prog wr.drew = .ok (.int .i64 c) wr.drew:=by
     obtain ⟨D,hD⟩:=VM.out;have:=Vm.look (w:=wr.drew) ⟨hD.1.drew,hD.2⟩ x1 x2;rw [hc] at this;exact this
    obtain ⟨w2,up,VM2,gr⟩:=Vm.put (w:=wr.drew) (z:=c+y) ⟨hD.1.drew,hD.2⟩ (by omega) x1 x2 hx hy (by rw [hc]) (by omega) (by omega);have HV2:=hide VM2;have HG:Hid (Below w.heap.size w w2):=hbl.drew.grown gr hbl.size (λ j hj=>by cases hj;exact Nat.le_refl _)
    have kz:(k:Int)<(vs.length:Int):=by omega
    have kw:(k:Int)<(ws.length:Int):=by rw [hl.out];exact kz
    clear HA HB HX VB BU VM2 hD hx hy hc gr VM lk
    go_upto_region 5 with fail
    go_region
    all_goals (
     go_wp2
     go_roundw
     case rel=>exact ⟨k+1,by omega,by go_num,HV2,HG.out⟩
     case measure=>simp [intOf];omega)
  · have ek:k=vs.length:=by omega
    have EE:=hide ek
    have VMn:Hid (∃ D,Vm wr w.heap.size vs.length vs ws D):=by rw [←EE.out];exact VM
    have c0:=HB.out wr hbl 0 n0
    obtain ⟨x0,hx0⟩ : ∃ x,vs.getD 0 0=x:=⟨_,rfl⟩
    have HX0:=hide hx0;rw [hx0] at c0;rw [Nat.add_zero] at c0
    have nz:(0:Int)<(vs.length:Int):=by omega
    obtain ⟨r1,r2,_⟩:=HX.out 0 n0;rw [hx0] at r1 r2
    have R0:Hid (-1000000<=x0/\x0<=1000000):=⟨r1,r2⟩
    clear ek VM r1 r2 hx0
    go_wp2
    go_loopw [8,33] (λ s i wx => ∃ (k:Nat) (b:Int),k<=vs.length/\s = .int .i64 b/\i = .int .i64 k/\wx=wr/\Hid (∃ j,j<vs.length/\b=vs.getD j 0)/\Hid (∀ i,i<k->M.votK vs ws (vs.getD i 0) vs.length<M.votK vs ws b vs.length∨(M.votK vs ws (vs.getD i 0) vs.length=M.votK vs ws b vs.length/\b<=vs.getD i 0))) (λ _ i _=>vs.length-(intOf i).toNat)
    case atStart=>exact ⟨0,x0,Nat.zero_le _,rfl,rfl,rfl,⟨0,n0,HX0.out.symm⟩,λ i hi=>by omega⟩
    case round =>
     obtain ⟨k,b,hk,rfl,rfl,ew,HJ,HM⟩:=hrel;subst ew;clear c0 HX0 R0
     by_cases hlt:k<vs.length
     · have c2:=HB.out _ hbl k hlt
       obtain ⟨x1,x2,_⟩:=HX.out k hlt;obtain ⟨D,hD⟩:=VMn.out
       obtain ⟨x,hx⟩ : ∃ x,vs.getD k 0=x:=⟨_,rfl⟩
       obtain ⟨jb,hj,hbj⟩:=HJ.out;obtain ⟨b1,b2,_⟩:=HX.out jb hj;rw [←hbj] at b1 b2;rw [hx] at x1 x2 c2;have lx:=hD.look x1 x2;have lb:=hD.look b1 b2
       have NX:Hid (∃ j,j<vs.length/\x=vs.getD j 0):=⟨k,hlt,hx.symm⟩
       have NM:Hid (∀ b',(M.votK vs ws x vs.length<M.votK vs ws b' vs.length∨(M.votK vs ws x vs.length=M.votK vs ws b' vs.length/\b'<=x))->(∀ i,i<k->M.votK vs ws (vs.getD i 0) vs.length<M.votK vs ws b' vs.length∨(M.votK vs ws (vs.getD i 0) vs.length=M.votK vs ws b' vs.length/\b'<=vs.getD i 0)) -> ∀ i,i<k+1->M.votK vs ws (vs.getD i 0) vs.length<M.votK vs ws b' vs.length∨(M.votK vs ws (vs.getD i 0) vs.length=M.votK vs ws b' vs.length/\b'<=vs.getD i 0)):=λ b' h1 h2 i hi=>by
        by_cases e:i=k
        · rw [e,hx];exact h1
        · exact h2 i (by omega)
       obtain ⟨cx,hcx⟩ : ∃ c,M.votK vs ws x vs.length=c:=⟨_,rfl⟩
       obtain ⟨cB,hcB⟩ : ∃ c,M.votK vs ws b vs.length=c:=⟨_,rfl⟩
       have kz:(k:Int)<(vs.length:Int):=by omega
       have HCX:=hide hcx;have HCB:=hide hcB;rw [hcx] at lx;rw [hcB] at lb;clear HA HB HX VB BU VMn hD hx hbj hcx hcB b1 b2 x1 x2
       rcases (show cB<cx∨(cx=cB/\x<b)∨(cx=cB /\ ¬ x<b)∨cx<cB from by omega) with g | ⟨g,g2⟩ | ⟨g,g2⟩ | g
       · have q1:decide (cB<cx)=true:=decide_eq_true g
         have N2:Hid (∀ i,i<k+1->M.votK vs ws (vs.getD i 0) vs.length<M.votK vs ws x vs.length∨(M.votK vs ws (vs.getD i 0) vs.length=M.votK vs ws x vs.length/\x<=vs.getD i 0)):=NM.out x (.inr ⟨rfl,Int.le_refl _⟩) (λ i hi=>by have h:=HM.out i hi;rw [HCB.out] at h;rw [HCX.out];omega);clear HM NM HCX HCB g HJ
         go_wp2
         go_roundw
         case rel=>exact ⟨k+1,x,by omega,rfl,by go_num,(by first | rfl | trivial),NX,N2⟩
         case measure=>simp [intOf];omega
       · have q1:decide (cB<cx)=false:=decide_eq_false (by omega)
         have q2:(cx == cB)=true:=by rw [beq_iff_eq];exact g
         have q3:decide (x<b)=true:=decide_eq_true g2;have N2:Hid (∀ i,i<k+1->M.votK vs ws (vs.getD i 0) vs.length<M.votK vs ws x vs.length∨(M.votK vs ws (vs.getD i 0) vs.length=M.votK vs ws x vs.length/\x<=vs.getD i 0)):=NM.out x (.inr ⟨rfl,Int.le_refl _⟩) (λ i hi=>by have h:=HM.out i hi;rw [HCB.out] at h;rw [HCX.out];omega);clear HM NM HCX HCB g g2 HJ
         go_wp2
         go_roundw
         case rel=>exact ⟨k+1,x,by omega,rfl,by go_num,(by first | rfl | trivial),NX,N2⟩
         case measure=>simp [intOf];omega
       · have q1:decide (cB<cx)=false:=decide_eq_false (by omega)
         have q2:(cx == cB)=true:=by rw [beq_iff_eq];exact g
         have q3:decide (x<b)=false:=decide_eq_false g2;have N2:=hide (NM.out b (by rw [HCX.out,HCB.out];omega) HM.out);clear HM NM HCX HCB g g2 NX
         go_wp2
         go_roundw
         case rel=>exact ⟨k+1,b,by omega,rfl,by go_num,(by first | rfl | trivial),HJ,N2⟩
         case measure=>simp [intOf];omega
       · have q1:decide (cB<cx)=false:=decide_eq_false (by omega)
         have q2:(cx == cB)=false:=by rw [beq_eq_false_iff_ne];omega
         have N2:=hide (NM.out b (by rw [HCX.out,HCB.out];omega) HM.out);clear HM NM HCX HCB g NX
         go_wp2
         go_roundw
         case rel=>exact ⟨k+1,b,by omega,rfl,by go_num,(by first | rfl | trivial),HJ,N2⟩
         case measure=>simp [intOf];omega
     · have R:Hid (res=b):=BU.out b HJ.out (λ i hi=>HM.out i (by omega))
       clear HA HB HX VB BU VMn HM HJ
       go_wp2
       go_ret
       exact ⟨ret_int R.out.symm,hbl⟩
set_option maxHeartbeats 4000000 in
theorem gtog_in (wy:Int) (a b:Option Addr) (ws vs:List Int) (ca cb:Nat) (w:World) (ha:Rd w a ws) (hb:Rd w b vs) (V:Vw ws vs) (h1:1<=wy) (h3:wy<=3) :
 Calls Tryz.prog 47 #[.int .i64 wy, .slice a ws.length ca, .slice b vs.length cb] w λ e w'=>e = .returned (.int .i64 (M.together wy ws vs))/\Below w.heap.size w w':=by
 have CS:=hide (λ W (hW:Below w.heap.size w W)=>gsum_in a b ws vs ca cb W (ha.below hW) (hb.below hW) V);have CV:=hide (λ W (hW:Below w.heap.size w W)=>gvote_in a b ws vs ca cb W (ha.below hW) (hb.below hW) V);have l0:ws.length=vs.length:=V.len;have lp:=V.pos;have wt : ∀ i,i<ws.length->1<=ws.getD i 0/\ws.getD i 0<=1000:=λ i hi=>V.wts i (by omega);have CT:=hide (λ W (hW:Below w.heap.size w W)=>total_in a ws ca W (ha.below hW) (by omega) (by rw [l0];exact V.top) wt);obtain ⟨s1,s2⟩:=M.sum_bound (l:=vs) (ws:=ws) vs.length (λ i hi=>⟨(V.vals i hi).1,(V.vals i hi).2,(V.wts i hi).1,(V.wts i hi).2⟩);obtain ⟨t1,t2⟩:=M.all_pos (ws:=ws) ws.length wt;have n12:=V.top
 have s3 : -12000000000<=M.sumK vs ws vs.length:=by omega
 have s4:M.sumK vs ws vs.length<=12000000000:=by omega
 have t3:0<M.allK ws ws.length:=by omega
 have t4:M.allK ws ws.length<=12000:=by omega
 by_cases c1:wy=1
 · have E:Hid (M.sumK vs ws vs.length=M.together wy ws vs):=by unfold Hid M.together;rw [if_pos c1]
   have q2:(wy == 2)=false:=by rw [beq_eq_false_iff_ne];omega
   have q3:(wy == 3)=false:=by rw [beq_eq_false_iff_ne];omega
   clear ha hb V l0 wt s1 s2 t1 t2 c1 CV CT;generalize M.together wy ws vs=R at *;generalize M.sumK vs ws vs.length=S at *
   go_enter Tryz.func47, Tryz.ntmps47
   go_wp2_with (go_at_call 79;refine (CS.out _ (Below.refl _ _)).mono ?_;rintro e w1 ⟨rfl,e1⟩;subst w1)
   go_ret
   exact ⟨ret_int E.out,Below.refl _ _⟩
 · by_cases c2:wy=2
   · have E:Hid (M.sumK vs ws vs.length / M.allK ws ws.length=M.together wy ws vs):=by unfold Hid M.together;rw [if_neg c1,if_pos c2,l0]
     have q2:(wy == 2)=true:=by rw [beq_iff_eq];exact c2
     clear ha hb V l0 wt s1 s2 t1 t2 c1 c2 CV;generalize M.together wy ws vs=R at *;generalize M.sumK vs ws vs.length=S at *;generalize M.allK ws ws.length=T at *
     go_enter Tryz.func47, Tryz.ntmps47
     go_wp2_with (first
      | (go_at_call 79;refine (CS.out _ (Below.refl _ _)).mono ?_;rintro e w1 ⟨rfl,e1⟩;subst w1)
      | (go_at_call 80;refine (CT.out _ (Below.refl _ _)).mono ?_;rintro e w2 ⟨rfl,e2⟩;subst w2)
      | (go_at_call 78;refine (gdown_any S T _ (by omega) (by omega) (by omega) (by omega)).mono ?_;rintro e w3 ⟨rfl,e3⟩;subst w3))
     go_ret
     exact ⟨ret_int E.out,Below.refl _ _⟩
   · have E:Hid ((M.bestK vs ws vs.length).2=M.together wy ws vs):=by unfold Hid M.together;rw [if_neg c1,if_neg c2]
     have q2:(wy == 2)=false:=by rw [beq_eq_false_iff_ne];omega
     have q3:(wy == 3)=true:=by rw [beq_iff_eq];omega
     clear ha hb V l0 wt s1 s2 t1 t2 c1 c2 CS CT;generalize M.together wy ws vs=R at *;generalize (M.bestK vs ws vs.length).2=S at *
     go_enter Tryz.func47, Tryz.ntmps47
     go_wp2_with (go_at_call 81;refine (CV.out _ (Below.refl _ _)).mono ?_;rintro e w1 ⟨rfl,hb1⟩)
     go_ret
     exact ⟨ret_int E.out,hb1⟩
end Go.Proofs.YtaijnacghiloaaaGreatDoor

namespace Go.Proofs.YtaijnacghiloaaaGreatDoor
open Go.ChangeShapes Go.WideShapes Go.ChangeAt Go.RowKit Go.Lib
set_option linter.unusedVariables false
theorem M.wts_vw {ws vs:List Int} (V:Vw ws vs):M.wtsF ws vs.length=0:=by
 have h0:=V.pos;have h12:=V.top;have hl:=V.len;unfold M.wtsF;rw [if_neg (by omega),if_neg (by omega),if_neg (by simp [hl])]
 have:ws.any M.wBad=false:=by
  cases e:ws.any M.wBad with
  | false=>rfl
  | true =>
    obtain ⟨x,hx,e2⟩:=List.any_eq_true.1 e;obtain ⟨i,hi,rfl⟩:=List.getElem_of_mem hx;have:=V.wts i (by omega);rw [M.getD_at hi] at this;unfold M.wBad at e2;rw [decide_eq_false (by omega),decide_eq_false (by omega)] at e2;cases e2
 rw [this];rfl
set_option maxHeartbeats 2000000 in
theorem gTog_in (wy:Int) (a b:Option Addr) (ws vs:List Int) (ca cb:Nat) (w:World) (ha:Rd w a ws) (hb:Rd w b vs) (V:Vw ws vs) (h1:1<=wy) (h3:wy<=3) :
 Calls Tryz.prog 99 #[.int .i64 wy, .slice a ws.length ca, .slice b vs.length cb] w λ e w'=>e = .returned (.tuple #[.int .i64 (M.together wy ws vs), .nilIface])/\Below w.heap.size w w':=by
 have IW:=hide (λ W=>isway_any wy W true (decide_eq_true ⟨h1,h3⟩).symm);have CW:=hide (gwts_any a ws ca vs.length w ha);rw [M.wts_vw V,err_nil rfl] at CW;have CT:=hide (gtog_in wy a b ws vs ca cb w ha hb V h1 h3);have hm:vs.length<=9223372036854775807:=hb.1;clear ha hb V h1 h3;generalize M.together wy ws vs=T at *
 go_enter Tryz.func99, Tryz.ntmps99
 go_wp2_with (first
  | (go_at_call 48;refine (IW.out _).mono ?_;rintro e w1 ⟨rfl,e1⟩;subst w1)
  | (go_at_call 49;refine CW.out.mono ?_;rintro e w2 ⟨rfl,e2⟩;subst w2)
  | (go_at_call 47;refine CT.out.mono ?_;rintro e w3 ⟨rfl,hb3⟩))
 go_ret2
 exact ⟨rfl,hb3⟩
end Go.Proofs.YtaijnacghiloaaaGreatDoor
