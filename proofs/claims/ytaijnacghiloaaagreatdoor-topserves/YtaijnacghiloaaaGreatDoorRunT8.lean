/-
  Several texts as one: MathBd, SaCells, SaPart, GroMean, GroNum, GroLeaf, GroPart, MathSg, SaAway.
-/
import Derived.Test.YtaijnacghiloaaaGreatDoorRunT7
import Derived.Test.YtaijnacghiloaaaGreatDoorRunT1
import Derived.Deep.Cut
import Derived.Deep.CutRange
import Derived.Deep.AppendLies
import Derived.OwnWalk
import Derived.RegionTactic
import Derived.BigQuiet
import Derived.Deep.QuietTactic
import Derived.Test.YtaijnacghiloaaaGreatDoorRunT4
namespace Go.Proofs.YtaijnacghiloaaaGreatDoor.M
set_option linter.unusedVariables false
theorem bo_round {m dp k:Nat} {share:Int} {l:List Sa} {L:List BT} {R:List Int} {e:Bool} (h:GoodS l m) (hl:0<l.length) (s1:1<=share) (s2:share<=100) (hd:dp<=4) (hk:k<=8) (I:BoI m dp l k (L,R,e)) :
 R.length=l.length/\(∀ x∈R, -10000<=x/\x<=10000)/\(boT m dp share l R).size<=31/\Fair (lay (boT m dp share l R) 0) (m:Int)/\inV 1000 (growT m 1 dp (lesS l R)) /\ ∀ s∈l,nv (nAt (lay (boT m dp share l R) 0) (toD (lay (boT m dp share l R) 0) s.1 0))=evB (boT m dp share l R) s.1 /\ -1000<=evB (boT m dp share l R) s.1/\evB (boT m dp share l R) s.1<=1000:=by
 have rl:R.length=l.length:=I.len;have G:=les_good h rl
 have ll:0<(lesS l R).length:=by rw [les_len l _ rl];exact hl
 have gi:=grow_in (m:=m) (least:=1) (Int.le_refl _) dp G ll;have go:=grow_ok (m:=m) (least:=1) (Int.le_refl _) dp G ll;have gd:=grow_deep m 1 dp (lesS l R);have bi:inV 1000 (boT m dp share l R):=sc_in (λ v a b=>shr_in s1 s2 v a b) _ gi;have bo:okB (m:Int) (boT m dp share l R):=sc_ok (λ v a b=>by have:=shr_in s1 s2 v a b;exact out_in (by omega) (by omega)) _ go gi;have p:2 ^ (dp+1)<=2 ^ (4+1):=Nat.pow_le_pow_right (by omega) (by omega)
 have bs:(boT m dp share l R).size<=31:=by unfold boT;rw [sc_size];have:=gd.2;omega
 have bd:(boT m dp share l R).deep<=4:=by unfold boT;rw [sc_deep];have:=gd.1;omega
 have m8:=h.m8;have tr:(treeF (lay (boT m dp share l R) 0) (m:Int)).2=0:=lay_tree bo (by omega) (by omega) (by omega) (by omega)
 refine ⟨rl,λ x hx => ?_,bs,(tree_ok tr).1,gi,λ s hs => ?_⟩
 · obtain ⟨i,hi,rfl⟩:=List.getElem_of_mem hx
   have hi':i<l.length:=by omega
   have e:=I.rest i hi';have e2:R.getD i 0=R[i]:=getD_at hi
   have hm:sAt l i∈l:=by unfold sAt;rw [getD_at hi'];exact List.getElem_mem hi'
   have t:=(h.each _ hm).2.2.1;have a:=allB_in (x:=(sAt l i).1) (L:=L) (λ T hT=>(I.each T hT).2.1);have tk:L.length<=k+1:=I.tk;have e':R.getD i 0=(sAt l i).2-allB L (sAt l i).1:=e;omega
 · obtain ⟨z1,z2,z3,z4⟩:=h.each s hs
   have q:=lay_eval (T:=boT m dp share l R) (r:=s.1) (by rw [z2];exact bo) (by rw [z2];exact tr) z1;have ev:=q.2;unfold evalV at ev;rw [if_pos q.1] at ev
   exact ⟨ev,in_ev s.1 _ bi⟩
theorem less_in {T:BT} {l:List Sa} {R:List Int} (h:R.length=l.length) (hR : ∀ x∈R, -10000<=x/\x<=10000) (hT : ∀ s∈l, -1000<=evB T s.1/\evB T s.1<=1000) : ∀ x∈lessL T l R, -100000<=x/\x<=100000:=λ x hx=>by
 obtain ⟨i,hi,rfl⟩:=List.getElem_of_mem hx;have ln:=less_len T l R h;have e:=less_at T l R h i (by omega);rw [getD_at hi,getD_at (by omega)] at e;have r:=hR R[i] (List.getElem_mem _)
 have hm:sAt l i∈l:=by unfold sAt;rw [getD_at (by omega)];exact List.getElem_mem _
 have t:=hT _ hm;omega
theorem bo_end {m dp:Nat} {share:Int} {l:List Sa} {k:Nat} {L:List BT} {R:List Int} (h:boR m dp share l k=(L,R,false)) (hq:sqs R<=sqs (lessL (boT m dp share l R) l R)):boR m dp share l (k+1)=(L,R,true):=by
 show boN m dp share l (boR m dp share l k)=_;rw [h];unfold boN;rw [if_neg (show ¬ (false=true) by decide),if_pos hq]
theorem bo_on {m dp:Nat} {share:Int} {l:List Sa} {k:Nat} {L:List BT} {R:List Int} (h:boR m dp share l k=(L,R,false)) (hq : ¬ sqs R<=sqs (lessL (boT m dp share l R) l R)):boR m dp share l (k+1)=(L ++ [boT m dp share l R],lessL (boT m dp share l R) l R,false):=by
 show boN m dp share l (boR m dp share l k)=_;rw [h];unfold boN;rw [if_neg (show ¬ (false=true) by decide),if_neg hq]
theorem bo_stay {m dp:Nat} {share:Int} {l:List Sa} {k:Nat} (h:(boR m dp share l k).2.2=true) : ∀ j,boR m dp share l (k+j)=boR m dp share l k
 | 0=>rfl
 | j+1=>by
   have ih:=bo_stay h j;show boN m dp share l (boR m dp share l (k+j))=_;rw [ih];unfold boN;rw [if_pos h]
end Go.Proofs.YtaijnacghiloaaaGreatDoor.M

namespace Go.Proofs.YtaijnacghiloaaaGreatDoor
open Go.ChangeShapes Go.WideShapes Go.ChangeAt Go.RowKit Go.Lib
set_option linter.unusedVariables false
def saCells (xs:List Sx):List Value:=xs.flatMap λ x => [sxV x, .int .i64 x.2.2.2]
theorem saCells_snoc (xs:List Sx) (x:Sx):saCells (xs ++ [x])=saCells xs ++ [sxV x, .int .i64 x.2.2.2]:=by simp [saCells]
theorem saCells_at : ∀ (xs:List Sx) (i:Nat) (h:i<xs.length),(saCells xs)[i*2]? = some (sxV xs[i])/\(saCells xs)[i*2+1]? = some (.int .i64 xs[i].2.2.2)
 | [],i,h=>by simp at h
 | x :: t,0,h=>⟨rfl,rfl⟩
 | x :: t,i+1,h=>by
   have:=saCells_at t i (by simpa using h);have e:saCells (x :: t)=sxV x :: .int .i64 x.2.2.2 :: saCells t:=rfl;rw [e,show (i+1)*2=i*2+1+1 by omega]
   simpa using this
theorem own_rdL {w:World} {base n:Nat} {v:Value} {xs:List Sx} (hn:xs.length=n) (hm:n<=maxLen) (h:w.ownsRow base 97 2 v n (saCells xs)) (hr : ∀ x∈xs,Rd w x.1 x.2.1) : ∃ a cap,v = .slice a n cap/\RdL w a xs:=by
 subst hn
 rcases h.2 with ⟨hv,h0⟩ | ⟨g,cap,cur,hv,hb,hg,h1,h2,h3,h4⟩
 · have e:xs = []:=List.length_eq_zero_iff.1 h0
   subst e
   exact ⟨none,0,hv,⟨Nat.zero_le _,hr,λ h=>absurd rfl h⟩⟩
 · subst hv
   refine ⟨_,cap,rfl,⟨hm,hr,λ _=>⟨g,0,rfl,(Array.getElem?_eq_some_iff.1 hg).1,λ i hi => ?_⟩⟩⟩
   obtain ⟨q0,q1⟩:=saCells_at xs i hi;rw [Nat.zero_add]
   exact ⟨(h.cellAt (i*2) (by omega)).trans q0,(h.cellAt (i*2+1) (by omega)).trans q1⟩
theorem own_any {w:World} {base n e size:Nat} {v:Value} {l:List Value} (h:w.ownsRow base e size v n l) : ∃ va vc,v = .slice va n vc:=by
 rcases h.2 with ⟨hv,h0⟩ | ⟨g,cap,cur,hv,_⟩
 · exact ⟨none,0,by rw [hv,h0]⟩
 · exact ⟨some ⟨g,0,none⟩,cap,hv⟩
theorem infoSam:(Tryz.prog.info? 97).map (λ i=>(i.zero,i.size,i.bytes))=some (some (.agg #[.slice none 0 0, .int .i64 0]),2,32):=by kernel_rfl
structure Ask (xs:List Sx) (m:Nat):Prop where
 le:xs.length<=60
 row : ∀ x∈xs,x.2.1.length=m
 tgt : ∀ x∈xs, -1000<=x.2.2.2/\x.2.2.2<=1000
theorem Ask.of {xs:List Sx} {m:Nat} (h:M.GoodS (sms xs) m):Ask xs m :=
 ⟨by have:=h.le;rw [sms_len] at this;exact this,λ x hx=>(h.each (sm x) (List.mem_map.2 ⟨x,hx,rfl⟩)).2.1,λ x hx=>(h.each (sm x) (List.mem_map.2 ⟨x,hx,rfl⟩)).2.2.1⟩
theorem Ask.in {xs:List Sx} {m:Nat} (h:Ask xs m) (f:Nat) (c:Int) (b:Bool) (k:Nat) : -60000<=M.sumT (M.partS ((sms xs).take k) f c b)/\M.sumT (M.partS ((sms xs).take k) f c b)<=60000/\(M.partS ((sms xs).take k) f c b).length<=60:=by
 have l1:(M.partS ((sms xs).take k) f c b).length<=60:=by
  refine Nat.le_trans (List.length_filter_le _ _) ?_;rw [List.length_take,sms_len];have:=h.le;omega
 have:=M.sum_in (l:=M.partS ((sms xs).take k) f c b) λ s hs=>by
  have h1:=List.mem_of_mem_take (List.mem_filter.1 hs).1;obtain ⟨x,hx,rfl⟩:=List.mem_map.1 h1;exact h.tgt x hx
 omega
def partX (xs:List Sx) (f:Nat) (c:Int) (b:Bool):List Sx:=xs.filter λ x=>decide (x.2.1.getD f 0<c) == b
theorem partX_sms (xs:List Sx) (f:Nat) (c:Int) (b:Bool):sms (partX xs f c b)=M.partS (sms xs) f c b:=by
 unfold sms partX M.partS;rw [List.filter_map];rfl
theorem partX_more (xs:List Sx) (f:Nat) (c:Int) (b:Bool) {k:Nat} (hk:k<xs.length):partX (xs.take (k+1)) f c b=if (decide (xs[k].2.1.getD f 0<c) == b)=true then partX (xs.take k) f c b ++ [xs[k]] else partX (xs.take k) f c b:=by
 unfold partX;rw [List.take_succ_eq_append_getElem hk,List.filter_append]
 by_cases q:(decide (xs[k].2.1.getD f 0<c) == b)=true
 · rw [if_pos q,List.filter_cons_of_pos (by exact q)];rfl
 · rw [if_neg q,List.filter_cons_of_neg (by exact q)];simp
theorem partX_mem {xs:List Sx} {f:Nat} {c:Int} {b:Bool} {x:Sx} (h:x∈partX xs f c b):x∈xs:=(List.mem_filter.1 h).1
theorem Ask.part {xs:List Sx} {m:Nat} (h:Ask xs m) (f:Nat) (c:Int) (b:Bool):Ask (partX xs f c b) m :=
 ⟨Nat.le_trans (List.length_filter_le _ _) h.le,λ x hx=>h.row x (partX_mem hx),λ x hx=>h.tgt x (partX_mem hx)⟩
theorem wrap_in5 (x:Int) (h1 : -9223372036854775808<=x) (h2:x<=9223372036854775807):IntKind.i64.wrap x=x:=by
 simp [IntKind.wrap,IntKind.bits,IntKind.signed]
 split <;> omega
theorem M.sqR_in {s B:Int} (h1 : -B<=s) (h2:s<=B):0<=s*s/\s*s<=B*B:=by
 by_cases h:0<=s
 · exact ⟨Int.mul_nonneg h h,Int.mul_le_mul h2 h2 h (by omega)⟩
 · have e:s*s=(-s)*(-s):=by grind
   rw [e]
   exact ⟨Int.mul_nonneg (by omega) (by omega),Int.mul_le_mul (by omega) (by omega) (by omega) (by omega)⟩
theorem M.mulp_in {a b A B:Int} (h1:0<=a) (h2:a<=A) (h3:0<=b) (h4:b<=B):0<=a*b/\a*b<=A*B:=⟨Int.mul_nonneg h1 h3,Int.mul_le_mul h2 h4 h3 (by omega)⟩
theorem Ask.two {xs:List Sx} {m:Nat} (h:Ask xs m) (f:Nat) (c:Int) (b:Bool) : -60000<=M.tB (sms xs) f c b/\M.tB (sms xs) f c b<=60000/\0<=M.nB (sms xs) f c b/\M.nB (sms xs) f c b<=60:=by
 have:=h.in f c b xs.length;rw [←sms_len xs,List.take_length] at this;unfold M.tB M.nB;omega
theorem Ask.all {xs:List Sx} {m:Nat} (h:Ask xs m) (k:Nat) : -60000<=M.sumT ((sms xs).take k)/\M.sumT ((sms xs).take k)<=60000:=by
 have l1:((sms xs).take k).length<=60:=by
  rw [List.length_take,sms_len];have:=h.le;omega
 have:=M.sum_in (l:=(sms xs).take k) λ s hs=>by
  obtain ⟨x,hx,rfl⟩:=List.mem_map.1 (List.mem_of_mem_take hs);exact h.tgt x hx
 omega
theorem Ask.ud {xs:List Sx} {m:Nat} (h:Ask xs m) (f:Nat) (c:Int):(0<=M.spU (sms xs) f c/\M.spU (sms xs) f c<=432000000000)/\(0<=M.spD (sms xs) f c/\M.spD (sms xs) f c<=3600):=by
 obtain ⟨a1,a2,a3,a4⟩:=h.two f c true;obtain ⟨b1,b2,b3,b4⟩:=h.two f c false;have s1:=M.sqR_in a1 a2;have s2:=M.sqR_in b1 b2;have u1:=M.mulp_in s1.1 s1.2 b3 b4;have u2:=M.mulp_in s2.1 s2.2 a3 a4;have d:=M.mulp_in a3 a4 b3 b4;unfold M.spU M.spD;omega
theorem Ask.st {xs:List Sx} {m:Nat} (h:Ask xs m) (least:Int):(0<=(M.sp0 (sms xs)).1/\(M.sp0 (sms xs)).1<=432000000000)/\(0<=(M.sp0 (sms xs)).2.1/\(M.sp0 (sms xs)).2.1<=3600):=by
 have:=h.all xs.length;rw [←sms_len xs,List.take_length] at this;have s:=M.sqR_in this.1 this.2;have:=h.le
 have e:(M.sp0 (sms xs)).2.1=(xs.length:Nat):=by show (((sms xs).length:Nat):Int)=_;rw [sms_len]
 rw [e]
 refine ⟨⟨s.1, ?_⟩,by omega,by omega⟩
 show M.sumT (sms xs)*M.sumT (sms xs)<=_;omega
def StIn (st:M.SpS):Prop:=(0<=st.1/\st.1<=432000000000)/\(0<=st.2.1/\st.2.1<=3600)
theorem fit_far (n:Int) (w:World) (h1 : -1000000<=n) (h2:n<=1000000) :
 Calls Tryz.prog 146 #[.int .i64 n] w λ e w'=>e = .returned (.int .i64 n)/\w'=w:=by
 go_enter Tryz.func146, Tryz.ntmps146
 go_wp2
 go_ret
 exact ⟨rfl,rfl⟩
theorem down_far (a b:Int) (w:World) (hb:0<b) (hb2:b<=9007199254740992) (ha : -9007199254740992<=a) (ha2:a<=9007199254740992) :
 Calls Tryz.prog 157 #[.int .i64 a, .int .i64 b] w λ e w'=>e = .returned (.int .i64 (a / b))/\w'=w:=by
 obtain ⟨q1,q2⟩:=M.tdiv_bd a b 9007199254740992 hb ha ha2;have D:=hide (M.down_eq a b hb)
 by_cases h:a.tmod b<0
 · go_enter Tryz.func157, Tryz.ntmps157
   go_wp2
   go_ret
   exact ⟨ret_int (by rw [←D.out,if_pos h]),rfl⟩
 · go_enter Tryz.func157, Tryz.ntmps157
   go_wp2
   go_ret
   exact ⟨ret_int (by rw [←D.out,if_neg (by omega)]),rfl⟩
theorem fill_step {w wr:World} {B n k:Nat} {F:List Int} {x:Int} (hF:F.length=n) (hk:k<n) (hx:x=F[k])
 (hown:wr.ownsRow B 3 1 (.slice (some ⟨B,0,none⟩) n n) n ((M.fillI F k).map (Value.int .i64))) (hbl:Below B w wr) :
 (wr.setCell ⟨B,k,none⟩ (.int .i64 x)).ownsRow B 3 1 (.slice (some ⟨B,0,none⟩) n n) n ((M.fillI F (k+1)).map (Value.int .i64))/\Below B w (wr.setCell ⟨B,k,none⟩ (.int .i64 x)):=by
 subst hx
 refine ⟨?_,hbl.setCell (Nat.le_refl _) _⟩
 have:=(hown.stored k (.int .i64 F[k])).1;rw [←M.fill_set F k (by omega),List.map_set];exact this
set_option maxHeartbeats 1000000 in
theorem counted_far (a:Option Addr) (xs:List Int) (cap:Nat) (w:World) (h:Rd w a xs) (hn:xs.length<=60) (h0:0<xs.length) (hv : ∀ x∈xs, -1000000<=x/\x<=1000000) :
 Calls Tryz.prog 156 #[.slice a xs.length cap] w λ e w'=>e = .returned (.slice (some ⟨w.heap.size,0,none⟩) xs.length xs.length) /\
  w'.ownsRow w.heap.size 3 1 (.slice (some ⟨w.heap.size,0,none⟩) xs.length xs.length) xs.length (xs.map (Value.int .i64))/\Below w.heap.size w w':=by
 obtain ⟨i0,hi,hz0,hz1,hz2⟩:=info_parts info3;obtain ⟨b,off,rfl,hb,hc⟩:=h.2 (by intro e;rw [e] at h0;simp at h0);have HV:=hide hv;have HC:=hide hc;clear h hv hc h0
 have mn:min (xs.length:Int) 1000=(xs.length:Int):=by omega
 obtain ⟨n,hn'⟩ : ∃ n,n=xs.length:=⟨_,rfl⟩
 have HN:=hide hn';rw [←hn'] at hn mn ⊢
 have n1000 : ¬ (1000:Int)<(n:Int):=by omega
 have nle:(n:Int)<=1000:=by omega
 have FA:Hid (M.fillI xs n=xs):=by unfold Hid;rw [hn'];exact M.fill_all xs
 clear hn' mn
 go_enter Tryz.func156, Tryz.ntmps156
 go_wp2_with (at_make;refine wpList_make_full _ rfl (.tmp 7) (.tmp 7) 24 rfl w.heap.size 3 i0 (.int .i64 0) 1 Tryz.underlying24 hi hz0 hz1 .i64 .i64 _ _ n rfl rfl (by omega) (by omega) (by rw [hz2];omega) (by unfold maxLen;omega) (Nat.le_refl _) ?_;intro w1 hown hgrow)
 rw [made] at hown;have hB:Hid (Below w.heap.size w w1):=(Below.refl _ w).grown hgrow (Nat.le_refl _) (λ k hk=>by cases hk)
 have ho:Hid (w1.ownsRow w.heap.size 3 1 (.slice (some ⟨w.heap.size,0,none⟩) n n) n ((M.fillI xs 0).map (Value.int .i64))):=by
  unfold Hid;rw [M.fill_zero,←HN.out];exact hown
 clear hown hgrow hi hz0 hz1 hz2
 go_loopw [11] (λ i wr => ∃ k:Nat,k<=n/\i = .int .i64 k/\Hid (wr.ownsRow w.heap.size 3 1 (.slice (some ⟨w.heap.size,0,none⟩) n n) n ((M.fillI xs k).map (Value.int .i64)))/\Hid (Below w.heap.size w wr)) (λ i _=>n-(intOf i).toNat)
 case atStart=>exact ⟨0,Nat.zero_le _,rfl,ho,hB⟩
 case round =>
  obtain ⟨k,hk,rfl,HO,K⟩:=hrel;clear ho hB
  by_cases hlt:k<n
  · have kl:k<xs.length:=by rw [←HN.out];exact hlt
    have hck:=(K.out.cell (p:=⟨b,off+k,none⟩) hb).trans (Rd.at HC.out k kl);have hfz:=HO.out.frozenAt k;have hcell:=HO.out.cellAt k (by omega)
    have hlen:k<((M.fillI xs k).map (Value.int .i64)).length:=by rw [List.length_map,M.fill_len _ _ (by omega)];exact kl
    rw [List.getElem?_eq_getElem hlen] at hcell;obtain ⟨v0,v1⟩:=HV.out xs[k] (List.getElem_mem kl);have HR:=hide (fill_step (w:=w) HN.out.symm hlt rfl HO.out K.out);have nz:xs.length=n:=HN.out.symm
    have kz:(k:Int)<(n:Int):=by omega
    have NZ:=hide nz
    have kz2:(k:Int)<(xs.length:Int):=by omega
    clear HC HV HO nz;generalize xs[k]=v at *;clear kl
    go_wp2_with (go_at_call 146;refine (fit_far _ _ (by omega) (by omega)).mono ?_;rintro e w' ⟨rfl,rfl⟩)
    go_roundw
    case rel=>exact ⟨k+1,by omega,by go_num,HR.out.1,HR.out.2⟩
    case measure=>simp [intOf];omega
  · have ke:k=n:=by omega
    have ho:=HO.out;rw [ke,FA.out] at ho;have HO2:=hide ho;clear ho HO ke HC HV
    go_wp2
    go_ret
    exact ⟨rfl,HO2.out,K.out⟩
theorem M.sumL_bd : ∀ {l:List Int},(∀ x∈l, -1000000<=x/\x<=1000000) -> -1000000*(l.length:Nat)<=l.sum/\l.sum<=1000000*(l.length:Nat)
 | [],_=>by simp
 | x :: l,h=>by
   have ih:=M.sumL_bd (l:=l) λ y hy=>h y (List.mem_cons_of_mem _ hy);have h1:=h x (List.mem_cons_self ..);rw [List.sum_cons,List.length_cons];omega
set_option maxHeartbeats 1000000 in
theorem mean_far (a:Option Addr) (xs:List Int) (cap:Nat) (w:World) (h:Rd w a xs) (hn:xs.length<=60) (h0:0<xs.length) (hv : ∀ x∈xs, -1000000<=x/\x<=1000000) :
 Calls Tryz.prog 140 #[.slice a xs.length cap] w λ e w'=>e = .returned (.int .i64 (xs.sum / (xs.length:Nat)))/\Below w.heap.size w w':=by
 have C:=hide (counted_far a xs cap w h hn h0 hv)
 have SB:Hid (∀ k, -60000000<=(xs.take k).sum/\(xs.take k).sum<=60000000):=λ k=>by
  have:=M.sumL_bd (l:=xs.take k) λ x hx=>hv x (List.mem_of_mem_take hx)
  have l:(xs.take k).length<=60:=by rw [List.length_take];omega
  omega
 have SS:Hid (∀ k (hk:k<xs.length),(xs.take (k+1)).sum=(xs.take k).sum+xs[k]):=λ k hk=>by
  rw [List.take_succ_eq_append_getElem hk,List.sum_append];simp
 have Z:Hid (xs.take xs.length=xs):=List.take_length;have HV:=hide hv
 have hz:((xs.length:Int) == 0)=false:=by rw [beq_eq_false_iff_ne];omega
 clear h hv
 go_enter Tryz.func140, Tryz.ntmps140
 go_wp2_with (go_at_call 156;refine C.out.mono ?_;rintro e w1 ⟨rfl,hown,hbl⟩)
 have OA:=hide (own_at hown rfl);have BL:=hide hbl;clear hown C hbl
 go_loop [4,14] (λ t i => ∃ k:Nat,k<=xs.length/\i = .int .i64 k/\t = .int .i64 (xs.take k).sum) (λ _ i=>xs.length-(intOf i).toNat)
 case atStart=>exact ⟨0,Nat.zero_le _,rfl,rfl⟩
 case round =>
  obtain ⟨k,hk,rfl,rfl⟩:=hrel;obtain ⟨s1,s2⟩:=SB.out k
  by_cases hlt:k<xs.length
  · have hck:=OA.out k hlt
    have S:=hide (SS.out k hlt);obtain ⟨v0,v1⟩:=HV.out xs[k] (List.getElem_mem hlt)
    have kz:(k:Int)<(xs.length:Int):=by omega
    clear SS SB OA HV Z;generalize (xs.take k).sum=s at *;generalize xs[k]=v at *
    go_wp2
    go_round
    case rel=>exact ⟨k+1,by omega,by go_num,by rw [S.out]⟩
    case measure=>simp [intOf];omega
  · have ke:k=xs.length:=by omega
    have E:Hid ((xs.take k).sum=xs.sum):=by unfold Hid;rw [ke,Z.out]
    clear SS SB OA HV Z ke;generalize (xs.take k).sum=s at *;have dn:=hide (down_far s (xs.length:Nat) w1 (by omega) (by omega) (by omega) (by omega))
    go_wp2_with (go_at_call 157;refine dn.out.mono ?_;rintro e w2 ⟨rfl,e2⟩;have e2':=e2.symm;subst e2')
    go_ret
    exact ⟨ret_int (by rw [E.out]),BL.out⟩
set_option maxHeartbeats 4000000 in
theorem more_any (a b c d:Int) (w:World) (h1:IntKind.i64.wrap (a*d)=a*d) (h2:IntKind.i64.wrap (c*b)=c*b) :
 Calls Tryz.prog 144 #[.agg #[.int .i64 a, .int .i64 b], .agg #[.int .i64 c, .int .i64 d]] w λ e w'=>e = .returned (.bool (decide (c*b<a*d)))/\Below w.heap.size w w':=by
 have KA:Hid (∀ o p,Below w.heap.size w ((w.alloc o).alloc p)):=λ o p=>((Below.refl _ w).alloc (Nat.le_refl _) o).alloc (by simp) p
 go_enter Tryz.func144, Tryz.ntmps144
 go_wp2
 go_ret
 exact ⟨rfl,KA.out _ _⟩
set_option maxHeartbeats 4000000 in
theorem plus_any (a b c d:Int) (w:World) (h1:IntKind.i64.wrap (a*d)=a*d) (h2:IntKind.i64.wrap (c*b)=c*b) (h3:IntKind.i64.wrap (a*d+c*b)=a*d+c*b) (h4:IntKind.i64.wrap (b*d)=b*d) :
 Calls Tryz.prog 143 #[.agg #[.int .i64 a, .int .i64 b], .agg #[.int .i64 c, .int .i64 d]] w λ e w'=>e = .returned (.agg #[.int .i64 (a*d+c*b), .int .i64 (b*d)])/\Below w.heap.size w w':=by
 have KA:Hid (∀ o p q,Below w.heap.size w (((w.alloc o).alloc p).alloc q)):=λ o p q=>(((Below.refl _ w).alloc (Nat.le_refl _) o).alloc (by simp) p).alloc (by simp;omega) q
 go_enter Tryz.func143, Tryz.ntmps143
 go_wp2
 refine bodyPost_ret (v := .agg #[.int .i64 (a*d+c*b), .int .i64 (b*d)]) (by simp [results, Tryz.results143,go_sem]) rfl ?_
 exact ⟨rfl,KA.out _ _ _⟩
set_option maxHeartbeats 4000000 in
set_option maxRecDepth 10000 in
theorem putright_any (a:Option Addr) (xs:List Sx) (ca m:Nat) (w:World) (h:RdL w a xs) (A:Ask xs m) :
 Calls Tryz.prog 141 #[.slice a xs.length ca] w λ e w'=>e = .returned (.agg #[.int .i64 (M.sumT (sms xs)*M.sumT (sms xs)), .int .i64 (xs.length:Nat)])/\Below w.heap.size w w':=by
 have HL:=hide h;have AA:=hide A;have l60:=A.le
 have SM:Hid (∀ k (hk:k<xs.length),M.sumT ((sms xs).take (k+1))=M.sumT ((sms xs).take k)+xs[k].2.2.2):=λ k hk=>by
  rw [List.take_succ_eq_append_getElem (by rw [sms_len];exact hk),M.sumT_app]
  have e:(sms xs)[k]'(by rw [sms_len];exact hk)=sm xs[k]:=by simp [sms]
  rw [e];show _+(xs[k].2.2.2+0)=_;omega
 have ME:Hid (M.sumT ((sms xs).take xs.length)=M.sumT (sms xs)):=by unfold Hid;rw [←sms_len xs,List.take_length]
 obtain ⟨w1,hw1⟩ : ∃ W,W=w.alloc (.cells #[.int .i64 0, .int .i64 0] 238):=⟨_,rfl⟩
 have s1:w1.heap.size=w.heap.size+1:=by rw [hw1];simp
 have K1:Hid (Below w.heap.size w w1):=by unfold Hid;rw [hw1];exact (Below.refl _ w).alloc (Nat.le_refl _) _
 have B1:Hid (∀ W,Below w1.heap.size w1 W->W.cell? ⟨w.heap.size,0,none⟩=some (.int .i64 0)/\W.cell? ⟨w.heap.size,1,none⟩=some (.int .i64 0) /\ ∀ j,W.frozen? ⟨w.heap.size,j,none⟩=false):=λ W hW=>by
  have lt:w.heap.size<w1.heap.size:=by omega
  refine ⟨(hW.cell (p:=⟨w.heap.size,0,none⟩) lt).trans (by rw [hw1];exact World.cell?_alloc_at _ _ _ 0 rfl),(hW.cell (p:=⟨w.heap.size,1,none⟩) lt).trans (by rw [hw1];exact World.cell?_alloc_at _ _ _ 1 rfl),λ j => ?_⟩
  have f:=frozen_new2 w #[.int .i64 0, .int .i64 0] 238 j;rw [←hw1] at f;rw [←f];unfold World.frozen?;rw [hW.block _ lt]
 have S1:=hide s1;have HW:=hide hw1;clear h A s1 hw1;generalize M.sumT (sms xs)=TT at *
 go_enter Tryz.func141, Tryz.ntmps141
 go_upto_region 1 with fail
 rw [←HW.out]
 go_wp2
 go_loopw [3,8] (λ s i wr => ∃ k:Nat,k<=xs.length/\i = .int .i64 k/\s = .int .i64 (M.sumT ((sms xs).take k))/\Hid (Below w1.heap.size w1 wr)) (λ _ i _=>xs.length-(intOf i).toNat)
 case atStart=>exact ⟨0,Nat.zero_le _,rfl,rfl,Below.refl _ _⟩
 case round =>
  obtain ⟨k,hk,rfl,rfl,K⟩:=hrel;obtain ⟨b0,b1⟩:=AA.out.all k
  by_cases hlt:k<xs.length
  · obtain ⟨bl,ol,rfl,hbl,hcl⟩:=(HL.out.below (below_on K1.out K.out)).2.2 (by intro e;rw [e] at hlt;simp at hlt)
    obtain ⟨c0,c1⟩:=hcl k hlt;obtain ⟨t0,t1⟩:=AA.out.tgt xs[k] (List.getElem_mem hlt);have S:=hide (SM.out k hlt);have UA:Hid (∀ o,Below w1.heap.size w1 (wr.alloc o)):=λ o=>below_on K.out ((Below.refl _ wr).alloc (Nat.le_refl _) o)
    have kz:(k:Int)<(xs.length:Int):=by omega
    unfold sxV at c0;clear hcl SM ME HL AA B1 HW;generalize xs[k].2.2.2=t at *;generalize xs[k].2.1.length=rl at *;generalize xs[k].2.2.1=rc at *;generalize xs[k].1=ra at *;generalize M.sumT ((sms xs).take k)=s at *
    go_wp2
    go_roundw
    case rel=>exact ⟨k+1,by omega,by go_num,by rw [S.out],UA.out _⟩
    case measure=>simp [intOf];omega
  · have ke:k=xs.length:=by omega
    have E:Hid (M.sumT ((sms xs).take k)=TT):=by unfold Hid;rw [ke];exact ME.out
    obtain ⟨x0,x1,x2⟩:=B1.out wr K.out;have f0:=x2 0;have f1:=x2 1;clear x2 SM ME HL AA ke B1 HW;generalize M.sumT ((sms xs).take k)=s at *;have q:=M.sqR_in (s:=s) (B:=60000) (by omega) (by omega);have x3:IntKind.i64.wrap (s*s)=s*s:=wrap_in5 _ (by omega) (by omega);clear q
    go_wp2
    obtain ⟨e0,e1⟩:=set2 (x0 := .int .i64 (s*s)) (x1 := .int .i64 (xs.length:Nat)) x0 x1;refine bodyPost_ret (v := .agg #[.int .i64 (s*s), .int .i64 (xs.length:Nat)]) (by simp [results, Tryz.results141,go_sem,e0,e1]) rfl ?_
    exact ⟨by rw [E.out],below2 (below_on K1.out K.out) (by omega)⟩
def tgtL (xs:List Sx):List Int:=xs.map λ x=>x.2.2.2
theorem tgtL_len (xs:List Sx):(tgtL xs).length=xs.length:=by simp [tgtL]
theorem tgtL_at (xs:List Sx) {k:Nat} (h:k<xs.length):(tgtL xs)[k]'(by rw [tgtL_len];exact h)=xs[k].2.2.2:=by simp [tgtL]
theorem tgtL_sum : ∀ xs:List Sx,(tgtL xs).sum=M.sumT (sms xs)
 | []=>rfl
 | x :: xs=>by
   have ih:=tgtL_sum xs;show (x.2.2.2 :: tgtL xs).sum=x.2.2.2+M.sumT (sms xs);rw [List.sum_cons,ih]
set_option maxHeartbeats 4000000 in
set_option maxRecDepth 10000 in
theorem leafof_any (a:Option Addr) (xs:List Sx) (ca m:Nat) (w:World) (h:RdL w a xs) (A:Ask xs m) (hp:0<xs.length) :
 Calls Tryz.prog 114 #[.slice a xs.length ca] w λ e w'=>e = .returned (.agg #[.int .i64 (-1), .int .i64 0, .int .i64 0, .int .i64 0, .bool false, .int .i64 (M.meanS (sms xs))])/\Below w.heap.size w w':=by
 have HL:=hide h;have AA:=hide A;have l60:=A.le;obtain ⟨i0,hi,hz0,hz1,hz2⟩:=info_parts info3
 have TV : ∀ x∈tgtL xs, -1000000<=x/\x<=1000000:=λ x hx=>by
  obtain ⟨y,hy,rfl⟩:=List.mem_map.1 hx;have:=A.tgt y hy;omega
 have MF:Hid (∀ (g:Nat) W,Rd W (some ⟨g,0,none⟩) (tgtL xs)->Calls Tryz.prog 140 #[.slice (some ⟨g,0,none⟩) xs.length xs.length] W λ e w'=>e = .returned (.int .i64 (M.meanS (sms xs)))/\Below W.heap.size W w'):=λ g W hW=>by
  have:=mean_far (some ⟨g,0,none⟩) (tgtL xs) xs.length W hW (by rw [tgtL_len];exact l60) (by rw [tgtL_len];exact hp) TV;rw [tgtL_len,tgtL_sum] at this;unfold M.meanS;rw [sms_len];exact this
 obtain ⟨w1,hw1⟩ : ∃ W,W=w.alloc (.cells #[.int .i64 0, .int .i64 0, .int .i64 0, .int .i64 0, .bool false, .int .i64 0] 26):=⟨_,rfl⟩
 have K1:Hid (Below w.heap.size w w1):=by unfold Hid;rw [hw1];exact (Below.refl _ w).alloc (Nat.le_refl _) _
 have B1:=hide (λ W (hW:Below w1.heap.size w1 W)=>new_kept hw1 hW);have TA:Hid (∀ k (hk:k<xs.length) (hk':k<(tgtL xs).length),(tgtL xs)[k]'hk'=xs[k].2.2.2):=λ k hk _=>tgtL_at xs hk;have TL:=hide (tgtL_len xs);have HW:=hide hw1;clear h A hw1 TV;generalize M.meanS (sms xs)=mv at *;generalize tgtL xs=F at *
 go_enter Tryz.func114, Tryz.ntmps114
 go_upto_region 1 with fail
 rw [←HW.out]
 go_wp2_with (at_make;refine wpList_make_full _ rfl (.tmp 7) (.tmp 7) 24 rfl w1.heap.size 3 i0 (.int .i64 0) 1 Tryz.underlying24 hi hz0 hz1 .i64 .i64 _ _ xs.length rfl rfl (by omega) (by omega) (by rw [hz2];omega) (by unfold maxLen;omega) (Nat.le_refl _) ?_;intro w2 hown hgrow)
 rw [made] at hown;have hB:Hid (Below w1.heap.size w1 w2):=(Below.refl _ w1).grown hgrow (Nat.le_refl _) (λ k hk=>by cases hk)
 have ho:Hid (w2.ownsRow w1.heap.size 3 1 (.slice (some ⟨w1.heap.size,0,none⟩) xs.length xs.length) xs.length ((M.fillI F 0).map (Value.int .i64))):=by
  unfold Hid;rw [M.fill_zero,TL.out];exact hown
 clear hown hgrow hi hz0 hz1 hz2 HW
 go_loopw [11] (λ i wr => ∃ k:Nat,k<=xs.length/\i = .int .i64 k/\Hid (wr.ownsRow w1.heap.size 3 1 (.slice (some ⟨w1.heap.size,0,none⟩) xs.length xs.length) xs.length ((M.fillI F k).map (Value.int .i64)))/\Hid (Below w1.heap.size w1 wr)) (λ i _=>xs.length-(intOf i).toNat)
 case atStart=>exact ⟨0,Nat.zero_le _,rfl,ho,hB⟩
 case round =>
  obtain ⟨k,hk,rfl,HO,K⟩:=hrel;clear ho hB
  by_cases hlt:k<xs.length
  · obtain ⟨bl,ol,rfl,hbl,hcl⟩:=(HL.out.below (below_on K1.out K.out)).2.2 (by intro e;rw [e] at hlt;simp at hlt)
    obtain ⟨c0,c1⟩:=hcl k hlt
    have kl:k<F.length:=by rw [TL.out];exact hlt
    have UA:Hid (∀ o,Below wr.heap.size wr (wr.alloc o)):=λ o=>(Below.refl _ wr).alloc (Nat.le_refl _) o;have OA:Hid (∀ o,(wr.alloc o).ownsRow w1.heap.size 3 1 (.slice (some ⟨w1.heap.size,0,none⟩) xs.length xs.length) xs.length ((M.fillI F k).map (Value.int .i64))):=λ o=>own_up HO.out (UA.out o)
    have hlen:k<((M.fillI F k).map (Value.int .i64)).length:=by rw [List.length_map,M.fill_len _ _ (by omega)];exact kl
    have FZ : ∀ o,(wr.alloc o).frozen? ⟨w1.heap.size,k,none⟩=false:=λ o=>(OA.out o).frozenAt k
    have CZ : ∀ o,(wr.alloc o).cell? ⟨w1.heap.size,k,none⟩=some (((M.fillI F k).map (Value.int .i64))[k]'hlen):=λ o=>by
     rw [(OA.out o).cellAt k (by omega),List.getElem?_eq_getElem hlen]
    have HR:Hid (∀ o,((wr.alloc o).setCell ⟨w1.heap.size,k,none⟩ (.int .i64 xs[k].2.2.2)).ownsRow w1.heap.size 3 1 (.slice (some ⟨w1.heap.size,0,none⟩) xs.length xs.length) xs.length ((M.fillI F (k+1)).map (Value.int .i64))/\Below w1.heap.size w1 ((wr.alloc o).setCell ⟨w1.heap.size,k,none⟩ (.int .i64 xs[k].2.2.2))):=λ o=>by
     have:=fill_step (w:=w1) (x:=xs[k].2.2.2) TL.out hlt (TA.out k hlt kl).symm (OA.out o) (below_on K.out (UA.out o));exact this
    have kz:(k:Int)<(xs.length:Int):=by omega
    unfold sxV at c0;clear hcl HL AA B1 MF TA HO OA UA kl;generalize xs[k].2.2.2=t at *;generalize xs[k].2.1.length=rl at *;generalize xs[k].2.2.1=rc at *;generalize xs[k].1=ra at *;generalize ((M.fillI F k).map (Value.int .i64))[k]'hlen=z at *;clear hlen
    go_wp2
    go_roundw
    case rel=>exact ⟨k+1,by omega,by go_num,(HR.out _).1,(HR.out _).2⟩
    case measure=>simp [intOf];omega
  · have ke:k=F.length:=by rw [TL.out];omega
    have ho:=HO.out;rw [ke,M.fill_all] at ho
    have RD:Hid (Rd wr (some ⟨w1.heap.size,0,none⟩) F):=by
     rw [←TL.out] at ho;obtain ⟨a2,c2,e2,hr,_⟩:=own_rd ho;rw [Value.slice.injEq] at e2;rw [e2.1];exact hr
    have MM:=hide (MF.out w1.heap.size wr RD.out);clear HL AA MF TA ke ho RD HO
    go_upto_region 7 with fail
    go_wp2_with (go_at_call 140;refine MM.out.mono ?_;rintro e w3 ⟨rfl,hb3⟩;have K3:=hide (below_on K.out hb3);have y0:=(B1.out w3 K3.out).1 0 _ rfl;have y1:=(B1.out w3 K3.out).1 1 _ rfl;have y2:=(B1.out w3 K3.out).1 2 _ rfl;have y3:=(B1.out w3 K3.out).1 3 _ rfl;have y4:=(B1.out w3 K3.out).1 4 _ rfl;have y5:=(B1.out w3 K3.out).1 5 _ rfl;have f0:=(B1.out w3 K3.out).2 0;have f1:=(B1.out w3 K3.out).2 1;have f2:=(B1.out w3 K3.out).2 2;have f3:=(B1.out w3 K3.out).2 3;have f4:=(B1.out w3 K3.out).2 4;have f5:=(B1.out w3 K3.out).2 5;clear hb3)
    obtain ⟨e0,e1,e2,e3,e4,e5⟩:=set6 (x0 := .int .i64 (-1)) (x1 := .int .i64 0) (x2 := .int .i64 0) (x3 := .int .i64 0) (x4 := .bool false) (x5 := .int .i64 mv) y0 y1 y2 y3 y4 y5;refine bodyPost_ret (v := .agg #[.int .i64 (-1), .int .i64 0, .int .i64 0, .int .i64 0, .bool false, .int .i64 mv]) (by simp [results, Tryz.results114,go_sem,e0,e1,e2,e3,e4,e5]) rfl ?_
    exact ⟨rfl,below6 (below_on K1.out K3.out) (by omega)⟩
structure TwoS (w0 W:World) (x y:Value) (X Y:List Sx):Prop where
 ox:W.ownsRow w0.heap.size 97 2 x X.length (saCells X)
 oy:W.ownsRow w0.heap.size 97 2 y Y.length (saCells Y)
 dj:x.ownBlock=none∨y.ownBlock=none∨x.ownBlock≠y.ownBlock
 b:Below w0.heap.size w0 W
theorem TwoS.begin (w0:World):TwoS w0 w0 (.slice none 0 0) (.slice none 0 0) [] []:=⟨World.ownsRow_nil _ _ _ _,World.ownsRow_nil _ _ _ _, .inl rfl,Below.refl _ _⟩
theorem TwoS.up {w0 W W':World} {x y:Value} {X Y:List Sx} (h:TwoS w0 W x y X Y) (hb:Below W.heap.size W W'):TwoS w0 W' x y X Y:=⟨own_up h.ox hb,own_up h.oy hb,h.dj,below_on h.b hb⟩
theorem TwoS.turn {w0 W:World} {x y:Value} {X Y:List Sx} (h:TwoS w0 W x y X Y):TwoS w0 W y x Y X:=⟨h.oy,h.ox,by
 rcases h.dj with q | q | q
 · exact .inr (.inl q)
 · exact .inl q
 · exact .inr (.inr (λ e=>q e.symm)),h.b⟩
theorem TwoS.first {w0 W w7:World} {x y:Value} {X Y:List Sx} {o:Obj} {g c:Nat} {u:Sx} (h:TwoS w0 W x y X Y) (hg:(W.alloc o).grownBy w7 x.ownBlock) (ho:w7.ownsRow w0.heap.size 97 2 (.slice (some ⟨g,0,none⟩) (X.length+1) c) (X.length+1) (saCells X ++ [sxV u, .int .i64 u.2.2.2])) (hat:x.ownBlock=some g∨g=W.heap.size+1) :
 TwoS w0 w7 (.slice (some ⟨g,0,none⟩) (X.length+1) c) y (X ++ [u]) Y:=by
 have hs:=h.b.size
 have ne:y.ownBlock=none∨y.ownBlock≠x.ownBlock:=by
  rcases h.dj with q | q | q
  · cases hy:y.ownBlock with
    | none=>exact .inl rfl
    | some z=>exact .inr (by rw [q];simp)
  · exact .inl q
  · exact .inr (λ e=>q e.symm)
 refine ⟨by rw [saCells_snoc,List.length_append];exact ho,(h.oy.alloc _).kept hg ne, ?_, ?_⟩
 · rcases ne with q | q
   · exact .inr (.inl q)
   · refine .inr (.inr (λ e => ?_))
     have e':some g=y.ownBlock:=e
     rcases hat with p | p
     · exact q (by rw [p,e'])
     · have:=(h.oy.lt g e'.symm).2;omega
 · exact (h.b.alloc (by omega) _).grown hg (by simp;omega) (λ k hk=>(h.ox.lt k hk).1)
set_option maxHeartbeats 8000000 in
set_option maxRecDepth 10000 in
theorem part_any (a:Option Addr) (xs:List Sx) (ca m f:Nat) (c:Int) (w:World) (h:RdL w a xs) (A:Ask xs m) (hf:f<m) :
 Calls Tryz.prog 116 #[.agg #[.int .i64 (f:Nat), .int .i64 c], .slice a xs.length ca] w λ e w' => ∃ pa pac pb pbc,e = .returned (.tuple #[.slice pa (partX xs f c true).length pac, .slice pb (partX xs f c false).length pbc])/\RdL w' pa (partX xs f c true)/\RdL w' pb (partX xs f c false)/\Below w.heap.size w w'/\(∀ p,pa=some p->w.heap.size<=p.block)/\(∀ p,pb=some p->w.heap.size<=p.block):=by
 have HL:=hide h;have AA:=hide A;have l60:=A.le;obtain ⟨i0,hi,hz0,hz1,hz2⟩:=info_parts infoSam;have I0:=hide hi;have PM:Hid (∀ b k (hk:k<xs.length),partX (xs.take (k+1)) f c b=if (decide (xs[k].2.1.getD f 0<c) == b)=true then partX (xs.take k) f c b ++ [xs[k]] else partX (xs.take k) f c b):=λ b k hk=>partX_more xs f c b hk;have PL:Hid (∀ b k,(partX (xs.take k) f c b).length<=60):=λ b k=>Nat.le_trans (List.length_filter_le _ _) (by rw [List.length_take];omega)
 have PA:Hid (∀ b,partX (xs.take xs.length) f c b=partX xs f c b):=λ b=>by rw [List.take_length]
 have PR:Hid (∀ b W,Below w.heap.size w W -> ∀ x∈partX xs f c b,Rd W x.1 x.2.1):=λ b W hW x hx=>(h.2.1 x (partX_mem hx)).below hW
 obtain ⟨w1,hw1⟩ : ∃ W,W=w.alloc (.cells #[.int .i64 (f:Nat), .int .i64 c] 200):=⟨_,rfl⟩
 have K1:Hid (Below w.heap.size w w1):=by unfold Hid;rw [hw1];exact (Below.refl _ w).alloc (Nat.le_refl _) _
 have B1:Hid (∀ W,Below w1.heap.size w1 W->W.cell? ⟨w.heap.size,0,none⟩=some (.int .i64 (f:Nat))/\W.cell? ⟨w.heap.size,1,none⟩=some (.int .i64 c)):=λ W hW=>⟨(new_kept hw1 hW).1 0 _ rfl,(new_kept hw1 hW).1 1 _ rfl⟩
 have W1:Hid (w.heap.size<=w1.heap.size):=by unfold Hid;rw [hw1];simp
 have HW:=hide hw1;clear h A hi hw1;generalize hPT:partX xs f c true=PT at *;generalize hPF:partX xs f c false=PF at *
 have PAT:Hid (partX (xs.take xs.length) f c true=PT):=by unfold Hid;rw [PA.out,hPT]
 have PAF:Hid (partX (xs.take xs.length) f c false=PF):=by unfold Hid;rw [PA.out,hPF]
 have PRT:Hid (∀ W,Below w.heap.size w W -> ∀ x∈PT,Rd W x.1 x.2.1):=by have:=PR.out true;rw [hPT] at this;exact this
 have PRF:Hid (∀ W,Below w.heap.size w W -> ∀ x∈PF,Rd W x.1 x.2.1):=by have:=PR.out false;rw [hPF] at this;exact this
 clear PA PR hPT hPF
 go_enter Tryz.func116, Tryz.ntmps116
 go_upto_region 1 with fail
 rw [←HW.out]
 go_wp2
 go_loopw [4,5,10] (λ v u i wr => ∃ k:Nat,k<=xs.length/\i = .int .i64 k/\Hid (TwoS w1 wr v u (partX (xs.take k) f c true) (partX (xs.take k) f c false))) (λ _ _ i _=>xs.length-(intOf i).toNat)
 case atStart=>exact ⟨0,Nat.zero_le _,rfl,TwoS.begin w1⟩
 case round =>
  obtain ⟨k,hk,rfl,T⟩:=hrel;have pl1:=PL.out true k;have pl2:=PL.out false k
  by_cases hlt:k<xs.length
  · have K2:=hide (below_on K1.out T.out.b)
    obtain ⟨bl,ol,rfl,hbl,hcl⟩:=(HL.out.below K2.out).2.2 (by intro e;rw [e] at hlt;simp at hlt);obtain ⟨q0,q1⟩:=hcl k hlt;have hr:=AA.out.row xs[k] (List.getElem_mem hlt)
    have fr:f<xs[k].2.1.length:=by omega
    obtain ⟨bx,ox,ex,hbx,hcx⟩:=((HL.out.below K2.out).2.1 xs[k] (List.getElem_mem hlt)).2 (by intro e;rw [e] at fr;simp at fr);have hx:=hcx f fr;have pm1:=PM.out true k hlt;have pm2:=PM.out false k hlt
    have SX:Hid (sxV xs[k] = .slice (some ⟨bx,ox,none⟩) xs[k].2.1.length xs[k].2.2.1):=by unfold Hid sxV;rw [ex]
    unfold sxV at q0;rw [ex] at q0
    have kz:(k:Int)<(xs.length:Int):=by omega
    have fz:(f:Int)<(xs[k].2.1.length:Int):=by omega
    have f0:(0:Int)<=(f:Int):=by omega
    obtain ⟨va,vc,rfl⟩:=own_any T.out.ox;obtain ⟨ua,uc,rfl⟩:=own_any T.out.oy;have T2:Hid (∀ o q,TwoS w1 ((wr.alloc o).drewN q) (.slice va (partX (xs.take k) f c true).length vc) (.slice ua (partX (xs.take k) f c false).length uc) (partX (xs.take k) f c true) (partX (xs.take k) f c false)):=λ o q=>T.out.up (below_drew ((Below.refl _ wr).alloc (Nat.le_refl _) o) q (by simp));have UA:Hid (∀ o,Below wr.heap.size wr (wr.alloc o)):=λ o=>(Below.refl _ wr).alloc (Nat.le_refl _) o;have g0 : ∀ o,(wr.alloc o).cell? ⟨w.heap.size,0,none⟩=some (.int .i64 (f:Nat)):=λ o=>(B1.out _ (below_on T.out.b (UA.out o))).1;have g1 : ∀ o,(wr.alloc o).cell? ⟨w.heap.size,1,none⟩=some (.int .i64 c):=λ o=>(B1.out _ (below_on T.out.b (UA.out o))).2;have g2 : ∀ o,(wr.alloc o).cell? ⟨bx,ox+f,none⟩=some (.int .i64 (xs[k].2.1.getD f 0)):=λ o=>((UA.out o).cell (p:=⟨bx,ox+f,none⟩) hbx).trans hx;have RK:=hide (show (some ⟨bx,ox,none⟩:Option Addr)=xs[k].1 from ex.symm)
    obtain ⟨U,hU⟩ : ∃ U,U=xs[k]:=⟨_,rfl⟩
    rw [←hU] at q0 q1 fz pm1 pm2 SX;simp only [←hU] at g2;have sz1:=T.out.b.size;have SZ:=hide sz1;clear hx UA hcl hcx PM hr fr ex PAT PAF PRT PRF PL HL AA B1 T RK hU sz1 HW;generalize partX (xs.take k) f c true=P at *;generalize partX (xs.take k) f c false=Q at *;have sz:=SZ.out;obtain ⟨ra0,rr,rc,t⟩:=U;dsimp only at q0 q1 g2 fz pm1 pm2 SX;generalize hv:rr.getD f 0=v at *;generalize rr.length=rl at *
    go_upto_region 4 with fail
    go_quiet (fail)
    obtain ⟨w5,hw5⟩ : ∃ W,W=(wr.alloc (.cells #[.slice (some ⟨bx,ox,none⟩) rl rc, .int .i64 t] 97)).drewN nq:=⟨_,rfl⟩
    rw [←hw5];have N5:=hide (new_kept (w:=wr) (W:=w5) (cs:=#[.slice (some ⟨bx,ox,none⟩) rl rc, .int .i64 t]) (t := 97) rfl (by rw [hw5];exact below_drew (Below.refl _ _) nq (by simp)));have n0:=N5.out.1 0 _ rfl;have n1:=N5.out.1 1 _ rfl
    have T5:Hid (TwoS w1 w5 (.slice va P.length vc) (.slice ua Q.length uc) P Q):=by unfold Hid;rw [hw5];exact T2.out _ _
    have sz5:=T5.out.b.size;clear hw5 T2 N5 g0 g1 g2 q0 q1 sz hv
    cases hq:decide (v<c) with
    | true =>
      rw [hq,if_pos (by decide)] at pm1;rw [hq,if_neg (by decide)] at pm2;have PM1:=hide pm1;have PM2:=hide pm2;clear pm1 pm2
      go_wp2_with (at_builtin;refine wpList_append_lies _ rfl (.tmp 23) (.tmp 25) 60 rfl w1.heap.size 97 i0 (.agg #[.slice none 0 0, .int .i64 0]) 2 32 Tryz.underlying60 I0.out hz0 hz1 hz2 rfl (by omega) (.slice va P.length vc) P.length (saCells P) rfl (T5.out.ox.alloc _) ⟨w5.heap.size,0,none⟩ 1 1 [.slice (some ⟨bx,ox,none⟩) rl rc, .int .i64 t] rfl rfl (World.news_of_block (heap_alloc_new _ _)) (by simp [Value.oneCell']) (by omega) (by unfold maxLen;omega) (by omega) (by simp;omega) (w5.heap.size+1) (by simp) ?_)
      intro g cap w6 hov hgrow hat hlt6
      have T6:Hid (TwoS w1 w6 (.slice (some ⟨g,0,none⟩) (P.length+1) cap) (.slice ua Q.length uc) (partX (xs.take (k+1)) f c true) (partX (xs.take (k+1)) f c false)):=by
       unfold Hid;rw [PM1.out,PM2.out]
       exact T5.out.first (u:=(ra0,rr,rc,t)) hgrow (by rw [SX.out];exact hov) hat
      clear hov hgrow hat
      go_wp2
      go_roundw
      case rel=>exact ⟨k+1,by omega,by go_num,T6⟩
      case measure=>simp [intOf];omega
    | false =>
      rw [hq,if_neg (by decide)] at pm1;rw [hq,if_pos (by decide)] at pm2;have PM1:=hide pm1;have PM2:=hide pm2;clear pm1 pm2
      go_wp2_with (at_builtin;refine wpList_append_lies _ rfl (.tmp 27) (.tmp 29) 60 rfl w1.heap.size 97 i0 (.agg #[.slice none 0 0, .int .i64 0]) 2 32 Tryz.underlying60 I0.out hz0 hz1 hz2 rfl (by omega) (.slice ua Q.length uc) Q.length (saCells Q) rfl (T5.out.oy.alloc _) ⟨w5.heap.size,0,none⟩ 1 1 [.slice (some ⟨bx,ox,none⟩) rl rc, .int .i64 t] rfl rfl (World.news_of_block (heap_alloc_new _ _)) (by simp [Value.oneCell']) (by omega) (by unfold maxLen;omega) (by omega) (by simp;omega) (w5.heap.size+1) (by simp) ?_)
      intro g cap w6 hov hgrow hat hlt6
      have T6:Hid (TwoS w1 w6 (.slice va P.length vc) (.slice (some ⟨g,0,none⟩) (Q.length+1) cap) (partX (xs.take (k+1)) f c true) (partX (xs.take (k+1)) f c false)):=by
       unfold Hid;rw [PM1.out,PM2.out]
       exact (T5.out.turn.first (u:=(ra0,rr,rc,t)) hgrow (by rw [SX.out];exact hov) hat).turn
      clear hov hgrow hat
      go_wp2
      go_roundw
      case rel=>exact ⟨k+1,by omega,by go_num,T6⟩
      case measure=>simp [intOf];omega
  · have ke:k=xs.length:=by omega
    have t:=T.out;rw [ke,PAT.out,PAF.out] at t;rw [ke,PAT.out] at pl1;rw [ke,PAF.out] at pl2;have K2:=hide (below_on K1.out t.b);obtain ⟨ga,gc,ev,hr⟩:=own_rdL rfl (by unfold maxLen;omega) t.ox (PRT.out _ K2.out);obtain ⟨ha,hc,ev2,hr2⟩:=own_rdL rfl (by unfold maxLen;omega) t.oy (PRF.out _ K2.out);subst ev ev2;have HR:=hide hr;have HR2:=hide hr2
    have L1:Hid (∀ p,ga=some p->w.heap.size<=p.block):=λ p hp=>by subst hp;exact Nat.le_trans W1.out (t.ox.lt p.block rfl).1
    have L2:Hid (∀ p,ha=some p->w.heap.size<=p.block):=λ p hp=>by subst hp;exact Nat.le_trans W1.out (t.oy.lt p.block rfl).1
    clear ke t T PM PL PAT PAF PRT PRF HL AA hr hr2 pl1 pl2 B1 HW
    go_wp2
    go_ret2
    exact ⟨ga,gc,ha,hc,rfl,HR.out,HR2.out,K2.out,L1.out,L2.out⟩
end Go.Proofs.YtaijnacghiloaaaGreatDoor

namespace Go.Proofs.YtaijnacghiloaaaGreatDoor.M
set_option linter.unusedVariables false
def colL (l:List Sa) (f:Nat):List Int:=l.map λ s=>colA s f
theorem colL_len (l:List Sa) (f:Nat):(colL l f).length=l.length:=by simp [colL]
def risL (l:List Sa) (f:Nat):List Int:=Lib.compact (sortI (colL l f))
def cutP (l:List Sa) (f:Nat):List Int:=(risL l f).drop 1
theorem ris_pw (l:List Sa) (f:Nat):(risL l f).Pairwise (λ a b=>a<b):=uniq_pw _ (sort_pw _)
theorem ris_mem (l:List Sa) (f:Nat) (x:Int):x∈risL l f↔x∈colL l f:=by
 unfold risL;rw [uniq_mem _ (sort_pw _)];exact (sort_perm _).mem_iff
theorem cutP_pw (l:List Sa) (f:Nat):(cutP l f).Pairwise (λ a b=>a<b):=(ris_pw l f).sublist (List.drop_sublist _ _)
theorem col_at (l:List Sa) (f:Nat) (x:Int):x∈colL l f ↔ ∃ i,i<l.length/\colA (sAt l i) f=x:=by
 unfold colL;rw [List.mem_map];constructor
 · rintro ⟨s,hs,rfl⟩
   obtain ⟨i,hi,e⟩:=List.getElem_of_mem hs
   exact ⟨i,hi,by unfold sAt;rw [getD_at hi,e]⟩
 · rintro ⟨i,hi,rfl⟩
   exact ⟨l[i],List.getElem_mem hi,by unfold sAt;rw [getD_at hi]⟩
theorem cutP_mem {l:List Sa} {f:Nat} {x:Int} (h:x∈cutP l f) : ∃ i,i<l.length/\colA (sAt l i) f=x :=
 (col_at l f x).1 ((ris_mem l f x).1 (List.mem_of_mem_drop h))
theorem part_least {l:List Sa} {f:Nat} {c:Int} (h : ∀ x∈colL l f,c<=x):partS l f c true = []:=by
 unfold partS;rw [List.filter_eq_nil_iff];intro s hs q;have:=h (colA s f) (List.mem_map.2 ⟨s,hs,rfl⟩);unfold sideB at q;rw [show decide (colA s f<c)=false from decide_eq_false (by omega)] at q;cases q
theorem cut_more {l:List Sa} {least:Int} {f:Nat} {c:Int} (hi : ∃ i,i<l.length/\colA (sAt l i) f=c) (ok:okC l least f c=true):c∈cutP l f:=by
 have hm:c∈risL l f:=(ris_mem l f c).2 ((col_at l f c).2 hi);have pw:=ris_pw l f;unfold cutP
 rcases hr:risL l f with _ | ⟨v,t⟩
 · rw [hr] at hm;cases hm
 · rw [hr] at hm pw
   rcases List.mem_cons.1 hm with e | e
   · exfalso
     subst e
     have z:partS l f c true = []:=part_least λ x hx=>by
      have h2:x∈risL l f:=(ris_mem l f x).2 hx;rw [hr] at h2
      rcases List.mem_cons.1 h2 with e | e
      · omega
      · have:=(List.pairwise_cons.1 pw).1 x e;omega
     unfold okC nB at ok;rw [z] at ok;simp at ok
   · exact e
def bqN (l:List Sa) (least:Int) (st:SpS) (f:Nat) (c:Int):SpS:=if nB l f c true<least∨nB l f c false<least then st else if st.1*spD l f c<spU l f c*st.2.1 then (spU l f c,spD l f c,f,c,true) else st
def bqI (l:List Sa) (least:Int) (f:Nat) (st:SpS):List Int->SpS
 | []=>st
 | c :: cs=>bqI l least f (bqN l least st f c) cs
def bqA (l:List Sa) (least:Int):Nat->SpS
 | 0=>sp0 l
 | f+1=>bqI l least f (bqA l least f) (cutP l f)
theorem bqI_snoc (l:List Sa) (least:Int) (f:Nat) (c:Int) : ∀ (cs:List Int) (st:SpS),bqI l least f st (cs ++ [c])=bqN l least (bqI l least f st cs) f c
 | [],st=>rfl
 | d :: cs,st=>bqI_snoc l least f c cs _
theorem bqI_take (l:List Sa) (least:Int) (f:Nat) (st:SpS) (cs:List Int) {k:Nat} (hk:k<cs.length):bqI l least f st (cs.take (k+1))=bqN l least (bqI l least f st (cs.take k)) f (cs.getD k 0):=by
 rw [List.take_succ_eq_append_getElem hk,bqI_snoc,getD_at hk]
theorem bqN_sp {l:List Sa} {least:Int} {st:SpS} {f:Nat} {c:Int} (h1:1<=least) (h:st.2.2.2.2=true->st.2.2.1=f->st.2.2.2.1<c):bqN l least st f c=spN l least st f c:=by
 unfold bqN spN
 have e1:okC l least f c = !decide (nB l f c true<least∨nB l f c false<least):=by
  unfold okC
  by_cases a:nB l f c true<least
  · rw [decide_eq_true a,decide_eq_true (Or.inl a)];rfl
  · have z : ¬ nB l f c true=0:=by omega
    rw [decide_eq_false a,decide_eq_false z]
    by_cases b:nB l f c false<least
    · rw [decide_eq_true b,decide_eq_true (Or.inr b)];rfl
    · rw [decide_eq_false b,decide_eq_false (by omega)];rfl
 have e2:spGt l st f c=decide (st.1*spD l f c<spU l f c*st.2.1):=by
  unfold spGt
  cases q:st.2.2.2.2 with
  | false=>simp
  | true =>
    by_cases ef:f=st.2.2.1
    · have:=h q ef.symm
      rw [show decide (c<st.2.2.2.1)=false from decide_eq_false (by omega)];simp
    · rw [decide_eq_false ef];simp
 rw [e1,e2]
 by_cases a:nB l f c true<least∨nB l f c false<least
 · rw [if_pos a,decide_eq_true a];rfl
 · rw [if_neg a,decide_eq_false a]
   show _=if true=true then _ else _;rw [if_pos rfl]
   by_cases b:st.1*spD l f c<spU l f c*st.2.1
   · rw [if_pos b,if_pos (decide_eq_true b)]
   · rw [if_neg b,if_neg (by rw [decide_eq_false b];decide)]
theorem bqI_inv {l:List Sa} {least:Int} {F:Nat} (h1:1<=least) (hl:0<l.length) : ∀ (cs:List Int) {P:Nat->Int->Prop} {st:SpS},cs.Pairwise (λ a b=>a<b)->(∀ c∈cs,st.2.2.2.2=true->st.2.2.1=F->st.2.2.2.1<c)->SpInv l least F P st->SpInv l least F (λ f d=>P f d∨(f=F/\d∈cs)) (bqI l least F st cs)
 | [],P,st,_,_,h=>h.same λ f c=>⟨.inl,λ q=>q.elim id (λ q=>by cases q.2)⟩
 | c :: cs,P,st,pw,lo,h=>by
   obtain ⟨p1,p2⟩:=List.pairwise_cons.1 pw;have e:=bqN_sp (l:=l) (f:=F) h1 (lo c (List.mem_cons_self ..));have m:=h.more h1 hl c;rw [←e] at m
   have lo' : ∀ d∈cs,(bqN l least st F c).2.2.2.2=true->(bqN l least st F c).2.2.1=F->(bqN l least st F c).2.2.2.1<d:=by
    intro d hd;unfold bqN
    split
    · exact lo d (List.mem_cons_of_mem _ hd)
    · split
      · intro _ _;exact p1 d hd
      · exact lo d (List.mem_cons_of_mem _ hd)
   exact (bqI_inv h1 hl cs p2 lo' m).same λ f d=>by
    rw [List.mem_cons];constructor
    · rintro ((q | ⟨rfl,rfl⟩) | ⟨rfl,q⟩)
      · exact .inl q
      · exact .inr ⟨rfl, .inl rfl⟩
      · exact .inr ⟨rfl, .inr q⟩
    · rintro (q | ⟨rfl,rfl | q⟩)
      · exact .inl (.inl q)
      · exact .inl (.inr ⟨rfl,rfl⟩)
      · exact .inr ⟨rfl,q⟩
theorem bqA_inv {l:List Sa} {least:Int} (h1:1<=least) (hl:0<l.length) : ∀ m,SpInv l least m (λ f d=>f<m/\d∈cutP l f) (bqA l least m)
 | 0=>⟨λ _=>⟨rfl,λ f c hp=>by omega⟩,λ q=>(by cases q),λ f c hp=>by omega⟩
 | m+1=>by
   have I:=bqA_inv (l:=l) h1 hl m;have:=bqI_inv (F:=m) h1 hl (cutP l m) (cutP_pw l m) (λ c _ q e=>by have:=(I.yes q).1.1;omega) I
   exact (this.wide (Nat.le_succ m)).same λ f c=>by
    constructor
    · rintro (⟨h,q⟩ | ⟨rfl,q⟩)
      · exact ⟨by omega,q⟩
      · exact ⟨by omega,q⟩
    · rintro ⟨h,q⟩
      by_cases e:f=m
      · subst e;exact .inr ⟨rfl,q⟩
      · exact .inl ⟨by omega,q⟩
theorem bq_is {l:List Sa} {least:Int} (h1:1<=least) (hl:0<l.length) (m:Nat):(bqA l least m).2.2=(spV l m least).2.2:=by
 have I:=bqA_inv h1 hl m
 have cand : ∀ f c,Cand l m least f c->f<m/\c∈cutP l f:=λ f c h=>⟨h.1,cut_more h.2.1 h.2.2⟩
 cases q:(bqA l least m).2.2.2.2 with
 | false =>
   obtain ⟨e,n⟩:=I.no q;obtain ⟨s1,s2⟩:=split_spec (l:=l) (m:=m) h1 hl
   cases z:(spV l m least).2.2.2.2 with
   | true =>
     obtain ⟨t1,t2,_⟩:=s2 z;exact absurd t2 (n _ _ (cand _ _ t1) t1.2.2)
   | false =>
     obtain ⟨a,b,_⟩:=s1 z;rw [e];refine Prod.ext a.symm (Prod.ext b.symm z.symm)
 | true =>
   obtain ⟨y1,y2,y3,y4,y5,y6⟩:=I.yes q;obtain ⟨a,b,c⟩:=split_only h1 hl (m:=m) ⟨y1.1,cutP_mem y1.2,y2⟩ y5 (λ g d hc=>y6 g d (cand g d hc) hc.2.2);refine Prod.ext b.symm (Prod.ext c.symm ?_);show (bqA l least m).2.2.2.2=_;rw [q,a]
theorem bqI_in {l:List Sa} {least:Int} (P:SpS->Prop) (h : ∀ st f c,P st->P (bqN l least st f c)) (f:Nat) : ∀ (cs:List Int) (st:SpS),P st->P (bqI l least f st cs)
 | [],_,q=>q
 | _ :: cs,_,q=>bqI_in P h f cs _ (h _ _ _ q)
theorem bqA_in {l:List Sa} {least:Int} (P:SpS->Prop) (h0:P (sp0 l)) (h : ∀ st f c,P st->P (bqN l least st f c)) : ∀ m,P (bqA l least m)
 | 0=>h0
 | m+1=>bqI_in P h m _ _ (bqA_in P h0 h m)
end Go.Proofs.YtaijnacghiloaaaGreatDoor.M

namespace Go.Proofs.YtaijnacghiloaaaGreatDoor
open Go.ChangeShapes Go.WideShapes Go.ChangeAt Go.RowKit Go.Lib
set_option linter.unusedVariables false
def Away (o:Option Nat) (a:Option Addr) (xs:List Sx):Prop:=(∀ p,a=some p->o≠some p.block) /\ ∀ x∈xs, ∀ p,x.1=some p->o≠some p.block
theorem Rd.grown {w w':World} {o:Option Nat} {a:Option Addr} {xs:List Int} (h:Rd w a xs) (ha : ∀ p,a=some p->o≠some p.block) (hg:w.grownBy w' o):Rd w' a xs :=
 ⟨h.1,λ hn=>by
  obtain ⟨b,off,rfl,hb,hc⟩:=h.2 hn
  exact ⟨b,off,rfl,Nat.lt_of_lt_of_le hb hg.size,λ i hi=>hg.cell (hc i hi) (λ e=>ha _ rfl e.symm)⟩⟩
theorem RdL.grown {w w':World} {o:Option Nat} {a:Option Addr} {xs:List Sx} (h:RdL w a xs) (ha:Away o a xs) (hg:w.grownBy w' o):RdL w' a xs :=
 ⟨h.1,λ x hx=>(h.2.1 x hx).grown (ha.2 x hx) hg,λ hn=>by
  obtain ⟨b,off,rfl,hb,hc⟩:=h.2.2 hn
  exact ⟨b,off,rfl,Nat.lt_of_lt_of_le hb hg.size,λ i hi=>⟨hg.cell (hc i hi).1 (λ e=>ha.1 _ rfl e.symm),hg.cell (hc i hi).2 (λ e=>ha.1 _ rfl e.symm)⟩⟩⟩
theorem partX_len (xs:List Sx) (f:Nat) (c:Int) (b:Bool):((partX xs f c b).length:Int)=M.nB (sms xs) f c b:=by
 unfold M.nB;rw [←partX_sms,sms_len]
theorem away_new {w:World} {a:Option Addr} {xs:List Sx} {m:Nat} (h:RdL w a xs) (A:Ask xs m) (hm:0<m) (hp:0<xs.length) {g:Nat} (hg:w.heap.size<=g):Away (some g) a xs:=by
 refine ⟨λ p hp' => ?_,λ x hx p hp' => ?_⟩
 · obtain ⟨b,off,rfl,hb,_⟩:=h.2.2 (by intro e;rw [e] at hp;simp at hp)
   cases hp';intro e;have e':g=b:=Option.some.inj e;omega
 · have hl:=A.row x hx
   obtain ⟨b,off,e0,hb,_⟩:=(h.2.1 x hx).2 (by intro e;rw [e] at hl;simp at hl;omega);rw [e0] at hp';cases hp';intro e;have e':g=b:=Option.some.inj e;omega
theorem away_part {w:World} {o:Option Nat} {a ag:Option Addr} {xs:List Sx} {f:Nat} {c:Int} {b:Bool} (h:Away o a xs) (ho : ∀ q,o=some q->q<w.heap.size) (hf : ∀ p,ag=some p->w.heap.size<=p.block):Away o ag (partX xs f c b):=by
 refine ⟨λ p hp e => ?_,λ x hx p hp=>h.2 x (partX_mem hx) p hp⟩
 have h1:=hf p hp;have h2:=ho p.block e;omega
end Go.Proofs.YtaijnacghiloaaaGreatDoor
