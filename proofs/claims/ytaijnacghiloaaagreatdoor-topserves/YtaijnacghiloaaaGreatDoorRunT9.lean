/-
  Several texts as one: GroBest, GroC, MathSh, GroP, MathBc, TwoX, OneFact.
-/
import Derived.Test.YtaijnacghiloaaaGreatDoorRunT8
import Derived.Test.YtaijnacghiloaaaGreatDoorRunT7
import Derived.Deep.Cut
import Derived.Deep.CutRange
import Derived.OwnWalk
namespace Go.Proofs.YtaijnacghiloaaaGreatDoor
open Go.ChangeShapes Go.WideShapes Go.ChangeAt Go.RowKit Go.Lib
set_option linter.unusedVariables false
def GCutsGives:Prop := ∀ (a:Option Addr) (xs:List Sx) (ca m f:Nat) (w:World),RdL w a xs->Ask xs m->f<m->0<xs.length->Calls Tryz.prog 142 #[.slice a xs.length ca, .int .i64 (f:Nat)] w λ e w' => ∃ ag cg,e = .returned (.slice ag (M.cutP (sms xs) f).length cg)/\Rd w' ag (M.cutP (sms xs) f)/\Below w.heap.size w w'/\(∀ p,ag=some p->w.heap.size<=p.block)
structure Bq (w W:World) (b6 b8:Nat) (st:M.SpS):Prop where
 c0:W.cell? ⟨b6,0,none⟩=some (.int .i64 (st.2.2.1:Nat))
 c1:W.cell? ⟨b6,1,none⟩=some (.int .i64 st.2.2.2.1)
 c2:W.cell? ⟨b8,0,none⟩=some (.int .i64 st.1)
 c3:W.cell? ⟨b8,1,none⟩=some (.int .i64 st.2.1)
 f6 : ∀ j,W.frozen? ⟨b6,j,none⟩=false
 f8 : ∀ j,W.frozen? ⟨b8,j,none⟩=false
 ne:b6≠b8
 l6:w.heap.size<=b6/\b6<W.heap.size
 l8:w.heap.size<=b8/\b8<W.heap.size
 b:Below w.heap.size w W
theorem frozen_kept {W W':World} {p:Nat} (hb:Below W.heap.size W W') (hp:p<W.heap.size) (j:Nat):W'.frozen? ⟨p,j,none⟩=W.frozen? ⟨p,j,none⟩:=by
 unfold World.frozen?;rw [hb.block _ hp]
theorem Bq.up {w W W':World} {b6 b8:Nat} {st:M.SpS} (h:Bq w W b6 b8 st) (hb:Below W.heap.size W W'):Bq w W' b6 b8 st :=
 ⟨(hb.cell (p:=⟨b6,0,none⟩) h.l6.2).trans h.c0,(hb.cell (p:=⟨b6,1,none⟩) h.l6.2).trans h.c1,(hb.cell (p:=⟨b8,0,none⟩) h.l8.2).trans h.c2,(hb.cell (p:=⟨b8,1,none⟩) h.l8.2).trans h.c3,λ j=>(frozen_kept hb h.l6.2 j).trans (h.f6 j),λ j=>(frozen_kept hb h.l8.2 j).trans (h.f8 j),h.ne,⟨h.l6.1,Nat.lt_of_lt_of_le h.l6.2 hb.size⟩,⟨h.l8.1,Nat.lt_of_lt_of_le h.l8.2 hb.size⟩,below_on h.b hb⟩
theorem frozen_best (W:World) (p q o j:Nat) (x:Value):(W.setCell ⟨p,o,none⟩ x).frozen? ⟨q,j,none⟩=W.frozen? ⟨q,j,none⟩:=by
 simp [World.frozen?,World.setCell,Array.getElem?_modify]
 by_cases e:p=q
 · subst e
   cases h:W.heap[p]? with
   | none=>simp
   | some o=>cases o <;> simp
 · simp [e]
theorem Bq.put {w W:World} {b6 b8:Nat} {st:M.SpS} (h:Bq w W b6 b8 st) (st':M.SpS):Bq w ((((W.setCell ⟨b6,0,none⟩ (.int .i64 (st'.2.2.1:Nat))).setCell ⟨b6,1,none⟩ (.int .i64 st'.2.2.2.1)).setCell ⟨b8,0,none⟩ (.int .i64 st'.1)).setCell ⟨b8,1,none⟩ (.int .i64 st'.2.1)) b6 b8 st':=by
 have ne:=h.ne;have o : ∀ (V:World) (p q i j:Nat) (v:Value),p≠q∨i≠j->(V.setCell ⟨p,i,none⟩ v).cell? ⟨q,j,none⟩=V.cell? ⟨q,j,none⟩:=λ V p q i j v hij=>World.cell?_setCell_other _ _ _ _ (by intro e;cases e;rcases hij with x | x <;> exact x rfl);have s1:=set2 (x0 := .int .i64 (st'.2.2.1:Nat)) (x1 := .int .i64 st'.2.2.2.1) h.c0 h.c1
 refine ⟨?_, ?_, ?_, ?_,λ j => ?_,λ j => ?_,ne,⟨h.l6.1,by simpa using h.l6.2⟩,⟨h.l8.1,by simpa using h.l8.2⟩,below2 (below2 h.b h.l6.1) h.l8.1⟩
 · rw [o _ _ _ _ _ _ (.inl ne.symm),o _ _ _ _ _ _ (.inl ne.symm),o _ _ _ _ _ _ (.inr (by decide))];exact s1.1
 · rw [o _ _ _ _ _ _ (.inl ne.symm),o _ _ _ _ _ _ (.inl ne.symm)];exact s1.2
 · rw [o _ _ _ _ _ _ (.inr (by decide))]
   exact World.cell?_setCell_same (u := .int .i64 st.1) _ _ _ (by rw [o _ _ _ _ _ _ (.inl ne),o _ _ _ _ _ _ (.inl ne)];exact h.c2)
 · exact World.cell?_setCell_same (u := .int .i64 st.2.1) _ _ _ (by rw [o _ _ _ _ _ _ (.inr (by decide)),o _ _ _ _ _ _ (.inl ne),o _ _ _ _ _ _ (.inl ne)];exact h.c3)
 · rw [frozen_best,frozen_best,frozen_best,frozen_best];exact h.f6 j
 · rw [frozen_best,frozen_best,frozen_best,frozen_best];exact h.f8 j
theorem compact_le (l:List Int):(Lib.compact l).length<=l.length:=by
 unfold Lib.compact Lib.compactUpTo;rw [List.length_map];exact Nat.le_trans (List.length_filter_le _ _) (by simp)
theorem Ask.bq {xs:List Sx} {m:Nat} (h:Ask xs m) (least:Int) (st:M.SpS) (f:Nat) (c:Int) (hs:StIn st):StIn (M.bqN (sms xs) least st f c):=by
 unfold M.bqN
 split
 · exact hs
 · split
   · exact h.ud f c
   · exact hs
theorem Ask.bqI {xs:List Sx} {m:Nat} (h:Ask xs m) (least:Int) (F f:Nat) (cs:List Int):StIn (M.bqI (sms xs) least f (M.bqA (sms xs) least F) cs) :=
 M.bqI_in StIn (λ st f c hs=>h.bq least st f c hs) f cs _ (M.bqA_in StIn (h.st least) (λ st f c hs=>h.bq least st f c hs) F)
theorem M.bqN_few {l:List M.Sa} {least:Int} {st:M.SpS} {f:Nat} {c:Int} (h:M.nB l f c true<least∨M.nB l f c false<least):M.bqN l least st f c=st:=by unfold M.bqN;rw [if_pos h]
theorem M.bqN_yes {l:List M.Sa} {least:Int} {st:M.SpS} {f:Nat} {c:Int} (h : ¬ (M.nB l f c true<least∨M.nB l f c false<least)) (h2:st.1*M.spD l f c<M.spU l f c*st.2.1):M.bqN l least st f c=(M.spU l f c,M.spD l f c,f,c,true):=by unfold M.bqN;rw [if_neg h,if_pos h2]
theorem M.bqN_no {l:List M.Sa} {least:Int} {st:M.SpS} {f:Nat} {c:Int} (h : ¬ (M.nB l f c true<least∨M.nB l f c false<least)) (h2 : ¬ st.1*M.spD l f c<M.spU l f c*st.2.1):M.bqN l least st f c=st:=by unfold M.bqN;rw [if_neg h,if_neg h2]
set_option maxHeartbeats 16000000 in
set_option maxRecDepth 10000 in
theorem best_any (GC:GCutsGives) (a:Option Addr) (xs:List Sx) (ca m:Nat) (least:Int) (w:World) (h:RdL w a xs) (A:Ask xs m) (m8:m<=8) (hp:0<xs.length) (h1:1<=least) :
 Calls Tryz.prog 115 #[.slice a xs.length ca, .int .i64 (m:Nat), .int .i64 least] w λ e w'=>e = .returned (.tuple #[.agg #[.int .i64 ((M.spV (sms xs) m least).2.2.1:Nat), .int .i64 (M.spV (sms xs) m least).2.2.2.1], .bool (M.spV (sms xs) m least).2.2.2.2])/\Below w.heap.size w w':=by
 have BI:=M.bq_is (l:=sms xs) h1 (by rw [sms_len];exact hp) m;rw [←BI];have HL:=hide h;have AA:=hide A;have l60:=A.le;have GCC:=hide (λ f (hf:f<m) W (hW:Below w.heap.size w W)=>GC a xs ca m f W (h.below hW) A hf hp);have PPC:=hide (λ f (hf:f<m) c W (hW:Below w.heap.size w W)=>part_any a xs ca m f c W (h.below hW) A hf);have RR:=hide (λ (pa:Option Addr) f c b (cap:Nat) W (hW:RdL W pa (partX xs f c b))=>putright_any pa (partX xs f c b) cap m W hW (A.part f c b));have R0:=hide (λ W (hW:Below w.heap.size w W)=>putright_any a xs ca m W (h.below hW) A)
 obtain ⟨w1,hw1⟩ : ∃ W,W=w.alloc (.cells #[.int .i64 0, .int .i64 0] 200):=⟨_,rfl⟩
 have s1:w1.heap.size=w.heap.size+1:=by rw [hw1];simp
 have K1:Hid (Below w.heap.size w w1):=by unfold Hid;rw [hw1];exact (Below.refl _ w).alloc (Nat.le_refl _) _
 have N1:=hide (λ W (hW:Below w1.heap.size w1 W)=>new_kept hw1 hW);have S1:=hide s1;have HW:=hide hw1;have SL:=hide (sms_len xs);have EV:Hid (∀ st,M.bqA (sms xs) least m=st->M.bqA (sms xs) least m=st):=λ _ e=>e;clear h A hw1 s1 BI GC
 obtain ⟨V,hV⟩ : ∃ V,V=M.bqA (sms xs) least m:=⟨_,rfl⟩
 rw [←hV];have HV:=hide hV;clear hV EV
 go_enter Tryz.func115, Tryz.ntmps115
 go_upto_region 1 with fail
 rw [←HW.out]
 go_upto_region 2 with (go_at_call 141;refine (R0.out _ K1.out).mono ?_;rintro e w2 ⟨rfl,hb2⟩;have K2:=hide hb2;clear hb2)
 obtain ⟨w3,hw3⟩ : ∃ W,W=w2.alloc (.cells #[.int .i64 (M.sumT (sms xs)*M.sumT (sms xs)), .int .i64 (xs.length:Nat)] 238):=⟨_,rfl⟩
 rw [←hw3]
 have K3:Hid (Below w2.heap.size w2 w3):=by unfold Hid;rw [hw3];exact (Below.refl _ w2).alloc (Nat.le_refl _) _
 have Q3:Hid (Bq w w3 w.heap.size w2.heap.size (M.bqA (sms xs) least 0)):=by
  have k13:=below_on K2.out K3.out;have n1:=N1.out w3 k13;have n3:=new_kept hw3 (Below.refl w3.heap.size w3);have z:=K2.out.size;have z1:=S1.out
  have z3:w3.heap.size=w2.heap.size+1:=by rw [hw3];simp
  have e:M.bqA (sms xs) least 0=(M.sumT (sms xs)*M.sumT (sms xs),(((sms xs).length:Nat):Int),0,0,false):=rfl;rw [e,SL.out]
  exact ⟨n1.1 0 _ rfl,n1.1 1 _ rfl,n3.1 0 _ rfl,n3.1 1 _ rfl,n1.2,n3.2,by omega,⟨Nat.le_refl _,by omega⟩,⟨by omega,by omega⟩,below_on K1.out k13⟩
 have Z0:Hid (((M.bqA (sms xs) least 0).2.2.2.2:Bool)=false):=rfl
 obtain ⟨b8,hb8⟩ : ∃ b,b=w2.heap.size:=⟨_,rfl⟩
 rw [←hb8] at Q3 ⊢
 obtain ⟨b6,hb6⟩ : ∃ b,b=w.heap.size:=⟨_,rfl⟩
 rw [←hb6] at Q3;rw [←hb6];clear hw3 hb8 N1 HW S1 K1 K2 K3 R0 hb6
 go_wp2
 go_loopw [7,19] (λ v i wr => ∃ f:Nat,f<=m/\i = .int .i64 f/\v = .bool (M.bqA (sms xs) least f).2.2.2.2/\Hid (Bq w wr b6 b8 (M.bqA (sms xs) least f))) (λ _ i _=>m-(intOf i).toNat)
 case atStart=>exact ⟨0,Nat.zero_le _,rfl,rfl,Q3⟩
 case round =>
  obtain ⟨f,hf,rfl,rfl,Q⟩:=hrel;clear Q3 Z0
  by_cases hlt:f<m
  · have CC:=hide (GCC.out f hlt wr Q.out.b)
    have PC:=hide (PPC.out f hlt)
    have fz:(f:Int)<(m:Int):=by omega
    have BS:Hid (M.bqA (sms xs) least (f+1)=M.bqI (sms xs) least f (M.bqA (sms xs) least f) (M.cutP (sms xs) f)):=rfl;have SI:Hid (∀ cs,StIn (M.bqI (sms xs) least f (M.bqA (sms xs) least f) cs)):=λ cs=>AA.out.bqI least f f cs;have BT:Hid (∀ k,k<(M.cutP (sms xs) f).length->M.bqI (sms xs) least f (M.bqA (sms xs) least f) ((M.cutP (sms xs) f).take (k+1))=M.bqN (sms xs) least (M.bqI (sms xs) least f (M.bqA (sms xs) least f) ((M.cutP (sms xs) f).take k)) f ((M.cutP (sms xs) f).getD k 0)):=λ k hk=>M.bqI_take _ _ _ _ _ hk;have UD:Hid (∀ c,(0<=M.spU (sms xs) f c/\M.spU (sms xs) f c<=432000000000)/\(0<=M.spD (sms xs) f c/\M.spD (sms xs) f c<=3600)):=λ c=>AA.out.ud f c;have TB:Hid (∀ c b, -60000<=M.tB (sms xs) f c b/\M.tB (sms xs) f c b<=60000/\0<=M.nB (sms xs) f c b/\M.nB (sms xs) f c b<=60):=λ c b=>AA.out.two f c b
    have cl60:Hid ((M.cutP (sms xs) f).length<=60):=by
     unfold Hid M.cutP M.risL;have e1:=compact_le (M.sortI (M.colL (sms xs) f));rw [M.sort_length,M.colL_len,SL.out] at e1;rw [List.length_drop];omega
    obtain ⟨S,hS⟩ : ∃ S,S=M.bqI (sms xs) least f (M.bqA (sms xs) least f):=⟨_,rfl⟩
    have S0:Hid (S []=M.bqA (sms xs) least f):=by rw [hS];rfl
    rw [←hS] at BS SI BT;rw [←S0.out] at Q;rw [←S0.out];have CL:=hide (rfl:M.cutP (sms xs) f=M.cutP (sms xs) f);clear GCC PPC hS HV
    go_upto_region 5 with fail
    generalize M.cutP (sms xs) f=C at *
    go_wp2_with (go_at_call 142;refine CC.out.mono ?_;rintro e w4 ⟨ag,cg,rfl,hra,hb4,hfr⟩;have RA:=hide hra;have Q4:=hide (Q.out.up hb4);have FR:Hid (∀ p,ag=some p->b6<p.block/\b8<p.block):=(λ p hp=>⟨Nat.lt_of_lt_of_le Q.out.l6.2 (hfr p hp),Nat.lt_of_lt_of_le Q.out.l8.2 (hfr p hp)⟩);clear hra hb4 hfr)
    have c60:=cl60.out;clear CC Q cl60 CL
    go_loopw [7,26] (λ v i wr => ∃ k:Nat,k<=C.length/\i = .int .i64 k/\v = .bool (S (C.take k)).2.2.2.2/\Hid (Rd wr ag C)/\Hid (Bq w wr b6 b8 (S (C.take k)))) (λ _ i _=>C.length-(intOf i).toNat)
    case atStart=>exact ⟨0,Nat.zero_le _,rfl,rfl,RA,Q4⟩
    case round =>
     obtain ⟨k,hk,rfl,rfl,R,Q⟩:=hrel;clear RA Q4
     by_cases klt:k<C.length
     · have BK:=hide (BT.out k klt)
       have SK:=hide (SI.out (C.take k));obtain ⟨bc,oc,rfl,hbc,hcc⟩:=R.out.2 (by intro e;rw [e] at klt;simp at klt);have hck:=hcc k klt
       have kz:(k:Int)<(C.length:Int):=by omega
       generalize C.getD k 0=cu at *;generalize S (C.take k)=st at *;have ET:Hid (((partX xs f cu true).length:Int)=M.nB (sms xs) f cu true):=partX_len _ _ _ _;have EF:Hid (((partX xs f cu false).length:Int)=M.nB (sms xs) f cu false):=partX_len _ _ _ _
       have ST:Hid (M.sumT (sms (partX xs f cu true))=M.tB (sms xs) f cu true):=by unfold Hid M.tB;rw [partX_sms]
       have SF:Hid (M.sumT (sms (partX xs f cu false))=M.tB (sms xs) f cu false):=by unfold Hid M.tB;rw [partX_sms]
       have PCK:=hide (PC.out cu);have RT:=hide (λ pa cap W hW=>RR.out pa f cu true cap W hW);have RF:=hide (λ pa cap W hW=>RR.out pa f cu false cap W hW);rw [ST.out] at RT;rw [SF.out] at RF;obtain ⟨ud1,ud2⟩:=UD.out cu;obtain ⟨t1,t2,n1,n2⟩:=TB.out cu true;obtain ⟨t3,t4,n3,n4⟩:=TB.out cu false;have EU:Hid (M.spU (sms xs) f cu=M.tB (sms xs) f cu true*M.tB (sms xs) f cu true*M.nB (sms xs) f cu false+M.tB (sms xs) f cu false*M.tB (sms xs) f cu false*M.nB (sms xs) f cu true):=rfl;have ED:Hid (M.spD (sms xs) f cu=M.nB (sms xs) f cu true*M.nB (sms xs) f cu false):=rfl;have FEW:Hid (M.nB (sms xs) f cu true<least∨M.nB (sms xs) f cu false<least->M.bqN (sms xs) least st f cu=st):=M.bqN_few;have YES:Hid (¬ (M.nB (sms xs) f cu true<least∨M.nB (sms xs) f cu false<least)->st.1*M.spD (sms xs) f cu<M.spU (sms xs) f cu*st.2.1->M.bqN (sms xs) least st f cu=(M.spU (sms xs) f cu,M.spD (sms xs) f cu,f,cu,true)):=M.bqN_yes;have NO:Hid (¬ (M.nB (sms xs) f cu true<least∨M.nB (sms xs) f cu false<least) -> ¬ st.1*M.spD (sms xs) f cu<M.spU (sms xs) f cu*st.2.1->M.bqN (sms xs) least st f cu=st):=M.bqN_no;rw [←ET.out,←EF.out] at EU ED FEW YES NO;rw [←ET.out] at n1 n2;rw [←EF.out] at n3 n4;have G0:Hid (∀ W,Below wr.heap.size wr W->Rd W (some ⟨bc,oc,none⟩) C):=λ W hW=>R.out.below hW;clear UD TB PC RR ET EF ST SF SI BT BS S0 HL AA SL R hcc;generalize M.spU (sms xs) f cu=U at *;generalize M.spD (sms xs) f cu=D at *;generalize M.bqN (sms xs) least st f cu=NW at *;generalize M.tB (sms xs) f cu true=tT at *;generalize M.tB (sms xs) f cu false=tF at *;generalize partX xs f cu true=XT at *;generalize partX xs f cu false=XF at *
       go_upto_region 9 with fail
       obtain ⟨w5,hw5⟩ : ∃ W,W=wr.alloc (.cells #[.int .i64 (f:Nat), .int .i64 cu] 200):=⟨_,rfl⟩
       rw [←hw5]
       have K5:Hid (Below wr.heap.size wr w5):=by unfold Hid;rw [hw5];exact (Below.refl _ wr).alloc (Nat.le_refl _) _
       have N5:Hid (∀ W,Below w5.heap.size w5 W->W.cell? ⟨wr.heap.size,0,none⟩=some (.int .i64 (f:Nat))/\W.cell? ⟨wr.heap.size,1,none⟩=some (.int .i64 cu)):=λ W hW=>⟨(new_kept hw5 hW).1 0 _ rfl,(new_kept hw5 hW).1 1 _ rfl⟩
       obtain ⟨y0,y1⟩:=N5.out w5 (Below.refl _ _);have P5:=hide (PCK.out w5 (below_on Q.out.b K5.out));clear hw5 PCK hck
       go_upto_region 10 with (go_at_call 116;refine P5.out.mono ?_;rintro e w6 ⟨pa,pac,pb,pbc,rfl,hra,hrb,hk6,_,_⟩;have RA:=hide hra;have RB:=hide hrb;have K6:=hide hk6;clear hra hrb hk6)
       have KR6:=hide (below_on K5.out K6.out);clear P5 y0 y1
       by_cases few:(XT.length:Int)<least∨(XF.length:Int)<least
       · have EN:Hid (S (C.take (k+1))=st):=by unfold Hid;rw [BK.out];exact FEW.out few
         have QN:Hid (Bq w w6 b6 b8 (S (C.take (k+1)))):=by unfold Hid;rw [EN.out];exact Q.out.up KR6.out
         have GN:=hide (G0.out w6 KR6.out)
         by_cases fa:(XT.length:Int)<least
         · have q1:decide ((XT.length:Int)<least)=true:=decide_eq_true fa
           clear few fa FEW YES NO EU ED RT RF Q RA RB K5 K6 KR6 N5 G0 BK
           go_wp2
           go_roundw
           case rel=>exact ⟨k+1,by omega,by go_num,by rw [EN.out],GN,QN⟩
           case measure=>simp [intOf];omega
         · have q1:decide ((XT.length:Int)<least)=false:=decide_eq_false fa
           have q2:decide ((XF.length:Int)<least)=true:=decide_eq_true (by omega);clear few fa FEW YES NO EU ED RT RF Q RA RB K5 K6 KR6 N5 G0 BK
           go_wp2
           go_roundw
           case rel=>exact ⟨k+1,by omega,by go_num,by rw [EN.out],GN,QN⟩
           case measure=>simp [intOf];omega
       · have q1:decide ((XT.length:Int)<least)=false:=decide_eq_false (by omega)
         have q2:decide ((XF.length:Int)<least)=false:=decide_eq_false (by omega);have YES2:=hide (YES.out few);have NO2:=hide (NO.out few);clear few FEW YES NO;have z1:=M.sqR_in t1 t2;have z2:=M.sqR_in t3 t4;have z3:=M.mulp_in z1.1 z1.2 n3 n4;have z4:=M.mulp_in z2.1 z2.2 n1 n2;have z5:=M.mulp_in n1 n2 n3 n4;have PL:=hide (λ W=>plus_any (tT*tT) (XT.length:Int) (tF*tF) (XF.length:Int) W (wrap_in5 _ (by omega) (by omega)) (wrap_in5 _ (by omega) (by omega)) (wrap_in5 _ (by omega) (by omega)) (wrap_in5 _ (by omega) (by omega)));rw [←EU.out,←ED.out] at PL;obtain ⟨⟨st1,st2⟩,st3,st4⟩:=SK.out;have v1:=M.mulp_in ud1.1 ud1.2 st3 st4;have v2:=M.mulp_in st1 st2 ud2.1 ud2.2;have MO:=hide (λ W=>more_any U D st.1 st.2.1 W (wrap_in5 _ (by omega) (by omega)) (wrap_in5 _ (by omega) (by omega)));have RT6:=hide (RT.out pa pac w6 RA.out);clear z1 z2 z3 z4 z5 v1 v2 st1 st2 st3 st4 EU ED RT SK t1 t2 t3 t4;generalize tT*tT=tt at *;generalize tF*tF=tf at *
         go_upto_region 12 with (first
          | (go_at_call 141;have lean:=K7;refine (RF.out pb pbc _ (RB.out.below K7.out)).mono ?_;rintro e w8 ⟨rfl,hk8⟩;have K8:=hide (below_on K7.out hk8);clear hk8)
          | (go_at_call 141;refine RT6.out.mono ?_;rintro e w7 ⟨rfl,hk7⟩;have K7:=hide hk7;clear hk7)
          | (go_at_call 143;refine (PL.out _).mono ?_;rintro e w9 ⟨rfl,hk9⟩;have K9:=hide (below_on K8.out hk9);clear hk9))
         obtain ⟨w10,hw10⟩ : ∃ W,W=w9.alloc (.cells #[.int .i64 U, .int .i64 D] 238):=⟨_,rfl⟩
         rw [←hw10]
         have K10:Hid (Below w9.heap.size w9 w10):=by unfold Hid;rw [hw10];exact (Below.refl _ w9).alloc (Nat.le_refl _) _
         have N10:Hid (∀ W,Below w10.heap.size w10 W->W.cell? ⟨w9.heap.size,0,none⟩=some (.int .i64 U)/\W.cell? ⟨w9.heap.size,1,none⟩=some (.int .i64 D)):=λ W hW=>⟨(new_kept hw10 hW).1 0 _ rfl,(new_kept hw10 hW).1 1 _ rfl⟩
         have K5X:=hide (below_on (below_on K6.out K9.out) K10.out);have Q10:=hide (Q.out.up (below_on K5.out K5X.out));obtain ⟨a0,a1⟩:=N10.out w10 (Below.refl _ _);have a2:=Q10.out.c2;have a3:=Q10.out.c3;have M10:=hide (MO.out w10)
         have LB:Hid (b6<wr.heap.size/\b8<wr.heap.size/\wr.heap.size<=w9.heap.size):=⟨Q.out.l6.2,Q.out.l8.2,(below_on K5.out (below_on K6.out K9.out)).size⟩
         clear hw10 RT6 RF PL MO K7 K8 RA RB Q
         by_cases mo:st.1*D<U*st.2.1
         · have EN:Hid (S (C.take (k+1))=(U,D,f,cu,true)):=by unfold Hid;rw [BK.out];exact YES2.out mo
           rw [decide_eq_true mo] at M10;clear mo YES2 NO2 BK
           go_upto_region 13 with (go_at_call 144;refine M10.out.mono ?_;rintro e w11 ⟨rfl,hk11⟩;have K11:=hide hk11;clear hk11)
           have Q11:=hide (Q10.out.up K11.out);have K5Y:=hide (below_on K5X.out K11.out);obtain ⟨h0,h1'⟩:=N10.out w11 K11.out;obtain ⟨g0,g1⟩:=N5.out w11 K5Y.out;have d0:=Q11.out.c0;have d1:=Q11.out.c1;have d2:=Q11.out.c2;have d3:=Q11.out.c3;have p0:=Q11.out.f6 0;have p1:=Q11.out.f6 1;have p2:=Q11.out.f8 0;have p3:=Q11.out.f8 1;have GN:=hide (G0.out w11 (below_on K5.out K5Y.out));clear M10 N10 N5 Q10 a0 a1 a2 a3 K5X K10 K9 K6 K11 KR6;have ne1 : ¬ b6=b8:=Q11.out.ne;have ne2 : ¬ b8=b6:=λ e=>Q11.out.ne e.symm;obtain ⟨m1,m2,m3⟩:=LB.out
           have o1 : ¬ b6=w9.heap.size:=by omega
           have o2 : ¬ w9.heap.size=b6:=by omega
           have o3 : ¬ b8=w9.heap.size:=by omega
           have o4 : ¬ w9.heap.size=b8:=by omega
           have o5 : ¬ b6=wr.heap.size:=by omega
           have o6 : ¬ wr.heap.size=b6:=by omega
           have o7 : ¬ b8=wr.heap.size:=by omega
           have o8 : ¬ wr.heap.size=b8:=by omega
           clear m1 m2 m3;have fr:=FR.out _ rfl
           have GS:Hid (Rd ((((w11.setCell ⟨b6,0,none⟩ (.int .i64 (f:Nat))).setCell ⟨b6,1,none⟩ (.int .i64 cu)).setCell ⟨b8,0,none⟩ (.int .i64 U)).setCell ⟨b8,1,none⟩ (.int .i64 D)).drew (some ⟨bc,oc,none⟩) C):=by
            have z6 : ∀ p,(some ⟨bc,oc,none⟩:Option Addr)=some p->(some b6:Option Nat)≠some p.block:=λ p hp e=>by cases hp;cases e;exact Nat.lt_irrefl _ fr.1
            have z8 : ∀ p,(some ⟨bc,oc,none⟩:Option Addr)=some p->(some b8:Option Nat)≠some p.block:=λ p hp e=>by cases hp;cases e;exact Nat.lt_irrefl _ fr.2
            exact ((((GN.out.grown z6 grown_set).grown z6 grown_set).grown z8 grown_set).grown z8 grown_set).below ((Below.refl _ _).drew)
           have QS:Hid (Bq w ((((w11.setCell ⟨b6,0,none⟩ (.int .i64 (f:Nat))).setCell ⟨b6,1,none⟩ (.int .i64 cu)).setCell ⟨b8,0,none⟩ (.int .i64 U)).setCell ⟨b8,1,none⟩ (.int .i64 D)).drew b6 b8 (S (C.take (k+1)))):=by
            unfold Hid;rw [EN.out];exact (Q11.out.put (U,D,f,cu,true)).up ((Below.refl _ _).drew)
           clear fr
           go_region
           go_wp2
           go_roundw
           case rel=>exact ⟨k+1,by omega,by go_num,by rw [EN.out],GS,QS⟩
           case measure=>simp [intOf];omega
         · have EN:Hid (S (C.take (k+1))=st):=by unfold Hid;rw [BK.out];exact NO2.out (Int.not_lt.1 mo)
           rw [decide_eq_false mo] at M10;clear mo YES2 NO2 BK
           go_wp2_with (go_at_call 144;refine M10.out.mono ?_;rintro e w11 ⟨rfl,hk11⟩;have QN:Hid (Bq w w11 b6 b8 (S (C.take (k+1)))):=(by unfold Hid;rw [EN.out];exact Q10.out.up hk11);have GN:=hide (G0.out w11 (below_on K5.out (below_on K5X.out hk11)));clear hk11)
           go_roundw
           case rel=>exact ⟨k+1,by omega,by go_num,by rw [EN.out],GN,QN⟩
           case measure=>simp [intOf];omega
     · have ke:C.take k=C:=List.take_of_length_le (by omega)
       have QE:Hid (Bq w wr b6 b8 (M.bqA (sms xs) least (f+1))):=by unfold Hid;rw [BS.out,←ke];exact Q.out
       have VE:Hid ((S (C.take k)).2.2.2.2=(M.bqA (sms xs) least (f+1)).2.2.2.2):=by unfold Hid;rw [BS.out,ke]
       clear ke R Q BT SI BS UD TB PC RR;generalize (S (C.take k)).2.2.2.2=fo at *
       go_wp2
       go_roundw
       case rel=>exact ⟨f+1,by omega,by go_num,by rw [VE.out],QE⟩
       case measure=>simp [intOf];omega
  · have fe:f=m:=by omega
    have q:=Q.out;rw [fe,←HV.out] at q
    have E:Hid ((M.bqA (sms xs) least f).2.2.2.2=V.2.2.2.2):=by unfold Hid;rw [fe,HV.out]
    have QV:=hide q;have x0:=q.c0;have x1:=q.c1;have f0:=q.f6 0;have f1:=q.f6 1;clear Q q fe HV GCC PPC RR HL AA;generalize (M.bqA (sms xs) least f).2.2.2.2=fo at *
    go_wp2
    obtain ⟨e0,e1⟩:=set2 (x0 := .int .i64 (V.2.2.1:Nat)) (x1 := .int .i64 V.2.2.2.1) x0 x1;refine bodyPost_ret (v := .tuple #[.agg #[.int .i64 (V.2.2.1:Nat), .int .i64 V.2.2.2.1], .bool fo]) (by simp [results, Tryz.results115,go_sem,e0,e1]) rfl ?_
    exact ⟨by rw [E.out],below2 QV.out.b QV.out.l6.1⟩
def GroCheckGives:Prop := ∀ (a:Option Addr) (xs:List Sx) (ca:Nat) (m:Int) (W:World),RdL W a xs->Calls Tryz.prog 42 #[.slice a xs.length ca, .int .i64 m] W λ e w'=>e = .returned (.tuple #[.int .i64 ((M.samF (sms xs) m).1:Nat),errV (M.samF (sms xs) m).2])/\Below W.heap.size W w'
end Go.Proofs.YtaijnacghiloaaaGreatDoor

namespace Go.Proofs.YtaijnacghiloaaaGreatDoor
set_option linter.unusedVariables false
theorem M.sam_at {l:List M.Sa} {m:Int} (c1:l.length<=60) (c3:0<=m/\m<=8) {k:Nat} (hk:k<l.length) (h : ∀ j,j<k->M.sa1F m (M.sAt l j)=0) (hn:M.sa1F m (M.sAt l k)≠0):M.samF l m=(k,M.sa1F m (M.sAt l k)):=by
 unfold M.samF;rw [if_neg (by omega),if_neg (by omega),if_neg (by omega),M.first_hit (k:=k) (by show (!decide (M.sa1F m (M.sAt l k)=0))=true;rw [decide_eq_false hn];rfl) (λ j hj=>by show (!decide (M.sa1F m (M.sAt l j)=0))=false;rw [decide_eq_true (h j hj)];rfl) hk]
theorem M.sam_all {l:List M.Sa} {m:Int} (c1:l.length<=60) (c2:0<l.length) (c3:0<=m/\m<=8) (h : ∀ j,j<l.length->M.sa1F m (M.sAt l j)=0):M.samF l m=(0,0):=by
 unfold M.samF;rw [if_neg (by omega),if_neg (by omega),if_neg (by omega),M.first_miss (λ j hj=>by show (!decide (M.sa1F m (M.sAt l j)=0))=false;rw [decide_eq_true (h j hj)];rfl)]
theorem M.sa1_row {m:Int} {s:M.Sa} (h:M.rowF s.1≠0):M.sa1F m s=M.rowF s.1:=by unfold M.sa1F;rw [if_pos h]
theorem M.sa1_tgt {m:Int} {s:M.Sa} (h:M.rowF s.1=0) (h2:s.2 < -1000∨1000<s.2):M.sa1F m s=1:=by unfold M.sa1F;rw [if_neg (by simp [h]),if_pos h2]
theorem M.sa1_len {m:Int} {s:M.Sa} (h:M.rowF s.1=0) (h2 : ¬ (s.2 < -1000∨1000<s.2)) (h3:(s.1.length:Int)≠m):M.sa1F m s=3:=by unfold M.sa1F;rw [if_neg (by simp [h]),if_neg h2,if_pos h3]
theorem M.sa1_nil {m:Int} {s:M.Sa} (h:M.rowF s.1=0) (h2 : ¬ (s.2 < -1000∨1000<s.2)) (h3:(s.1.length:Int)=m):M.sa1F m s=if M.nilI∈s.1 then 5 else 0:=by unfold M.sa1F;rw [if_neg (by simp [h]),if_neg h2,if_neg (by simp [h3])]
end Go.Proofs.YtaijnacghiloaaaGreatDoor

namespace Go.Proofs.YtaijnacghiloaaaGreatDoor
open Go.ChangeShapes Go.WideShapes Go.ChangeAt Go.RowKit Go.Lib
set_option linter.unusedVariables false
def GroFitGives:Prop := ∀ (a:Option Addr) (xs:List Sx) (ca:Nat) (m depth least:Int) (W:World),RdL W a xs->Calls Tryz.prog 40 #[.slice a xs.length ca, .int .i64 m, .int .i64 depth, .int .i64 least] W λ e w' => ∃ pa pc,e = .returned (.tuple #[.slice pa (M.grwT (sms xs) m depth least).length pc,errV (M.grwF (sms xs) m depth least)])/\RdN w' pa (M.grwT (sms xs) m depth least)/\Below W.heap.size W w'
end Go.Proofs.YtaijnacghiloaaaGreatDoor

namespace Go.Proofs.YtaijnacghiloaaaGreatDoor.M
set_option linter.unusedVariables false

end Go.Proofs.YtaijnacghiloaaaGreatDoor.M

namespace Go.Proofs.YtaijnacghiloaaaGreatDoor
open Go.ChangeShapes Go.WideShapes Go.ChangeAt Go.RowKit Go.Lib
set_option linter.unusedVariables false
def twoX (n:Nat):List Sx := [(some ⟨n,0,none⟩, [1],1,5),(some ⟨n+1,0,none⟩, [2],1,9)]
theorem two_rd (w:World) (t u:TypeId):RdL (((w.alloc (.cells #[.int .i64 1] t)).alloc (.cells #[.int .i64 2] t)).alloc (.cells #[.slice (some ⟨w.heap.size,0,none⟩) 1 1, .int .i64 5, .slice (some ⟨w.heap.size+1,0,none⟩) 1 1, .int .i64 9] u)) (some ⟨w.heap.size+1+1,0,none⟩) (twoX w.heap.size):=by
 have k1:Below (w.alloc (.cells #[.int .i64 1] t)).heap.size (w.alloc (.cells #[.int .i64 1] t)) ((w.alloc (.cells #[.int .i64 1] t)).alloc (.cells #[.int .i64 2] t)):=(Below.refl _ _).alloc (Nat.le_refl _) _;have k2:Below ((w.alloc (.cells #[.int .i64 1] t)).alloc (.cells #[.int .i64 2] t)).heap.size ((w.alloc (.cells #[.int .i64 1] t)).alloc (.cells #[.int .i64 2] t)) (((w.alloc (.cells #[.int .i64 1] t)).alloc (.cells #[.int .i64 2] t)).alloc (.cells #[.slice (some ⟨w.heap.size,0,none⟩) 1 1, .int .i64 5, .slice (some ⟨w.heap.size+1,0,none⟩) 1 1, .int .i64 9] u)):=(Below.refl _ _).alloc (Nat.le_refl _) _;have r1:=((one_rd w 1 t).below k1).below k2;have r2:=(one_rd (w.alloc (.cells #[.int .i64 1] t)) 2 t).below k2;rw [show (w.alloc (.cells #[.int .i64 1] t)).heap.size=w.heap.size+1 by simp] at r2
 refine ⟨by show 2<=maxLen;unfold maxLen;decide,λ x hx => ?_,λ _=>⟨w.heap.size+1+1,0,rfl,by simp,λ i hi => ?_⟩⟩
 · rcases List.mem_cons.1 hx with rfl | hx
   · exact r1
   · rcases List.mem_cons.1 hx with rfl | hx
     · exact r2
     · cases hx
 · have hi':i<2:=hi
   rcases i with _ | _ | i
   · exact ⟨World.cell?_alloc_at _ _ _ 0 (by simp),World.cell?_alloc_at _ _ _ 1 (by simp)⟩
   · exact ⟨World.cell?_alloc_at _ _ _ 2 (by simp),World.cell?_alloc_at _ _ _ 3 (by simp)⟩
   · omega
def WEvalGives:Prop := ∀ (a0 b0:Option Addr) (ts:List M.Nd) (xs:List Int) (ca cb:Nat) (w:World),RdN w a0 ts->Rd w b0 xs->Calls Tryz.prog 41 #[.slice a0 ts.length ca, .slice b0 xs.length cb] w λ e w'=>e = .returned (.tuple #[.int .i64 (M.evalV ts xs),errV (M.readyF ts xs)])/\Below w.heap.size w w'
theorem M.two_fit:M.grwF [([1],5),([2],9)] 1 3 1=0/\M.grwT [([1],5),([2],9)] 1 3 1 = [(0,2,1,2,false,0),(-1,0,0,0,false,5),(-1,0,0,0,false,9)]:=by decide +kernel
theorem M.two_eval:M.readyF [(0,2,1,2,false,0),(-1,0,0,0,false,5),(-1,0,0,0,false,9)] [2]=0/\M.evalV [(0,2,1,2,false,0),(-1,0,0,0,false,5),(-1,0,0,0,false,9)] [2]=9:=by decide +kernel
set_option maxHeartbeats 4000000 in
set_option maxRecDepth 10000 in
theorem one_any (hF:GroFitGives) (hE:WEvalGives) (w:World):Calls Tryz.prog 18 #[] w λ e w'=>e = .returned (.bool true)/\Below w.heap.size w w':=by
 have F0:=hide (λ (n:Nat) (W:World) (h:RdL W (some ⟨n+1+1,0,none⟩) (twoX n))=>hF (some ⟨n+1+1,0,none⟩) (twoX n) 2 1 3 1 W h);have es : ∀ n,sms (twoX n) = [([1],5),([2],9)]:=λ n=>rfl;simp only [es,M.two_fit.1,M.two_fit.2] at F0;rw [err_nil rfl] at F0;have E0:=hide (λ pa pc W (h:RdN W pa [(0,2,1,2,false,0),(-1,0,0,0,false,5),(-1,0,0,0,false,9)]) n (h2:Rd W (some ⟨n,0,none⟩) [2])=>hE pa (some ⟨n,0,none⟩) _ [2] pc 1 W h h2);rw [M.two_eval.1,M.two_eval.2,err_nil rfl] at E0;have R0:=hide (two_rd w 3 97);have B3:Hid (∀ o1 o2 o3,Below w.heap.size w (((w.alloc o1).alloc o2).alloc o3)):=λ o1 o2 o3=>(((Below.refl _ w).alloc (Nat.le_refl _) o1).alloc (by simp) o2).alloc (by simp;omega) o3;clear es hF hE
 go_enter Tryz.func18, Tryz.ntmps18
 go_wp2_with (first
  | (go_at_call 40;refine (F0.out w.heap.size _ R0.out).mono ?_;rintro e w1 ⟨pa,pc,rfl,hr,hb⟩;have k1:=hide (below_on (B3.out _ _ _) hb);have R1:=hide hr;clear hr hb)
  | (go_at_call 41;refine (E0.out pa pc _ (R1.out.below ((Below.refl _ _).alloc (Nat.le_refl _) _)) _ (one_rd _ 2 _)).mono ?_;rintro e w2 ⟨rfl,hb⟩;have k2:=hide (below_on (below_on k1.out ((Below.refl _ _).alloc (Nat.le_refl _) _)) hb);clear hb))
 go_ret
 exact ⟨rfl,k2.out⟩
end Go.Proofs.YtaijnacghiloaaaGreatDoor
