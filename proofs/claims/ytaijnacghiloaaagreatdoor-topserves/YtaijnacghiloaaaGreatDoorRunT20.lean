/-
  Several texts as one: LgD, LgF, LgH, LgCall.
-/
import Derived.Test.YtaijnacghiloaaaGreatDoorRunT15
import Derived.Test.YtaijnacghiloaaaGreatDoorRunT17
import Derived.Lib.AppendStr
import Derived.Deep.AppendLies
import Derived.Test.YtaijnacghiloaaaGreatDoorRunT16
namespace Go.Proofs.YtaijnacghiloaaaGreatDoor
open Go.ChangeShapes Go.WideShapes Go.ChangeAt Go.RowKit Go.Lib
set_option linter.unusedVariables false
theorem caBx (W:World) (c:M.Ca) (a:Option Addr) (cap:Nat):Bx (W.alloc (.cells #[.int .i64 c.what, .int .i64 c.ses, .int .i64 c.seq, .string (byStr c.name), .int .i64 c.num, .int .i64 c.share, .slice a c.bys.length cap] 44)) W.heap.size [.int .i64 c.what, .int .i64 c.ses, .int .i64 c.seq, .string (byStr c.name), .int .i64 c.num, .int .i64 c.share, .slice a c.bys.length cap]:=bx_new W _ _
theorem time_is (n:Int):M.timeB n=true↔(¬ n<0 /\ ¬ 1000000<n):=by
 unfold M.timeB;rw [Bool.and_eq_true,decide_eq_true_iff,decide_eq_true_iff];omega
set_option maxHeartbeats 4000000 in
theorem lg_inRange (c:M.Ca) (a:Option Addr) (cap:Nat) (W:World) :
 Calls Tryz.prog 86 #[caV c a cap] W λ e w'=>e = .returned (.bool (M.rngF c))/\Below W.heap.size W w':=by
 unfold caV
 obtain ⟨W1,hW1⟩ : ∃ X,X=W.alloc (.cells #[.int .i64 c.what, .int .i64 c.ses, .int .i64 c.seq, .string (byStr c.name), .int .i64 c.num, .int .i64 c.share, .slice a c.bys.length cap] 44):=⟨_,rfl⟩
 have b1:Hid (Below W.heap.size W W1):=by unfold Hid;rw [hW1];exact (Below.refl _ _).alloc (Nat.le_refl _) _
 have bx:=caBx W c a cap;rw [←hW1] at bx;have c0:=bx.cell 0 _ rfl;have c1:=bx.cell 1 _ rfl;have c2:=bx.cell 2 _ rfl;have c4:=bx.cell 4 _ rfl;have c5:=bx.cell 5 _ rfl;clear bx
 by_cases bad:c.what<1∨4<c.what
 · have F:M.rngF c=false:=by
    unfold M.rngF
    rcases bad with q | q
    · rw [decide_eq_false (by omega : ¬ 1<=c.what)];simp
    · rw [decide_eq_false (by omega : ¬ c.what<=4)];simp
   rw [F];generalize c.what=x0 at *;generalize c.ses=x1 at *;generalize c.seq=x2 at *;generalize c.num=x4 at *;generalize c.share=x5 at *
   have ways:decide (x0<1)=true∨(decide (x0<1)=false/\decide (4<x0)=true):=by simp only [decide_eq_true_iff,decide_eq_false_iff_not];omega
   clear bad F
   rcases ways with g1 | ⟨g1,g2⟩
   all_goals (
    go_enter Tryz.func86, Tryz.ntmps86
    go_upto_region 1 with fail
    rw [←hW1];clear hW1
    go_wp2
    go_ret
    exact ⟨rfl,b1.out⟩)
 · have F:M.rngF c=([c.ses,c.seq,c.num,c.share].all M.timeB):=by
    unfold M.rngF;rw [decide_eq_true (by omega:1<=c.what),decide_eq_true (by omega:c.what<=4)];simp [Bool.and_assoc]
   rw [F];have g1:decide (c.what<1)=false:=decide_eq_false (by omega);have g2:decide (4<c.what)=false:=decide_eq_false (by omega);clear bad F;generalize c.what=x0 at *;generalize c.ses=x1 at *;generalize c.seq=x2 at *;generalize c.num=x4 at *;generalize c.share=x5 at *
   obtain ⟨res,hres⟩ : ∃ r,r = [x1,x2,x4,x5].all M.timeB:=⟨_,rfl⟩
   rw [←hres];have HR:=hide hres;clear hres
   go_enter Tryz.func86, Tryz.ntmps86
   go_upto_region 1 with fail
   rw [←hW1];clear hW1
   have R0:Hid (Rd (W1.alloc (.cells #[.int .i64 x1, .int .i64 x2, .int .i64 x4, .int .i64 x5] 3)) (some ⟨W1.heap.size,0,none⟩) [x1,x2,x4,x5]):=by
    have bx:=bx_new W1 [.int .i64 x1, .int .i64 x2, .int .i64 x4, .int .i64 x5] 3
    refine ⟨by unfold maxLen;simp,λ _=>⟨W1.heap.size,0,rfl,bx.lt,λ i hi => ?_⟩⟩
    have hi':i<4:=hi
    match i,hi' with
    | 0,_=>exact bx.cell 0 _ rfl
    | 1,_=>exact bx.cell 1 _ rfl
    | 2,_=>exact bx.cell 2 _ rfl
    | 3,_=>exact bx.cell 3 _ rfl
   have K0:Hid (Below W.heap.size W (W1.alloc (.cells #[.int .i64 x1, .int .i64 x2, .int .i64 x4, .int .i64 x5] 3))):=b1.out.alloc b1.out.size _;have E4:Hid ([x1,x2,x4,x5].length=4):=rfl
   go_wp2
   generalize W1.alloc (.cells #[.int .i64 x1, .int .i64 x2, .int .i64 x4, .int .i64 x5] 3)=W2 at *;generalize W1.heap.size=bl at *;generalize [x1,x2,x4,x5]=ys at *;clear c0 c1 c2 c4 c5 b1
   go_loopw [2,4,23] (λ _ _ i wr => ∃ k:Nat,k<=4/\i = .int .i64 k/\Hid (wr=W2)/\Hid (∀ j,j<k->M.timeB (ys.getD j 0)=true)) (λ _ _ i _=>4-(intOf i).toNat)
   case atStart=>exact ⟨0,by omega,rfl,rfl,λ j hj=>by omega⟩
   case round =>
    obtain ⟨k,hk,rfl,EW,AL⟩:=hrel;have ew:=EW.out;subst ew
    by_cases hlt:k<4
    · have kz:(k:Int)<4:=by omega
      obtain ⟨b,off,e,hb,hc⟩:=R0.out.2 (by intro e;have:=E4.out;rw [e] at this;cases this);cases e;have cc:=hc k (by rw [E4.out];exact hlt);rw [Nat.zero_add] at cc;clear hc
      by_cases tb:M.timeB (ys.getD k 0)=true
      · have t2:=(time_is _).1 tb
        have g3:decide (ys.getD k 0<0)=false:=decide_eq_false t2.1;have g4:decide (1000000<ys.getD k 0)=false:=decide_eq_false t2.2
        have AL2:Hid (∀ j,j<k+1->M.timeB (ys.getD j 0)=true):=λ j hj=>by
         by_cases z:j=k
         · subst z;exact tb
         · exact AL.out j (by omega)
        clear tb t2;generalize ys.getD k 0=y at *
        go_wp2
        go_roundw
        case rel=>exact ⟨k+1,by omega,by go_num,(by first | rfl | trivial),AL2⟩
        case measure=>simp [intOf];omega
      · have F:ys.all M.timeB=false:=by
         rw [List.all_eq_false]
         refine ⟨ys.getD k 0, ?_,tb⟩
         have:k<ys.length:=by rw [E4.out];exact hlt
         rw [List.getD,List.getElem?_eq_getElem this];exact List.getElem_mem this
        have RF:Hid (res=false):=HR.out.trans F
        have ways:decide (ys.getD k 0<0)=true∨(decide (ys.getD k 0<0)=false/\decide (1000000<ys.getD k 0)=true):=by
         have t2 : ¬ (¬ ys.getD k 0<0 /\ ¬ 1000000<ys.getD k 0):=λ z=>tb ((time_is (ys.getD k 0)).2 z);simp only [decide_eq_true_iff,decide_eq_false_iff_not];omega
        clear tb F;generalize ys.getD k 0=y at *
        rcases ways with g1 | ⟨g1,g2⟩
        all_goals (
         go_wp2
         go_ret
         exact ⟨by rw [RF.out];rfl,K0.out⟩)
    · have kz : ¬ ((k:Int)<4):=by omega
      have F:ys.all M.timeB=true:=by
       rw [List.all_eq_true];intro x hx;obtain ⟨j,hj,e⟩:=List.mem_iff_getElem.1 hx;have:=AL.out j (by have:=E4.out;omega);rw [List.getD,List.getElem?_eq_getElem hj,Option.getD_some,e] at this;exact this
      have RF:Hid (res=true):=HR.out.trans F;clear F AL
      go_wp2
      go_ret
      exact ⟨by rw [RF.out];rfl,K0.out⟩
theorem strCells_by (n:List Nat) (h:isB n):strCells (byStr n)=byCells n:=by
 unfold strCells byCells;rw [byStr_list,List.map_map];refine List.map_congr_left (λ x hx => ?_);have:=h x hx;show Value.int .u8 _=Value.int .u8 _
 congr 1
 show ((UInt8.ofNat x).toNat:Int)=_;simp;omega
theorem byStr_sizeN (n:List Nat):(byStr n).size=n.length:=by
 have:=congrArg List.length (byStr_list n);rw [List.length_map] at this;exact this
theorem own_lowL {w:World} {b b':Nat} {e:TypeId} {size n:Nat} {v:Value} {l:List Value} (hb:b<=b') (h:w.ownsRow b' e size v n l):w.ownsRow b e size v n l:=by
 refine ⟨h.1, ?_⟩
 rcases h.2 with z | ⟨g,cap,cur,hv,hg,r⟩
 · exact .inl z
 · exact .inr ⟨g,cap,cur,hv,Nat.le_trans hb hg,r⟩
theorem below_deep {b:Nat} {w w' w2:World} (h:Below b w w') (k:Below w'.heap.size w' w2) (hb:b<=w'.heap.size):Below b w w2:=h.trans (k.mono hb)
set_option maxHeartbeats 8000000 in
set_option maxRecDepth 10000 in
theorem lg_written (c:M.Ca) (a:Option Addr) (cap:Nat) (W:World) (hi:CaIn W c a cap) (ok:M.CaOk c) :
 Calls Tryz.prog 87 #[caV c a cap] W λ e w' => ∃ va vc,e = .returned (.slice va (M.recL c).length vc)/\w'.ownsRow W.heap.size 5 1 (.slice va (M.recL c).length vc) (M.recL c).length (byCells (M.recL c))/\Below W.heap.size W w':=by
 unfold caV
 obtain ⟨W1,hW1⟩ : ∃ X,X=W.alloc (.cells #[.int .i64 c.what, .int .i64 c.ses, .int .i64 c.seq, .string (byStr c.name), .int .i64 c.num, .int .i64 c.share, .slice a c.bys.length cap] 44):=⟨_,rfl⟩
 have b1:Below W.heap.size W W1:=by rw [hW1];exact (Below.refl _ _).alloc (Nat.le_refl _) _
 have bx:=caBx W c a cap;rw [←hW1] at bx;have c0:=bx.cell 0 _ rfl;have c1:=bx.cell 1 _ rfl;have c2:=bx.cell 2 _ rfl;have c3:=bx.cell 3 _ rfl;have c4:=bx.cell 4 _ rfl;have c5:=bx.cell 5 _ rfl;have BX:=hide bx;have sz:=byStr_sizeN c.name;have SIX:Hid (M.sixL c = [c.what,c.ses,c.seq,c.num,c.share,(c.name.length:Int)]):=rfl;have OK:=hide ok;have i6:=hide ok.i64;have EB:Hid (M.bodL c=M.bysL (M.sixL c) ++ c.name ++ c.bys):=rfl;have ER:Hid (M.recL c=M.numL ((M.bodL c).length:Int) ++ M.bodL c):=rfl;have NI:=hide ok.num_in;have BL:=hide ok.body_le;have HB:=hide (λ w (hw:Below W.heap.size W w)=>hi.rd.below hw);have HN:=hide hi.nil;have NB:=hide hi.nb;have nl:=ok.nl;have bl:=ok.bl;clear bx ok hi
 obtain ⟨W2,hW2⟩ : ∃ X,X=W1.alloc (.cells #[.int .i64 c.what, .int .i64 c.ses, .int .i64 c.seq, .int .i64 c.num, .int .i64 c.share, .int .i64 (c.name.length:Int)] 3):=⟨_,rfl⟩
 have b2:Below W.heap.size W W2:=by rw [hW2];exact b1.alloc b1.size _
 have R0:Hid (Rd W2 (some ⟨W1.heap.size,0,none⟩) (M.sixL c)):=by
  have bx:=bx_new W1 [.int .i64 c.what, .int .i64 c.ses, .int .i64 c.seq, .int .i64 c.num, .int .i64 c.share, .int .i64 (c.name.length:Int)] 3;unfold Hid;rw [hW2]
  refine ⟨by unfold maxLen;rw [SIX.out];simp,λ _=>⟨W1.heap.size,0,rfl,bx.lt,λ i hi => ?_⟩⟩
  have hi':i<6:=hi
  match i,hi' with
  | 0,_=>exact bx.cell 0 _ rfl
  | 1,_=>exact bx.cell 1 _ rfl
  | 2,_=>exact bx.cell 2 _ rfl
  | 3,_=>exact bx.cell 3 _ rfl
  | 4,_=>exact bx.cell 4 _ rfl
  | 5,_=>exact bx.cell 5 _ rfl
 have BX2:Hid (Bx W2 W.heap.size [.int .i64 c.what, .int .i64 c.ses, .int .i64 c.seq, .string (byStr c.name), .int .i64 c.num, .int .i64 c.share, .slice a c.bys.length cap]):=by
  unfold Hid;rw [hW2];exact BX.out.keep (((Below.refl _ W1).alloc (Nat.le_refl _) _).block _ BX.out.lt)
 have K2:=hide b2;have z2:Hid (W.heap.size<=W2.heap.size):=b2.size;clear b1 b2 BX
 go_enter Tryz.func87, Tryz.ntmps87
 go_upto_region 2 with fail
 rw [←hW1];clear hW1
 go_wp2
 rw [←hW2];clear hW2 c0 c1 c2 c3 c4 c5
 obtain ⟨lb,hlb⟩ : ∃ x,x=W1.heap.size:=⟨_,rfl⟩
 rw [←hlb] at R0 ⊢;clear hlb;have EL:Hid ((M.sixL c).length=6):=rfl;have O0:Hid (W2.ownsRow W2.heap.size 5 1 (.slice none 0 0) 0 (byCells [])):=World.ownsRow_nil _ _ _ _
 go_loopw [3,5,21] (λ v _ i wr => ∃ (k:Nat) (va:Option Addr) (vc:Nat),k<=6/\i = .int .i64 k/\v = .slice va (M.bysL ((M.sixL c).take k)).length vc/\Hid (wr.ownsRow W2.heap.size 5 1 v (M.bysL ((M.sixL c).take k)).length (byCells (M.bysL ((M.sixL c).take k))))/\Hid (Below W2.heap.size W2 wr)) (λ _ _ i _=>6-(intOf i).toNat)
 case atStart=>exact ⟨0,none,0,by omega,rfl,rfl,O0,Below.refl _ _⟩
 case round =>
  clear O0;obtain ⟨k,va,vc,hk,rfl,rfl,OO,KK⟩:=hrel
  by_cases hlt:k<6
  · have kz:(k:Int)<6:=by omega
    have hl6:k<(M.sixL c).length:=hlt;have RK:=R0.out.below KK.out;obtain ⟨b,off,e,hb,hc⟩:=RK.2 (by rw [SIX.out];simp);cases e;have cc:=hc k hl6;rw [Nat.zero_add] at cc
    have eg:(M.sixL c).getD k 0=(M.sixL c)[k]:=by simp [List.getD,hl6]
    rw [eg] at cc;have i64:=i6.out _ (List.getElem_mem hl6)
    have tk:M.bysL ((M.sixL c).take (k+1))=M.bysL ((M.sixL c).take k) ++ M.numL (M.sixL c)[k]:=by
     rw [List.take_succ_eq_append_getElem hl6,M.bys_app,M.bys_cons];show _ ++ (_ ++ [])=_;rw [List.append_nil]
    have ll:(M.bysL ((M.sixL c).take k)).length<=60:=by
     have:=M.bys_len ((M.sixL c).take k) (λ x hx=>i6.out x (List.mem_of_mem_take hx));rw [List.length_take] at this;omega
    obtain ⟨va',vc',ev,rb,rn,_⟩:=own_rdB0 rfl (by unfold maxLen;omega) (M.bys_byte _) OO.out;cases ev;have NU:=hide (cdnum_any va (M.bysL ((M.sixL c).take k)) vc (M.sixL c)[k] wr rb rn (by omega) i64.1 i64.2);have TK:=hide tk;have zk:=hide KK.out.size;clear rb rn eg hc RK i64 tk OO BX2;generalize M.bysL ((M.sixL c).take k)=P at *;generalize (M.sixL c)[k]=x at *
    go_wp2_with (go_at_call 124;refine NU.out.mono ?_;rintro e w3 ⟨v3,rfl,ho3,hb3⟩;have O3:=hide (own_lowL zk.out ho3);have K3:=hide (below_deep KK.out hb3 zk.out);clear ho3 hb3)
    go_roundw
    case rel =>
     obtain ⟨va3,vc3,ev⟩ : ∃ va vc,v3 = .slice va (P ++ M.numL x).length vc:=by
      rcases O3.out.2 with ⟨hv,h0⟩ | ⟨g,cap,cur,hv,_⟩
      · exact ⟨none,0,by rw [hv,h0]⟩
      · exact ⟨some ⟨g,0,none⟩,cap,hv⟩
     refine ⟨k+1,va3,vc3,by omega,by go_num,by rw [TK.out];exact ev, ?_,K3⟩
     unfold Hid;rw [TK.out];exact O3.out
    case measure=>simp [intOf];omega
  · have kz : ¬ ((k:Int)<6):=by omega
    have ek:k=6:=by omega
    have tk:(M.sixL c).take k=M.sixL c:=by rw [ek];rfl
    rw [tk] at OO ⊢
    have ll:(M.bysL (M.sixL c)).length<=60:=by
     have:=M.bys_len (M.sixL c) (λ x hx=>i6.out x hx);rw [EL.out] at this;omega
    have P8:Hid (∀ x∈M.bodL c,x<256):=OK.out.body_byte
    have BW:Hid (∀ w,Below W2.heap.size W2 w->Bx w W.heap.size [.int .i64 c.what, .int .i64 c.ses, .int .i64 c.seq, .string (byStr c.name), .int .i64 c.num, .int .i64 c.share, .slice a c.bys.length cap]/\RdB w a c.bys/\Below W.heap.size W w/\W2.heap.size<=w.heap.size):=λ w hw=>by
     have kw:=K2.out.trans (hw.mono z2.out)
     exact ⟨BX2.out.keep (hw.block _ BX2.out.lt),HB.out w kw,kw,hw.size⟩
    have BI:=BW.out wr KK.out;have d3:=BI.1.cell 3 _ rfl;have SC:Hid (strCells (byStr c.name)=byCells c.name):=strCells_by _ NB.out;clear BI tk hlt R0 BX2 HB;have SZ:=hide sz;clear sz
    have HL:Hid ((M.bysL (M.sixL c)).length<=60/\c.name.length<=100/\c.bys.length<=6000):=⟨ll,nl,bl⟩
    clear ll nl bl
    have EB2:Hid (∀ P,P=M.bysL (M.sixL c)->M.bodL c=P ++ c.name ++ c.bys):=λ P e=>by rw [e];exact EB.out
    obtain ⟨P,hP⟩ : ∃ x,x=M.bysL (M.sixL c):=⟨_,rfl⟩
    have EB3:=hide (EB2.out P hP);rw [←hP] at OO HL ⊢;clear EB EB2 hP EL i6 SIX
    obtain ⟨pn,hpn⟩ : ∃ x,x=P.length:=⟨_,rfl⟩
    have PN:=hide hpn;rw [←hpn] at OO HL ⊢;clear hpn;obtain ⟨i0,hi0,hz0,hz1,hz2⟩:=info_parts info8;have J0:=hide hi0;clear hi0
    have L1:Hid (pn+(byStr c.name).size<=maxLen):=by have:=HL.out;have:=SZ.out;unfold Hid maxLen;omega
    have L2:Hid (pn+(byStr c.name).size<=140737488355328):=by have:=HL.out;have:=SZ.out;unfold Hid;omega
    go_upto_region 8 with (at_builtin;refine wpList_append_own_string _ rfl (.tmp 29) (.tmp 31) 28 9 rfl W2.heap.size 5 i0 Tryz.underlying28 Tryz.underlying9 J0.out hz0 hz1 hz2 (.slice va pn vc) pn (byCells P) rfl OO.out (byStr c.name) rfl L1.out L2.out KK.out.size ?_;intro v3 w3 ho3 hg3 _;rw [SC.out,←byCells_app,SZ.out] at ho3;have K3:=hide ((KK.out).grown hg3 KK.out.size (λ k hk=>(OO.out.lt k hk).1));have O3:=hide ho3;clear ho3 hg3)
    obtain ⟨va3,vc3,ev⟩ : ∃ va vc,v3 = .slice va (pn+c.name.length) vc:=by
     rcases O3.out.2 with ⟨hv,h0⟩ | ⟨g,cap,cur,hv,_⟩
     · exact ⟨none,0,by rw [hv,h0]⟩
     · exact ⟨some ⟨g,0,none⟩,cap,hv⟩
    subst ev;have BI:=BW.out w3 K3.out;have d6:=BI.1.cell 6 _ rfl;have RB3:=hide BI.2.1;have K3z:=hide BI.2.2.2;clear BI OO KK d3 SC SZ L1 L2 J0 hz0 hz1 hz2
    have L3:Hid (pn+c.name.length+c.bys.length<=140737488355328):=by have:=HL.out;unfold Hid;omega
    have PL:Hid ((P ++ c.name ++ c.bys).length=pn+c.name.length+c.bys.length):=by unfold Hid;rw [List.length_append,List.length_append,PN.out]
    obtain ⟨n3,hn3⟩ : ∃ x,x=pn+c.name.length:=⟨_,rfl⟩
    rw [←hn3] at O3 L3 PL ⊢
    obtain ⟨bn,hbn⟩ : ∃ x,x=c.bys.length:=⟨_,rfl⟩
    have BN:=hide hbn;rw [←hbn] at L3 PL d6 ⊢;clear hn3 hbn
    go_upto_region 9 with (at_builtin;refine wpList_append_by rfl (.tmp 33) (.tmp 35) rfl W2.heap.size (.slice va3 n3 vc3) n3 (P ++ c.name) rfl O3.out a c.bys bn cap BN.out.symm rfl RB3.out HN.out (by rw [←BN.out];exact L3.out) K3z.out ?_;intro va4 vc4 w4 ho4 hb4 _;have K4:=hide (K3.out.trans hb4);have O4:=hide ho4;clear ho4 hb4)
    have E4:Hid (n3+bn=(M.bodL c).length):=by unfold Hid;rw [EB3.out,PL.out]
    have o4:=O4.out;rw [←EB3.out] at o4;generalize n3+bn=n4 at *;have e4:=E4.out;obtain ⟨va',vc',ev,rb,rn,rl⟩:=own_rdB0 e4.symm (by have:=BL.out;unfold maxLen;omega) P8.out o4;cases ev;have NU:=hide (cdnum_any none [] 0 (n4:Int) w4 ⟨Nat.zero_le _,(λ x hx=>by cases hx),λ hn=>absurd rfl hn⟩ (λ _=>rfl) (by simp) (by rw [e4];exact NI.out.1) (by rw [e4];exact NI.out.2));rw [List.nil_append] at NU
    have NL:Hid ((M.numL (n4:Int)).length<=10):=by unfold Hid;rw [e4];exact (M.num_len NI.out.1 NI.out.2).2
    have RB:=hide rb;have RN:=hide rn;have z4:Hid (W2.heap.size<=w4.heap.size):=K4.out.size
    have FIN:Hid (M.recL c=M.numL (n4:Int) ++ M.bodL c):=by unfold Hid;rw [ER.out,e4]
    have LB:Hid ((M.numL (n4:Int)).length+(M.bodL c).length<=140737488355328):=by have:=NL.out;have:=BL.out;unfold Hid;omega
    clear rb rn rl o4 e4 O4 O3 K3 RB3 K3z d6 PL L3 BW HN;generalize M.numL (n4:Int)=Nn at *
    go_wp2_with (first
     | (go_at_call 124;refine NU.out.mono ?_;rintro e w5 ⟨v5,rfl,ho5,hb5⟩;have O5:=hide (own_lowL z4.out ho5);have K5:=hide (below_deep K4.out hb5 z4.out);have RB5:=hide (RB.out.below hb5);clear ho5 hb5)
     | (at_builtin;refine wpList_append_by rfl (.tmp 39) (.tmp 40) rfl W2.heap.size v5 Nn.length Nn rfl O5.out va4 (M.bodL c) n4 vc4 E4.out.symm rfl RB5.out RN.out LB.out K5.out.size ?_;intro va6 vc6 w6 ho6 hb6 _;have K6:=hide (K5.out.trans hb6);have O6:=hide ho6;clear ho6 hb6))
    go_ret
    have el:(M.recL c).length=Nn.length+n4:=by rw [FIN.out,List.length_append,E4.out]
    refine ⟨va6,vc6,by rw [el];rfl, ?_,K2.out.trans (K6.out.mono z2.out)⟩
    rw [el,FIN.out];exact own_lowL z2.out O6.out
theorem LA.leave {W w':World} {f:Nat} {va:Option Addr} {vc:Nat} {L:M.Lg} (h:LA W f va vc L) (hb:Below W.heap.size W w'):LeftL W f va L w' :=
 ⟨va,vc,h.below hb,stay_of hb (Nat.le_refl _),λ q hq => .inl hq⟩
set_option maxHeartbeats 8000000 in
theorem lg_Append_no {W:World} {f:Nat} {va:Option Addr} {vc:Nat} {L:M.Lg} (h:LA W f va vc L) {c:M.Ca} {a:Option Addr} {cap:Nat} (hi:CaIn W c a cap) (hr:M.rngF c=false∨100<c.name.length∨6000<c.bys.length) :
 Calls Tryz.prog 53 #[.pointer (some ⟨f,0,none⟩),caV c a cap] W λ e w'=>e = .returned (errV (M.apF L c))/\LeftL W f va (M.apL L c) w':=by
 have AP:M.apF L c=(if M.rngF c=false then 1 else 4):=by
  unfold M.apF
  by_cases q:M.rngF c=false
  · rw [if_pos q,if_pos q]
  · rw [if_neg q,if_neg q]
    rcases hr with z | z | z
    · exact absurd z q
    · rw [if_pos (.inl z)]
    · rw [if_pos (.inr (.inl z))]
 have AL:M.apL L c=L:=by
  unfold M.apL;rw [if_pos];rw [AP]
  by_cases q:M.rngF c=false
  · rw [if_pos q];exact .inl rfl
  · rw [if_neg q];exact .inr (.inl rfl)
 rw [AP,AL];have FIN:=hide (λ w' (hb:Below W.heap.size W w')=>h.leave hb);have IR:=hide (lg_inRange c a cap);unfold caV at IR ⊢;have sz:=byStr_sizeN c.name
 obtain ⟨W1,hW1⟩ : ∃ X,X=W.alloc (.cells #[.int .i64 c.what, .int .i64 c.ses, .int .i64 c.seq, .string (byStr c.name), .int .i64 c.num, .int .i64 c.share, .slice a c.bys.length cap] 44):=⟨_,rfl⟩
 have b1:Hid (Below W.heap.size W W1):=by unfold Hid;rw [hW1];exact (Below.refl _ _).alloc (Nat.le_refl _) _
 have bx:=caBx W c a cap;rw [←hW1] at bx;have c0:=bx.cell 0 _ rfl;have c1:=bx.cell 1 _ rfl;have c2:=bx.cell 2 _ rfl;have c3:=bx.cell 3 _ rfl;have c4:=bx.cell 4 _ rfl;have c5:=bx.cell 5 _ rfl;have c6:=bx.cell 6 _ rfl;have BX:=hide bx;clear bx h hi AP AL;have IR1:=hide (IR.out W1)
 cases hq:M.rngF c with
 | false =>
   rw [hq] at IR1;rw [if_pos rfl,err_some (by decide)];clear hr hq IR;generalize c.what=x0 at *
   go_enter Tryz.func53, Tryz.ntmps53
   go_upto_region 1 with fail
   rw [←hW1];clear hW1
   go_wp2_with (go_at_call 86;refine IR1.out.mono ?_;rintro e w2 ⟨rfl,hb2⟩;have K2:=hide (b1.out.trans (hb2.mono b1.out.size));clear hb2)
   go_ret
   exact ⟨rfl,FIN.out _ K2.out⟩
 | true =>
   rw [hq] at IR1;rw [if_neg (by decide),err_some (by decide)]
   have hw:100<c.name.length∨6000<c.bys.length:=by
    rcases hr with z | z
    · rw [hq] at z;cases z
    · exact z
   have BW:Hid (∀ w2,Below W1.heap.size W1 w2->w2.cell? ⟨W.heap.size,3,none⟩=some (.string (byStr c.name))/\w2.cell? ⟨W.heap.size,6,none⟩=some (.slice a c.bys.length cap)/\Below W.heap.size W w2):=λ w2 hb=>by
    have b:=BX.out.keep (hb.block _ BX.out.lt)
    exact ⟨b.cell 3 _ rfl,b.cell 6 _ rfl,b1.out.trans (hb.mono b1.out.size)⟩
   have ways:(decide ((100:Int)<(c.name.length:Int))=true/\decide (100<c.name.length)=true)∨(decide ((100:Int)<(c.name.length:Int))=false/\decide (100<c.name.length)=false/\decide ((6000:Int)<(c.bys.length:Int))=true/\decide (6000<c.bys.length)=true):=by
    simp only [decide_eq_true_iff,decide_eq_false_iff_not];omega
   clear hr hq IR hw;generalize c.what=x0 at *;generalize c.name.length=nn at *;generalize c.bys.length=bn at *
   rcases ways with ⟨g1,g1'⟩ | ⟨g1,g1',g2,g2'⟩
   all_goals (
    go_enter Tryz.func53, Tryz.ntmps53
    go_upto_region 1 with fail
    rw [←hW1];clear hW1
    go_wp2_with (go_at_call 86;refine IR1.out.mono ?_;rintro e w2 ⟨rfl,hb2⟩;obtain ⟨e3,e6,eb⟩:=BW.out w2 hb2;have K2:=hide eb;clear hb2 eb)
    go_ret
    exact ⟨rfl,FIN.out _ K2.out⟩)
theorem CaIn.ok {W:World} {c:M.Ca} {a:Option Addr} {cap:Nat} (h:CaIn W c a cap) (h1:M.rngF c=true) (h2:c.name.length<=100) (h3:c.bys.length<=6000):M.CaOk c:=⟨h1,h2,h3,h.nb,h.rd.2.1⟩
theorem M.bys_more : ∀ l:List Int,(∀ x∈l,M.I64 x)->l.length<=(M.bysL l).length
 | [],_=>Nat.le_refl _
 | n :: l,h=>by
   have a:=M.bys_more l λ x hx=>h x (List.mem_cons_of_mem _ hx);have b:=(M.num_len (h n (List.mem_cons_self ..)).1 (h n (List.mem_cons_self ..)).2).1;rw [M.bys_cons,List.length_append];show l.length+1<=_;omega
theorem M.CaOk.rec_seven {c:M.Ca} (h:M.CaOk c):7<=(M.recL c).length:=by
 have a:=M.bys_more (M.sixL c) h.i64;have e:(M.sixL c).length=6:=rfl;have b:=(M.num_len h.num_in.1 h.num_in.2).1;unfold M.recL;rw [List.length_append]
 have:(M.bysL (M.sixL c)).length<=(M.bodL c).length:=by unfold M.bodL;rw [List.length_append,List.length_append];omega
 omega
def L0 (L:M.Lg):M.Lg:=M.stpL ⟨L.calls, [],min L.safe L.whole,L.ahead,L.stop⟩
theorem L0_bytes (L:M.Lg):(L0 L).bytes=M.recs L.calls:=List.append_nil _
theorem LA.grow {w w':World} {f:Nat} {va:Option Addr} {vc:Nat} {L:M.Lg} (h:LA w f va vc L) {g:Nat} (hgr:w.grownBy w' (Value.slice va L.bytes.length vc).ownBlock) (hg:(Value.slice va L.bytes.length vc).ownBlock=some g∨g=w.heap.size) :
 Bx w' f (lgL va vc L)/\g≠f/\StayBut (LB f va) w w'/\(LB f va g∨w.heap.size<=g):=by
 have ob : ∀ q,(Value.slice va L.bytes.length vc).ownBlock=some q -> ∃ p,va=some p/\p.block=q:=λ q hq=>by
  cases va with
  | none=>cases hq
  | some p=>exact ⟨p,rfl,by simpa [Value.ownBlock] using hq⟩
 have nf : ∀ q,(Value.slice va L.bytes.length vc).ownBlock=some q->q≠f:=λ q hq=>by
  obtain ⟨p,e1,e2⟩:=ob q hq;rw [←e2];exact h.ne p e1
 refine ⟨h.box.keep (hgr.block f h.box.lt (λ e=>nf f e.symm rfl)), ?_,⟨hgr.os,hgr.tape,hgr.output,hgr.size,λ q hq hk=>hgr.block q hq (λ e=>hk (.inr (ob q e.symm)))⟩, ?_⟩
 · rcases hg with e | e
   · exact nf g e
   · have:=h.box.lt
     omega
 · rcases hg with e | e
   · exact .inl (.inr (ob g e))
   · exact .inr (by omega)
set_option maxHeartbeats 8000000 in
set_option maxRecDepth 10000 in
theorem lg_Append_ok {W:World} {f:Nat} {va:Option Addr} {vc:Nat} {L:M.Lg} (h:LA W f va vc L) {c:M.Ca} {a:Option Addr} {cap:Nat} (hi:CaIn W c a cap) (h1:M.rngF c=true) (h2:c.name.length<=100) (h3:c.bys.length<=6000) :
 Calls Tryz.prog 53 #[.pointer (some ⟨f,0,none⟩),caV c a cap] W λ e w'=>e = .returned (errV (M.apF L c))/\LeftL W f va (M.apL L c) w':=by
 have ok:=hi.ok h1 h2 h3;have FIN:=hide (λ w' (hb:Below W.heap.size W w')=>h.leave hb);have HB:=hide (λ w' (hb:Below W.heap.size W w')=>h.below hb);have IR:=hide (lg_inRange c a cap);rw [h1] at IR;have WR:=hide (λ w (hw:Below W.heap.size W w)=>lg_written c a cap w (hi.below hw) ok);have RL:=ok.rec_le;have RB:=hide ok.rec_byte;have R7:=hide ok.rec_seven;have NM:=hide hi.nb;have BY:=hide hi.rd.2.1;have LO:=hide h.ok;have wl:=h.ok.wh;unfold caV at IR WR ⊢;have sz:=byStr_sizeN c.name
 obtain ⟨W1,hW1⟩ : ∃ X,X=W.alloc (.cells #[.int .i64 c.what, .int .i64 c.ses, .int .i64 c.seq, .string (byStr c.name), .int .i64 c.num, .int .i64 c.share, .slice a c.bys.length cap] 44):=⟨_,rfl⟩
 have b1:Hid (Below W.heap.size W W1):=by unfold Hid;rw [hW1];exact (Below.refl _ _).alloc (Nat.le_refl _) _
 have bx:=caBx W c a cap;rw [←hW1] at bx;have c0:=bx.cell 0 _ rfl;have c1:=bx.cell 1 _ rfl;have c2:=bx.cell 2 _ rfl;have c3:=bx.cell 3 _ rfl;have c4:=bx.cell 4 _ rfl;have c5:=bx.cell 5 _ rfl;have c6:=bx.cell 6 _ rfl;have BX:=hide bx;have IR1:=hide (IR.out W1)
 have BW:Hid (∀ w2,Below W1.heap.size W1 w2->Bx w2 W.heap.size [.int .i64 c.what, .int .i64 c.ses, .int .i64 c.seq, .string (byStr c.name), .int .i64 c.num, .int .i64 c.share, .slice a c.bys.length cap]/\Below W.heap.size W w2):=λ w2 hb=>⟨BX.out.keep (hb.block _ BX.out.lt),b1.out.trans (hb.mono b1.out.size)⟩
 have g1:decide ((100:Int)<(c.name.length:Int))=false:=decide_eq_false (by omega);have g2:decide ((6000:Int)<(c.bys.length:Int))=false:=decide_eq_false (by omega);have g1':decide (100<c.name.length)=false:=decide_eq_false (by omega);have g2':decide (6000<c.bys.length)=false:=decide_eq_false (by omega)
 have AF:Hid (M.apF L c=if 100000<L.whole+(M.recL c).length then 4 else if M.stpF L=true then 9 else 0):=by
  unfold Hid M.apF;rw [if_neg (by rw [h1];decide)]
  by_cases q:100000<L.whole+(M.recL c).length
  · rw [if_pos (.inr (.inr q)),if_pos q]
  · rw [if_neg (by omega),if_neg q]
 have CUT:=hide (λ w3 (hw:LA w3 f va vc L)=>lg_cut hw L.whole hw.ok.len.1);rw [M.cutG_whole h.ok] at CUT;clear bx h hi ok IR h1 h2 h3;have w2w:Hid (∀ w2 w3:World,Below W.heap.size W w2->Below w2.heap.size w2 w3->Below W.heap.size W w3):=λ w2 w3 x y=>x.trans (y.mono x.size)
 go_enter Tryz.func53, Tryz.ntmps53
 go_upto_region 1 with fail
 rw [←hW1];clear hW1
 go_upto_region 5 with (go_at_call 86;refine IR1.out.mono ?_;rintro e w2 ⟨rfl,hb2⟩;obtain ⟨bx2,eb⟩:=BW.out w2 hb2;have K2:=hide eb;have d0:=bx2.cell 0 _ rfl;have d1:=bx2.cell 1 _ rfl;have d2:=bx2.cell 2 _ rfl;have d3:=bx2.cell 3 _ rfl;have d4:=bx2.cell 4 _ rfl;have d5:=bx2.cell 5 _ rfl;have d6:=bx2.cell 6 _ rfl;clear hb2 eb bx2)
 clear c0 c1 c2 c3 c4 c5 c6 IR1 BW BX;have WR2:=hide (WR.out w2 K2.out);clear WR g1 g2 g1' g2'
 go_upto_region 6 with (go_at_call 87;refine WR2.out.mono ?_;rintro e w3 ⟨vb,vbc,rfl,ho3,hb3⟩;have O3:=hide ho3;have K3:=hide (w2w.out w2 w3 K2.out hb3);clear ho3 hb3)
 clear d0 d1 d2 d3 d4 d5 d6 WR2 w2w;have H3:=hide (HB.out w3 K3.out);have f1:=H3.out.box.cell 1 _ rfl;have f4:=H3.out.box.cell 4 _ rfl;have wr:IntKind.i64.wrap ((L.whole:Int)+((M.recL c).length:Int))=(L.whole:Int)+((M.recL c).length:Int):=i64_in (by omega) (by omega)
 obtain ⟨wh,hwh⟩ : ∃ x,x=L.whole:=⟨_,rfl⟩
 obtain ⟨rn,hrn⟩ : ∃ x,x=(M.recL c).length:=⟨_,rfl⟩
 have EW:=hide hwh;have EN:=hide hrn;rw [←hwh,←hrn] at wr AF;rw [←hwh] at f1 wl;rw [←hwh] at CUT;rw [←hrn] at RL O3 ⊢;clear hwh hrn
 by_cases q4:100000<wh+rn
 · have e4:=AF.out
   rw [if_pos q4] at e4;have E4:=hide e4;have t1:decide ((100000:Int)<(wh:Int)+(rn:Int))=true:=decide_eq_true (by omega)
   have DONE:Hid (LeftL W f va (M.apL L c) w3):=by
    unfold Hid M.apL;rw [if_pos (.inr (.inl e4))];exact FIN.out w3 K3.out
   clear q4 e4 AF
   go_wp2
   go_ret
   exact ⟨by rw [E4.out,err_some (by decide:(4:Int)≠0)];rfl,DONE.out⟩
 have e4:=AF.out;rw [if_neg q4] at e4;have t1:decide ((100000:Int)<(wh:Int)+(rn:Int))=false:=decide_eq_false (by omega);clear AF
 cases hst:L.stop with
 | true =>
   rw [hst] at f4;rw [if_pos (by unfold M.stpF;rw [hst];rfl)] at e4;have E4:=hide e4
   have DONE:Hid (LeftL W f va (M.apL L c) w3):=by
    unfold Hid M.apL;rw [if_pos (.inr (.inr hst))];exact FIN.out w3 K3.out
   clear e4 q4
   go_wp2
   go_ret
   exact ⟨by rw [E4.out,err_some (by decide:(9:Int)≠0)];rfl,DONE.out⟩
 | false =>
   rw [hst] at f4
   have SF:M.stpF L=decide (L.ahead=0):=by unfold M.stpF;rw [hst,Bool.false_or]
   have SC:M.stpF ⟨L.calls, [],min L.safe wh,L.ahead,L.stop⟩=decide (L.ahead=0):=by unfold M.stpF;rw [hst,Bool.false_or]
   have CUT3:=hide (CUT.out w3 H3.out);have STP:=hide (λ w4 (hw:LA w4 f va vc ⟨L.calls, [],min L.safe wh,L.ahead,L.stop⟩)=>lg_step hw);rw [SC] at STP
   have EL0:Hid (M.stpL ⟨L.calls, [],min L.safe wh,L.ahead,L.stop⟩=L0 L):=by unfold Hid L0;rw [EW.out]
   have SROW:Hid (∀ w4:World,StayBut (λ q=>q=f) w3 w4->RdB w4 vb (M.recL c)/\(∀ p,vb=some p->p.block<w4.heap.size)):=λ w4 hs=>by
    obtain ⟨a',c',e,r,_⟩:=own_rdB1 EN.out.symm (by unfold maxLen;omega) RB.out O3.out;cases e;have sp:=own_spot O3.out;have fl:f<w2.heap.size:=Nat.lt_of_lt_of_le (HB.out W (Below.refl _ _)).box.lt K2.out.size
    exact ⟨rdB_keep r (λ _ p hp=>hs.block _ (sp p hp).2.1 (by
     have:=(O3.out.lt p.block (sp p hp).2.2).1;show p.block≠f
     omega)) hs.size,λ p hp=>Nat.lt_of_lt_of_le (sp p hp).2.1 hs.size⟩
   have VB:Hid (∃ b,vb=some ⟨b,0,none⟩/\rn<=vbc):=by
    rcases O3.out.2 with ⟨hv,h0⟩ | ⟨g,cap,cur,hv,_,_,hcap,_⟩
    · omega
    · cases hv
      exact ⟨g,rfl,hcap⟩
   obtain ⟨bb,rfl,vble⟩:=VB.out;have S0:Hid (StayBut (LB f va) W w3):=stay_of K3.out (Nat.le_refl _);have sz3:Hid (W.heap.size<=w3.heap.size):=K3.out.size;have hst2:=hide hst;clear CUT VB O3 hst SF SC
   by_cases q0:L.ahead=0
   · rw [decide_eq_true q0] at STP
     rw [if_pos rfl] at STP;rw [err_some (by decide)] at STP
     have E9:Hid (M.apF L c=9):=by unfold Hid;rw [e4,if_pos (by unfold M.stpF;rw [decide_eq_true q0,Bool.or_true])]
     clear e4 q4
     go_upto_region 13 with (first
      | (go_at_call 56;refine CUT3.out.mono ?_;rintro e w4 ⟨rfl,h4,s4⟩;have H4:=hide h4;have S4:=hide s4;clear h4 s4)
      | (go_at_call 88;refine (STP.out w4 H4.out).mono ?_;rintro e w5 ⟨rfl,h5,s5⟩;have H5:=hide h5;have S5:=hide (StayBut.trans S4.out s5);clear h5 s5))
     rw [EL0.out] at H5;have H6:=hide (H5.out.below (Below.refl _ _).drew)
     have LBY:(L0 L).bytes.length=wh:=by rw [L0_bytes,EW.out];rfl
     obtain ⟨hf,hhf⟩ : ∃ x,x=rn / 2:=⟨_,rfl⟩
     have hd1:Int.tdiv (rn:Int) 2=(hf:Int):=by rw [Int.tdiv_eq_ediv_of_nonneg (by omega)];omega
     have hd2:(rn:Int) / 2=(hf:Int):=by omega
     have r7:7<=rn:=by rw [EN.out];exact R7.out
     have hf0:0<hf:=by omega
     have hw0:IntKind.i64.wrap (hf:Int)=(hf:Int):=i64_in (by omega) (by omega)
     have y1:(hf:Int)<=(vbc:Int):=by omega
     have y2:hf<=vbc:=by omega
     have c50:=H5.out.box.cell 0 _ rfl;rw [LBY] at c50
     have OW:Hid (w5.drew.ownsRow 0 5 1 (.slice va wh vc) wh (byCells (L0 L).bytes)):=by
      have:=H6.out.own;rw [LBY] at this;exact this
     obtain ⟨i0,hi0,hz0,hz1,hz2⟩:=info_parts info8;have J0:=hide hi0;clear hi0;have SR:=(SROW.out w5 S5.out).1
     have NLn:Hid ((byCells ((M.recL c).take hf)).length=hf*1):=by unfold Hid;rw [byCells_len,List.length_take,←EN.out];omega
     have NWn:Hid (∀ j u,(byCells ((M.recL c).take hf))[j]? = some u->w5.drew.cell? ((⟨bb,0,none⟩:Addr).add j)=some u):=by
      obtain ⟨b',off',e,_,hcc⟩:=(SR.take hf).2.2 (by
       intro z;have:=congrArg List.length z;rw [List.length_take,←EN.out] at this;simp only [List.length_nil] at this
       omega)
      cases e;exact by_src hcc
     have LM1:Hid (wh+hf<=maxLen):=by unfold Hid maxLen;omega
     have LM2:Hid ((wh+hf)*1<=140737488355328):=by unfold Hid;omega
     have GR:Hid (∀ (w6:World) (g:Nat),w5.drew.grownBy w6 (Value.slice va wh vc).ownBlock->((Value.slice va wh vc).ownBlock=some g∨g=w5.drew.heap.size)->Bx w6 f (lgL va vc (L0 L))/\g≠f/\StayBut (LB f va) w5.drew w6/\(LB f va g∨w5.drew.heap.size<=g)):=λ w6 g x y=>H6.out.grow (by rw [LBY];exact x) (by rw [LBY];exact y);have S6:Hid (StayBut (LB f va) W w5.drew):=S0.out.trans (S5.out.low.trans (stay_of ((Below.refl w5.heap.size w5).drew) (Nat.le_refl _)))
     have APL:M.apL L c=⟨L.calls,(M.recL c).take hf,min L.safe L.whole,L.ahead,true⟩:=by
      unfold M.apL;rw [if_neg (by rw [E9.out];intro z;rcases z with z | z | z <;> first | cases z | (rw [hst2.out] at z;cases z)),if_pos q0,hhf,EN.out]
     have FINH:Hid (∀ (g cg:Nat) (w6:World),w6.ownsRow 0 5 1 (.slice (some ⟨g,0,none⟩) (wh+hf) cg) (wh+hf) (byCells (L0 L).bytes ++ byCells ((M.recL c).take hf))->Bx w6 f (lgL va vc (L0 L))->g≠f->StayBut (LB f va) w5.drew w6->(LB f va g∨w5.drew.heap.size<=g)->LeftL W f va (M.apL L c) (w6.setCell ⟨f,0,none⟩ (.slice (some ⟨g,0,none⟩) (wh+hf) cg))):=λ g cg w6 ow bx gf st lb=>by
      have ok':=M.ap_ok LO.out (c:=c) NM.out BY.out
      have bl:(M.apL L c).bytes.length=wh+hf:=by
       rw [APL];show (M.recs L.calls ++ (M.recL c).take hf).length=_;rw [List.length_append,List.length_take,←EN.out];have:(M.recs L.calls).length=wh:=EW.out.symm;omega
      refine ⟨some ⟨g,0,none⟩,cg,⟨ok', ?_, ?_,λ p hp=>by cases hp;exact gf⟩,S6.out.trans (st.trans (stay_set (K:=LB f va) (.inl rfl))),λ q hq => ?_⟩
      · have:=bx.put (j:=0) (v := .slice (some ⟨g,0,none⟩) (wh+hf) cg)
        have e:(lgL va vc (L0 L)).set 0 (.slice (some ⟨g,0,none⟩) (wh+hf) cg)=lgL (some ⟨g,0,none⟩) cg (M.apL L c):=by
         unfold lgL;rw [bl,APL];unfold L0 M.stpL;simp only [M.stpF,q0,decide_true,Bool.or_true,if_true];rfl
        rw [e] at this;exact this
      · rw [bl]
        have e:byCells (M.apL L c).bytes=byCells (L0 L).bytes ++ byCells ((M.recL c).take hf):=by
         rw [APL,L0_bytes,←byCells_app];rfl
        rw [e];exact own_stay ow (λ p hp=>by cases hp;exact heap_setCell_other _ _ _ _ gf)
      · rcases hq with z | ⟨p,z1,z2⟩
        · exact .inl (.inl z)
        · cases z1
          subst z2
          rcases lb with y | y
          · exact .inl y
          · exact .inr (Nat.le_trans S6.out.size y)
     clear SR H3 H4 H5 H6 CUT3 STP SROW APL LBY f1 f4 sz3 hhf q0;refine wp_region_held_drew (S:=λ _=>True) (by kernel_rfl) trivial (λ hHeld => ?_);refine take_lg (i:=0) (d:=some 48) (v := ?v1) rfl rfl (by kernel_rfl) (by kernel_rfl) (by kernel_rfl) (λ _ _ _ h=>h) (Or.inl ⟨by rfl, ?h1⟩) trivial ?r1
     case h1=>(intro V hSw;clear hSw;go_simp;(try with_reducible rfl))
     simp only [Act.put,List.setIfInBounds_toArray,List.set_cons_zero,List.set_cons_succ];refine take_lg (i:=1) (d:=some 49) (v := ?v2) rfl rfl (by kernel_rfl) (by kernel_rfl) (by kernel_rfl) (λ _ _ _ h=>h) (Or.inl ⟨by rfl, ?h2⟩) trivial ?r2
     case h2=>(intro V hSw;clear hSw;go_simp;(try with_reducible rfl))
     simp only [Act.put,List.setIfInBounds_toArray,List.set_cons_zero,List.set_cons_succ];refine take_lg (i:=2) (d:=some 50) (v := ?v3) rfl rfl (by kernel_rfl) (by kernel_rfl) (by kernel_rfl) (λ _ _ _ h=>h) (Or.inl ⟨by rfl, ?h3⟩) trivial ?r3
     case h3=>(intro V hSw;clear hSw;go_simp;(try with_reducible rfl))
     simp only [Act.put,List.setIfInBounds_toArray,List.set_cons_zero,List.set_cons_succ];refine take_lg (i:=3) (d:=some 51) (v := ?v4) rfl rfl (by kernel_rfl) (by kernel_rfl) (by kernel_rfl) (λ _ _ _ h=>h) (Or.inl ⟨by rfl, ?h4⟩) trivial ?r4
     case h4=>(intro V hSw;clear hSw;go_simp;(try with_reducible rfl))
     simp only [Act.put,List.setIfInBounds_toArray,List.set_cons_zero,List.set_cons_succ];refine take_lg (i:=5) (d:=some 53) (v := ?v5) rfl rfl (by kernel_rfl) (by kernel_rfl) (by kernel_rfl) (λ _ _ _ h=>h) (Or.inl ⟨by rfl, ?h5⟩) trivial ?r5
     case h5=>(intro V hSw;clear hSw;go_simp;(try with_reducible rfl))
     simp only [Act.put,List.setIfInBounds_toArray,List.set_cons_zero,List.set_cons_succ];refine take_lg (i:=6) (d:=some 54) (v := ?v6) rfl rfl (by kernel_rfl) (by kernel_rfl) (by kernel_rfl) (λ _ _ _ h=>h) (Or.inl ⟨by rfl, ?h6⟩) trivial ?r6
     case h6=>(intro V hSw;clear hSw;go_simp;(try with_reducible rfl))
     simp only [Act.put,List.setIfInBounds_toArray,List.set_cons_zero,List.set_cons_succ];refine take_lg (i:=7) (d:=some 55) (v := ?v7) rfl rfl (by kernel_rfl) (by kernel_rfl) (by kernel_rfl) (λ _ _ _ h=>h) (Or.inl ⟨by rfl, ?h7⟩) trivial ?r7
     case h7=>(intro V hSw;clear hSw;go_simp;(try with_reducible rfl))
     simp only [Act.put,List.setIfInBounds_toArray,List.set_cons_zero,List.set_cons_succ];refine take_lg (i:=8) (d:=some 56) (v := ?v8) rfl rfl (by kernel_rfl) (by kernel_rfl) (by kernel_rfl) (λ _ _ _ h=>h) (Or.inl ⟨by rfl, ?h8⟩) trivial ?r8
     case h8=>(intro V hSw;clear hSw;go_simp;(try with_reducible rfl))
     simp only [Act.put,List.setIfInBounds_toArray,List.set_cons_zero,List.set_cons_succ];refine take_lg (i:=9) (d:=some 57) (v := ?v9) rfl rfl (by kernel_rfl) (by kernel_rfl) (by kernel_rfl) (λ _ _ _ h=>h) (Or.inl ⟨by rfl, ?h9⟩) trivial ?r9
     case h9=>(intro V hSw;clear hSw;go_simp;(try with_reducible rfl))
     simp only [Act.put,List.setIfInBounds_toArray,List.set_cons_zero,List.set_cons_succ];refine wpAnyH_ready (rs := [4]) (by kernel_rfl) (by simp) ?_;refine AllReadyH.cons rfl (λ K hK => ?_) AllReadyH.nil
     go_simp
     refine hK.out _ _ trivial (λ hHeld4 => ?_);clear hK K hHeld4
     try simp only [Act.put,List.setIfInBounds_toArray,List.set_cons_zero,List.set_cons_succ]
     refine wpAnyH_ready (rs := [10]) (by kernel_rfl) (by simp) ?_;refine AllReadyH.cons rfl (λ K hK => ?_) AllReadyH.nil;refine step_append_lies _ rfl (.tmp 52) (.tmp 57) 28 rfl 0 5 i0 (.int .u8 0) 1 1 Tryz.underlying28 J0.out hz0 hz1 hz2 rfl (by omega) (.slice va wh vc) wh (byCells (L0 L).bytes) rfl OW.out ⟨bb,0,none⟩ hf vbc (byCells ((M.recL c).take hf)) rfl NLn.out NWn.out (byCells_one _) hf0 LM1.out LM2.out (Nat.zero_le _) w5.drew.heap.size rfl ?_;intro g cg w6 ho6 hg6 ha6 hl6;obtain ⟨bx6,gf,st6,lb6⟩:=GR.out _ _ hg6 ha6;have x0:=bx6.cell 0 _ rfl;have z0:=bx6.free 0;have FN:=hide (FINH.out g cg w6 ho6 bx6 gf st6 lb6);clear ho6 hg6 ha6 hl6 bx6 gf st6 lb6;refine hK.out _ _ trivial (λ hHeld5 => ?_);clear hK K hHeld5
     try simp only [Act.put,List.setIfInBounds_toArray]
     refine take_lg (i:=11) (d:=some 59) (v := ?v10) rfl rfl (by kernel_rfl) (by kernel_rfl) (by kernel_rfl) (λ _ _ _ h=>h) (Or.inl ⟨by rfl, ?h10⟩) trivial ?r10
     case h10=>(intro V hSw;clear hSw;go_simp;(try with_reducible rfl))
     simp only [Act.put];refine take_lg (i:=12) (d:=some 60) (v := ?v11) rfl rfl (by kernel_rfl) (by kernel_rfl) (by kernel_rfl) (λ _ _ _ h=>h) (Or.inl ⟨by rfl, ?h11⟩) trivial ?r11
     case h11=>(intro V hSw;clear hSw;go_simp;(try with_reducible rfl))
     simp only [Act.put];refine wpAnyH_ready (rs := [13]) (by kernel_rfl) (by simp) ?_;refine AllReadyH.cons rfl (λ K hK => ?_) AllReadyH.nil
     go_simp
     refine hK.out _ _ trivial (λ hHeld6 => ?_);clear hK K hHeld6
     try simp only [Act.put,List.setIfInBounds_toArray,List.set_cons_zero,List.set_cons_succ]
     refine wpAnyH_done (by kernel_rfl) ?_ _
     go_wp2
     go_ret
     exact ⟨by rw [E9.out,err_some (by decide:(9:Int)≠0)];rfl,FN.out⟩
   · rw [decide_eq_false q0] at STP
     rw [if_neg (by decide)] at STP;rw [err_nil rfl] at STP
     have E0:Hid (M.apF L c=0):=by unfold Hid;rw [e4,if_neg (by unfold M.stpF;rw [decide_eq_false q0,hst2.out];decide)]
     clear e4 q4
     go_upto_region 15 with (first
      | (go_at_call 56;refine CUT3.out.mono ?_;rintro e w4 ⟨rfl,h4,s4⟩;have H4:=hide h4;have S4:=hide s4;clear h4 s4)
      | (go_at_call 88;refine (STP.out w4 H4.out).mono ?_;rintro e w5 ⟨rfl,h5,s5⟩;have H5:=hide h5;have S5:=hide (StayBut.trans S4.out s5);clear h5 s5))
     rw [EL0.out] at H5
     have LBY:(L0 L).bytes.length=wh:=by rw [L0_bytes,EW.out];rfl
     have c50:=H5.out.box.cell 0 _ rfl;rw [LBY] at c50
     have OW:Hid (w5.ownsRow 0 5 1 (.slice va wh vc) wh (byCells (L0 L).bytes)):=by
      have:=H5.out.own;rw [LBY] at this;exact this
     obtain ⟨i0,hi0,hz0,hz1,hz2⟩:=info_parts info8;have J0:=hide hi0;clear hi0;have SR:=(SROW.out w5 S5.out).1
     have NLn:Hid ((byCells (M.recL c)).length=rn*1):=by unfold Hid;rw [byCells_len,←EN.out];omega
     have NWn:Hid (∀ j u,(byCells (M.recL c))[j]? = some u->w5.cell? ((⟨bb,0,none⟩:Addr).add j)=some u):=by
      obtain ⟨b',off',e,_,hcc⟩:=SR.2.2 (by
       intro z;have:=congrArg List.length z;rw [←EN.out] at this;simp only [List.length_nil] at this
       omega)
      cases e;exact by_src hcc
     have rn0:0<rn:=by omega
     have LM1:Hid (wh+rn<=maxLen):=by unfold Hid maxLen;omega
     have LM2:Hid ((wh+rn)*1<=140737488355328):=by unfold Hid;omega
     have GR:Hid (∀ (w6:World) (g:Nat),w5.grownBy w6 (Value.slice va wh vc).ownBlock->((Value.slice va wh vc).ownBlock=some g∨g=w5.heap.size)->Bx w6 f (lgL va vc (L0 L))/\g≠f/\StayBut (LB f va) w5 w6/\(LB f va g∨w5.heap.size<=g)):=λ w6 g x y=>H5.out.grow (by rw [LBY];exact x) (by rw [LBY];exact y);have S6:Hid (StayBut (LB f va) W w5):=S0.out.trans S5.out.low
     have APL:M.apL L c=⟨L.calls ++ [c], [],min L.safe L.whole,if 0<L.ahead then L.ahead-1 else L.ahead,L.stop⟩:=by
      unfold M.apL;rw [if_neg (by rw [E0.out];intro z;rcases z with z | z | z <;> first | cases z | (rw [hst2.out] at z;cases z)),if_neg q0]
     have FINH:Hid (∀ (g cg:Nat) (w6:World),w6.ownsRow 0 5 1 (.slice (some ⟨g,0,none⟩) (wh+rn) cg) (wh+rn) (byCells (L0 L).bytes ++ byCells (M.recL c))->Bx w6 f (lgL va vc (L0 L))->g≠f->StayBut (LB f va) w5 w6->(LB f va g∨w5.heap.size<=g)->LeftL W f va (M.apL L c) ((w6.setCell ⟨f,0,none⟩ (.slice (some ⟨g,0,none⟩) (wh+rn) cg)).setCell ⟨f,1,none⟩ (.int .i64 ((wh+rn:Nat):Int)))/\Bx (w6.setCell ⟨f,0,none⟩ (.slice (some ⟨g,0,none⟩) (wh+rn) cg)) f ((lgL va vc (L0 L)).set 0 (.slice (some ⟨g,0,none⟩) (wh+rn) cg))):=λ g cg w6 ow bx gf st lb=>by
      have ok':=M.ap_ok LO.out (c:=c) NM.out BY.out
      have wn:(M.apL L c).whole=wh+rn:=by
       rw [APL];show (M.recs (L.calls ++ [c])).length=_;rw [M.recs_app,M.recs_one,List.length_append,←EN.out];have:(M.recs L.calls).length=wh:=EW.out.symm;omega
      have bl:(M.apL L c).bytes.length=wh+rn:=by
       rw [←wn,APL];show (M.recs (L.calls ++ [c]) ++ []).length=_;rw [List.append_nil];rfl
      have bp:=bx.put (j:=0) (v := .slice (some ⟨g,0,none⟩) (wh+rn) cg)
      refine ⟨⟨some ⟨g,0,none⟩,cg,⟨ok', ?_, ?_,λ p hp=>by cases hp;exact gf⟩,S6.out.trans (st.trans ((stay_set (K:=LB f va) (.inl rfl)).trans (stay_set (K:=LB f va) (.inl rfl)))),λ q hq => ?_⟩,bp⟩
      · have:=bp.put (j:=1) (v := .int .i64 ((wh+rn:Nat):Int))
        have e:((lgL va vc (L0 L)).set 0 (.slice (some ⟨g,0,none⟩) (wh+rn) cg)).set 1 (.int .i64 ((wh+rn:Nat):Int))=lgL (some ⟨g,0,none⟩) cg (M.apL L c):=by
         unfold lgL;rw [bl,wn,APL];unfold L0 M.stpL;simp only [M.stpF,q0,hst2.out,decide_false,Bool.or_false,Bool.false_eq_true,if_false];rfl
        rw [e] at this;exact this
      · rw [bl]
        have e:byCells (M.apL L c).bytes=byCells (L0 L).bytes ++ byCells (M.recL c):=by
         rw [APL,L0_bytes,←byCells_app];show byCells (M.recs (L.calls ++ [c]) ++ [])=_;rw [List.append_nil,M.recs_app,M.recs_one]
        rw [e];exact own_stay ow (λ p hp=>by cases hp;rw [heap_setCell_other _ _ _ _ gf,heap_setCell_other _ _ _ _ gf])
      · rcases hq with z | ⟨p,z1,z2⟩
        · exact .inl (.inl z)
        · cases z1
          subst z2
          rcases lb with y | y
          · exact .inl y
          · exact .inr (Nat.le_trans S6.out.size y)
     clear SR H3 H4 H5 CUT3 STP SROW APL LBY f1 f4 sz3 q0
     go_upto_region 16 with (at_builtin;refine wpList_append_lies _ rfl (.tmp 66) (.tmp 67) 28 rfl 0 5 i0 (.int .u8 0) 1 1 Tryz.underlying28 J0.out hz0 hz1 hz2 rfl (by omega) (.slice va wh vc) wh (byCells (L0 L).bytes) rfl OW.out ⟨bb,0,none⟩ rn vbc (byCells (M.recL c)) rfl NLn.out NWn.out (byCells_one _) rn0 LM1.out LM2.out (Nat.zero_le _) w5.heap.size rfl ?_;intro g cg w6 ho6 hg6 ha6 hl6;obtain ⟨bx6,gf,st6,lb6⟩:=GR.out _ _ hg6 ha6;have x0:=bx6.cell 0 _ rfl;have z0:=bx6.free 0;obtain ⟨fn,bx7⟩:=FINH.out g cg w6 ho6 bx6 gf st6 lb6;have FN:=hide fn;have B7:=hide bx7;clear ho6 hg6 ha6 hl6 bx6 gf st6 lb6 fn bx7)
     have v0:=B7.out.cell 0 _ rfl;have v1:=B7.out.cell 1 _ rfl;have y1:=B7.out.free 1;clear x0 z0 B7 FINH GR;generalize hw7:w6.setCell ⟨f,0,none⟩ (.slice (some ⟨g,0,none⟩) (wh+rn) cg)=w7 at *;clear hw7
     go_wp2
     go_ret
     exact ⟨by rw [E0.out,err_nil rfl];rfl,FN.out⟩
theorem lg_Append {W:World} {f:Nat} {va:Option Addr} {vc:Nat} {L:M.Lg} (h:LA W f va vc L) {c:M.Ca} {a:Option Addr} {cap:Nat} (hi:CaIn W c a cap) :
 Calls Tryz.prog 53 #[.pointer (some ⟨f,0,none⟩),caV c a cap] W λ e w'=>e = .returned (errV (M.apF L c))/\LeftL W f va (M.apL L c) w':=by
 by_cases q:M.rngF c=false∨100<c.name.length∨6000<c.bys.length
 · exact lg_Append_no h hi q
 · refine lg_Append_ok h hi ?_ (by omega) (by omega)
   cases e:M.rngF c with
   | true=>rfl
   | false=>exact absurd (.inl e) q
structure HL (W w:World) (f:Nat) (va:Option Addr) (L:M.Lg):Prop where
 la : ∃ vc,LA w f va vc L
 bl:Below W.heap.size W w
 tn : ∀ q,LB f va q->W.heap.size<=q
def KeptL (w:World) (f:Nat) (va va':Option Addr) (w':World):Prop:=w.heap.size<=w'.heap.size /\ ∀ q,q<w.heap.size -> ¬ LB f va q -> ¬ LB f va' q/\w'.heap[q]? = w.heap[q]?
theorem HL.ok {W w:World} {f:Nat} {va:Option Addr} {L:M.Lg} (h:HL W w f va L):M.LgOk L:=by
 obtain ⟨vc,h1⟩:=h.la;exact h1.ok
theorem HL.lt {W w:World} {f:Nat} {va:Option Addr} {L:M.Lg} (h:HL W w f va L) {q:Nat} (hq:LB f va q):q<w.heap.size:=by
 obtain ⟨vc,h1⟩:=h.la;exact h1.lt hq
theorem HL.up {W w w':World} {f:Nat} {va:Option Addr} {L:M.Lg} (h:HL W w f va L) (hb:Below w.heap.size w w'):HL W w' f va L:=by
 obtain ⟨vc,h1⟩:=h.la
 exact ⟨⟨vc,h1.below hb⟩,below_on h.bl hb,h.tn⟩
theorem HL.left {W w w':World} {f:Nat} {va:Option Addr} {L L':M.Lg} (h:HL W w f va L) (hl:LeftL w f va L' w') : ∃ va',HL W w' f va' L'/\KeptL w f va va' w':=by
 obtain ⟨va',vc',a,b,c⟩:=hl;have z:=h.bl.size
 refine ⟨va',⟨⟨vc',a⟩,⟨b.os.trans h.bl.os,b.tape.trans h.bl.tape,b.output.trans h.bl.output,Nat.le_trans z b.size,λ q hq => ?_⟩,λ q hq => ?_⟩,b.size,λ q hq ht=>⟨λ y => ?_,b.block q hq ht⟩⟩
 · rw [b.block q (by omega) (λ y=>by have:=h.tn q y;omega)]
   exact h.bl.block q hq
 · rcases c q hq with y | y
   · exact h.tn q y
   · omega
 · rcases c q y with x | x
   · exact ht x
   · omega
theorem HL.stay {W w w':World} {f:Nat} {va:Option Addr} {vc:Nat} {L L':M.Lg} (h:HL W w f va L) (h1:LA w' f va vc L') (hs:StayBut (λ q=>q=f) w w'):HL W w' f va L'/\KeptL w f va va w':=by
 obtain ⟨va',a,b⟩:=h.left (L':=L') ⟨va,vc,h1,hs.low,λ q hq => .inl hq⟩
 exact ⟨⟨⟨vc,h1⟩,a.bl,h.tn⟩,hs.size,λ q hq hk=>⟨hk,hs.low.block q hq hk⟩⟩
theorem HL.new {W w:World} (hb:Below W.heap.size W w):Calls Tryz.prog 24 #[] w λ e w' => ∃ f,e = .returned (.pointer (some ⟨f,0,none⟩))/\HL W w' f none M.lg0/\Below w.heap.size w w'/\f=w.heap.size:=(lg_New w).mono (by
 rintro e w' ⟨f,rfl,h1,h2,h3⟩
 refine ⟨f,rfl,⟨⟨0,h1⟩,below_on hb h2,λ q hq => ?_⟩,h2,h3⟩
 rcases hq with z | ⟨p,z,_⟩
 · rw [z,h3];exact hb.size
 · cases z)
theorem HL.fail {W w:World} {f:Nat} {va:Option Addr} {L:M.Lg} (h:HL W w f va L) (n:Int) (hn:M.I64 n) :
 Calls Tryz.prog 39 #[.pointer (some ⟨f,0,none⟩), .int .i64 n] w λ e w'=>e = .returned (.tuple #[])/\HL W w' f va ⟨L.calls,L.tail,L.safe,n,L.stop⟩/\KeptL w f va va w':=by
 obtain ⟨vc,h1⟩:=h.la;refine (lg_Fail h1 n hn).mono ?_;rintro e w' ⟨rfl,a,b⟩
 exact ⟨rfl,h.stay a b⟩
theorem HL.sync {W w:World} {f:Nat} {va:Option Addr} {L:M.Lg} (h:HL W w f va L) :
 Calls Tryz.prog 54 #[.pointer (some ⟨f,0,none⟩)] w λ e w'=>e = .returned (errV (M.syF L))/\HL W w' f va (M.syL L)/\KeptL w f va va w':=by
 obtain ⟨vc,h1⟩:=h.la;refine (lg_Sync h1).mono ?_;rintro e w' ⟨rfl,a,b⟩
 exact ⟨rfl,h.stay a b⟩
theorem HL.crash {W w:World} {f:Nat} {va:Option Addr} {L:M.Lg} (h:HL W w f va L) (keep:Int) (hk:M.I64 keep) :
 Calls Tryz.prog 28 #[.pointer (some ⟨f,0,none⟩), .int .i64 keep] w λ e w'=>e = .returned (.tuple #[])/\HL W w' f va (M.crL L keep)/\KeptL w f va va w':=by
 obtain ⟨vc,h1⟩:=h.la;refine (lg_Crash h1 keep hk).mono ?_;rintro e w' ⟨rfl,a,b⟩
 exact ⟨rfl,h.stay a b⟩
theorem HL.append {W w:World} {f:Nat} {va:Option Addr} {L:M.Lg} (h:HL W w f va L) {c:M.Ca} {a:Option Addr} {cap:Nat} (hi:CaIn w c a cap) :
 Calls Tryz.prog 53 #[.pointer (some ⟨f,0,none⟩),caV c a cap] w λ e w'=>e = .returned (errV (M.apF L c)) /\ ∃ va',HL W w' f va' (M.apL L c)/\KeptL w f va va' w':=by
 obtain ⟨vc,h1⟩:=h.la;refine (lg_Append h1 hi).mono ?_;rintro e w' ⟨rfl,a⟩
 exact ⟨rfl,h.left a⟩
theorem HL.callsG {W w:World} {f:Nat} {va:Option Addr} {L:M.Lg} (h:HL W w f va L) :
 Calls Tryz.prog 57 #[.pointer (some ⟨f,0,none⟩)] w λ e w' => ∃ a c l,e = .returned (.slice a L.calls.length c)/\l.map (·.1)=L.calls/\CW w w' a c l/\Below w.heap.size w w':=by
 obtain ⟨vc,h1⟩:=h.la;exact lg_Calls h1
set_option maxHeartbeats 8000000 in
set_option maxRecDepth 10000 in
theorem lg_Call {W:World} {f:Nat} {va:Option Addr} {vc:Nat} {L:M.Lg} (h:LA W f va vc L) {k:Nat} (hk:k<L.calls.length) :
 Calls Tryz.prog 34 #[.pointer (some ⟨f,0,none⟩), .int .i64 (k:Int)] W λ e w' => ∃ a c,e = .returned (.tuple #[caV (L.calls.getD k M.caR) a c, .bool true])/\CaIn w' (L.calls.getD k M.caR) a c/\Below W.heap.size W w' /\ ∀ p,a=some p->W.heap.size<=p.block/\p.block<w'.heap.size:=by
 obtain ⟨rd,rn,rl,rc⟩:=h.rd
 obtain ⟨ck,hck⟩ : ∃ x,x=L.calls.getD k M.caR:=⟨_,rfl⟩
 rw [←hck];have HCK:Hid (ck=L.calls.getD k M.caR):=hck;clear hck;unfold caV
 obtain ⟨W1,hW1⟩ : ∃ X,X=W.alloc (.cells #[.int .i64 0, .int .i64 0, .int .i64 0, .string ⟨#[]⟩, .int .i64 0, .int .i64 0, .slice none 0 0] 44):=⟨_,rfl⟩
 have ba:Below W.heap.size W W1:=by rw [hW1];exact (Below.refl _ _).alloc (Nat.le_refl _) _
 have z1:W1.heap.size=W.heap.size+1:=by rw [hW1];simp
 have bx:Bx W1 W.heap.size [.int .i64 0, .int .i64 0, .int .i64 0, .string ⟨#[]⟩, .int .i64 0, .int .i64 0, .slice none 0 0]:=by rw [hW1];exact bx_new W _ _
 have c0:=(h.below ba).box.cell 0 _ rfl;have HL:=hide h.ok.ok;have LN:L.calls.length<=100000:=Nat.le_trans (M.recs_more _ h.ok.ok) h.ok.wh;have YE:=hide (λ (a:Option Addr) (c:M.Ca) (r:List Nat) (ca:Nat) (w:World) hc h hl hca hn=>lg_split a c r ca w hc h hl hca hn);have RE:=hide (λ (a:Option Addr) (c:M.Ca) (ca:Nat) (w:World) hc h hl hca hn=>lg_read a c ca w hc h hl hca hn);have e0:L.bytes=M.recs (L.calls.drop 0) ++ L.tail:=rfl;rw [e0] at rd rl c0;have R0:Hid (RdB W1 va (M.recs (L.calls.drop 0) ++ L.tail)):=rd.below ba
 have C0:Hid ((M.recs (L.calls.drop 0) ++ L.tail).length<=vc/\vc<=9223372036854775807/\(va=none->vc=0)):=⟨rl,rc,rn⟩
 have BA:=hide ba;have BX:=hide bx;have Z1:=hide z1;clear h rd rn rl rc e0 ba bx z1
 obtain ⟨n0,hn0⟩ : ∃ x,x=(M.recs (L.calls.drop 0) ++ L.tail).length:=⟨_,rfl⟩
 rw [←hn0] at c0;have E0:=hide hn0;clear hn0
 go_enter Tryz.func34, Tryz.ntmps34
 go_upto_region 1 with fail
 rw [←hW1];clear hW1
 go_wp2
 go_loopw [1,6,7,8,9] (λ v r _ _ _ wr => ∃ (j m:Nat) (b:Option Addr) (cb:Nat),j+m=k/\v = .int .i64 (m:Int)/\r = .slice b (M.recs (L.calls.drop j) ++ L.tail).length cb/\Hid (RdB W1 b (M.recs (L.calls.drop j) ++ L.tail))/\Hid ((M.recs (L.calls.drop j) ++ L.tail).length<=cb/\cb<=9223372036854775807/\(b=none->cb=0))/\Hid (Below W1.heap.size W1 wr)) (λ v _ _ _ _ _=>(intOf v).toNat)
 case atStart=>exact ⟨0,k,va,vc,Nat.zero_add k,rfl,by rw [E0.out],R0,C0,Below.refl _ _⟩
 case round =>
  clear R0 C0 c0 E0;obtain ⟨j,m,b,cb,hj,rfl,rfl,RR,CB,KK⟩:=hrel
  have hlt:j<L.calls.length:=by omega
  have ok:=HL.out L.calls[j] (List.getElem_mem hlt)
  have er:M.recs (L.calls.drop j) ++ L.tail=M.recL L.calls[j] ++ (M.recs (L.calls.drop (j+1)) ++ L.tail):=by rw [M.recs_drop hlt,List.append_assoc]
  rw [er] at RR CB ⊢;have SP:=hide (YE.out b L.calls[j] _ cb wr ok (RR.out.below KK.out) CB.out.1 CB.out.2.1 CB.out.2.2);have OK:=hide ok;clear er YE CB ok;generalize (M.recL L.calls[j] ++ (M.recs (L.calls.drop (j+1)) ++ L.tail)).length=n1 at *
  obtain ⟨n2,hn2⟩ : ∃ x,x=(M.recs (L.calls.drop (j+1)) ++ L.tail).length:=⟨_,rfl⟩
  simp only [←hn2] at SP;have E2:=hide hn2;clear hn2
  go_upto_region 6 with (go_at_call 62;refine SP.out.mono ?_;rintro e w1 ⟨a1,c1,a2,c2,rfl,rr,q1,q2,q3,q4,q5,q6,b1⟩;have R1:=hide ((rr _ (RR.out.below KK.out)).1.below b1);have R2:=hide (rr _ RR.out).2;have C1:=hide (And.intro q1 (And.intro q2 q6));have C2:=hide (And.intro q3 (And.intro q4 q5));have K1:=hide (below_on KK.out b1);clear rr q1 q2 q3 q4 q5 q6 b1)
  clear SP RR KK
  rcases m with _ | m
  · have ej:j=k:=by omega
    have EC:Hid (L.calls[j]=ck):=by subst ej;unfold Hid;rw [HCK.out];simp [List.getD,hlt]
    have RE1:=hide (RE.out a1 L.calls[j] c1 w1 OK.out R1.out C1.out.1 C1.out.2.1 C1.out.2.2);clear RE R1 C1 ej HL OK LN hj HCK;generalize (M.bodL L.calls[j]).length=bl at *;rw [EC.out] at RE1;clear EC;unfold caV at RE1;have BX1:Hid (Bx w1 W.heap.size [.int .i64 0, .int .i64 0, .int .i64 0, .string ⟨#[]⟩, .int .i64 0, .int .i64 0, .slice none 0 0]):=BX.out.keep (K1.out.block _ BX.out.lt)
    go_wp2_with (go_at_call 63;refine RE1.out.mono ?_;rintro e w2 ⟨a3,c3,rfl,ci,b2,np⟩;have BX2:Hid (Bx w2 W.heap.size [.int .i64 0, .int .i64 0, .int .i64 0, .string ⟨#[]⟩, .int .i64 0, .int .i64 0, .slice none 0 0]):=BX1.out.keep (b2.block _ BX1.out.lt);have x0:=BX2.out.cell 0 _ rfl;have x1:=BX2.out.cell 1 _ rfl;have x2:=BX2.out.cell 2 _ rfl;have x3:=BX2.out.cell 3 _ rfl;have x4:=BX2.out.cell 4 _ rfl;have x5:=BX2.out.cell 5 _ rfl;have x6:=BX2.out.cell 6 _ rfl;have y0:=BX2.out.free 0;have y1:=BX2.out.free 1;have y2:=BX2.out.free 2;have y3:=BX2.out.free 3;have y4:=BX2.out.free 4;have y5:=BX2.out.free 5;have y6:=BX2.out.free 6;have CI:=hide ci;have B2:=hide b2;have NP:=hide np;clear ci b2 np)
    have fin:=((((((BX2.out.put (j:=0) (v := .int .i64 ck.what)).put (j:=1) (v := .int .i64 ck.ses)).put (j:=2) (v := .int .i64 ck.seq)).put (j:=3) (v := .string (byStr ck.name))).put (j:=4) (v := .int .i64 ck.num)).put (j:=5) (v := .int .i64 ck.share)).put (j:=6) (v := .slice a3 ck.bys.length c3);have e0:=fin.cell 0 _ rfl;have e1:=fin.cell 1 _ rfl;have e2:=fin.cell 2 _ rfl;have e3:=fin.cell 3 _ rfl;have e4:=fin.cell 4 _ rfl;have e5:=fin.cell 5 _ rfl;have e6:=fin.cell 6 _ rfl;clear fin;refine bodyPost_ret (v := .tuple #[.agg #[.int .i64 ck.what, .int .i64 ck.ses, .int .i64 ck.seq, .string (byStr ck.name), .int .i64 ck.num, .int .i64 ck.share, .slice a3 ck.bys.length c3], .bool true]) (by simp [results, Tryz.results34,go_sem,e0,e1,e2,e3,e4,e5,e6]) rfl ?_
    obtain ⟨wz,hwz⟩ : ∃ X,X=((((((w2.setCell ⟨W.heap.size,0,none⟩ (.int .i64 ck.what)).setCell ⟨W.heap.size,1,none⟩ (.int .i64 ck.ses)).setCell ⟨W.heap.size,2,none⟩ (.int .i64 ck.seq)).setCell ⟨W.heap.size,3,none⟩ (.string (byStr ck.name))).setCell ⟨W.heap.size,4,none⟩ (.int .i64 ck.num)).setCell ⟨W.heap.size,5,none⟩ (.int .i64 ck.share)).setCell ⟨W.heap.size,6,none⟩ (.slice a3 ck.bys.length c3):=⟨_,rfl⟩
    have bz:Below W.heap.size W wz:=by
     rw [hwz];have b3:Below W.heap.size W w2:=below_on BA.out (below_on K1.out B2.out);exact ((((((b3.setCell (Nat.le_refl _) _).setCell (Nat.le_refl _) _).setCell (Nat.le_refl _) _).setCell (Nat.le_refl _) _).setCell (Nat.le_refl _) _).setCell (Nat.le_refl _) _).setCell (Nat.le_refl _) _
    have zz:wz.heap.size=w2.heap.size:=by rw [hwz];simp
    have oth : ∀ q,q≠W.heap.size->wz.heap[q]? = w2.heap[q]? := λ q hq=>by
     rw [hwz];rw [heap_setCell_other _ _ _ _ hq,heap_setCell_other _ _ _ _ hq,heap_setCell_other _ _ _ _ hq,heap_setCell_other _ _ _ _ hq,heap_setCell_other _ _ _ _ hq,heap_setCell_other _ _ _ _ hq,heap_setCell_other _ _ _ _ hq]
    have lw:W.heap.size<w1.heap.size:=by have:=K1.out.size;have:=Z1.out;omega
    rw [←hwz];have hne : ∀ p,a3=some p->wz.heap[p.block]? = w2.heap[p.block]? := λ p hp=>oth _ (by have:=(NP.out p hp).1;omega)
    refine ⟨a3,c3,rfl,CI.out.keep hne (by omega),bz,λ p hp => ?_⟩
    have:=NP.out p hp;omega
  · have j1:j+1+m=k:=by omega
    have t1:(((m+1:Nat):Int) == 0)=false:=by rw [beq_eq_false_iff_ne];omega
    have t2:((m:Int)+1 == 0)=false:=by rw [beq_eq_false_iff_ne];omega
    have i1:IntKind.i64.wrap ((m:Int)+1-1)=(m:Int):=by rw [Int.add_sub_cancel];exact i64_in (by omega) (by omega)
    have i2:IntKind.i64.wrap (((m+1:Nat):Int)-1)=(m:Int):=by rw [show ((m+1:Nat):Int)-1=(m:Int) by omega];exact i64_in (by omega) (by omega)
    clear RE R1 C1 HL OK BX BA
    go_wp2
    go_roundw
    case rel=>exact ⟨j+1,m,a2,c2,j1,by go_num,by rw [←E2.out],R2,by unfold Hid;rw [←E2.out];exact C2.out,K1⟩
    case measure=>simp [intOf]
theorem HL.call {W w:World} {f:Nat} {va:Option Addr} {L:M.Lg} (h:HL W w f va L) {k:Nat} (hk:k<L.calls.length) :
 Calls Tryz.prog 34 #[.pointer (some ⟨f,0,none⟩), .int .i64 (k:Int)] w λ e w' => ∃ a c,e = .returned (.tuple #[caV (L.calls.getD k M.caR) a c, .bool true])/\CaIn w' (L.calls.getD k M.caR) a c/\Below w.heap.size w w' /\ ∀ p,a=some p->w.heap.size<=p.block/\p.block<w'.heap.size:=by
 obtain ⟨vc,h1⟩:=h.la;exact lg_Call h1 hk
end Go.Proofs.YtaijnacghiloaaaGreatDoor
