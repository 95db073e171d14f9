/-
  Several texts as one: LgE, LgG.
-/
import Derived.Test.YtaijnacghiloaaaGreatDoorRunT15
import Derived.Test.YtaijnacghiloaaaGreatDoorRunT1
import Derived.Deep.RegionWith
import Derived.Deep.AppendLies
namespace Go.Proofs.YtaijnacghiloaaaGreatDoor
open Go.ChangeShapes Go.WideShapes Go.ChangeAt Go.RowKit Go.Lib
set_option linter.unusedVariables false
def arrK (c:M.Ca) (k:Nat):List Value:=(List.range 6).map λ j => .int .i64 (if j<k then (M.sixL c).getD j 0 else 0)
theorem arrK_set (c:M.Ca) (k:Nat) (hk:k<6):(arrK c k).set k (.int .i64 ((M.sixL c).getD k 0))=arrK c (k+1):=by
 refine List.ext_getElem (by simp [arrK]) (λ j h1 h2 => ?_)
 have hj:j<6:=by simpa [arrK] using h2
 rw [List.getElem_set]
 by_cases e:k=j
 · subst e
   rw [if_pos rfl];simp [arrK]
 · rw [if_neg e]
   have:(j<k+1)=(j<k):=by rw [eq_iff_iff];omega
   simp [arrK,this]
theorem arrK_at (c:M.Ca) (k j:Nat) (hj:j<6):(arrK c k)[j]? = some (.int .i64 (if j<k then (M.sixL c).getD j 0 else 0)):=by
 simp [arrK,hj]
set_option maxHeartbeats 8000000 in
set_option maxRecDepth 10000 in
theorem lg_read (a:Option Addr) (c:M.Ca) (ca:Nat) (W:World) (ok:M.CaOk c) (h:RdB W a (M.bodL c)) (hl:(M.bodL c).length<=ca) (hca:ca<=9223372036854775807) (hn:a=none->ca=0) :
 Calls Tryz.prog 63 #[.slice a (M.bodL c).length ca] W λ e w' => ∃ a1 c1,e = .returned (caV c a1 c1)/\CaIn w' c a1 c1/\Below W.heap.size W w' /\ ∀ p,a1=some p->W.heap.size<=p.block/\p.block<w'.heap.size:=by
 have E0:Hid (M.bodL c=M.bysL ((M.sixL c).drop 0) ++ (c.name ++ c.bys)):=by unfold Hid M.bodL;rw [List.append_assoc];rfl
 have R0:Hid (RdB W a (M.bysL ((M.sixL c).drop 0) ++ (c.name ++ c.bys))):=by unfold Hid;rw [←E0.out];exact h
 rw [E0.out] at hl ⊢
 have C0:Hid ((M.bysL ((M.sixL c).drop 0) ++ (c.name ++ c.bys)).length<=ca/\ca<=9223372036854775807/\(a=none->ca=0)):=⟨hl,hca,hn⟩
 have OK:=hide ok;have i6:=hide ok.i64;have EL:Hid ((M.sixL c).length=6):=rfl;have GT:=hide (λ a bs ca w h=>cdget_same a bs ca w h)
 have LT:Hid (∀ p,a=some p->M.bysL ((M.sixL c).drop 0) ++ (c.name ++ c.bys) ≠ []->p.block<W.heap.size):=λ p hp ne=>by
  obtain ⟨b,off,e,hl,_⟩:=R0.out.2.2 ne;rw [e] at hp;cases hp;exact hl
 clear h hl hca hn ok E0
 go_enter Tryz.func63, Tryz.ntmps63
 have Z0:Hid (M.sixL c=M.sixL c):=rfl
 go_wp2
 obtain ⟨W2,hW2⟩ : ∃ X,X=(W.alloc (.cells #[.int .i64 0, .int .i64 0, .int .i64 0, .string ⟨#[]⟩, .int .i64 0, .int .i64 0, .slice none 0 0] 44)).alloc (.cells #[.int .i64 0, .int .i64 0, .int .i64 0, .int .i64 0, .int .i64 0, .int .i64 0] 179):=⟨_,rfl⟩
 rw [←hW2]
 have z1:(W.alloc (.cells #[.int .i64 0, .int .i64 0, .int .i64 0, .string ⟨#[]⟩, .int .i64 0, .int .i64 0, .slice none 0 0] 44)).heap.size=W.heap.size+1:=by simp
 have K2:Hid (Below W.heap.size W W2):=by
  unfold Hid;rw [hW2]
  exact ((Below.refl _ _).alloc (Nat.le_refl _) _).alloc (by simp) _
 have X2:Hid (Bx W2 W.heap.size [.int .i64 0, .int .i64 0, .int .i64 0, .string ⟨#[]⟩, .int .i64 0, .int .i64 0, .slice none 0 0]):=by
  unfold Hid;rw [hW2]
  have bx:=bx_new W [.int .i64 0, .int .i64 0, .int .i64 0, .string ⟨#[]⟩, .int .i64 0, .int .i64 0, .slice none 0 0] 44;exact bx.keep (((Below.refl _ _).alloc (Nat.le_refl _) _).block _ bx.lt)
 have A2:Hid (Bx W2 (W.heap.size+1) (arrK c 0)):=by
  unfold Hid;rw [hW2,←z1]
  exact bx_new _ [.int .i64 0, .int .i64 0, .int .i64 0, .int .i64 0, .int .i64 0, .int .i64 0] 179
 have R2:=hide (R0.out.below K2.out);clear hW2 z1 R0 Z0
 go_loopw [0,4,5,6,7,9] (λ v _ _ _ _ i wr => ∃ (k:Nat) (b:Option Addr) (cb:Nat),k<=6/\i = .int .i64 k/\v = .slice b (M.bysL ((M.sixL c).drop k) ++ (c.name ++ c.bys)).length cb/\Hid (RdB wr b (M.bysL ((M.sixL c).drop k) ++ (c.name ++ c.bys)))/\Hid ((M.bysL ((M.sixL c).drop k) ++ (c.name ++ c.bys)).length<=cb/\cb<=9223372036854775807/\(b=none->cb=0))/\Hid (Below W.heap.size W wr)/\Hid (Bx wr W.heap.size [.int .i64 0, .int .i64 0, .int .i64 0, .string ⟨#[]⟩, .int .i64 0, .int .i64 0, .slice none 0 0])/\Hid (Bx wr (W.heap.size+1) (arrK c k))/\Hid (∀ p,b=some p->M.bysL ((M.sixL c).drop k) ++ (c.name ++ c.bys) ≠ []->p.block<W.heap.size)) (λ _ _ _ _ _ i _=>6-(intOf i).toNat)
 case atStart=>exact ⟨0,a,ca,by omega,rfl,(by first | rfl | simp),R2,C0,K2,X2,A2,LT.out⟩
 case round =>
  clear R2 C0 K2 X2 A2 LT;obtain ⟨k,b,cb,hk,rfl,rfl,RR,CC,KK,XX,AA,LL⟩:=hrel
  by_cases hlt:k<6
  · have kz:(k:Int)<6:=by omega
    have kz0:(0:Int)<=(k:Int):=by omega
    have hl6:k<(M.sixL c).length:=hlt
    have eg:(M.sixL c).getD k 0=(M.sixL c)[k]:=by simp [List.getD,hl6]
    have i64:=i6.out _ (List.getElem_mem hl6)
    have ed:M.bysL ((M.sixL c).drop k) ++ (c.name ++ c.bys)=M.numL (M.sixL c)[k] ++ (M.bysL ((M.sixL c).drop (k+1)) ++ (c.name ++ c.bys)):=by
     rw [List.drop_eq_getElem_cons hl6,M.bys_cons,List.append_assoc]
    rw [ed] at RR CC LL ⊢;have G:=hide (GT.out b _ cb wr RR.out);rw [M.get_num i64.1 i64.2,err_nil rfl] at G
    have RS:Hid (RdB wr (if cb=(M.numL (M.sixL c)[k]).length then b else Option.map (λ x=>x.add (M.numL (M.sixL c)[k]).length) b) (M.bysL ((M.sixL c).drop (k+1)) ++ (c.name ++ c.bys))):=by
     have:=rdB_slice (k:=(M.numL (M.sixL c)[k]).length) RR.out CC.out.1;rw [List.drop_left] at this;exact this
    have nn:=M.num_len i64.1 i64.2;have nl:(M.numL (M.sixL c)[k] ++ (M.bysL ((M.sixL c).drop (k+1)) ++ (c.name ++ c.bys))).length=(M.numL (M.sixL c)[k]).length+(M.bysL ((M.sixL c).drop (k+1)) ++ (c.name ++ c.bys)).length:=List.length_append;have cc:=AA.out.cell k _ (arrK_at c k k hlt);have cz:=AA.out.free k
    have AN:Hid (∀ w,Bx w (W.heap.size+1) (arrK c k)->Bx (w.setCell ⟨W.heap.size+1,k,none⟩ (.int .i64 (M.sixL c)[k])) (W.heap.size+1) (arrK c (k+1))):=λ w hw=>by
     have:=hw.put (j:=k) (v := .int .i64 (M.sixL c)[k]);rw [←eg,arrK_set c k hlt] at this;rw [←eg];exact this
    have PB:Hid (∀ p,(if cb=(M.numL (M.sixL c)[k]).length then b else Option.map (λ x=>x.add (M.numL (M.sixL c)[k]).length) b)=some p->p.block<W.heap.size):=λ p hp=>by
     have ne:M.numL (M.sixL c)[k] ++ (M.bysL ((M.sixL c).drop (k+1)) ++ (c.name ++ c.bys)) ≠ []:=λ z=>by
      have:=congrArg List.length z;rw [nl] at this;simp only [List.length_nil] at this;omega
     split at hp
     · exact LL.out p hp ne
     · cases b with
       | none=>cases hp
       | some q =>
         have:=LL.out q rfl ne
         have e:q.add (M.numL (M.sixL c)[k]).length=p:=by simpa using hp
         rw [←e];unfold Addr.add
         split <;> exact this
    have NB:Hid ((if cb=(M.numL (M.sixL c)[k]).length then b else Option.map (λ x=>x.add (M.numL (M.sixL c)[k]).length) b)=none->cb-(M.numL (M.sixL c)[k]).length=0):=λ z=>by
     split at z
     · omega
     · cases b with
       | none=>have:=CC.out.2.2 rfl;omega
       | some q=>cases z
    have cl:=CC.out.1;have cm:=CC.out.2.1;rw [nl] at cl;rw [nl] at G ⊢;clear nl ed eg GT CC RR LL i64
    obtain ⟨rn,hrn⟩ : ∃ x,x=(M.bysL ((M.sixL c).drop (k+1)) ++ (c.name ++ c.bys)).length:=⟨_,rfl⟩
    have RN:=hide hrn;rw [←hrn] at cl G ⊢;clear hrn;generalize (M.sixL c)[k]=x at *;generalize (M.numL x).length=u at *
    have y1:(u:Int)<=((u+rn:Nat):Int):=by omega
    have y2:(u:Int)<=(cb:Int):=by omega
    have y3:((u+rn:Nat):Int)<=(cb:Int):=by omega
    have y4:u<=u+rn:=by omega
    have y5:u<=cb:=by omega
    have y6:u+rn<=cb:=by omega
    have y7:u+rn-u=rn:=by omega
    obtain ⟨tn,htn⟩ : ∃ x,x=u+rn:=⟨_,rfl⟩
    rw [←htn] at y1 y3 y4 y6 y7 G ⊢;clear htn
    go_upto_region 6 with (go_at_call 102;refine G.out.mono ?_;rintro e w1 ⟨rfl,ew⟩;have ew2:=ew.symm;subst ew2)
    clear G
    go_region_with (fail)
    go_simp
    obtain ⟨w9,hw9⟩ : ∃ X,X=(wr.setCell ⟨W.heap.size+1,k,none⟩ (.int .i64 x)).drew:=⟨_,rfl⟩
    rw [←hw9]
    have hp : ∀ q,q≠W.heap.size+1->w9.heap[q]? = wr.heap[q]? := λ q hq=>by rw [hw9];exact heap_setCell_other _ _ _ _ hq
    have K9:Hid (Below W.heap.size W w9):=by unfold Hid;rw [hw9];exact (KK.out.setCell (p:=⟨W.heap.size+1,k,none⟩) (Nat.le_succ _) _).drew
    have sz9:wr.heap.size<=w9.heap.size:=by rw [hw9];exact (stay_set (K:=λ q=>q=W.heap.size+1) rfl).size
    have R9:Hid (RdB w9 (if cb=u then b else Option.map (λ x=>x.add u) b) (M.bysL ((M.sixL c).drop (k+1)) ++ (c.name ++ c.bys))):=rdB_keep RS.out (λ _ p e=>hp _ (by have:=PB.out p e;omega)) sz9;have X9:Hid (Bx w9 W.heap.size [.int .i64 0, .int .i64 0, .int .i64 0, .string ⟨#[]⟩, .int .i64 0, .int .i64 0, .slice none 0 0]):=XX.out.keep (hp _ (by omega))
    have A9:Hid (Bx w9 (W.heap.size+1) (arrK c (k+1))):=by unfold Hid;rw [hw9];exact AN.out _ AA.out
    clear hp hw9 sz9 KK XX AA AN RS cc cz;generalize (if cb=u then b else Option.map (λ x=>x.add u) b)=b9 at *
    go_wp2
    go_roundw
    case rel=>exact ⟨k+1,b9,cb-u,by omega,by go_num,by rw [←RN.out],R9,by unfold Hid;rw [←RN.out];exact ⟨by omega,by omega,NB.out⟩,K9,X9,A9,λ p e _=>PB.out p e⟩
    case measure=>simp [intOf];omega
  · have kz : ¬ ((k:Int)<6):=by omega
    have ek:k=6:=by omega
    subst ek;have ed:M.bysL ((M.sixL c).drop 6) ++ (c.name ++ c.bys)=c.name ++ c.bys:=rfl;rw [ed] at RR CC LL ⊢;clear ed GT;have a5:=AA.out.cell 5 _ (arrK_at c 6 5 (by omega));have a0:=AA.out.cell 0 _ (arrK_at c 6 0 (by omega));have a1:=AA.out.cell 1 _ (arrK_at c 6 1 (by omega));have a2:=AA.out.cell 2 _ (arrK_at c 6 2 (by omega));have a3:=AA.out.cell 3 _ (arrK_at c 6 3 (by omega));have a4:=AA.out.cell 4 _ (arrK_at c 6 4 (by omega));replace a5:wr.cell? ⟨W.heap.size+1,5,none⟩=some (.int .i64 (c.name.length:Int)):=a5;replace a0:wr.cell? ⟨W.heap.size+1,0,none⟩=some (.int .i64 c.what):=a0;replace a1:wr.cell? ⟨W.heap.size+1,1,none⟩=some (.int .i64 c.ses):=a1;replace a2:wr.cell? ⟨W.heap.size+1,2,none⟩=some (.int .i64 c.seq):=a2;replace a3:wr.cell? ⟨W.heap.size+1,3,none⟩=some (.int .i64 c.num):=a3;replace a4:wr.cell? ⟨W.heap.size+1,4,none⟩=some (.int .i64 c.share):=a4
    go_upto_region 9 with fail
    have nl0:=OK.out.nl;have bl0:=OK.out.bl;have nlen:(c.name ++ c.bys).length=c.name.length+c.bys.length:=List.length_append;rw [nlen];have CA:=CC.out;rw [nlen] at CA;obtain ⟨ca1,ca2,ca3⟩:=CA;have kd:StayBut (λ q=>q=W.heap.size) wr wr.drew:=stay_of ((Below.refl wr.heap.size wr).drew) (Nat.le_refl _);have bne:Hid (∀ p,b=some p->c.name ++ c.bys ≠ []->p.block<W.heap.size):=LL.out
    have RK:Hid (∀ V,StayBut (λ q=>q=W.heap.size) wr V->RdB V b (c.name ++ c.bys)):=λ V hV=>rdB_keep RR.out (λ ne p hp=>by
     have lt:=bne.out p hp ne
     exact hV.block _ (Nat.lt_of_lt_of_le lt KK.out.size) (by show p.block≠W.heap.size;omega)) hV.size
    have AK:Hid (∀ V,StayBut (λ q=>q=W.heap.size) wr V->Bx V (W.heap.size+1) (arrK c 6)):=λ V hV=>AA.out.keep (hV.block _ AA.out.lt (by show W.heap.size+1≠W.heap.size;omega))
    have CF:Hid (∀ V,StayBut (λ q=>q=W.heap.size) wr V->V.cell? ⟨W.heap.size+1,0,none⟩=some (.int .i64 c.what)/\V.cell? ⟨W.heap.size+1,1,none⟩=some (.int .i64 c.ses)/\V.cell? ⟨W.heap.size+1,2,none⟩=some (.int .i64 c.seq)/\V.cell? ⟨W.heap.size+1,3,none⟩=some (.int .i64 c.num)/\V.cell? ⟨W.heap.size+1,4,none⟩=some (.int .i64 c.share)/\(convert 28 9 (.slice b c.name.length cb)).run Tryz.prog V = .ok (.string (byStr c.name)) V):=λ V hV=>by
     have ak:=AK.out V hV;have rk:=(RK.out V hV).take c.name.length;rw [List.take_left] at rk
     exact ⟨ak.cell 0 _ (arrK_at c 6 0 (by omega)),ak.cell 1 _ (arrK_at c 6 1 (by omega)),ak.cell 2 _ (arrK_at c 6 2 (by omega)),ak.cell 3 _ (arrK_at c 6 3 (by omega)),ak.cell 4 _ (arrK_at c 6 4 (by omega)),conv_by rk cb⟩
    have CP:Hid (Calls Tryz.prog 103 #[.slice (if cb=c.name.length then b else Option.map (λ x=>x.add c.name.length) b) c.bys.length (cb-c.name.length)] wr.drew λ e w' => ∃ va vc,e = .returned (.slice va c.bys.length vc)/\w'.ownsRow wr.drew.heap.size 5 1 (.slice va c.bys.length vc) c.bys.length (byCells c.bys)/\Below wr.drew.heap.size wr.drew w'):=by
     have rd:=rdB_slice (k:=c.name.length) (RK.out _ kd) (c:=cb) (by rw [nlen];omega);rw [List.drop_left] at rd;refine lg_copyOf _ c.bys _ wr.drew rd (λ z => ?_) (by omega)
     split at z
     · omega
     · cases b with
       | none=>have:=ca3 rfl;omega
       | some q=>cases z
    have e9:c.name.length+c.bys.length-c.name.length=c.bys.length:=by omega
    have y1:(c.name.length:Int)<=(cb:Int):=by omega
    have y2:c.name.length<=cb:=by omega
    have y3:(c.name.length:Int)<=(c.name.length:Int)+(c.bys.length:Int):=by omega
    have NBB:Hid (isB c.name/\c.name.length<=9223372036854775807):=⟨OK.out.nb,by omega⟩
    clear RR CC AA nlen bne RK AK ca1 ca2 ca3 a0 a1 a2 a3 a4 a5;generalize hbn:c.bys.length=bn at *;generalize hnn:c.name.length=nn at *;refine wp_region_held_drew (S:=λ V=>StayBut (λ q=>q=W.heap.size) wr V) (by kernel_rfl) kd (λ hHeld => ?_);refine take_lg (i:=0) (d:=some 27) (v := ?v1) rfl rfl (by kernel_rfl) (by kernel_rfl) (by kernel_rfl) (λ _ _ _ h=>h) (Or.inl ⟨by rfl, ?h1⟩) (by assumption) ?r1
    case h1=>(intro V hSw;obtain ⟨q0,q1,q2,q3,q4,q6⟩:=CF.out V hSw;clear hSw;go_simp;(try with_reducible rfl))
    simp only [Act.put,List.setIfInBounds_toArray,List.set_cons_zero,List.set_cons_succ];refine take_lg (i:=1) (d:=some 28) (v := ?v2) rfl rfl (by kernel_rfl) (by kernel_rfl) (by kernel_rfl) (λ _ _ _ h=>h) (Or.inl ⟨by rfl, ?h2⟩) (by assumption) ?r2
    case h2=>(intro V hSw;obtain ⟨q0,q1,q2,q3,q4,q6⟩:=CF.out V hSw;clear hSw;go_simp;(try with_reducible rfl))
    simp only [Act.put,List.setIfInBounds_toArray,List.set_cons_zero,List.set_cons_succ];refine take_lg (i:=2) (d:=some 29) (v := ?v3) rfl rfl (by kernel_rfl) (by kernel_rfl) (by kernel_rfl) (λ _ _ _ h=>h) (Or.inl ⟨by rfl, ?h3⟩) (by assumption) ?r3
    case h3=>(intro V hSw;obtain ⟨q0,q1,q2,q3,q4,q6⟩:=CF.out V hSw;clear hSw;go_simp;(try with_reducible rfl))
    simp only [Act.put,List.setIfInBounds_toArray,List.set_cons_zero,List.set_cons_succ];refine take_lg (i:=3) (d:=some 30) (v := ?v4) rfl rfl (by kernel_rfl) (by kernel_rfl) (by kernel_rfl) (λ _ _ _ h=>h) (Or.inl ⟨by rfl, ?h4⟩) (by assumption) ?r4
    case h4=>(intro V hSw;obtain ⟨q0,q1,q2,q3,q4,q6⟩:=CF.out V hSw;clear hSw;go_simp;(try with_reducible rfl))
    simp only [Act.put,List.setIfInBounds_toArray,List.set_cons_zero,List.set_cons_succ];refine take_lg (i:=4) (d:=some 31) (v := ?v5) rfl rfl (by kernel_rfl) (by kernel_rfl) (by kernel_rfl) (λ _ _ _ h=>h) (Or.inl ⟨by rfl, ?h5⟩) (by assumption) ?r5
    case h5=>(intro V hSw;obtain ⟨q0,q1,q2,q3,q4,q6⟩:=CF.out V hSw;clear hSw;go_simp;(try with_reducible rfl))
    simp only [Act.put,List.setIfInBounds_toArray,List.set_cons_zero,List.set_cons_succ];refine take_lg (i:=5) (d:=some 32) (v := ?v6) rfl rfl (by kernel_rfl) (by kernel_rfl) (by kernel_rfl) (λ _ _ _ h=>h) (Or.inl ⟨by rfl, ?h6⟩) (by assumption) ?r6
    case h6=>(intro V hSw;obtain ⟨q0,q1,q2,q3,q4,q6⟩:=CF.out V hSw;clear hSw;go_simp;(try with_reducible rfl))
    simp only [Act.put,List.setIfInBounds_toArray,List.set_cons_zero,List.set_cons_succ];refine take_lg (i:=6) (d:=some 33) (v := ?v7) rfl rfl (by kernel_rfl) (by kernel_rfl) (by kernel_rfl) (λ _ _ _ h=>h) (Or.inl ⟨by rfl, ?h7⟩) (by assumption) ?r7
    case h7=>(intro V hSw;obtain ⟨q0,q1,q2,q3,q4,q6⟩:=CF.out V hSw;clear hSw;go_simp;(try with_reducible rfl))
    simp only [Act.put,List.setIfInBounds_toArray,List.set_cons_zero,List.set_cons_succ];refine take_lg (i:=7) (d:=some 34) (v := ?v8) rfl rfl (by kernel_rfl) (by kernel_rfl) (by kernel_rfl) (λ _ _ _ h=>h) (Or.inl ⟨by rfl, ?h8⟩) (by assumption) ?r8
    case h8=>(intro V hSw;obtain ⟨q0,q1,q2,q3,q4,q6⟩:=CF.out V hSw;clear hSw;go_simp;(try with_reducible rfl))
    simp only [Act.put,List.setIfInBounds_toArray,List.set_cons_zero,List.set_cons_succ];refine take_lg (i:=8) (d:=some 35) (v := ?v9) rfl rfl (by kernel_rfl) (by kernel_rfl) (by kernel_rfl) (λ _ _ _ h=>h) (Or.inl ⟨by rfl, ?h9⟩) (by assumption) ?r9
    case h9=>(intro V hSw;obtain ⟨q0,q1,q2,q3,q4,q6⟩:=CF.out V hSw;clear hSw;go_simp;(try with_reducible rfl))
    simp only [Act.put,List.setIfInBounds_toArray,List.set_cons_zero,List.set_cons_succ];refine take_lg (i:=9) (d:=some 36) (v := ?v10) rfl rfl (by kernel_rfl) (by kernel_rfl) (by kernel_rfl) (λ _ _ _ h=>h) (Or.inl ⟨by rfl, ?h10⟩) (by assumption) ?r10
    case h10=>(intro V hSw;obtain ⟨q0,q1,q2,q3,q4,q6⟩:=CF.out V hSw;clear hSw;go_simp;(try with_reducible rfl))
    simp only [Act.put,List.setIfInBounds_toArray,List.set_cons_zero,List.set_cons_succ];refine take_lg (i:=10) (d:=some 37) (v := ?v11) rfl rfl (by kernel_rfl) (by kernel_rfl) (by kernel_rfl) (λ _ _ _ h=>h) (Or.inl ⟨by rfl, ?h11⟩) (by assumption) ?r11
    case h11=>(intro V hSw;obtain ⟨q0,q1,q2,q3,q4,q6⟩:=CF.out V hSw;clear hSw;go_simp;(try with_reducible rfl))
    simp only [Act.put,List.setIfInBounds_toArray,List.set_cons_zero,List.set_cons_succ];refine take_lg (i:=11) (d:=some 38) (v := ?v12) rfl rfl (by kernel_rfl) (by kernel_rfl) (by kernel_rfl) (λ _ _ _ h=>h) (Or.inl ⟨by rfl, ?h12⟩) (by assumption) ?r12
    case h12=>(intro V hSw;obtain ⟨q0,q1,q2,q3,q4,q6⟩:=CF.out V hSw;clear hSw;go_simp;(try with_reducible rfl))
    simp only [Act.put,List.setIfInBounds_toArray,List.set_cons_zero,List.set_cons_succ];refine take_lg (i:=12) (d:=some 39) (v := ?v13) rfl rfl (by kernel_rfl) (by kernel_rfl) (by kernel_rfl) (λ _ _ _ h=>h) (Or.inl ⟨by rfl, ?h13⟩) (by assumption) ?r13
    case h13=>(intro V hSw;obtain ⟨q0,q1,q2,q3,q4,q6⟩:=CF.out V hSw;clear hSw;go_simp;(try with_reducible rfl))
    simp only [Act.put,List.setIfInBounds_toArray,List.set_cons_zero,List.set_cons_succ];refine take_lg (i:=13) (d:=some 40) (v := ?v14) rfl rfl (by kernel_rfl) (by kernel_rfl) (by kernel_rfl) (λ _ _ _ h=>h) (Or.inl ⟨by rfl, ?h14⟩) (by assumption) ?r14
    case h14=>(intro V hSw;obtain ⟨q0,q1,q2,q3,q4,q6⟩:=CF.out V hSw;clear hSw;go_simp;(try with_reducible rfl))
    simp only [Act.put,List.setIfInBounds_toArray,List.set_cons_zero,List.set_cons_succ];refine take_lg (i:=14) (d:=some 41) (v := ?v15) rfl rfl (by kernel_rfl) (by kernel_rfl) (by kernel_rfl) (λ _ _ _ h=>h) (Or.inl ⟨by rfl, ?h15⟩) (by assumption) ?r15
    case h15=>(intro V hSw;obtain ⟨q0,q1,q2,q3,q4,q6⟩:=CF.out V hSw;clear hSw;go_simp;(try with_reducible rfl))
    simp only [Act.put,List.setIfInBounds_toArray,List.set_cons_zero,List.set_cons_succ];refine take_lg (i:=15) (d:=some 42) (v := ?v16) rfl rfl (by kernel_rfl) (by kernel_rfl) (by kernel_rfl) (λ _ _ _ h=>h) (Or.inl ⟨by rfl, ?h16⟩) (by assumption) ?r16
    case h16=>(intro V hSw;obtain ⟨q0,q1,q2,q3,q4,q6⟩:=CF.out V hSw;clear hSw;go_simp;(try with_reducible rfl))
    simp only [Act.put,List.setIfInBounds_toArray,List.set_cons_zero,List.set_cons_succ];refine take_lg (i:=16) (d:=some 43) (v := ?v17) rfl rfl (by kernel_rfl) (by kernel_rfl) (by kernel_rfl) (λ _ _ _ h=>h) (Or.inl ⟨by rfl, ?h17⟩) (by assumption) ?r17
    case h17=>(intro V hSw;obtain ⟨q0,q1,q2,q3,q4,q6⟩:=CF.out V hSw;clear hSw;go_simp;(try with_reducible rfl))
    simp only [Act.put,List.setIfInBounds_toArray,List.set_cons_zero,List.set_cons_succ];generalize (if cb=nn then b else Option.map (λ x=>x.add nn) b)=b9 at *;refine wpAnyH_ready (rs := [17]) (by kernel_rfl) (by simp) ?_;refine AllReadyH.cons rfl (λ K hK => ?_) AllReadyH.nil
    go_simp
    go_at_call 103
    refine CP.out.mono ?_;rintro e w1 ⟨ra,rc,rfl,ho,hb⟩;have O1:=hide ho;have B1:=hide hb;have k1:StayBut (λ q=>q=W.heap.size) wr w1:=kd.trans (stay_of hb (Nat.le_refl _));have x1:=XX.out.keep (B1.out.block _ XX.out.lt);have x0c:=x1.cell 0 _ rfl;have x1c:=x1.cell 1 _ rfl;have x2c:=x1.cell 2 _ rfl;have x3c:=x1.cell 3 _ rfl;have x4c:=x1.cell 4 _ rfl;have x5c:=x1.cell 5 _ rfl;have x6c:=x1.cell 6 _ rfl;have zf:=λ j=>x1.free j;have z0:=zf 0;have z1:=zf 1;have z2:=zf 2;have z3:=zf 3;have z4:=zf 4;have z5:=zf 5;have z6:=zf 6;have XB:=hide x1;clear ho hb zf x1
    try go_wp2_with fail
    refine hK.out _ _ k1 (λ hHeld3 => ?_);clear hK K
    try simp only [Act.put,List.setIfInBounds_toArray,List.set_cons_zero,List.set_cons_succ]
    refine take_lg (i:=18) (d:=some 45) (v := ?v18) rfl rfl (by kernel_rfl) (by kernel_rfl) (by kernel_rfl) (λ _ _ _ h=>h) (Or.inl ⟨by rfl, ?h18⟩) (by assumption) ?r18
    case h18=>(intro V hSw;obtain ⟨q0,q1,q2,q3,q4,q6⟩:=CF.out V hSw;clear hSw;go_simp;(try with_reducible rfl))
    simp only [Act.put,List.setIfInBounds_toArray,List.set_cons_zero,List.set_cons_succ];refine wpAnyH_ready (rs := [19]) (by kernel_rfl) (by simp) ?_;refine AllReadyH.cons rfl (λ K hK => ?_) AllReadyH.nil
    go_simp
    obtain ⟨w2,hw2⟩ : ∃ X,X=((((((w1.setCell ⟨W.heap.size,0,none⟩ (.int .i64 c.what)).setCell ⟨W.heap.size,1,none⟩ (.int .i64 c.ses)).setCell ⟨W.heap.size,2,none⟩ (.int .i64 c.seq)).setCell ⟨W.heap.size,3,none⟩ (.string (byStr c.name))).setCell ⟨W.heap.size,4,none⟩ (.int .i64 c.num)).setCell ⟨W.heap.size,5,none⟩ (.int .i64 c.share)).setCell ⟨W.heap.size,6,none⟩ (.slice ra bn rc):=⟨_,rfl⟩
    rw [←hw2]
    have bx2:Bx w2 W.heap.size [.int .i64 c.what, .int .i64 c.ses, .int .i64 c.seq, .string (byStr c.name), .int .i64 c.num, .int .i64 c.share, .slice ra bn rc]:=by
     rw [hw2];exact ((((((XB.out.put (j:=0) (v := .int .i64 c.what)).put (j:=1) (v := .int .i64 c.ses)).put (j:=2) (v := .int .i64 c.seq)).put (j:=3) (v := .string (byStr c.name))).put (j:=4) (v := .int .i64 c.num)).put (j:=5) (v := .int .i64 c.share)).put (j:=6) (v := .slice ra bn rc)
    have st2:StayBut (λ q=>q=W.heap.size) w1 w2:=by
     rw [hw2];have ss : ∀ (u:World) (j:Nat) (v:Value),StayBut (λ q=>q=W.heap.size) u (u.setCell ⟨W.heap.size,j,none⟩ v):=λ u j v=>stay_set (K:=λ q=>q=W.heap.size) rfl;exact ((((((ss _ 0 _).trans (ss _ 1 _)).trans (ss _ 2 _)).trans (ss _ 3 _)).trans (ss _ 4 _)).trans (ss _ 5 _)).trans (ss _ 6 _)
    have k2:StayBut (λ q=>q=W.heap.size) wr w2:=k1.trans st2;have d0:=bx2.cell 0 _ rfl;have d1:=bx2.cell 1 _ rfl;have d2:=bx2.cell 2 _ rfl;have d3:=bx2.cell 3 _ rfl;have d4:=bx2.cell 4 _ rfl;have d5:=bx2.cell 5 _ rfl;have d6:=bx2.cell 6 _ rfl
    have Bw:Hid (Below W.heap.size W w2):=⟨k2.os.trans KK.out.os,k2.tape.trans KK.out.tape,k2.output.trans KK.out.output,Nat.le_trans KK.out.size k2.size,λ q hq=>(k2.block q (Nat.lt_of_lt_of_le hq KK.out.size) (by show q≠W.heap.size;omega)).trans (KK.out.block q hq)⟩
    obtain ⟨ra',rc',er,rr,rn0,rl0,rm0⟩:=own_rdB1 hbn (by unfold maxLen;omega) OK.out.bb O1.out;cases er;have sp:=own_spot O1.out
    have RF:Hid (RdB w2 ra c.bys):=rdB_keep rr (λ _ p hp=>st2.block _ (sp p hp).2.1 (by
     have:=(O1.out.lt p.block (sp p hp).2.2).1;have e2:wr.drew.heap.size=wr.heap.size:=rfl;have:=KK.out.size;have:=XB.out.lt;have:=XX.out.lt;show p.block≠W.heap.size
     omega)) st2.size
    have NP:Hid (∀ p,ra=some p->W.heap.size<=p.block/\p.block<w2.heap.size):=λ p hp=>by
     have:=(O1.out.lt p.block (sp p hp).2.2).1;have e2:wr.drew.heap.size=wr.heap.size:=rfl;have:=KK.out.size
     exact ⟨by omega,Nat.lt_of_lt_of_le (sp p hp).2.1 st2.size⟩
    have CI:Hid (CaIn w2 c ra rc):=⟨NBB.out.1,by rw [hnn];exact NBB.out.2,RF.out,by rw [hbn];exact rl0,rm0,i6.out _ (by unfold M.sixL;simp),i6.out _ (by unfold M.sixL;simp),rn0⟩
    clear x0c x1c x2c x3c x4c x5c x6c z0 z1 z2 z3 z4 z5 z6 hw2 rr rn0 rl0 rm0 sp RF;refine hK.out _ _ k2 (λ hHeld5 => ?_);clear hK K
    try simp only [Act.put,List.setIfInBounds_toArray,List.set_cons_zero,List.set_cons_succ]
    refine wpAnyH_done (by kernel_rfl) ?_ _
    go_wp2
    refine bodyPost_ret (v:=caV c ra rc) (by unfold caV;rw [hbn];simp [results, Tryz.results63,go_sem,d0,d1,d2,d3,d4,d5,d6]) rfl ?_
    exact ⟨ra,rc,rfl,CI.out,Bw.out,NP.out⟩
theorem infoCa:(Tryz.prog.info? 44).map (λ i=>(i.zero,i.size,i.bytes))=some (some (.agg #[.int .i64 0, .int .i64 0, .int .i64 0, .string ⟨#[]⟩, .int .i64 0, .int .i64 0, .slice none 0 0]),7,80):=by kernel_rfl
def ca7 (k:CaC):List Value := [.int .i64 k.1.what, .int .i64 k.1.ses, .int .i64 k.1.seq, .string (byStr k.1.name), .int .i64 k.1.num, .int .i64 k.1.share, .slice k.2.1 k.1.bys.length k.2.2]
def caCs (l:List CaC):List Value:=l.flatMap ca7
theorem caCs_app (a b:List CaC):caCs (a ++ b)=caCs a ++ caCs b:=by unfold caCs;rw [List.flatMap_append]
theorem caCs_one (k:CaC):caCs [k]=ca7 k:=by unfold caCs;simp
theorem caCs_at : ∀ (l:List CaC) (i j:Nat),i<l.length->j<7->(caCs l)[i*7+j]? = (ca7 (l.getD i ca0))[j]?
 | [],i,j,h,_=>by cases h
 | k :: l,0,j,_,hj=>by
   show (ca7 k ++ caCs l)[0*7+j]? = _;rw [List.getElem?_append_left (by show 0*7+j<7;omega),Nat.zero_mul,Nat.zero_add];rfl
 | k :: l,i+1,j,h,hj=>by
   show (ca7 k ++ caCs l)[(i+1)*7+j]? = _;rw [List.getElem?_append_right (by show 7<=(i+1)*7+j;omega)]
   have e:(i+1)*7+j-(ca7 k).length=i*7+j:=by show (i+1)*7+j-7=_;omega
   rw [e,caCs_at l i j (by simpa using h) hj];rfl
theorem own_rdC {w:World} {base n:Nat} {a:Option Addr} {c:Nat} {l:List CaC} (hn:l.length=n) (hm:n<=maxLen) (hi : ∀ k∈l,CaIn w k.1 k.2.1 k.2.2) (h:w.ownsRow base 44 7 (.slice a n c) n (caCs l)):RdC w a l:=by
 subst hn
 refine ⟨hm,hi,λ hne => ?_⟩
 rcases h.2 with ⟨hv,h0⟩ | ⟨g,cap,cur,hv,hb,hg,h1,h2,h3,h4⟩
 · exact absurd (List.length_eq_zero_iff.1 h0) hne
 · cases hv
   refine ⟨g,0,rfl,(Array.getElem?_eq_some_iff.1 hg).1,λ i hi' => ?_⟩
   have key : ∀ j,j<7 -> ∀ v,(ca7 (l.getD i ca0))[j]? = some v->w.cell? ⟨g,0+i*7+j,none⟩=some v:=λ j hj v hv=>by
    rw [Nat.zero_add,h.cellAt (i*7+j) (by omega),←hv];exact caCs_at l i j hi' hj
   exact ⟨key 0 (by omega) _ rfl,key 1 (by omega) _ rfl,key 2 (by omega) _ rfl,key 3 (by omega) _ rfl,key 4 (by omega) _ rfl,key 5 (by omega) _ rfl,key 6 (by omega) _ rfl⟩
theorem M.recs_more : ∀ l:List M.Ca,(∀ c∈l,M.CaOk c)->l.length<=(M.recs l).length
 | [],_=>Nat.le_refl _
 | c :: l,h=>by
   have a:=M.recs_more l λ x hx=>h x (List.mem_cons_of_mem _ hx);have b:=(h c (List.mem_cons_self ..)).rec_le.1;rw [M.recs_cons,List.length_append,List.length_cons];omega
structure CW (W w:World) (a:Option Addr) (c:Nat) (l:List CaC):Prop where
 own:w.ownsRow W.heap.size 44 7 (.slice a l.length c) l.length (caCs l)
 ci : ∀ k∈l,CaIn w k.1 k.2.1 k.2.2
 ap : ∀ k∈l, ∀ p,k.2.1=some p->W.heap.size<=p.block/\p.block<w.heap.size /\ ∀ q,a=some q->q.block≠p.block
theorem CaIn.keep {w w':World} {c:M.Ca} {a:Option Addr} {cap:Nat} (h:CaIn w c a cap) (hk : ∀ p,a=some p->w'.heap[p.block]? = w.heap[p.block]?) (hz:w.heap.size<=w'.heap.size):CaIn w' c a cap:=⟨h.nb,h.nl,rdB_keep h.rd (λ _ p hp=>hk p hp) hz,h.le,h.cp,h.num,h.shr,h.nil⟩
theorem CW.below {W w w':World} {a:Option Addr} {c:Nat} {l:List CaC} (h:CW W w a c l) (hb:Below w.heap.size w w'):CW W w' a c l :=
 ⟨own_stay h.own (λ p hp=>hb.block _ (own_spot h.own p hp).2.1),λ k hk=>(h.ci k hk).below hb,λ k hk p hp=>⟨(h.ap k hk p hp).1,Nat.lt_of_lt_of_le (h.ap k hk p hp).2.1 hb.size,(h.ap k hk p hp).2.2⟩⟩
theorem CW.more {W w w':World} {a:Option Addr} {c:Nat} {l:List CaC} (h:CW W w a c l) {k:CaC} (hk:CaIn w k.1 k.2.1 k.2.2) (hp : ∀ p,k.2.1=some p->W.heap.size<=p.block/\p.block<w.heap.size /\ ∀ q,a=some q->q.block≠p.block) {g cap:Nat} (ho:w'.ownsRow W.heap.size 44 7 (.slice (some ⟨g,0,none⟩) (l.length+1) cap) (l.length+1) (caCs l ++ ca7 k)) (hgr:w.grownBy w' (Value.slice a l.length c).ownBlock) (hg:(Value.slice a l.length c).ownBlock=some g∨g=w.heap.size):CW W w' (some ⟨g,0,none⟩) cap (l ++ [k]):=by
 have ob : ∀ q,(Value.slice a l.length c).ownBlock=some q -> ∃ p,a=some p/\p.block=q:=λ q hq=>by
  cases a with
  | none=>cases hq
  | some p=>exact ⟨p,rfl,by simpa [Value.ownBlock] using hq⟩
 have key : ∀ j:CaC,CaIn w j.1 j.2.1 j.2.2->(∀ p,j.2.1=some p->W.heap.size<=p.block/\p.block<w.heap.size /\ ∀ q,a=some q->q.block≠p.block)->CaIn w' j.1 j.2.1 j.2.2 /\ ∀ p,j.2.1=some p->W.heap.size<=p.block/\p.block<w'.heap.size /\ ∀ q,(some ⟨g,0,none⟩:Option Addr)=some q->q.block≠p.block:=λ j hj hq=>by
  refine ⟨hj.keep (λ p hp=>hgr.block _ (hq p hp).2.1 (λ e => ?_)) hgr.size,λ p hp=>⟨(hq p hp).1,Nat.lt_of_lt_of_le (hq p hp).2.1 hgr.size,λ q e => ?_⟩⟩
  · obtain ⟨r,e1,e2⟩:=ob _ e.symm
    exact (hq p hp).2.2 r e1 e2
  · cases e
    show g≠p.block
    rcases hg with z | z
    · obtain ⟨r,e1,e2⟩:=ob _ z
      rw [←e2];exact (hq p hp).2.2 r e1
    · have:=(hq p hp).2.1
      omega
 have el:(l ++ [k]).length=l.length+1:=by simp
 refine ⟨?_,λ j hj => ?_,λ j hj => ?_⟩
 · rw [el,caCs_app,caCs_one];exact ho
 · rcases List.mem_append.1 hj with z | z
   · exact (key j (h.ci j z) (h.ap j z)).1
   · rw [List.mem_singleton] at z;subst z;exact (key j hk hp).1
 · rcases List.mem_append.1 hj with z | z
   · exact (key j (h.ci j z) (h.ap j z)).2
   · rw [List.mem_singleton] at z;subst z;exact (key j hk hp).2
set_option maxHeartbeats 8000000 in
set_option maxRecDepth 10000 in
theorem lg_Calls {W:World} {f:Nat} {va:Option Addr} {vc:Nat} {L:M.Lg} (h:LA W f va vc L) :
 Calls Tryz.prog 57 #[.pointer (some ⟨f,0,none⟩)] W λ e w' => ∃ a c l,e = .returned (.slice a L.calls.length c)/\l.map (·.1)=L.calls/\CW W w' a c l/\Below W.heap.size W w':=by
 have c0:=h.box.cell 0 _ rfl;obtain ⟨rd,rn,rl,rc⟩:=h.rd;have HL:=hide h.ok.ok;have LN:L.calls.length<=100000:=Nat.le_trans (M.recs_more _ h.ok.ok) h.ok.wh;have NO:=hide (λ (a:Option Addr) (ca:Nat) (w:World) (hh:RdB w a L.tail)=>lg_split_no a L.tail ca w hh h.ok.tl.short);have YE:=hide (λ (a:Option Addr) (c:M.Ca) (r:List Nat) (ca:Nat) (w:World) hc h hl hca hn=>lg_split a c r ca w hc h hl hca hn);have RE:=hide (λ (a:Option Addr) (c:M.Ca) (ca:Nat) (w:World) hc h hl hca hn=>lg_read a c ca w hc h hl hca hn);have e0:L.bytes=M.recs (L.calls.drop 0) ++ L.tail:=rfl;rw [e0] at rd rl c0;have R0:=hide rd
 have C0:Hid ((M.recs (L.calls.drop 0) ++ L.tail).length<=vc/\vc<=9223372036854775807/\(va=none->vc=0)):=⟨rl,rc,rn⟩
 clear h rd rn rl rc e0
 obtain ⟨n0,hn0⟩ : ∃ x,x=(M.recs (L.calls.drop 0) ++ L.tail).length:=⟨_,rfl⟩
 rw [←hn0] at c0;have E0:=hide hn0;clear hn0;obtain ⟨j0,hj0,hz0,hz1,hz2⟩:=info_parts infoCa;have J0:=hide hj0;clear hj0
 go_enter Tryz.func57, Tryz.ntmps57
 go_wp2
 go_loopw [2,3,4,5,6,7] (λ _ v r _ _ _ wr => ∃ (j:Nat) (a:Option Addr) (c:Nat) (l:List CaC) (b:Option Addr) (cb:Nat),j<=L.calls.length/\v = .slice a j c/\r = .slice b (M.recs (L.calls.drop j) ++ L.tail).length cb/\l.length=j/\Hid (l.map (·.1)=L.calls.take j)/\Hid (CW W wr a c l)/\Hid (RdB W b (M.recs (L.calls.drop j) ++ L.tail))/\Hid ((M.recs (L.calls.drop j) ++ L.tail).length<=cb/\cb<=9223372036854775807/\(b=none->cb=0))/\Hid (Below W.heap.size W wr)) (λ _ _ r _ _ _ _=>lenV r)
 case atStart=>exact ⟨0,none,0, [],va,vc,Nat.zero_le _,rfl,by rw [E0.out],rfl,rfl,⟨World.ownsRow_nil _ _ _ _,(λ k hk=>by cases hk),λ k hk=>by cases hk⟩,R0,C0,Below.refl _ _⟩
 case round =>
  clear R0 C0 c0 E0;obtain ⟨j,a,cc,l,b,cb,hj,rfl,rfl,hll,LM,CC,RR,CB,KK⟩:=hrel
  by_cases hlt:j<L.calls.length
  · have ok:=HL.out L.calls[j] (List.getElem_mem hlt)
    have er:M.recs (L.calls.drop j) ++ L.tail=M.recL L.calls[j] ++ (M.recs (L.calls.drop (j+1)) ++ L.tail):=by rw [M.recs_drop hlt,List.append_assoc]
    rw [er] at RR CB ⊢;have SP:=hide (YE.out b L.calls[j] _ cb wr ok (RR.out.below KK.out) CB.out.1 CB.out.2.1 CB.out.2.2)
    have sh:(M.recs (L.calls.drop (j+1)) ++ L.tail).length<(M.recL L.calls[j] ++ (M.recs (L.calls.drop (j+1)) ++ L.tail)).length:=by
     have:=ok.rec_le;have e9:(M.recL L.calls[j] ++ (M.recs (L.calls.drop (j+1)) ++ L.tail)).length=(M.recL L.calls[j]).length+(M.recs (L.calls.drop (j+1)) ++ L.tail).length:=List.length_append;omega
    have LM2:Hid (∀ k:CaC,k.1=L.calls[j]->(l ++ [k]).map (·.1)=L.calls.take (j+1)):=λ k hk=>by
     rw [List.map_append,LM.out,List.take_succ_eq_append_getElem hlt];show _ ++ [k.1]=_;rw [hk]
    have OK:=hide ok;clear er YE NO CB ok LM;generalize (M.recL L.calls[j] ++ (M.recs (L.calls.drop (j+1)) ++ L.tail)).length=n1 at *
    obtain ⟨n2,hn2⟩ : ∃ x,x=(M.recs (L.calls.drop (j+1)) ++ L.tail).length:=⟨_,rfl⟩
    rw [←hn2] at sh;simp only [←hn2] at SP;have E2:=hide hn2;clear hn2
    go_upto_region 6 with (go_at_call 62;refine SP.out.mono ?_;rintro e w1 ⟨a1,c1,a2,c2,rfl,rr,q1,q2,q3,q4,q5,q6,b1⟩;have R1:=hide ((rr _ (RR.out.below KK.out)).1.below b1);have R2:=hide (rr _ RR.out).2;have C1:=hide (And.intro q1 (And.intro q2 q6));have C2:=hide (And.intro q3 (And.intro q4 q5));have K1:=hide (below_on KK.out b1);have CW1:=hide (CC.out.below b1);clear rr q1 q2 q3 q4 q5 q6 b1)
    clear SP RR KK CC;have RE1:=hide (RE.out a1 L.calls[j] c1 w1 OK.out R1.out C1.out.1 C1.out.2.1 C1.out.2.2);clear RE R1 C1;unfold caV at RE1
    have NX:Hid (∀ (w2:World) (a3:Option Addr) (c3:Nat),CaIn w2 L.calls[j] a3 c3->Below w1.heap.size w1 w2->(∀ p,a3=some p->w1.heap.size<=p.block/\p.block<w2.heap.size) -> ∀ o:Obj,(w2.alloc o).ownsRow W.heap.size 44 7 (.slice a j cc) j (caCs l)/\W.heap.size<=(w2.alloc o).heap.size /\ ∀ (g cap:Nat) (w3:World),w3.ownsRow W.heap.size 44 7 (.slice (some ⟨g,0,none⟩) (j+1) cap) (j+1) (caCs l ++ ca7 (L.calls[j],a3,c3))->(w2.alloc o).grownBy w3 (Value.slice a j cc).ownBlock->((Value.slice a j cc).ownBlock=some g∨g=w2.heap.size+1)->CW W w3 (some ⟨g,0,none⟩) cap (l ++ [(L.calls[j],a3,c3)])/\Below W.heap.size W w3):=λ w2 a3 c3 ci b2 np o=>by
     subst hll;have bo:Below w2.heap.size w2 (w2.alloc o):=(Below.refl _ _).alloc (Nat.le_refl _) o;have c2:=(CW1.out.below b2).below bo;have k2:Below W.heap.size W (w2.alloc o):=below_on (below_on K1.out b2) bo
     have zo:(w2.alloc o).heap.size=w2.heap.size+1:=by simp
     refine ⟨c2.own,k2.size,λ g cap w3 ho hg ha=>⟨c2.more (ci.below bo) (λ p hp => ?_) ho hg (by rw [zo];exact ha),k2.grown hg k2.size (λ q hq=>(c2.own.lt q hq).1)⟩⟩
     have p1:w1.heap.size<=p.block:=(np p hp).1
     refine ⟨Nat.le_trans K1.out.size p1,by have:=(np p hp).2;omega,λ q hq => ?_⟩
     have:=(own_spot CW1.out.own q hq).2.1;omega
    have JL:Hid (j+1<=100000):=by unfold Hid;omega
    have HLL:=hide hll;clear CW1 OK HL hll LN;generalize hck:L.calls[j]=ck at *;have HCK:=hide hck;clear hck
    go_wp2_with (first
     | (go_at_call 63;refine RE1.out.mono ?_;rintro e w2 ⟨a3,c3,rfl,ci,b2,np⟩;obtain ⟨o3,z3,nx⟩:=NX.out w2 a3 c3 ci b2 np (.cells #[.int .i64 ck.what, .int .i64 ck.ses, .int .i64 ck.seq, .string (byStr ck.name), .int .i64 ck.num, .int .i64 ck.share, .slice a3 ck.bys.length c3] 44);have O3:=hide o3;have Z3:=hide z3;have N3:=hide nx;clear o3 z3 nx ci b2 np)
     | (at_builtin;refine wpList_append_lies _ rfl (.tmp 21) (.tmp 24) 22 rfl W.heap.size 44 j0 (.agg #[.int .i64 0, .int .i64 0, .int .i64 0, .string ⟨#[]⟩, .int .i64 0, .int .i64 0, .slice none 0 0]) 7 80 Tryz.underlying22 J0.out hz0 hz1 hz2 rfl (by omega) (.slice a j cc) j (caCs l) rfl O3.out ⟨w2.heap.size,0,none⟩ 1 1 [.int .i64 ck.what, .int .i64 ck.ses, .int .i64 ck.seq, .string (byStr ck.name), .int .i64 ck.num, .int .i64 ck.share, .slice a3 ck.bys.length c3] rfl rfl (World.news_of_block (heap_alloc_new _ _)) (by simp [Value.oneCell']) (by omega) (by have:=JL.out;unfold maxLen;omega) (by have:=JL.out;omega) Z3.out (w2.heap.size+1) (by simp) ?_;intro g cg w3 ho3 hg3 ha3 hl3;obtain ⟨cw3,k3⟩:=N3.out g cg w3 ho3 hg3 ha3;have CW3:=hide cw3;have K3:=hide k3;clear ho3 hg3 ha3 hl3 cw3 k3))
    go_roundw
    case rel=>exact ⟨j+1,some ⟨g,0,none⟩,cg,l ++ [(ck,a3,c3)],a2,c2,hlt,rfl,by rw [←E2.out],by rw [List.length_append,HLL.out];rfl,LM2.out _ rfl,CW3,R2,by unfold Hid;rw [←E2.out];exact C2.out,K3⟩
    case measure=>exact sh
  · have ej:j=L.calls.length:=by omega
    have er:M.recs (L.calls.drop j) ++ L.tail=L.tail:=by rw [ej,List.drop_length];rfl
    rw [er] at RR CB ⊢;have SP:=hide (NO.out b cb wr (RR.out.below KK.out))
    have LF:Hid (l.map (·.1)=L.calls):=by have:=LM.out;rw [ej,List.take_length] at this;exact this
    have EJ:=hide ej;have HLL:=hide hll;clear er YE NO RE RR CB ej LM hll HL;generalize L.tail.length=n1 at *
    go_wp2_with (go_at_call 62;refine SP.out.mono ?_;rintro e w1 ⟨rfl,ew⟩;have ew2:=ew.symm;subst ew2)
    go_ret
    exact ⟨a,cc,l,by rw [←EJ.out];rfl,LF.out,CC.out,KK.out⟩
end Go.Proofs.YtaijnacghiloaaaGreatDoor
