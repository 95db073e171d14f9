/-
  Several texts as one: ShUpF, ShUpL, ShChg, ShSaid, ShNew, ShPkL.
-/
import Derived.Test.YtaijnacghiloaaaGreatDoorRunT24
namespace Go.Proofs.YtaijnacghiloaaaGreatDoor
open Go.ChangeShapes Go.WideShapes Go.ChangeAt Go.RowKit Go.Lib Go.Maps
set_option linter.unusedVariables false
theorem up_fin {W V w7:World} {f:Nat} {T:Nat->Nat} {S:M.Sh} {mm ml:Nat} {D E:DataW Value} {kb:Nat->Nat} {mb:List Nat->Nat} {va:List Nat->Option Addr} {vc:List Nat->Nat} {G:Nat->Gr} (h:SV W f T S mm ml D E kb mb va vc G) {n:List Nat} (hb:isB n) {O:Gr} {mq pq cq s1 rc:Nat} {ra:Option Addr} {D':DataW Value} (hl:(S.l.length:Int)+1<=S.idx)
 (vs:StayBut (λ q=>q=mm/\M.posL S.l n = []) W V)
 (c2:(M.posL S.l n ≠ []->mq=mb n)/\(M.posL S.l n = []->s1<=mq)) (mv:mq<V.heap.size)
 (vm:Bx V mq [.slice ra (M.posL S.l n).length rc,ptB ((M.atN S n 2).map kb),ptB ((M.atN S n 3).map kb)])
 (vra:(M.posL S.l n ≠ []->ra=va n)/\(M.posL S.l n = []->ra=none))
 (vd:V.ownsMap Tryz.prog 9 selfE mm (M.names (M.addS S n O.m)) D') (cm:Maps.size D'=M.names (M.addS S n O.m)) (cd:(M.posL S.l n ≠ []->D'=D)/\(M.posL S.l n = []->D'=D.put (nmK n) (.held (ptB (some mq)))))
 (vg:GIn (λ q=>W.heap.size<=q/\q<s1) V O) (z1:W.heap.size<=s1) (z2:s1<=V.heap.size)
 (hov:w7.ownsRow 0 157 1 (.slice (some ⟨pq,0,none⟩) ((M.posL S.l n).length+1) cq) ((M.posL S.l n).length+1) (((M.posL S.l n).map λ k=>ptB (some (kb k))) ++ [ptB (some V.heap.size)]))
 (g1 : ∀ q,q<V.heap.size->(Value.slice ra (M.posL S.l n).length rc).ownBlock≠some q->w7.heap[q]? = V.heap[q]?)
 (g2:Bx w7 V.heap.size (kpL ⟨n,(M.many S n:Int)+1,1,0⟩ O)) (g3:w7.os=V.os/\w7.tape=V.tape/\w7.output=V.output)
 (hat:(Value.slice ra (M.posL S.l n).length rc).ownBlock=some pq∨pq=V.heap.size+1+1) :
 SV (w7.setCell ⟨mq,0,none⟩ (.slice (some ⟨pq,0,none⟩) ((M.posL S.l n).length+1) cq)) f (addT T W.heap.size (w7.setCell ⟨mq,0,none⟩ (.slice (some ⟨pq,0,none⟩) ((M.posL S.l n).length+1) cq)).heap.size V.heap.size mq pq) (M.addS S n O.m) mm ml D' E (λ j=>if j=S.l.length then V.heap.size else kb j) (λ x=>if x=n then mq else mb x) (λ x=>if x=n then some ⟨pq,0,none⟩ else va x) (λ x=>if x=n then cq else vc x) (λ j=>if j=S.l.length then O else G j)/\StayBut (λ q=>T q≠0) W (w7.setCell ⟨mq,0,none⟩ (.slice (some ⟨pq,0,none⟩) ((M.posL S.l n).length+1) cq)):=by
 have zV:=vs.size;have z7:V.heap.size<w7.heap.size:=g2.lt
 -- where the row lies
 have rp : ∀ q,(Value.slice ra (M.posL S.l n).length rc).ownBlock=some q->M.posL S.l n ≠ [] /\ ∃ p,va n=some p/\p.block=q:=λ q hq=>by
  by_cases hn:M.posL S.l n = []
  · rw [vra.2 hn] at hq;cases hq
  · refine ⟨hn, ?_⟩
    rw [vra.1 hn] at hq
    cases e:va n with
    | none=>rw [e] at hq;cases hq
    | some p=>rw [e] at hq;exact ⟨p,rfl,by cases hq;rfl⟩
 have rl : ∀ q,(Value.slice ra (M.posL S.l n).length rc).ownBlock=some q->q<W.heap.size/\T q=5:=λ q hq=>by
  obtain ⟨hn,p,hp,e⟩:=rp q hq;subst e;have t5:=h.rt n p hn hp
  exact ⟨h.tlt _ (by rw [t5];decide),t5⟩
 have mqn:(Value.slice ra (M.posL S.l n).length rc).ownBlock≠some mq:=λ e=>by
  obtain ⟨hn,p,hp,e2⟩:=rp mq e;have t5:=(rl mq e).2;rw [c2.1 hn,h.tb n hn] at t5;cases t5
 have mk:mq≠V.heap.size:=by omega
 have mp:mq≠pq:=λ e=>by
  rcases hat with z | z
  · exact mqn (by rw [z,e])
  · omega
 have mmq:mm≠mq:=λ e=>by
  by_cases hn:M.posL S.l n = []
  · have:=c2.2 hn
    have:=h.tlt mm (by rw [h.tm];decide);omega
  · have a:=h.tb n hn
    rw [←c2.1 hn,←e,h.tm] at a;cases a
 have mmr:(Value.slice ra (M.posL S.l n).length rc).ownBlock≠some mm:=λ e=>by
  have t5:=(rl mm e).2;rw [h.tm] at t5;cases t5
 have mml:mm<V.heap.size:=Nat.lt_of_lt_of_le (h.tlt mm (by rw [h.tm];decide)) zV;have oth : ∀ q,q≠mq->(w7.setCell ⟨mq,0,none⟩ (.slice (some ⟨pq,0,none⟩) ((M.posL S.l n).length+1) cq)).heap[q]? = w7.heap[q]? := λ q hq=>heap_setCell_other _ _ _ _ hq;have m7:Bx w7 mq [.slice ra (M.posL S.l n).length rc,ptB ((M.atN S n 2).map kb),ptB ((M.atN S n 3).map kb)]:=vm.keep (g1 mq mv mqn);have z8:(w7.setCell ⟨mq,0,none⟩ (.slice (some ⟨pq,0,none⟩) ((M.posL S.l n).length+1) cq)).heap.size=w7.heap.size:=World.size_setCell ..
 refine ⟨h.added hb hl (λ q q1 q2 q3 q4 q5 => ?_) ⟨c2.1,λ hn=>Nat.le_trans z1 (c2.2 hn)⟩ (m7.put (j:=0)) (own_keep_at hov (λ q hq=>oth q (by cases hq;exact Ne.symm mp))) ?_ (g2.else (Ne.symm mk)) zV (Ne.symm mk) (ownsMap_keep vd ((oth mm mmq).trans (g1 mm mml mmr))) cm cd ?_ (by omega), ?_⟩
 · rw [oth q q4,g1 q (by omega) (λ e=>by
    obtain ⟨hn,p,hp,e2⟩:=rp q e
    exact q5 p hn hp e2.symm)]
   exact vs.block q q1 (λ z=>q3 z.1)
 · rcases hat with z | z
   · exact .inr (rp pq z)
   · exact .inl ⟨by omega,by omega,Ne.symm mp⟩
 · refine vg.up (by omega) (λ q hq => ?_) (λ q hq=>⟨hq.1,by omega,by omega,λ e => ?_,λ e => ?_⟩)
   · rw [oth q (λ e=>by
      by_cases hn:M.posL S.l n = []
      · have:=c2.2 hn;omega
      · have:=h.tlt (mb n) (by rw [h.tb n hn];decide)
        rw [c2.1 hn] at e
        omega),g1 q (by omega) (λ e=>by have:=(rl q e).1;omega)]
   · by_cases hn:M.posL S.l n = []
     · have:=c2.2 hn;omega
     · have:=h.tlt (mb n) (by rw [h.tb n hn];decide)
       rw [c2.1 hn] at e;omega
   · rcases hat with z | z
     · have:=(rl pq z).1;omega
     · omega
 · refine ⟨(by show w7.os=W.os;rw [g3.1];exact vs.os),(by show w7.tape=W.tape;rw [g3.2.1];exact vs.tape),(by show w7.output=W.output;rw [g3.2.2];exact vs.output),by omega,λ q q1 q2 => ?_⟩
   have q2':T q=0:=by
    by_cases z:T q=0
    · exact z
    · exact absurd z q2
   rw [oth q (λ e=>by
    by_cases hn:M.posL S.l n = []
    · have:=c2.2 hn;omega
    · rw [e,c2.1 hn,h.tb n hn] at q2'
      cases q2'),g1 q (by omega) (λ e=>by
    have:=(rl q e).2;rw [q2'] at this
    cases this)]
   exact vs.block q q1 (λ z=>by
    rw [z.1,h.tm] at q2'
    cases q2')
def Left (W:World) (f:Nat) (T:Nat->Nat) (S:M.Sh) (w':World):Prop := ∃ T',SA w' f T' S/\StayBut (λ q=>T q≠0) W w' /\ ∀ q,T' q≠0->T q≠0∨W.heap.size<=q
def M.turn (s:M.Sh) (k:Nat) (c:M.Ca):Int×List (M.Vn×M.Gv):=if c.what=2 then M.tryF s k c.share else if c.what=3 then M.proF s k else M.retF s k
def M.chF (s:M.Sh) (c:M.Ca):Int×List (M.Vn×M.Gv):=match M.verN s c.name c.num with
 | none=>(5,s.l)
 | some k=>M.turn s k c
theorem M.act_ch {S:M.Sh} (h:Inv S) {c:M.Ca} (hw:c.what≠1):M.act S c=(0,M.chF S c):=by
 unfold M.act M.chF;rw [if_neg hw]
 cases hv:M.verN S c.name c.num with
 | none=>rfl
 | some k =>
   obtain ⟨_,hk,hp⟩:=M.find_more _ S.l 0 k hv;rw [Nat.sub_zero] at hk hp;have nm:(vAt S k).name=c.name:=(of_decide_eq_true (hp M.vg0)).1
   have st:(S.l.map λ v=>v.1.stage).getD k 0=(vAt S k).stage:=by show _=(S.l.getD k M.vg0).1.stage;simp [List.getD,hk]
   simp only;rw [st];unfold M.turn
   by_cases w2:c.what=2
   · rw [if_pos w2,if_pos w2]
     unfold M.tryF;rw [nm]
     by_cases a1:c.share<1∨99<c.share
     · rw [if_pos a1,if_pos a1]
     · rw [if_neg a1,if_neg a1]
       by_cases a2:(vAt S k).stage≠1
       · rw [if_pos a2,if_pos a2]
       · rw [if_neg a2,if_neg a2]
         by_cases a3:(M.atN S c.name 2).isSome=true
         · rw [if_pos a3,if_pos a3]
         · rw [if_neg a3,if_neg a3]
   · rw [if_neg w2,if_neg w2]
     by_cases w3:c.what=3
     · rw [if_pos w3,if_pos w3]
       unfold M.proF;rw [nm]
       by_cases a1:(vAt S k).stage≠1/\(vAt S k).stage≠2
       · rw [if_pos a1,if_pos a1]
       · rw [if_neg a1,if_neg a1]
         cases ho:M.atN S c.name 3 with
         | none=>rfl
         | some o =>
           obtain ⟨o1,o2,o3⟩:=M.at_is ho
           show (0,0,M.setV (M.setS S.l o 4) k 3 0)=(0,0,M.setV (M.setV S.l o 4 0) k 3 0)
           rw [M.setS_is (h.zr o o1 (by rw [o3];decide))]
     · rw [if_neg w3,if_neg w3]
       unfold M.retF
       by_cases a1:(vAt S k).stage=4
       · rw [if_pos a1,if_pos a1]
       · rw [if_neg a1,if_neg a1]
theorem caCells (w:World) (c:M.Ca) (a:Option Addr) (cap:Nat):Bx (w.alloc (.cells #[.int .i64 c.what, .int .i64 c.ses, .int .i64 c.seq, .string (byStr c.name), .int .i64 c.num, .int .i64 c.share, .slice a c.bys.length cap] 44)) w.heap.size [.int .i64 c.what, .int .i64 c.ses, .int .i64 c.seq, .string (byStr c.name), .int .i64 c.num, .int .i64 c.share, .slice a c.bys.length cap]:=bx_new w _ _
set_option maxHeartbeats 4000000 in
theorem sh_change0 {W:World} {m:Nat} {pc pl:Value} (hm:Bx W m [.slice none 0 0,pc,pl]) (c:M.Ca) (a:Option Addr) (cap:Nat) :
 Calls Tryz.prog 67 #[.pointer (some ⟨m,0,none⟩),caV c a cap] W λ e w'=>e = .returned (errV 5)/\Below W.heap.size W w':=by
 unfold caV
 obtain ⟨W1,hW1⟩ : ∃ X,X=W.alloc (.cells #[.int .i64 c.what, .int .i64 c.ses, .int .i64 c.seq, .string (byStr c.name), .int .i64 c.num, .int .i64 c.share, .slice a c.bys.length cap] 44):=⟨_,rfl⟩
 have b1:Hid (Below W.heap.size W W1):=by unfold Hid;rw [hW1];exact (Below.refl _ _).alloc (Nat.le_refl _) _
 have c4:=(caCells W c a cap).cell 4 _ rfl;have VE:=hide (sh_version0 (hm.keep (b1.out.block m hm.lt)) c.num);have E5:Hid (errV 5 = .iface 69 (.int .i64 5)):=err_some (by decide);rw [←hW1] at c4;clear hm
 go_enter Tryz.func67, Tryz.ntmps67
 go_upto_region 1 with fail
 rw [←hW1];clear hW1
 go_wp2_with (go_at_call 110;refine VE.out.mono ?_;rintro e w1 ⟨rfl,ew⟩;have ew2:=ew.symm;subst ew2)
 go_ret
 exact ⟨by rw [E5.out];rfl,b1.out⟩
set_option maxHeartbeats 8000000 in
theorem sh_change {W:World} {f:Nat} {T:Nat->Nat} {S:M.Sh} {mm ml:Nat} {D E:DataW Value} {kb:Nat->Nat} {mb:List Nat->Nat} {va:List Nat->Option Addr} {vc:List Nat->Nat} {G:Nat->Gr} (h:SV W f T S mm ml D E kb mb va vc G) (c:M.Ca) (a:Option Addr) (cap:Nat) (hn:M.posL S.l c.name ≠ []) (hi:I64 c.num) (hs:I64 c.share) (hw:c.what=2∨c.what=3∨c.what=4) :
 Calls Tryz.prog 67 #[.pointer (some ⟨mb c.name,0,none⟩),caV c a cap] W (TurnGives W f T S mm ml D E kb mb va vc (M.chF S c)):=by
 unfold caV
 obtain ⟨W1,hW1⟩ : ∃ X,X=W.alloc (.cells #[.int .i64 c.what, .int .i64 c.ses, .int .i64 c.seq, .string (byStr c.name), .int .i64 c.num, .int .i64 c.share, .slice a c.bys.length cap] 44):=⟨_,rfl⟩
 have b1:Hid (Below W.heap.size W W1):=by unfold Hid;rw [hW1];exact (Below.refl _ _).alloc (Nat.le_refl _) _
 have c4:=(caCells W c a cap).cell 4 _ rfl;have c0:=(caCells W c a cap).cell 0 _ rfl;have c5:=(caCells W c a cap).cell 5 _ rfl;rw [←hW1] at c4 c0 c5;have h1:=h.below b1.out;have VE:=hide (sh_version h1 hn hi);have S1:Hid (StayBut (λ q=>T q≠0) W W1):=stay_of b1.out (Nat.le_refl _)
 have UP:Hid (∀ r e w',TurnGives W1 f T S mm ml D E kb mb va vc r e w'->TurnGives W f T S mm ml D E kb mb va vc r e w'):=λ r e w' ⟨G',g1,g2,g3⟩=>⟨G',g1,g2,S1.out.trans g3⟩
 cases hv:M.verN S c.name c.num with
 | none =>
   have ER:Hid (M.chF S c=(5,S.l)):=by unfold Hid M.chF;rw [hv]
   have FIN:Hid (TurnGives W f T S mm ml D E kb mb va vc (M.chF S c) (.returned (.iface 69 (.int .i64 5))) W1):=by
    unfold Hid TurnGives;rw [ER.out]
    exact ⟨G,by rw [err_some (show (5:Int)≠0 by decide)],h1,S1.out⟩
   rw [hv] at VE;have P:Hid (ptB (Option.map kb none) = .pointer none):=rfl;rw [P.out] at VE;clear h h1 hn hi hs hv ER P UP;generalize mb c.name=m at *
   go_enter Tryz.func67, Tryz.ntmps67
   go_upto_region 1 with fail
   rw [←hW1];clear hW1
   go_wp2_with (go_at_call 110;refine VE.out.mono ?_;rintro e w1 ⟨rfl,ew⟩;have ew2:=ew.symm;subst ew2)
   go_ret
   exact FIN.out
 | some k =>
   obtain ⟨_,hk,hp⟩:=M.find_more _ S.l 0 k hv;rw [Nat.sub_zero] at hk hp;have nm:(vAt S k).name=c.name:=(of_decide_eq_true (hp M.vg0)).1
   have ER:Hid (M.chF S c=M.turn S k c):=by unfold Hid M.chF;rw [hv]
   rw [hv] at VE;have P:Hid (ptB (Option.map kb (some k)) = .pointer (some ⟨kb k,0,none⟩)):=rfl;rw [P.out] at VE;have T2:=hide (sh_try h1 hk c.share hs.1 hs.2);have T3:=hide (sh_promote h1 hk);have T4:=hide (sh_retire h1 hk);rw [nm] at T2 T3 T4;clear h h1 hn hi hs hv P hp nm;generalize mb c.name=m at *
   rcases hw with w2 | w2 | w2
   · have ER2:Hid (M.chF S c=M.tryF S k c.share):=by unfold Hid;rw [ER.out];unfold M.turn;rw [if_pos w2]
     have g1:(c.what == 2)=true:=by rw [w2];rfl
     rw [ER2.out];clear w2 ER ER2 T3 T4
     go_enter Tryz.func67, Tryz.ntmps67
     go_upto_region 1 with fail
     rw [←hW1];clear hW1
     go_wp2_with (first
      | (go_at_call 110;refine VE.out.mono ?_;rintro e w1 ⟨rfl,ew⟩;have ew2:=ew.symm;subst ew2)
      | (go_at_call 111;refine T2.out.mono ?_;rintro e w2 h2;have H2:=hide (UP.out _ _ _ h2);obtain ⟨G2,rfl,h3⟩:=h2;clear h3))
     go_ret
     exact H2.out
   · have ER2:Hid (M.chF S c=M.proF S k):=by unfold Hid;rw [ER.out];unfold M.turn;rw [if_neg (by rw [w2];decide),if_pos w2]
     have g1:(c.what == 2)=false:=by rw [w2];rfl
     have g2:(c.what == 3)=true:=by rw [w2];rfl
     rw [ER2.out];clear w2 ER ER2 T2 T4
     go_enter Tryz.func67, Tryz.ntmps67
     go_upto_region 1 with fail
     rw [←hW1];clear hW1
     go_wp2_with (first
      | (go_at_call 110;refine VE.out.mono ?_;rintro e w1 ⟨rfl,ew⟩;have ew2:=ew.symm;subst ew2)
      | (go_at_call 112;refine T3.out.mono ?_;rintro e w2 h2;have H2:=hide (UP.out _ _ _ h2);obtain ⟨G2,rfl,h3⟩:=h2;clear h3))
     go_ret
     exact H2.out
   · have ER2:Hid (M.chF S c=M.retF S k):=by unfold Hid;rw [ER.out];unfold M.turn;rw [if_neg (by rw [w2];decide),if_neg (by rw [w2];decide)]
     have g1:(c.what == 2)=false:=by rw [w2];rfl
     have g2:(c.what == 3)=false:=by rw [w2];rfl
     rw [ER2.out];clear w2 ER ER2 T2 T3
     go_enter Tryz.func67, Tryz.ntmps67
     go_upto_region 1 with fail
     rw [←hW1];clear hW1
     go_wp2_with (first
      | (go_at_call 110;refine VE.out.mono ?_;rintro e w1 ⟨rfl,ew⟩;have ew2:=ew.symm;subst ew2)
      | (go_at_call 113;refine T4.out.mono ?_;rintro e w2 h2;have H2:=hide (UP.out _ _ _ h2);obtain ⟨G2,rfl,h3⟩:=h2;clear h3))
     go_ret
     exact H2.out
theorem SV.count {W:World} {f:Nat} {T:Nat->Nat} {S:M.Sh} {mm ml:Nat} {D E:DataW Value} {kb:Nat->Nat} {mb:List Nat->Nat} {va:List Nat->Option Addr} {vc:List Nat->Nat} {G:Nat->Gr} (h:SV W f T S mm ml D E kb mb va vc G):SV (W.setCell ⟨f,2,none⟩ (.int .i64 (S.idx+1))) f T ⟨S.idx+1,S.l,S.done⟩ mm ml D E kb mb va vc G:=by
 have keep : ∀ q,T q≠1->(W.setCell ⟨f,2,none⟩ (.int .i64 (S.idx+1))).heap[q]? = W.heap[q]? := λ q hq=>heap_setCell_other _ _ _ _ (λ e=>hq (by rw [e];exact h.tf));have sz:(W.setCell ⟨f,2,none⟩ (.int .i64 (S.idx+1))).heap.size=W.heap.size:=World.size_setCell ..
 exact {
  inv:=⟨⟨h.inv.ok.one,h.inv.ok.shr,by have:=h.inv.ok.i0;show (0:Int)<=S.idx+1;omega,λ d hd hb=>by have:=h.inv.ok.ans d hd hb;refine ⟨this.1, ?_⟩;show d.ans.idx<=S.idx+1;omega⟩,h.inv.zr,h.inv.nu,by have:=h.inv.ll;show (S.l.length:Int)<=S.idx+1;omega,by have:=h.inv.dl;show (S.done.length:Int)<=S.idx+1;omega,h.inv.nb⟩
  tlt:=λ q hq=>by rw [sz];exact h.tlt q hq
  box:=h.box.put (j:=2)
  tf:=h.tf
  tm:=h.tm
  tl:=h.tl
  lo:=by
   obtain ⟨m,h1⟩:=h.lo
   exact ⟨m,ownsMap_keep h1 (keep ml (by rw [h.tl];decide))⟩
  lz:=h.lz
  la:=h.la
  ln:=h.ln
  mo:=ownsMap_keep h.mo (keep mm (by rw [h.tm];decide))
  mz:=h.mz
  mn:=h.mn
  ms:=h.ms
  tb:=h.tb
  mi:=h.mi
  mc:=λ n hn=>(h.mc n hn).keep (keep _ (by rw [h.tb n hn];decide))
  ro:=λ n hn=>own_keep_at (h.ro n hn) (λ q hq=>keep q (by
   cases e:va n with
   | none=>rw [e] at hq;cases hq
   | some p =>
     rw [e] at hq
     have hq':p.block=q:=by cases hq;rfl
     rw [←hq',h.rt n p hn e]
     decide))
  rt:=h.rt
  ri:=h.ri
  tk:=h.tk
  ki:=h.ki
  kc:=λ k hk'=>(h.kc k hk').keep (keep _ (by rw [h.tk k hk'];decide))
  kg:=λ k hk' hs=>⟨(h.kg k hk' hs).1,(h.kg k hk' hs).2.up (by rw [sz];exact Nat.le_refl _) (λ q hq=>keep q (by rw [hq];decide)) (λ q hq=>hq)⟩ }
theorem last_say {S:M.Sh} {d:M.Dn} (i:Int) (l:List (M.Vn×M.Gv)) (ses:Int):M.lastN ⟨i,l,M.say S.done (M.lastN S d.ses) d⟩ ses=if d.ses=ses then some ((M.lastN S d.ses).getD S.done.length) else M.lastN S ses:=by
 cases hl:M.lastN S d.ses with
 | none =>
   show M.findN (λ x:M.Dn=>decide (x.ses=ses)) (S.done ++ [d]) 0=_
   by_cases q:d.ses=ses
   · rw [if_pos q]
     subst q;have:=M.find_app (λ x:M.Dn=>decide (x.ses=d.ses)) d (by simp) S.done 0 hl;rw [this,Nat.zero_add];rfl
   · rw [if_neg q]
     show _=M.findN (λ x:M.Dn=>decide (x.ses=ses)) S.done 0
     have : ∀ (L:List M.Dn) (k:Nat),M.findN (λ x:M.Dn=>decide (x.ses=ses)) (L ++ [d]) k=M.findN (λ x:M.Dn=>decide (x.ses=ses)) L k:=λ L=>by
      induction L with
      | nil=>intro k;show (if decide (d.ses=ses)=true then some k else none)=none;rw [if_neg (by simpa using q)]
      | cons y L ih=>intro k;show (if decide (y.ses=ses)=true then some k else M.findN _ (L ++ [d]) (k+1))=(if decide (y.ses=ses)=true then some k else M.findN _ L (k+1));rw [ih]
     exact this _ _
 | some k =>
   show M.findN (λ x:M.Dn=>decide (x.ses=ses)) (S.done.set k d) 0=_;obtain ⟨_,k2,k3⟩:=M.find_more _ S.done 0 k hl;rw [Nat.sub_zero] at k2 k3
   by_cases q:d.ses=ses
   · rw [if_pos q]
     subst q;have:=M.find_set (λ x:M.Dn=>decide (x.ses=d.ses)) d (by simp) S.done 0 k hl;rw [Nat.sub_zero] at this;exact this
   · rw [if_neg q]
     show _=M.findN (λ x:M.Dn=>decide (x.ses=ses)) S.done 0
     have : ∀ (L:List M.Dn) (j b:Nat),(∀ h:j<L.length,L[j].ses=d.ses)->M.findN (λ x:M.Dn=>decide (x.ses=ses)) (L.set j d) b=M.findN (λ x:M.Dn=>decide (x.ses=ses)) L b:=λ L=>by
      induction L with
      | nil=>intro j b _;rfl
      | cons y L ih =>
        intro j b hj
        cases j with
        | zero =>
          have hy:y.ses=d.ses:=hj (by simp)
          show (if decide (d.ses=ses)=true then some b else M.findN _ L (b+1))=(if decide (y.ses=ses)=true then some b else M.findN _ L (b+1))
          rw [hy]
        | succ j =>
          show (if decide (y.ses=ses)=true then some b else M.findN _ (L.set j d) (b+1))=(if decide (y.ses=ses)=true then some b else M.findN _ L (b+1))
          rw [ih j (b+1) (λ h=>hj (by simpa using h))]
     refine this _ _ _ (λ h => ?_);have:=k3 d;rw [List.getD,List.getElem?_eq_getElem h] at this;exact of_decide_eq_true this
theorem done_say {S:M.Sh} {d:M.Dn}:(M.say S.done (M.lastN S d.ses) d).getD ((M.lastN S d.ses).getD S.done.length) dn0=d /\ ∀ ses k,M.lastN S ses=some k->ses≠d.ses->(M.say S.done (M.lastN S d.ses) d).getD k dn0=S.done.getD k dn0:=by
 cases hl:M.lastN S d.ses with
 | none =>
   refine ⟨by show (S.done ++ [d]).getD S.done.length dn0=d;simp [List.getD],λ ses k hk hne => ?_⟩
   obtain ⟨_,k2,_⟩:=M.find_more _ S.done 0 k hk;rw [Nat.sub_zero] at k2;show (S.done ++ [d]).getD k dn0=_;simp [List.getD,List.getElem?_append_left k2]
 | some j =>
   obtain ⟨_,j2,j3⟩:=M.find_more _ S.done 0 j hl;rw [Nat.sub_zero] at j2 j3
   refine ⟨by show (S.done.set j d).getD j dn0=d;simp [List.getD,j2],λ ses k hk hne => ?_⟩
   obtain ⟨_,k2,k3⟩:=M.find_more _ S.done 0 k hk;rw [Nat.sub_zero] at k2 k3
   have jk:j≠k:=λ e=>by
    subst e;have a:=of_decide_eq_true (j3 dn0);have b:=of_decide_eq_true (k3 dn0);exact hne (b.symm.trans a)
   show (S.done.set j d).getD k dn0=_;simp [List.getD,List.getElem?_set_ne jk]
theorem say_len {S:M.Sh} {d:M.Dn}:(M.say S.done (M.lastN S d.ses) d).length<=S.done.length+1:=by
 cases M.lastN S d.ses with
 | none=>show (S.done ++ [d]).length<=_;simp
 | some k=>show (S.done.set k d).length<=_;simp
theorem say_mem {S:M.Sh} {d x:M.Dn} (h:x∈M.say S.done (M.lastN S d.ses) d):x∈S.done∨x=d:=by
 cases e:M.lastN S d.ses with
 | none =>
   rw [e] at h;have h':x∈S.done ++ [d]:=h
   simpa using h'
 | some k =>
   rw [e] at h;have h':x∈S.done.set k d:=h;exact List.mem_or_eq_of_mem_set h'
theorem isKeyI (x:Int) (h1 : -9223372036854775808<=x) (h2:x<=9223372036854775807):WideAt.IsKeyLit (.int .i64 x):=keyI.key (keyOf_int_mk Tryz.underlying3 (WalkArith.wf_i64 ⟨h1,h2⟩))
theorem SV.said {W W':World} {f:Nat} {T:Nat->Nat} {S:M.Sh} {mm ml:Nat} {D E:DataW Value} {kb:Nat->Nat} {mb:List Nat->Nat} {va:List Nat->Option Addr} {vc:List Nat->Nat} {G:Nat->Gr} (h:SV W f T S mm ml D E kb mb va vc G) {d:M.Dn} {m:Nat} (hd:(S.done.length:Int)+1<=S.idx) (hs:0<=d.ses/\d.ses<=1000000) (ha:d.bad=0->1<=d.ans.idx/\d.ans.idx<=S.idx) (ho:W'.ownsMap Tryz.prog 3 selfE ml m (E.put (.int .i64 d.ses) (.held (lastV d)))) (hg:W.grownBy W' (some ml)) :
 SV W' f T ⟨S.idx,S.l,M.say S.done (M.lastN S d.ses) d⟩ mm ml D (E.put (.int .i64 d.ses) (.held (lastV d))) kb mb va vc G:=by
 have keep : ∀ q,T q≠0->T q≠3->W'.heap[q]? = W.heap[q]? := λ q h0 hq=>hg.block q (h.tlt q h0) (λ e=>hq (by cases e;exact h.tl));have kd:=isKeyI d.ses (by omega) (by omega)
 exact {
  inv:=⟨⟨h.inv.ok.one,h.inv.ok.shr,h.inv.ok.i0,λ x hx hb=>by
   rcases say_mem hx with z | z
   · exact h.inv.ok.ans x z hb
   · subst z;exact ha hb⟩,h.inv.zr,h.inv.nu,h.inv.ll,by have:=say_len (S:=S) (d:=d);show ((M.say S.done (M.lastN S d.ses) d).length:Int)<=S.idx;omega,h.inv.nb⟩
  tlt:=λ q hq=>Nat.lt_of_lt_of_le (h.tlt q hq) hg.size
  box:=h.box.keep (keep f (by rw [h.tf];decide) (by rw [h.tf];decide))
  tf:=h.tf
  tm:=h.tm
  tl:=h.tl
  lo:=⟨m,ho⟩
  lz:=by
   obtain ⟨m0,h1⟩:=h.lo;rw [size_put (h1.tidy keyI),h.lz];show _=(M.say S.done (M.lastN S d.ses) d).length
   cases hl:M.lastN S d.ses with
   | none=>rw [h.ln d.ses hl];show _=(S.done ++ [d]).length;simp
   | some k=>rw [has_true_of_atKey (h.la d.ses k hl)];show _=(S.done.set k d).length;simp
  la:=λ ses k hk z=>by
   rw [last_say] at hk;show _=DataW.held (lastV ((M.say S.done (M.lastN S d.ses) d).getD k dn0))
   by_cases q:d.ses=ses
   · rw [if_pos q] at hk
     cases hk;subst q;obtain ⟨m0,h1⟩:=h.lo;rw [atKey_put_same h1.isMap kd,done_say.1]
   · rw [if_neg q] at hk
     rw [atKey_put_other (by intro e;cases e;exact q rfl),done_say.2 ses k hk (Ne.symm q)];exact h.la ses k hk z
  ln:=λ ses hk=>by
   rw [last_say] at hk
   by_cases q:d.ses=ses
   · rw [if_pos q] at hk;cases hk
   · rw [if_neg q] at hk
     rw [has_put_other (by intro e;cases e;exact q rfl)];exact h.ln ses hk
  mo:=ownsMap_keep h.mo (keep mm (by rw [h.tm];decide) (by rw [h.tm];decide))
  mz:=h.mz
  mn:=h.mn
  ms:=h.ms
  tb:=h.tb
  mi:=h.mi
  mc:=λ n hn=>(h.mc n hn).keep (keep _ (by rw [h.tb n hn];decide) (by rw [h.tb n hn];decide))
  ro:=λ n hn=>own_keep_at (h.ro n hn) (λ q hq=>by
   cases e:va n with
   | none=>rw [e] at hq;cases hq
   | some p =>
     rw [e] at hq
     have hq':p.block=q:=by cases hq;rfl
     have t5:=h.rt n p hn e;rw [hq'] at t5
     exact keep q (by rw [t5];decide) (by rw [t5];decide))
  rt:=h.rt
  ri:=h.ri
  tk:=h.tk
  ki:=h.ki
  kc:=λ k hk'=>(h.kc k hk').keep (keep _ (by rw [h.tk k hk'];decide) (by rw [h.tk k hk'];decide))
  kg:=λ k hk' hs=>⟨(h.kg k hk' hs).1,(h.kg k hk' hs).2.up hg.size (λ q hq=>keep q (by rw [hq];decide) (by rw [hq];decide)) (λ q hq=>hq)⟩ }
theorem inv_zero:Inv M.sh0 where
 ok:=M.ok_zero
 zr:=λ k hk=>by simp [M.sh0] at hk
 nu:=λ k d hk=>by simp [M.sh0,M.kyL] at hk
 ll:=Int.le_refl _
 dl:=Int.le_refl _
 nb:=λ k hk=>by simp [M.sh0] at hk
def newT (B:Nat) (q:Nat):Nat:=if q=B+1+1 then 1 else if q=B then 2 else if q=B+1 then 3 else 0
set_option maxHeartbeats 4000000 in
theorem sh_New (W:World):Calls Tryz.prog 11 #[] W λ e w' => ∃ f T,e = .returned (.pointer (some ⟨f,0,none⟩))/\SA w' f T M.sh0/\Below W.heap.size W w' /\ ∀ q,T q≠0->W.heap.size<=q:=by
 have hmm := @run_makeMap Tryz.prog
 have FIN:Hid (SA (((W.alloc (.map #[] 0)).alloc (.map #[] 0)).alloc (.cells #[.map (some W.heap.size), .map (some (W.heap.size+1)), .int .i64 0] 89)) (W.heap.size+1+1) (newT W.heap.size) M.sh0/\Below W.heap.size W (((W.alloc (.map #[] 0)).alloc (.map #[] 0)).alloc (.cells #[.map (some W.heap.size), .map (some (W.heap.size+1)), .int .i64 0] 89))):=by
  have z2:((W.alloc (.map #[] 0)).alloc (.map #[] 0)).heap.size=W.heap.size+1+1:=by simp
  have z1:(W.alloc (.map #[] 0)).heap.size=W.heap.size+1:=by simp
  have o1:=World.ownsMap_made W Tryz.prog 9 selfE;have o2:=World.ownsMap_made (W.alloc (.map #[] 0)) Tryz.prog 3 selfE;rw [z1] at o2;have bx:=bx_new ((W.alloc (.map #[] 0)).alloc (.map #[] 0)) [.map (some W.heap.size), .map (some (W.heap.size+1)), .int .i64 0] 89;rw [z2] at bx;have pn : ∀ n,M.posL M.sh0.l n = []:=λ n=>rfl
  have t1:newT W.heap.size (W.heap.size+1+1)=1:=by unfold newT;rw [if_pos rfl]
  have t2:newT W.heap.size W.heap.size=2:=by unfold newT;rw [if_neg (by omega),if_pos rfl]
  have t3:newT W.heap.size (W.heap.size+1)=3:=by unfold newT;rw [if_neg (by omega),if_neg (by omega),if_pos rfl]
  refine ⟨⟨W.heap.size,W.heap.size+1, .map [], .map [],λ _=>0,λ _=>0,λ _=>none,λ _=>0,λ _=>⟨0,0,none, [],0,none, [],0⟩, ?_⟩,(((Below.refl _ _).alloc (Nat.le_refl _) _).alloc (by simp) _).alloc (by simp;omega) _⟩
  exact {
   inv:=inv_zero
   tlt:=λ q hq=>by
    unfold newT at hq;simp only [World.alloc]
    by_cases q1:q=W.heap.size+1+1
    · subst q1;simp
    · rw [if_neg q1] at hq
      by_cases q2:q=W.heap.size
      · subst q2;simp;omega
      · rw [if_neg q2] at hq
        by_cases q3:q=W.heap.size+1
        · subst q3;simp
        · rw [if_neg q3] at hq;exact absurd rfl hq
   box:=bx
   tf:=t1
   tm:=t2
   tl:=t3
   lo:=⟨0,o2.alloc _⟩
   lz:=rfl
   la:=λ ses k hk=>by cases hk
   ln:=λ ses _=>rfl
   mo:=(o1.alloc _).alloc _
   mz:=rfl
   mn:=λ n _ _=>rfl
   ms:=λ n hn=>absurd (pn n) hn
   tb:=λ n hn=>absurd (pn n) hn
   mi:=λ n n' hn=>absurd (pn n) hn
   mc:=λ n hn=>absurd (pn n) hn
   ro:=λ n hn=>absurd (pn n) hn
   rt:=λ n p hn=>absurd (pn n) hn
   ri:=λ n n' p p' hn=>absurd (pn n) hn
   tk:=λ k hk=>by simp [M.sh0] at hk
   ki:=λ k j hk=>by simp [M.sh0] at hk
   kc:=λ k hk=>by simp [M.sh0] at hk
   kg:=λ k hk=>by simp [M.sh0] at hk }
 go_enter Tryz.func11, Tryz.ntmps11
 go_wp2
 go_ret
 refine ⟨_,_,rfl,FIN.out.1,FIN.out.2,λ q hq => ?_⟩
 unfold newT at hq
 by_cases q1:q=W.heap.size+1+1
 · omega
 · rw [if_neg q1] at hq
   by_cases q2:q=W.heap.size
   · omega
   · rw [if_neg q2] at hq
     by_cases q3:q=W.heap.size+1
     · omega
     · rw [if_neg q3] at hq;exact absurd rfl hq
theorem sh_Index {W:World} {f:Nat} {T:Nat->Nat} {S:M.Sh} (h:SA W f T S):Calls Tryz.prog 31 #[.pointer (some ⟨f,0,none⟩)] W λ e w'=>e = .returned (.int .i64 S.idx)/\w'=W:=by
 obtain ⟨mm,ml,D,E,kb,mb,va,vc,G,h⟩:=h;have c2:=h.box.cell 2 _ rfl;clear h
 go_enter Tryz.func31, Tryz.ntmps31
 go_wp2
 go_ret
 exact ⟨rfl,rfl⟩
theorem keyOfW {n:List Nat} (h:n.length<=9223372036854775807):keyOf Tryz.prog 9 (.string (byStr n))=some (nmK n):=by
 have e:=Go.WideMaps.keyOf_string_mk (P := Tryz.prog) (k := 9) Tryz.underlying9 (s:=byStr n) (by
  have:(byStr n).size=n.length:=by
   have:=congrArg List.length (byStr_list n)
   simpa using this
  rw [this];unfold maxLen;omega)
 rw [e,byStr_list];rfl
theorem SV.lookW {W:World} {f:Nat} {T:Nat->Nat} {S:M.Sh} {mm ml:Nat} {D E:DataW Value} {kb:Nat->Nat} {mb:List Nat->Nat} {va:List Nat->Option Addr} {vc:List Nat->Nat} {G:Nat->Gr} (h:SV W f T S mm ml D E kb mb va vc G) {n:List Nat} (hl:n.length<=9223372036854775807) (hn:M.posL S.l n ≠ []):(Instr.lookup 86 (.map (some mm)) (.string (byStr n)) false).run Tryz.prog W = .ok (.pointer (some ⟨mb n,0,none⟩)) W:=by
 obtain ⟨v,ps,hrun,hv⟩:=h.mo.lookup keyS Tryz.underlying86 (zeroM W) (zd := .held (.pointer none)) rfl (keyOfW hl);rw [h.ms n hn] at hv;unfold selfE at hv;simp only [Option.some.injEq,Prod.mk.injEq,DataW.held.injEq] at hv;rw [hrun,hv.1];rfl
theorem SV.look0W {W:World} {f:Nat} {T:Nat->Nat} {S:M.Sh} {mm ml:Nat} {D E:DataW Value} {kb:Nat->Nat} {mb:List Nat->Nat} {va:List Nat->Option Addr} {vc:List Nat->Nat} {G:Nat->Gr} (h:SV W f T S mm ml D E kb mb va vc G) {n:List Nat} (hb:isB n) (hl:n.length<=9223372036854775807) (hn:M.posL S.l n = []):(Instr.lookup 86 (.map (some mm)) (.string (byStr n)) false).run Tryz.prog W = .ok (.pointer none) W:=by
 obtain ⟨v,ps,hrun,hv⟩:=h.mo.lookup keyS Tryz.underlying86 (zeroM W) (zd := .held (.pointer none)) rfl (keyOfW hl);rw [atKey_of_not_has (h.mn n hb hn)] at hv;unfold selfE at hv;simp only [Option.some.injEq,Prod.mk.injEq,DataW.held.injEq] at hv;rw [hrun,hv.1]
set_option maxHeartbeats 4000000 in
theorem sh_modelW {W:World} {f:Nat} {T:Nat->Nat} {S:M.Sh} {mm ml:Nat} {D E:DataW Value} {kb:Nat->Nat} {mb:List Nat->Nat} {va:List Nat->Option Addr} {vc:List Nat->Nat} {G:Nat->Gr} (h:SV W f T S mm ml D E kb mb va vc G) {n:List Nat} (hl:n.length<=9223372036854775807) (hn:M.posL S.l n ≠ []) :
 Calls Tryz.prog 66 #[.pointer (some ⟨f,0,none⟩), .string (byStr n)] W λ e w'=>e = .returned (.pointer (some ⟨mb n,0,none⟩))/\w'=W:=by
 have hrun:=h.lookW hl hn;have c0:=h.box.cell 0 _ rfl;clear h hl hn;generalize byStr n=s at *;generalize mb n=b at *
 go_enter Tryz.func66, Tryz.ntmps66
 go_wp2
 go_ret
 exact ⟨rfl,rfl⟩
set_option maxHeartbeats 4000000 in
theorem sh_model0W {W:World} {f:Nat} {T:Nat->Nat} {S:M.Sh} {mm ml:Nat} {D E:DataW Value} {kb:Nat->Nat} {mb:List Nat->Nat} {va:List Nat->Option Addr} {vc:List Nat->Nat} {G:Nat->Gr} (h:SV W f T S mm ml D E kb mb va vc G) {n:List Nat} (hb:isB n) (hl:n.length<=9223372036854775807) (hn:M.posL S.l n = []) :
 Calls Tryz.prog 66 #[.pointer (some ⟨f,0,none⟩), .string (byStr n)] W λ e w'=>e = .returned (.pointer (some ⟨W.heap.size,0,none⟩))/\w'=W.alloc (.cells #[.slice none 0 0, .pointer none, .pointer none] 159):=by
 have hrun:=h.look0W hb hl hn;have c0:=h.box.cell 0 _ rfl;clear h hl hn hb;generalize byStr n=s at *
 go_enter Tryz.func66, Tryz.ntmps66
 go_wp2
 go_ret
 exact ⟨rfl,rfl⟩
set_option maxHeartbeats 8000000 in
set_option maxRecDepth 10000 in
theorem sh_PickW {W:World} {f:Nat} {T:Nat->Nat} {S:M.Sh} {mm ml:Nat} {D E:DataW Value} {kb:Nat->Nat} {mb:List Nat->Nat} {va:List Nat->Option Addr} {vc:List Nat->Nat} {G:Nat->Gr} (h:SV W f T S mm ml D E kb mb va vc G) {n:List Nat} (hb:isB n) (hl:n.length<=9223372036854775807) (key:Int) :
 Calls Tryz.prog 58 #[.pointer (some ⟨f,0,none⟩), .string (byStr n), .int .i64 key] W λ e w'=>e = .returned (.tuple #[vnV (M.pickV S n key),errV (M.pickF S n key)])/\Below W.heap.size W w':=by
 obtain ⟨W1,hW1⟩ : ∃ X,X=W.alloc (.cells #[.string ⟨#[]⟩, .int .i64 0, .int .i64 0, .int .i64 0] 122):=⟨_,rfl⟩
 have b1:Below W.heap.size W W1:=by rw [hW1];exact (Below.refl _ _).alloc (Nat.le_refl _) _
 have h1:=h.below b1;have B1:=hide b1
 by_cases bad:M.timeB key=false
 · have E1:Hid (M.pickV S n key=M.vn0/\M.pickF S n key=1):=by unfold Hid M.pickV M.pickF;rw [if_pos bad,if_pos bad];exact ⟨rfl,rfl⟩
   rw [E1.out.1,E1.out.2,err_some (show (1:Int)≠0 by decide)]
   have ways:decide (key<0)=true∨(decide (key<0)=false/\decide (1000000<key)=true):=by
    unfold M.timeB at bad;simp only [decide_eq_true_iff,decide_eq_false_iff_not,Bool.and_eq_false_iff] at bad ⊢;omega
   have FIN:Hid ((Bx W1 W.heap.size [.string ⟨#[]⟩, .int .i64 0, .int .i64 0, .int .i64 0]/\Bx ((((W1.setCell ⟨W.heap.size,0,none⟩ (.string ⟨#[]⟩)).setCell ⟨W.heap.size,1,none⟩ (.int .i64 0)).setCell ⟨W.heap.size,2,none⟩ (.int .i64 0)).setCell ⟨W.heap.size,3,none⟩ (.int .i64 0)) W.heap.size [.string ⟨#[]⟩, .int .i64 0, .int .i64 0, .int .i64 0])/\Below W.heap.size W ((((W1.setCell ⟨W.heap.size,0,none⟩ (.string ⟨#[]⟩)).setCell ⟨W.heap.size,1,none⟩ (.int .i64 0)).setCell ⟨W.heap.size,2,none⟩ (.int .i64 0)).setCell ⟨W.heap.size,3,none⟩ (.int .i64 0))):=by
    rw [hW1];exact box_out (Below.refl _ _)
   have EV:Hid (vnV M.vn0 = .agg #[.string ⟨#[]⟩, .int .i64 0, .int .i64 0, .int .i64 0]):=rfl;rw [EV.out];obtain ⟨⟨k0,k1⟩,k2⟩:=FIN.out;have r0:=k0.cell 0 _ rfl;have r1:=k0.cell 1 _ rfl;have r2:=k0.cell 2 _ rfl;have r3:=k0.cell 3 _ rfl;have f0:=k0.free 0;have f1:=k0.free 1;have f2:=k0.free 2;have f3:=k0.free 3;have e0:=k1.cell 0 _ rfl;have e1:=k1.cell 1 _ rfl;have e2:=k1.cell 2 _ rfl;have e3:=k1.cell 3 _ rfl;have K2:=hide k2;clear k0 k1 k2 FIN h h1 bad E1 b1 hb hl;generalize byStr n=s at *
   rcases ways with g1 | ⟨g1,g2⟩
   all_goals (
    go_enter Tryz.func58, Tryz.ntmps58
    go_upto_region 1 with fail
    rw [←hW1];clear hW1
    go_wp2
    refine bodyPost_ret (v := .tuple #[.agg #[.string ⟨#[]⟩, .int .i64 0, .int .i64 0, .int .i64 0], .iface 69 (.int .i64 1)]) (by simp [results, Tryz.results58,go_sem,e0,e1,e2,e3]) rfl ?_
    exact ⟨rfl,K2.out⟩)
 have E1:Hid (M.pickV S n key=M.told S (M.pickO S n key)/\M.pickF S n key=M.toldF (M.pickO S n key)):=by unfold Hid M.pickV M.pickF;rw [if_neg bad,if_neg bad];exact ⟨rfl,rfl⟩
 rw [E1.out.1,E1.out.2]
 have kr:0<=key/\key<=1000000:=by
  unfold M.timeB at bad;simp only [Bool.and_eq_false_iff,decide_eq_false_iff_not] at bad;omega
 have g1:decide (key<0)=false:=decide_eq_false (by omega);have g2:decide (1000000<key)=false:=decide_eq_false (by omega);have k37:IntKind.i64.wrap (key*37)=key*37:=wrap_i64n (by omega) (by omega);obtain ⟨kr1,kr2⟩:=kr
 have TD:Hid (∀ o,(o=M.pickO S n key) -> ∀ w,Below W.heap.size W w->Calls Tryz.prog 92 #[ptB (o.map kb)] w λ e w'=>e = .returned (.tuple #[vnV (M.told S o),errV (M.toldF o)])/\Below w.heap.size w w'):=λ o ho w hw=>sh_told (h.below hw) (λ k hk=>by
  rw [ho] at hk;unfold M.pickO at hk
  cases e:M.atN S n 2 with
  | none=>rw [e] at hk;exact (M.at_is hk).1
  | some c =>
    rw [e] at hk;simp only at hk
    split at hk
    · cases hk;exact (M.at_is e).1
    · exact (M.at_is hk).1)
 have FIN:Hid (∀ o, ∀ w,Below W1.heap.size W1 w->(Bx w W.heap.size [.string ⟨#[]⟩, .int .i64 0, .int .i64 0, .int .i64 0]/\Bx ((((w.setCell ⟨W.heap.size,0,none⟩ (.string (byStr (M.told S o).name))).setCell ⟨W.heap.size,1,none⟩ (.int .i64 (M.told S o).num)).setCell ⟨W.heap.size,2,none⟩ (.int .i64 (M.told S o).stage)).setCell ⟨W.heap.size,3,none⟩ (.int .i64 (M.told S o).share)) W.heap.size [.string (byStr (M.told S o).name), .int .i64 (M.told S o).num, .int .i64 (M.told S o).stage, .int .i64 (M.told S o).share])/\Below W.heap.size W ((((w.setCell ⟨W.heap.size,0,none⟩ (.string (byStr (M.told S o).name))).setCell ⟨W.heap.size,1,none⟩ (.int .i64 (M.told S o).num)).setCell ⟨W.heap.size,2,none⟩ (.int .i64 (M.told S o).stage)).setCell ⟨W.heap.size,3,none⟩ (.int .i64 (M.told S o).share))):=λ o w hw=>by
  rw [hW1] at hw;exact box_out hw
 obtain ⟨o,ho⟩ : ∃ o,o=M.pickO S n key:=⟨_,rfl⟩
 have TD:=hide (TD.out o ho);have FIN:=hide (FIN.out o);rw [←ho]
 by_cases hn:M.posL S.l n = []
 · have EO:Hid (M.pickO S n key=none):=by unfold Hid M.pickO;rw [at_no hn,at_no hn]
   have MD:=hide (sh_model0W h1 hb hl hn);have BM:Hid (Below W1.heap.size W1 (W1.alloc (.cells #[.slice none 0 0, .pointer none, .pointer none] 159))):=(Below.refl _ _).alloc (Nat.le_refl _) _;have CM:Hid (Bx (W1.alloc (.cells #[.slice none 0 0, .pointer none, .pointer none] 159)) W1.heap.size [.slice none 0 0, .pointer none, .pointer none]):=bx_new W1 _ _
   have PN:Hid (ptB (o.map kb) = .pointer none):=by unfold Hid;rw [ho,EO.out];rfl
   rw [PN.out] at TD;unfold vnV at TD ⊢;clear h h1 hb hl hn b1 PN EO E1 bad ho;generalize byStr n=s at *;generalize byStr (M.told S o).name=x0 at *;generalize (M.told S o).num=x1 at *;generalize (M.told S o).stage=x2 at *;generalize (M.told S o).share=x3 at *;generalize errV (M.toldF o)=ev at *
   go_enter Tryz.func58, Tryz.ntmps58
   go_upto_region 1 with fail
   rw [←hW1];clear hW1;have m1:=CM.out.cell 1 _ rfl;have m2:=CM.out.cell 2 _ rfl
   go_wp2_with (first
    | (go_at_call 66;refine MD.out.mono ?_;rintro e w2 ⟨rfl,e2⟩;have e2':=e2;subst e2')
    | (go_at_call 92;refine (TD.out _ (below_on B1.out BM.out)).mono ?_;rintro e w3 ⟨rfl,b3⟩;obtain ⟨⟨k0,k1⟩,k2⟩:=FIN.out _ (below_on BM.out b3);have r0:=k0.cell 0 _ rfl;have r1:=k0.cell 1 _ rfl;have r2:=k0.cell 2 _ rfl;have r3:=k0.cell 3 _ rfl;have f0:=k0.free 0;have f1:=k0.free 1;have f2:=k0.free 2;have f3:=k0.free 3;have e0:=k1.cell 0 _ rfl;have e1:=k1.cell 1 _ rfl;have e2:=k1.cell 2 _ rfl;have e3:=k1.cell 3 _ rfl;have K2:=hide k2;clear k0 k1 k2 b3))
   refine bodyPost_ret (v := .tuple #[.agg #[.string x0, .int .i64 x1, .int .i64 x2, .int .i64 x3],ev]) (by simp [results, Tryz.results58,go_sem,e0,e1,e2,e3]) rfl ?_
   exact ⟨rfl,K2.out⟩
 have MD:=hide (sh_modelW h1 hl hn);have m1:=(h1.mc n hn).cell 1 _ rfl;have m2:=(h1.mc n hn).cell 2 _ rfl
 cases hc:M.atN S n 2 with
 | none =>
   have EO:Hid (o=M.atN S n 3):=by unfold Hid;rw [ho];unfold M.pickO;rw [hc]
   rw [hc] at m1;replace m1:W1.cell? ⟨mb n,1,none⟩=some (.pointer none):=m1;rw [←EO.out] at m2;unfold vnV at TD ⊢;clear h h1 hb hl hn b1 EO E1 bad ho hc;generalize ptB (o.map kb)=pv at *;generalize byStr n=s at *;generalize mb n=mq at *;generalize byStr (M.told S o).name=x0 at *;generalize (M.told S o).num=x1 at *;generalize (M.told S o).stage=x2 at *;generalize (M.told S o).share=x3 at *;generalize errV (M.toldF o)=ev at *
   go_enter Tryz.func58, Tryz.ntmps58
   go_upto_region 1 with fail
   rw [←hW1];clear hW1
   go_wp2_with (first
    | (go_at_call 66;refine MD.out.mono ?_;rintro e w2 ⟨rfl,e2⟩;have e2':=e2.symm;subst e2')
    | (go_at_call 92;refine (TD.out _ B1.out).mono ?_;rintro e w3 ⟨rfl,b3⟩;obtain ⟨⟨k0,k1⟩,k2⟩:=FIN.out _ b3;have r0:=k0.cell 0 _ rfl;have r1:=k0.cell 1 _ rfl;have r2:=k0.cell 2 _ rfl;have r3:=k0.cell 3 _ rfl;have f0:=k0.free 0;have f1:=k0.free 1;have f2:=k0.free 2;have f3:=k0.free 3;have e0:=k1.cell 0 _ rfl;have e1:=k1.cell 1 _ rfl;have e2:=k1.cell 2 _ rfl;have e3:=k1.cell 3 _ rfl;have K2:=hide k2;clear k0 k1 k2 b3))
   refine bodyPost_ret (v := .tuple #[.agg #[.string x0, .int .i64 x1, .int .i64 x2, .int .i64 x3],ev]) (by simp [results, Tryz.results58,go_sem,e0,e1,e2,e3]) rfl ?_
   exact ⟨rfl,K2.out⟩
 | some c =>
   obtain ⟨k1',k2',k3'⟩:=M.at_is hc;rw [hc] at m1;replace m1:W1.cell? ⟨mb n,1,none⟩=some (.pointer (some ⟨kb c,0,none⟩)):=m1;have s3:=(h1.kc c k1').cell 3 _ rfl
   by_cases lt:key*37 % 100<(vAt S c).share
   · have EO:Hid (o=some c):=by unfold Hid;rw [ho];unfold M.pickO;rw [hc];exact if_pos lt
     have t1:decide (key*37 % 100<(vAt S c).share)=true:=decide_eq_true lt
     have PN:Hid (ptB (o.map kb) = .pointer (some ⟨kb c,0,none⟩)):=by unfold Hid;rw [EO.out];rfl
     rw [PN.out] at TD;unfold vnV at TD ⊢;clear h h1 hb hl hn b1 EO E1 bad ho hc PN lt k1' k2' k3' m2;generalize byStr n=s at *;generalize mb n=mq at *;generalize kb c=kq at *;generalize (vAt S c).share=sh at *;generalize byStr (M.told S o).name=x0 at *;generalize (M.told S o).num=x1 at *;generalize (M.told S o).stage=x2 at *;generalize (M.told S o).share=x3 at *;generalize errV (M.toldF o)=ev at *
     go_enter Tryz.func58, Tryz.ntmps58
     go_upto_region 1 with fail
     rw [←hW1];clear hW1
     go_wp2_with (first
      | (go_at_call 66;refine MD.out.mono ?_;rintro e w2 ⟨rfl,e2⟩;have e2':=e2.symm;subst e2')
      | (go_at_call 92;refine (TD.out _ B1.out).mono ?_;rintro e w3 ⟨rfl,b3⟩;obtain ⟨⟨k0,k1⟩,k2⟩:=FIN.out _ b3;have r0:=k0.cell 0 _ rfl;have r1:=k0.cell 1 _ rfl;have r2:=k0.cell 2 _ rfl;have r3:=k0.cell 3 _ rfl;have f0:=k0.free 0;have f1:=k0.free 1;have f2:=k0.free 2;have f3:=k0.free 3;have e0:=k1.cell 0 _ rfl;have e1:=k1.cell 1 _ rfl;have e2:=k1.cell 2 _ rfl;have e3:=k1.cell 3 _ rfl;have K2:=hide k2;clear k0 k1 k2 b3))
     refine bodyPost_ret (v := .tuple #[.agg #[.string x0, .int .i64 x1, .int .i64 x2, .int .i64 x3],ev]) (by simp [results, Tryz.results58,go_sem,e0,e1,e2,e3]) rfl ?_
     exact ⟨rfl,K2.out⟩
   · have EO:Hid (o=M.atN S n 3):=by unfold Hid;rw [ho];unfold M.pickO;rw [hc];exact if_neg lt
     have t1:decide (key*37 % 100<(vAt S c).share)=false:=decide_eq_false lt;rw [←EO.out] at m2;unfold vnV at TD ⊢;clear h h1 hb hl hn b1 EO E1 bad ho hc lt k1' k2' k3';generalize ptB (o.map kb)=pv at *;generalize byStr n=s at *;generalize mb n=mq at *;generalize kb c=kq at *;generalize (vAt S c).share=sh at *;generalize byStr (M.told S o).name=x0 at *;generalize (M.told S o).num=x1 at *;generalize (M.told S o).stage=x2 at *;generalize (M.told S o).share=x3 at *;generalize errV (M.toldF o)=ev at *
     go_enter Tryz.func58, Tryz.ntmps58
     go_upto_region 1 with fail
     rw [←hW1];clear hW1
     go_wp2_with (first
      | (go_at_call 66;refine MD.out.mono ?_;rintro e w2 ⟨rfl,e2⟩;have e2':=e2.symm;subst e2')
      | (go_at_call 92;refine (TD.out _ B1.out).mono ?_;rintro e w3 ⟨rfl,b3⟩;obtain ⟨⟨k0,k1⟩,k2⟩:=FIN.out _ b3;have r0:=k0.cell 0 _ rfl;have r1:=k0.cell 1 _ rfl;have r2:=k0.cell 2 _ rfl;have r3:=k0.cell 3 _ rfl;have f0:=k0.free 0;have f1:=k0.free 1;have f2:=k0.free 2;have f3:=k0.free 3;have e0:=k1.cell 0 _ rfl;have e1:=k1.cell 1 _ rfl;have e2:=k1.cell 2 _ rfl;have e3:=k1.cell 3 _ rfl;have K2:=hide k2;clear k0 k1 k2 b3))
     refine bodyPost_ret (v := .tuple #[.agg #[.string x0, .int .i64 x1, .int .i64 x2, .int .i64 x3],ev]) (by simp [results, Tryz.results58,go_sem,e0,e1,e2,e3]) rfl ?_
     exact ⟨rfl,K2.out⟩
end Go.Proofs.YtaijnacghiloaaaGreatDoor
