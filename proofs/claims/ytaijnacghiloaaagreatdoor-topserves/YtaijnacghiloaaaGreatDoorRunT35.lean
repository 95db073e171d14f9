/-
  Several texts as one: ScS.
-/
import Derived.Test.YtaijnacghiloaaaGreatDoorRunT32
import Derived.Test.YtaijnacghiloaaaGreatDoorRunT34
namespace Go.Proofs.YtaijnacghiloaaaGreatDoor
open Go.ChangeShapes Go.WideShapes Go.ChangeAt Go.RowKit Go.Lib Go.Maps
set_option linter.unusedVariables false
def scoV (x:Int×Int×Int):Value := .agg #[.int .i64 x.1, .int .i64 x.2.1, .int .i64 x.2.2]
theorem M.num_in {S:M.Sh} (h:M.numY (M.kyL S.l)) (hl:S.l.length<=1000000) {k:Nat} (hk:k<S.l.length):I64 (vAt S k).num:=by
 have el:(M.kyL S.l).length=S.l.length:=by unfold M.kyL;rw [List.length_map]
 have:=h k ([],0) (by omega)
 have e:(M.kyL S.l).getD k ([],0)=((vAt S k).name,(vAt S k).num):=by
  rw [List.getD,List.getElem?_eq_getElem (by omega),Option.getD_some];unfold M.kyL;rw [List.getElem_map]
  show (S.l[k].1.name,S.l[k].1.num)=((S.l.getD k M.vg0).1.name,(S.l.getD k M.vg0).1.num)
  rw [show S.l.getD k M.vg0=S.l[k] from by rw [List.getD,List.getElem?_eq_getElem hk];rfl]
 rw [e] at this
 have le:M.cntY ((M.kyL S.l).take k) (vAt S k).name<=k:=by
  unfold M.cntY;exact Nat.le_trans (List.length_filter_le _ _) (by rw [List.length_take];omega)
 have this':(vAt S k).num=(M.cntY ((M.kyL S.l).take k) (vAt S k).name:Int)+1:=this;unfold I64;omega
theorem lay_fn {W w w2 w3 w4:World} {s f i:Nat} {T:Nat->Nat} {S:M.Sh} {ka:Option Addr} {kc:Nat} {K:List Ld} {F E:Nat->Prop} (h:SC W w s f T S i ka kc K F) (b2:Below w.heap.size w w2) (b3:Below w2.heap.size w2 w3) (b4:Below w3.heap.size w3 w4) (hE : ∀ q,E q->F q∨(w2.heap.size<=q/\q<w3.heap.size)) : ∀ q,E q->W.heap.size<=q/\q<w4.heap.size/\T q=0/\q≠s /\ ∀ p,ka=some p->q≠p.block:=λ q hq=>by
 have z0:=h.has.bl.size;have z2:=b2.size;have z3:=b3.size;have z4:=b4.size
 rcases hE q hq with e | ⟨e1,e2⟩
 · obtain ⟨a1,a2,a3,a4,a5⟩:=h.fn q e
   exact ⟨a1,by omega,a3,a4,a5⟩
 · exact ⟨by omega,by omega,h.has.sa.lt (by omega),by have:=h.box.lt;omega,λ p hp=>by have:=sp_in h.ko p hp;omega⟩
theorem score_fin {W w w2 w3 w4 w5:World} {s f i:Nat} {T:Nat->Nat} {S:M.Sh} {ka:Option Addr} {kc:Nat} {K:List Ld} {F E B:Nat->Prop} (h:SC W w s f T S i ka kc K F) (eB : ∀ q,B q↔SB s T ka F q) (b2:Below w.heap.size w w2) (b3:Below w2.heap.size w2 w3) (b4:Below w3.heap.size w3 w4) (hE : ∀ q,E q->F q∨(w2.heap.size<=q/\q<w3.heap.size)) {g kd:Nat} {L:List Ld} (h5:SC W w5 s f T S i (some ⟨g,0,none⟩) kd L E) (st:StayBut (λ q=>q=s ∨ ∃ p,ka=some p/\p.block=q) w4 w5) (hg:(∃ p,ka=some p/\p.block=g)∨w4.heap.size<=g) {rb:Nat} (h1:w.heap.size<=rb) (h2:rb<w2.heap.size) (y0 y1 y2:Value) : ∃ B',SZ W (((w5.drew.setCell ⟨rb,0,none⟩ y0).setCell ⟨rb,1,none⟩ y1).setCell ⟨rb,2,none⟩ y2) s S i B'/\KeptS w B B' (((w5.drew.setCell ⟨rb,0,none⟩ y0).setCell ⟨rb,1,none⟩ y1).setCell ⟨rb,2,none⟩ y2):=by
 have z0:=h.has.bl.size;have z2:=b2.size;have z3:=b3.size;have z4:=b4.size;have z5:=st.size;have zd:w5.drew.heap.size=w5.heap.size:=rfl
 have zr:W.heap.size<=rb:=by omega
 have far : ∀ q,q≠rb->(((w5.drew.setCell ⟨rb,0,none⟩ y0).setCell ⟨rb,1,none⟩ y1).setCell ⟨rb,2,none⟩ y2).heap[q]? = w5.heap[q]? := λ q hq=>by
  rw [heap_setCell_other _ _ _ _ hq,heap_setCell_other _ _ _ _ hq,heap_setCell_other _ _ _ _ hq];rfl
 have sz:(((w5.drew.setCell ⟨rb,0,none⟩ y0).setCell ⟨rb,1,none⟩ y1).setCell ⟨rb,2,none⟩ y2).heap.size=w5.heap.size:=by simp [zd]
 have bw:Below W.heap.size W (((w5.drew.setCell ⟨rb,0,none⟩ y0).setCell ⟨rb,1,none⟩ y1).setCell ⟨rb,2,none⟩ y2):=((h5.has.bl.drew.setCell zr _).setCell zr _).setCell zr _
 have nr : ∀ q,SB s T (some ⟨g,0,none⟩) E q->q≠rb:=λ q hq=>by
  rcases hq with e | e | ⟨p,e1,e2⟩ | e
  · have:=h.box.lt;omega
  · intro er;exact e (h.has.sa.lt (by omega))
  · cases e1
    have e2':g=q:=e2
    rcases hg with ⟨p,a1,a2⟩ | z
    · have:=sp_in h.ko p a1;omega
    · omega
  · rcases hE q e with a | ⟨a1,a2⟩
    · have:=(h.fn q a).2.1;omega
    · omega
 refine ⟨SB s T (some ⟨g,0,none⟩) E,⟨f,T,_,kd,L,E,h5.stay bw (by rw [sz];exact Nat.le_refl _) (λ q hq=>far q (nr q hq)),λ q=>Iff.rfl⟩,by rw [sz];omega,λ q hq hn => ?_⟩
 have hn' : ¬ SB s T ka F q:=λ z=>hn ((eB q).2 z)
 refine ⟨λ z => ?_, ?_⟩
 · rcases z with e | e | ⟨p,e1,e2⟩ | e
   · exact hn' (.inl e)
   · exact hn' (.inr (.inl e))
   · cases e1
     have e2':g=q:=e2
     rcases hg with ⟨p,a1,a2⟩ | z
     · exact hn' (.inr (.inr (.inl ⟨p,a1,a2.trans e2'⟩)))
     · omega
   · rcases hE q e with a | ⟨a1,a2⟩
     · exact hn' (.inr (.inr (.inr a)))
     · omega
 · rw [far q (by omega),st.block q (by omega) (λ z=>by
    rcases z with e | e
    · exact hn' (.inl e)
    · exact hn' (.inr (.inr (.inl e)))),b4.block q (by omega),b3.block q (by omega),b2.block q hq]
set_option maxHeartbeats 16000000 in
set_option maxRecDepth 10000 in
theorem sc_Score {W w:World} {s:Nat} {S:M.Sh} {i:Nat} {B:Nat->Prop} (h:SZ W w s S i B) {n:List Nat} (hb:isB n) (hl:n.length<=9223372036854775807) (a:Option Addr) (xs:List Int) (ca:Nat) (hr:Rd w a xs) (key tok:Int) (hi:i<=1000) :
 Calls Tryz.prog 33 #[.pointer (some ⟨s,0,none⟩), .string (byStr n), .slice a xs.length ca, .int .i64 key, .int .i64 tok] w λ e w'=>e = .returned (.tuple #[scoV (M.scV S i n xs key tok),errV (M.scF S i n xs key tok)]) /\ ∃ B',SZ W w' s S i B'/\KeptS w B B' w':=by
 have hmx:xs.length<=9223372036854775807:=hr.1
 obtain ⟨w0,hw0⟩ : ∃ X,X=w.alloc (.cells #[.int .i64 0, .int .i64 0, .int .i64 0] 47):=⟨_,rfl⟩
 obtain ⟨rb,hrb⟩ : ∃ x,x=w.heap.size:=⟨_,rfl⟩
 have ba:Below w.heap.size w w0:=by rw [hw0];exact (Below.refl _ _).alloc (Nat.le_refl _) _
 have bx0:Bx w0 rb [.int .i64 0, .int .i64 0, .int .i64 0]:=by rw [hw0,hrb];exact bx_new w _ _
 have H:=hide h;have RB:=hide hrb;have bc : ∀ B',KeptS w0 B B' w0->True:=λ _ _=>trivial
 -- where something is wrong: nothing is left of it but the answer's box
 have NO:Hid (∀ w2,Below w0.heap.size w0 w2->(Bx w2 rb [.int .i64 0, .int .i64 0, .int .i64 0] /\ ∃ B',SZ W (((w2.setCell ⟨rb,0,none⟩ (.int .i64 0)).setCell ⟨rb,1,none⟩ (.int .i64 0)).setCell ⟨rb,2,none⟩ (.int .i64 0)) s S i B'/\KeptS w B B' (((w2.setCell ⟨rb,0,none⟩ (.int .i64 0)).setCell ⟨rb,1,none⟩ (.int .i64 0)).setCell ⟨rb,2,none⟩ (.int .i64 0)))):=λ w2 hb2=>by
  have z:w.heap.size<=rb:=by omega
  have b3:Below w.heap.size w (((w2.setCell ⟨rb,0,none⟩ (.int .i64 0)).setCell ⟨rb,1,none⟩ (.int .i64 0)).setCell ⟨rb,2,none⟩ (.int .i64 0)):=(((below_on ba hb2).setCell z _).setCell z _).setCell z _
  exact ⟨bx0.keep (hb2.block _ bx0.lt),B,h.up b3,KeptS.refl b3⟩
 obtain ⟨f,T,ka,kc,K,F,sc,eB⟩:=h;have sc0:=sc.up ba;have ix:=sc.ix;have c1:=sc0.box.cell 1 _ rfl
 by_cases q1:M.timeB tok=false
 · have E1:Hid (M.scF S i n xs key tok=1/\M.scV S i n xs key tok=(0,0,0)):=by
    have e:M.scF S i n xs key tok=1:=by unfold M.scF;rw [if_pos q1]
    refine ⟨e, ?_⟩
    unfold M.scV;rw [if_pos (by rw [e];decide)]
   rw [E1.out.1,E1.out.2,err_some (show (1:Int)≠0 by decide)]
   have ways:decide (tok<0)=true∨(decide (tok<0)=false/\decide (1000000<tok)=true):=by
    unfold M.timeB at q1;simp only [decide_eq_true_iff,decide_eq_false_iff_not,Bool.and_eq_false_iff] at q1 ⊢;omega
   obtain ⟨nb,NF⟩:=NO.out w0 (Below.refl _ _)
   have e1:=(nb.put (j:=0) (v := .int .i64 0))
   have e2:=(e1.put (j:=1) (v := .int .i64 0))
   have e3:=(e2.put (j:=2) (v := .int .i64 0))
   have k0:=nb.cell 0 _ rfl;have k1:=nb.cell 1 _ rfl;have k2:=nb.cell 2 _ rfl;have r0:=e3.cell 0 _ rfl;have r1:=e3.cell 1 _ rfl;have r2:=e3.cell 2 _ rfl;have g0:=nb.free 0;have g1:=nb.free 1;have g2:=nb.free 2;have NF2:=hide NF;clear e1 e2 e3 nb NF NO sc sc0 eB H c1 bx0 ba hr E1 q1 bc;generalize byStr n=sn at *
   rcases ways with t1 | ⟨t1,t2⟩
   all_goals (
    go_enter Tryz.func33, Tryz.ntmps33
    go_upto_region 1 with fail
    rw [←hw0];simp only [←hrb];clear hw0 hrb
    go_wp2
    refine bodyPost_ret (v := .tuple #[.agg #[.int .i64 0, .int .i64 0, .int .i64 0], .iface 69 (.int .i64 1)]) (by simp [results, Tryz.results33,go_sem,r0,r1,r2]) rfl ?_
    exact ⟨rfl,NF2.out⟩)
 have kr:0<=tok/\tok<=1000000:=by
  unfold M.timeB at q1;simp only [Bool.and_eq_false_iff,decide_eq_false_iff_not] at q1;omega
 have t1:decide (tok<0)=false:=decide_eq_false (by omega);have t2:decide (1000000<tok)=false:=decide_eq_false (by omega);obtain ⟨kr1,kr2⟩:=kr
 have SF:Hid (M.scF S i n xs key tok=if (i:Int)<tok then 6 else if M.pickF S n key≠0 then M.pickF S n key else M.standF (M.grvO S (M.pickO S n key)) xs):=by
  unfold Hid M.scF;rw [if_neg q1]
 have ZV:Hid (M.scF S i n xs key tok≠0->M.scV S i n xs key tok=(0,0,0)):=λ hz=>by unfold M.scV;rw [if_pos hz]
 -- an answer that is an error, whatever it is
 have BAD:Hid (∀ w2,Below w0.heap.size w0 w2->(w2.cell? ⟨rb,0,none⟩=some (.int .i64 0)/\w2.cell? ⟨rb,1,none⟩=some (.int .i64 0)/\w2.cell? ⟨rb,2,none⟩=some (.int .i64 0))/\(w2.frozen? ⟨rb,0,none⟩=false/\w2.frozen? ⟨rb,1,none⟩=false/\w2.frozen? ⟨rb,2,none⟩=false)/\((w2.setCell ⟨rb,0,none⟩ (.int .i64 0)).cell? ⟨rb,0,none⟩=some (.int .i64 0)/\((w2.setCell ⟨rb,0,none⟩ (.int .i64 0)).setCell ⟨rb,1,none⟩ (.int .i64 0)).cell? ⟨rb,1,none⟩=some (.int .i64 0)/\(((w2.setCell ⟨rb,0,none⟩ (.int .i64 0)).setCell ⟨rb,1,none⟩ (.int .i64 0)).setCell ⟨rb,2,none⟩ (.int .i64 0)).cell? ⟨rb,2,none⟩=some (.int .i64 0))/\Hid (∃ B',SZ W (((w2.setCell ⟨rb,0,none⟩ (.int .i64 0)).setCell ⟨rb,1,none⟩ (.int .i64 0)).setCell ⟨rb,2,none⟩ (.int .i64 0)) s S i B'/\KeptS w B B' (((w2.setCell ⟨rb,0,none⟩ (.int .i64 0)).setCell ⟨rb,1,none⟩ (.int .i64 0)).setCell ⟨rb,2,none⟩ (.int .i64 0)))):=λ w2 hb2=>by
  obtain ⟨nb,NF⟩:=NO.out w2 hb2
  have e1:=(nb.put (j:=0) (v := .int .i64 0))
  have e2:=(e1.put (j:=1) (v := .int .i64 0))
  have e3:=(e2.put (j:=2) (v := .int .i64 0))
  exact ⟨⟨nb.cell 0 _ rfl,nb.cell 1 _ rfl,nb.cell 2 _ rfl⟩,⟨nb.free 0,nb.free 1,nb.free 2⟩,⟨e1.cell 0 _ rfl,e2.cell 1 _ rfl,e3.cell 2 _ rfl⟩,NF⟩
 by_cases q2:(i:Int)<tok
 · have E1:Hid (M.scF S i n xs key tok=6):=by unfold Hid;rw [SF.out,if_pos q2]
   rw [ZV.out (by rw [E1.out];decide),E1.out,err_some (show (6:Int)≠0 by decide)];have t3:decide ((i:Int)<tok)=true:=decide_eq_true q2;obtain ⟨⟨k0,k1,k2⟩,⟨g0,g1,g2⟩,⟨r0,r1,r2⟩,NF2⟩:=BAD.out w0 (Below.refl _ _);clear NO BAD sc sc0 eB H bx0 ba hr E1 q1 q2 bc SF ZV;generalize byStr n=sn at *
   go_enter Tryz.func33, Tryz.ntmps33
   go_upto_region 1 with fail
   rw [←hw0];simp only [←hrb];clear hw0 hrb
   go_wp2
   refine bodyPost_ret (v := .tuple #[.agg #[.int .i64 0, .int .i64 0, .int .i64 0], .iface 69 (.int .i64 6)]) (by simp [results, Tryz.results33,go_sem,r0,r1,r2]) rfl ?_
   exact ⟨rfl,NF2.out⟩
 have t3:decide ((i:Int)<tok)=false:=decide_eq_false q2
 have SF2:Hid (M.scF S i n xs key tok=if M.pickF S n key≠0 then M.pickF S n key else M.standF (M.grvO S (M.pickO S n key)) xs):=by unfold Hid;rw [SF.out,if_neg q2]
 clear SF
 have PK:=hide (λ w1 (hb1:Below w0.heap.size w0 w1)=>by
  obtain ⟨mm,ml,D,E0,kb,mb,va,vc,G,sv⟩:=(sc0.up hb1).has.sa
  exact sh_PickW sv hb hl key)
 have VB1:Hid (∀ w1 x0 x1 x2 x3 w2,Below w0.heap.size w0 w1->Below (w1.alloc (.cells #[x0,x1,x2,x3] 122)).heap.size (w1.alloc (.cells #[x0,x1,x2,x3] 122)) w2->Bx w2 w1.heap.size [x0,x1,x2,x3]/\Below w0.heap.size w0 w2/\w2.cell? ⟨s,1,none⟩=some (.int .i64 (i:Int))):=λ w1 x0 x1 x2 x3 w2 h1 h2=>by
  have b2:=below_on (below_on h1 ((Below.refl _ w1).alloc (Nat.le_refl _) _)) h2
  exact ⟨four_box h2,b2,(b2.cell (p:=⟨s,1,none⟩) sc0.box.lt).trans c1⟩
 by_cases q3:M.pickF S n key≠0
 · have E1:Hid (M.scF S i n xs key tok=M.pickF S n key):=by unfold Hid;rw [SF2.out,if_pos q3]
   rw [ZV.out (by rw [E1.out];exact q3),E1.out,err_some q3];have PK1:=hide (PK.out w0 (Below.refl _ _));unfold vnV at PK1;rw [err_some q3] at PK1;have c0:=sc0.box.cell 0 _ rfl;clear NO sc sc0 eB H bx0 ba hr E1 q1 q2 bc SF2 ZV PK q3 hb hl;generalize byStr n=sn at *;generalize M.pickF S n key=pf at *;generalize M.pickV S n key=pv at *
   go_enter Tryz.func33, Tryz.ntmps33
   go_upto_region 1 with fail
   rw [←hw0];simp only [←hrb];clear hw0 hrb
   go_upto_region 6 with (go_at_call 58;refine PK1.out.mono ?_;rintro e w1 ⟨rfl,b1⟩;have K1:=hide b1;clear b1)
   obtain ⟨_,bw2,_⟩:=VB1.out w1 _ _ _ _ _ K1.out (Below.refl (w1.alloc (.cells #[.string (byStr pv.name), .int .i64 pv.num, .int .i64 pv.stage, .int .i64 pv.share] 122)).heap.size _);obtain ⟨⟨k0,k1,k2⟩,⟨g0,g1,g2⟩,⟨r0,r1,r2⟩,NF2⟩:=BAD.out _ bw2;clear BAD PK1 bw2 VB1
   go_wp2
   refine bodyPost_ret (v := .tuple #[.agg #[.int .i64 0, .int .i64 0, .int .i64 0], .iface 69 (.int .i64 pf)]) (by simp [results, Tryz.results33,go_sem,r0,r1,r2]) rfl ?_
   exact ⟨rfl,NF2.out⟩
 have p0:M.pickF S n key=0:=by omega
 have SF3:Hid (M.scF S i n xs key tok=M.standF (M.grvO S (M.pickO S n key)) xs):=by unfold Hid;rw [SF2.out,if_neg q3]
 have ⟨k,hk⟩ : ∃ k,M.pickO S n key=some k:=by
  cases e:M.pickO S n key with
  | some k=>exact ⟨k,rfl⟩
  | none =>
    unfold M.pickF at p0;rw [e] at p0
    split at p0
    · cases p0
    · cases p0
 obtain ⟨k1,k2,k3⟩:=M.pick_is hk
 have PV:Hid (M.pickV S n key=vAt S k):=by
  unfold Hid M.pickV;unfold M.pickF at p0
  split
  · rename_i q;rw [if_pos q] at p0;cases p0
  · rw [hk];rfl
 have GO:Hid (M.grvO S (M.pickO S n key)=(S.l.getD k M.vg0).2):=by unfold Hid;rw [hk];rfl
 have SF4:Hid (M.scF S i n xs key tok=M.standF (S.l.getD k M.vg0).2 xs):=by unfold Hid;rw [SF3.out,GO.out]
 have SV4:Hid (M.standF (S.l.getD k M.vg0).2 xs=0->M.scV S i n xs key tok=(M.evalG (S.l.getD k M.vg0).2 xs,(vAt S k).num,(i:Int))):=λ hz=>by
  unfold M.scV;rw [if_neg (by rw [SF4.out,hz];simp),GO.out,PV.out]
 have nu:M.numY (M.kyL S.l)/\S.l.length<=1000000:=by
  obtain ⟨mm,ml,D,E0,kb,mb,va,vc,G,sv⟩:=sc.has.sa;have:=sv.inv.ll
  exact ⟨sv.inv.nu,by omega⟩
 have nm:=M.num_in nu.1 nu.2 k1;have PK1:=hide (PK.out w0 (Below.refl _ _));rw [PV.out,p0,err_nil rfl] at PK1;have LY:=hide (λ w2 (hb2:Below w.heap.size w w2)=>sc_lay (sc.up hb2) k1 k3 (by rw [k2];exact hl) nm);have EV:=hide (λ w3 p (fo:FO w3 p (S.l.getD k M.vg0).2) (hb3:Below w.heap.size w w3)=>feval_any p (S.l.getD k M.vg0).2 a xs ca w3 fo (sc.gg k k1) (hr.below hb3))
 have KP:=hide (λ w2 w3 w4 p (E:Nat->Prop) (b2:Below w.heap.size w w2) (b3:Below w2.heap.size w2 w3) (b4:Below w3.heap.size w3 w4) (fo:FoIn E w3 p (S.l.getD k M.vg0).2) (fE : ∀ q,F q->E q) (hE : ∀ q,E q->F q∨(w2.heap.size<=q/\q<w3.heap.size))=>by
  have fn:=lay_fn sc b2 b3 b4 hE
  have nb:isB (vAt S k).name:=by rw [k2];exact hb
  have fn3:=lay_fn sc b2 b3 (Below.refl w3.heap.size w3) hE
  exact sc_keep (((sc.up b2).up b3).up b4) (vAt S k) p (E:=E) ⟨nb,k,k1,rfl,rfl,fo.up b4.size (λ q hq=>b4.block q (fn3 q hq).2.1) (λ q hq=>hq)⟩ fE fn)
 have FI:=hide (λ w2 w3 w4 w5 (E:Nat->Prop) (b2:Below w.heap.size w w2) (b3:Below w2.heap.size w2 w3) (b4:Below w3.heap.size w3 w4) (hE : ∀ q,E q->F q∨(w2.heap.size<=q/\q<w3.heap.size)) (g kd:Nat) (L:List Ld) (h5:SC W w5 s f T S i (some ⟨g,0,none⟩) kd L E) (st:StayBut (λ q=>q=s ∨ ∃ p,ka=some p/\p.block=q) w4 w5) (hg:(∃ p,ka=some p/\p.block=g)∨w4.heap.size<=g) (h2:rb<w2.heap.size) (y0 y1 y2:Value)=>score_fin sc eB b2 b3 b4 hE h5 st hg (by omega:w.heap.size<=rb) h2 y0 y1 y2);have BA:=hide ba
 have NS:Hid (rb≠s/\(∀ p,ka=some p->p.block≠rb)/\s<w.heap.size /\ ∀ p,ka=some p->p.block<w.heap.size):=⟨by have:=sc.box.lt;omega,λ p hp=>by have:=sp_in sc.ko p hp;omega,sc.box.lt,λ p hp=>(sp_in sc.ko p hp).2⟩
 have c0:=sc0.box.cell 0 _ rfl;have lb:rb<w0.heap.size:=bx0.lt;have BX0:=hide bx0;unfold vnV at PK1 LY KP;clear NO sc sc0 eB H bx0 ba hr q1 q2 q3 bc SF2 SF3 PK hb hl p0 nu nm GO PV hk k1 k2 k3;generalize (S.l.getD k M.vg0).2=gv at *;generalize byStr (vAt S k).name=x0 at *;generalize (vAt S k).num=x1 at *;generalize (vAt S k).stage=x2 at *;generalize (vAt S k).share=x3 at *;generalize byStr n=sn at *
 by_cases q4:M.standF gv xs=0
 · have E1:Hid (M.scF S i n xs key tok=0):=by unfold Hid;rw [SF4.out,q4]
   rw [E1.out,SV4.out q4,err_nil rfl];simp only [q4,err_nil rfl] at EV;clear BAD ZV VB1 SF4 SV4 E1 q4;generalize M.evalG gv xs=ev at *
   go_enter Tryz.func33, Tryz.ntmps33
   go_upto_region 1 with fail
   rw [←hw0];simp only [←hrb];clear hw0 hrb
   go_upto_region 6 with (go_at_call 58;refine PK1.out.mono ?_;rintro e w1 ⟨rfl,b1⟩;have K1:=hide b1;clear b1)
   obtain ⟨w2,hw2⟩ : ∃ X,X=w1.alloc (.cells #[.string x0, .int .i64 x1, .int .i64 x2, .int .i64 x3] 122):=⟨_,rfl⟩
   obtain ⟨vb,hvb⟩ : ∃ x,x=w1.heap.size:=⟨_,rfl⟩
   have V2:Hid (Bx w2 vb [.string x0, .int .i64 x1, .int .i64 x2, .int .i64 x3]):=by unfold Hid;rw [hw2,hvb];exact bx_new w1 _ _
   have K2:Hid (Below w0.heap.size w0 w2):=by unfold Hid;rw [hw2];exact below_on K1.out ((Below.refl _ w1).alloc (Nat.le_refl _) _)
   have B2:Hid (Below w.heap.size w w2):=below_on BA.out K2.out
   have VN:Hid (w0.heap.size<=vb):=by unfold Hid;rw [hvb];exact K1.out.size
   rw [←hw2];simp only [←hvb];clear hw2 hvb PK1;have v0:=V2.out.cell 0 _ rfl;have v1:=V2.out.cell 1 _ rfl;have v2:=V2.out.cell 2 _ rfl;have v3:=V2.out.cell 3 _ rfl;have LY2:=hide (LY.out w2 B2.out);clear LY
   go_upto_region 11 with (go_at_call 59;refine LY2.out.mono ?_;rintro e w3 ⟨p,rfl,b3,E,fo,fE,hE⟩;have B3:=hide b3;have FOI:=hide fo;have FE:=hide fE;have HE:=hide hE;clear b3 fo fE hE)
   have EV3:=hide (EV.out w3 p FOI.out.fo (below_on B2.out B3.out));clear EV LY2 v0 v1 v2 v3
   go_upto_region 14 with (go_at_call 60;refine EV3.out.mono ?_;rintro e w4 ⟨rfl,b4⟩;have B4:=hide b4;clear b4)
   have V5:Hid (∀ V,Below w2.heap.size w2 V->Bx V vb [.string x0, .int .i64 x1, .int .i64 x2, .int .i64 x3]):=λ V hV=>V2.out.keep (hV.block _ V2.out.lt);have VX4:=V5.out w4 (below_on B3.out B4.out);have v0:=VX4.cell 0 _ rfl;have v1:=VX4.cell 1 _ rfl;have v2:=VX4.cell 2 _ rfl;have v3:=VX4.cell 3 _ rfl;have KP4:=hide (KP.out w2 w3 w4 p E B2.out B3.out B4.out FOI.out FE.out HE.out)
   have AF:Hid (∀ w5 g kd L,SC W w5 s f T S i (some ⟨g,0,none⟩) kd L E->StayBut (λ q=>q=s ∨ ∃ p,ka=some p/\p.block=q) w4 w5->((∃ p,ka=some p/\p.block=g)∨w4.heap.size<=g)->(w5.cell? ⟨vb,1,none⟩=some (.int .i64 x1)/\w5.cell? ⟨s,1,none⟩=some (.int .i64 (i:Int)))/\Bx w5 rb [.int .i64 0, .int .i64 0, .int .i64 0]/\Hid (∃ B',SZ W (((w5.drew.setCell ⟨rb,0,none⟩ (.int .i64 ev)).setCell ⟨rb,1,none⟩ (.int .i64 x1)).setCell ⟨rb,2,none⟩ (.int .i64 (i:Int))) s S i B'/\KeptS w B B' (((w5.drew.setCell ⟨rb,0,none⟩ (.int .i64 ev)).setCell ⟨rb,1,none⟩ (.int .i64 x1)).setCell ⟨rb,2,none⟩ (.int .i64 (i:Int))))):=λ w5 g kd L h5 st hg=>by
    have ns:=NS.out;have zw:=BA.out.size;have zv:=VN.out
    have nv : ¬ (vb=s ∨ ∃ p,ka=some p/\p.block=vb):=λ z=>by
     rcases z with z | ⟨p,e1,e2⟩
     · have:=ns.2.2.1;omega
     · have:=ns.2.2.2 p e1;omega
    have nr : ¬ (rb=s ∨ ∃ p,ka=some p/\p.block=rb):=λ z=>by
     rcases z with z | ⟨p,e1,e2⟩
     · exact ns.1 z
     · exact ns.2.1 p e1 e2
    have k4:Below w0.heap.size w0 w4:=below_on (below_on K2.out B3.out) B4.out
    refine ⟨⟨(World.cell?_of_block (a:=⟨vb,1,none⟩) (st.block vb VX4.lt nv)).trans v1,h5.box.cell 1 _ rfl⟩,(BX0.out.keep (k4.block _ lb)).keep (st.block rb (by have:=k4.size;omega) nr),FI.out w2 w3 w4 w5 E B2.out B3.out B4.out HE.out g kd L h5 st hg (by have:=K2.out.size;omega) _ _ _⟩
   clear KP FI V5 VX4 V2 FOI FE HE B2 B3 B4 BA NS BX0 VN K1 K2 EV3 c0 c1
   go_upto_region 15 with (go_at_call 61;refine KP4.out.mono ?_;rintro e w5 ⟨rfl,g,kd,L,h5,st,hg⟩;obtain ⟨⟨y1,y2⟩,rb5,fin⟩:=AF.out w5 g kd L h5 st hg;have FIN:=hide fin.out;clear h5 st hg fin)
   have rbd:Bx w5 rb [.int .i64 0, .int .i64 0, .int .i64 0]:=rb5;have k0:=rb5.cell 0 _ rfl;have k1:=rb5.cell 1 _ rfl;have k2:=rb5.cell 2 _ rfl;have g0:=rb5.free 0;have g1:=rb5.free 1;have g2:=rb5.free 2
   have e1:=(rbd.put (j:=0) (v := .int .i64 ev))
   have e2:=(e1.put (j:=1) (v := .int .i64 x1))
   have e3:=(e2.put (j:=2) (v := .int .i64 (i:Int)))
   have r0:=e1.cell 0 _ rfl;have r1:=e2.cell 1 _ rfl;have r2:=e3.cell 2 _ rfl;clear rbd e1 e2 e3 rb5 AF KP4 v0 v1 v2 v3
   go_region_with (fail)
   all_goals (
    go_wp2
    refine bodyPost_ret (v := .tuple #[.agg #[.int .i64 ev, .int .i64 x1, .int .i64 (i:Int)], .nilIface]) (by simp [results, Tryz.results33,go_sem,r0,r1,r2]) rfl ?_
    exact ⟨rfl,FIN.out⟩)
 · have E1:Hid (M.scF S i n xs key tok=M.standF gv xs):=SF4.out
   rw [ZV.out (by rw [E1.out];exact q4),E1.out,err_some q4];simp only [err_some q4] at EV;clear ZV VB1 SF4 SV4 E1 q4 KP FI;generalize M.standF gv xs=sf at *;generalize M.evalG gv xs=ev at *
   go_enter Tryz.func33, Tryz.ntmps33
   go_upto_region 1 with fail
   rw [←hw0];simp only [←hrb];clear hw0 hrb
   go_upto_region 6 with (go_at_call 58;refine PK1.out.mono ?_;rintro e w1 ⟨rfl,b1⟩;have K1:=hide b1;clear b1)
   obtain ⟨w2,hw2⟩ : ∃ X,X=w1.alloc (.cells #[.string x0, .int .i64 x1, .int .i64 x2, .int .i64 x3] 122):=⟨_,rfl⟩
   obtain ⟨vb,hvb⟩ : ∃ x,x=w1.heap.size:=⟨_,rfl⟩
   have V2:Hid (Bx w2 vb [.string x0, .int .i64 x1, .int .i64 x2, .int .i64 x3]):=by unfold Hid;rw [hw2,hvb];exact bx_new w1 _ _
   have K2:Hid (Below w0.heap.size w0 w2):=by unfold Hid;rw [hw2];exact below_on K1.out ((Below.refl _ w1).alloc (Nat.le_refl _) _)
   have B2:Hid (Below w.heap.size w w2):=below_on BA.out K2.out
   have VN:Hid (w0.heap.size<=vb):=by unfold Hid;rw [hvb];exact K1.out.size
   rw [←hw2];simp only [←hvb];clear hw2 hvb PK1;have v0:=V2.out.cell 0 _ rfl;have v1:=V2.out.cell 1 _ rfl;have v2:=V2.out.cell 2 _ rfl;have v3:=V2.out.cell 3 _ rfl;have LY2:=hide (LY.out w2 B2.out);clear LY
   go_upto_region 11 with (go_at_call 59;refine LY2.out.mono ?_;rintro e w3 ⟨p,rfl,b3,E,fo,fE,hE⟩;have B3:=hide b3;have FOI:=hide fo;have FE:=hide fE;have HE:=hide hE;clear b3 fo fE hE)
   have EV3:=hide (EV.out w3 p FOI.out.fo (below_on B2.out B3.out));clear EV LY2 v0 v1 v2 v3;have K4:Hid (∀ w4,Below w3.heap.size w3 w4->Below w0.heap.size w0 w4):=λ w4 b4=>below_on (below_on K2.out B3.out) b4;clear V2 FOI FE HE B2 B3 BA NS BX0 VN K1 K2 c0 c1
   go_upto_region 12 with (go_at_call 60;refine EV3.out.mono ?_;rintro e w4 ⟨rfl,b4⟩;obtain ⟨⟨k0,k1,k2⟩,⟨g0,g1,g2⟩,⟨r0,r1,r2⟩,NF2⟩:=BAD.out w4 (K4.out w4 b4);clear b4)
   clear BAD K4 EV3
   go_wp2
   refine bodyPost_ret (v := .tuple #[.agg #[.int .i64 0, .int .i64 0, .int .i64 0], .iface 69 (.int .i64 sf)]) (by simp [results, Tryz.results33,go_sem,r0,r1,r2]) rfl ?_
   exact ⟨rfl,NF2.out⟩
end Go.Proofs.YtaijnacghiloaaaGreatDoor
