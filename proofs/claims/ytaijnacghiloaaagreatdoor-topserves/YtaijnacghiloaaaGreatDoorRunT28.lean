/-
  Several texts as one: ShDoY, CaCells, ScMa, TvMa.
-/
import Derived.Test.YtaijnacghiloaaaGreatDoorRunT26
import Derived.Test.YtaijnacghiloaaaGreatDoorRunT27
import Derived.Deep.Cut
import Derived.Deep.CutRange
import Derived.Test.YtaijnacghiloaaaGreatDoorRunT25
import Derived.Test.YtaijnacghiloaaaGreatDoorRunT24
import Derived.Test.YtaijnacghiloaaaGreatDoorRunT2
import Derived.Test.YtaijnacghiloaaaGreatDoorRunT4
import Derived.Test.YtaijnacghiloaaaGreatDoorRunT3
import Derived.Test.YtaijnacghiloaaaGreatDoorRunT5
namespace Go.Proofs.YtaijnacghiloaaaGreatDoor
open Go.ChangeShapes Go.WideShapes Go.ChangeAt Go.RowKit Go.Lib Go.Maps
set_option linter.unusedVariables false
set_option maxHeartbeats 16000000 in
set_option maxRecDepth 10000 in
theorem sh_Do_no {W:World} {f:Nat} {T:Nat->Nat} {S:M.Sh} {mm ml:Nat} {D E:DataW Value} {kb:Nat->Nat} {mb:List Nat->Nat} {va:List Nat->Option Addr} {vc:List Nat->Nat} {G:Nat->Gr} (h:SV W f T S mm ml D E kb mb va vc G) (c:M.Ca) (a:Option Addr) (cap:Nat) (hb:isB c.name) (hl:c.name.length<=9223372036854775807) (hq:M.callF c≠0∨(M.was S c.ses).seq=c.seq∨c.seq<(M.was S c.ses).seq) :
 Calls Tryz.prog 13 #[.pointer (some ⟨f,0,none⟩),caV c a cap] W λ e w'=>e = .returned (.tuple #[anV (M.shDo S c).1,errV (M.shDo S c).2.1])/\Below W.heap.size W w':=by
 unfold caV
 obtain ⟨W1,hW1⟩ : ∃ X,X=(W.alloc (.cells #[.int .i64 c.what, .int .i64 c.ses, .int .i64 c.seq, .string (byStr c.name), .int .i64 c.num, .int .i64 c.share, .slice a c.bys.length cap] 44)).alloc (.cells #[.int .i64 0, .int .i64 0] 40):=⟨_,rfl⟩
 have z1:W1.heap.size=W.heap.size+1+1:=by rw [hW1];simp
 have b1:Hid (Below W.heap.size W W1):=by unfold Hid;rw [hW1];exact ((Below.refl _ _).alloc (Nat.le_refl _) _).alloc (by simp) _
 have bx:Bx W1 W.heap.size [.int .i64 c.what, .int .i64 c.ses, .int .i64 c.seq, .string (byStr c.name), .int .i64 c.num, .int .i64 c.share, .slice a c.bys.length cap]:=by rw [hW1];exact (bx_new W _ _).keep (((Below.refl _ _).alloc (Nat.le_refl _) _).block _ (by simp))
 have ba:Bx W1 (W.heap.size+1) [.int .i64 0, .int .i64 0]:=by
  rw [hW1];have:=bx_new (W.alloc (.cells #[.int .i64 c.what, .int .i64 c.ses, .int .i64 c.seq, .string (byStr c.name), .int .i64 c.num, .int .i64 c.share, .slice a c.bys.length cap] 44)) [.int .i64 0, .int .i64 0] 40
  rwa [show (W.alloc (.cells #[.int .i64 c.what, .int .i64 c.ses, .int .i64 c.seq, .string (byStr c.name), .int .i64 c.num, .int .i64 c.share, .slice a c.bys.length cap] 44)).heap.size=W.heap.size+1 by simp] at this
 have CT:Hid (Calls Tryz.prog 26 #[.pointer (some ⟨f,0,none⟩),caV c a cap] W1 λ e w'=>e = .returned (.bool false)/\Below W1.heap.size W1 w'):=by
  have:=sh_Counts (h.below b1.out) c a cap hb hl
  rcases M.cnt_ways S c with ⟨_,z,y⟩ | ⟨z,_⟩
  · rcases hq with x | x | x
    · exact absurd z x
    · omega
    · omega
  · rw [z] at this;exact this
 have UN:Hid (∀ w2,Below W1.heap.size W1 w2->Calls Tryz.prog 37 #[.pointer (some ⟨f,0,none⟩),caV c a cap] w2 λ e w'=>e = .returned (.tuple #[anV (M.shDo S c).1,errV (M.shDo S c).2.1])/\Below w2.heap.size w2 w'):=λ w2 hw=>sh_unc (h.below (below_on b1.out hw)) c a cap hb hl hq;unfold caV at CT UN;have BX:=hide bx;have BA:=hide ba;have c0:=bx.cell 0 _ rfl;have c1:=bx.cell 1 _ rfl;have c2:=bx.cell 2 _ rfl;have c3:=bx.cell 3 _ rfl;have c4:=bx.cell 4 _ rfl;have c5:=bx.cell 5 _ rfl;have c6:=bx.cell 6 _ rfl;clear bx ba h hq;unfold anV at UN ⊢;generalize (M.shDo S c).1.num=y1 at *;generalize (M.shDo S c).1.idx=y2 at *;generalize errV (M.shDo S c).2.1=y3 at *;have Z1:=hide z1;clear z1 hb hl;generalize byStr c.name=s at *
 go_enter Tryz.func13, Tryz.ntmps13
 go_upto_region 1 with fail
 rw [←hW1];clear hW1
 go_upto_region 2 with (go_at_call 26;refine CT.out.mono ?_;rintro e w2 ⟨rfl,h2⟩;have U2:=hide (UN.out w2 h2);have d : ∀ j,w2.cell? ⟨W.heap.size,j,none⟩=W1.cell? ⟨W.heap.size,j,none⟩:=λ j=>h2.cell (p:=⟨W.heap.size,j,none⟩) BX.out.lt;have d0:=(d 0).trans c0;have d1:=(d 1).trans c1;have d2:=(d 2).trans c2;have d3:=(d 3).trans c3;have d4:=(d 4).trans c4;have d5:=(d 5).trans c5;have d6:=(d 6).trans c6;have H2:=hide h2;clear h2 d)
 clear c0 c1 c2 c3 c4 c5 c6 CT UN
 have zl:Hid (W.heap.size+1<w2.heap.size):=by have:=H2.out.size;have:=Z1.out;unfold Hid;omega
 go_wp2_with (go_at_call 37;refine U2.out.mono ?_;rintro e w3 ⟨rfl,h3⟩;have B3:Hid (Bx w3 (W.heap.size+1) [.int .i64 0, .int .i64 0]):=BA.out.keep (((below_on H2.out h3).block _ BA.out.lt));have a0:=B3.out.cell 0 _ rfl;have a1:=B3.out.cell 1 _ rfl;have f0:=B3.out.free 0;have f1:=B3.out.free 1;have H3:=hide h3;clear h3)
 have fin:=(B3.out.put (j:=0) (v := .int .i64 y1)).put (j:=1) (v := .int .i64 y2);have e0:=fin.cell 0 _ rfl;have e1:=fin.cell 1 _ rfl;refine bodyPost_ret (v := .tuple #[.agg #[.int .i64 y1, .int .i64 y2],y3]) (by simp [results, Tryz.results13,go_sem,e0,e1]) rfl ?_
 exact ⟨rfl,((below_on b1.out (below_on H2.out H3.out)).setCell (show W.heap.size<=W.heap.size+1 by omega) _).setCell (show W.heap.size<=W.heap.size+1 by omega) _⟩
set_option maxHeartbeats 16000000 in
set_option maxRecDepth 10000 in
theorem sh_Do_yes {W:World} {f:Nat} {T:Nat->Nat} {S:M.Sh} {mm ml:Nat} {D E:DataW Value} {kb:Nat->Nat} {mb:List Nat->Nat} {va:List Nat->Option Addr} {vc:List Nat->Nat} {G:Nat->Gr} (h:SV W f T S mm ml D E kb mb va vc G) (c:M.Ca) (a:Option Addr) (cap:Nat) (hb:isB c.name) (hr:RdB W a c.bys) (ha:c.bys ≠ [] -> ∀ p,a=some p->T p.block=0) (hc:c.bys.length<=cap) (h63:cap<=9223372036854775807) (hi:S.idx<=900000) (hn:I64 c.num) (hs:I64 c.share) (q1:M.callF c=0) (q2 : ¬ (M.was S c.ses).seq=c.seq) (q3 : ¬ c.seq<(M.was S c.ses).seq) :
 Calls Tryz.prog 13 #[.pointer (some ⟨f,0,none⟩),caV c a cap] W λ e w'=>e = .returned (.tuple #[anV (M.cntF S c).1,errV (M.cntF S c).2.1])/\Left W f T (M.cntF S c).2.2 w':=by
 obtain ⟨wh,ses1,seq1,nl⟩:=M.call_seq q1;have i0:=h.inv.ok.i0;unfold caV
 obtain ⟨W1,hW1⟩ : ∃ X,X=(W.alloc (.cells #[.int .i64 c.what, .int .i64 c.ses, .int .i64 c.seq, .string (byStr c.name), .int .i64 c.num, .int .i64 c.share, .slice a c.bys.length cap] 44)).alloc (.cells #[.int .i64 0, .int .i64 0] 40):=⟨_,rfl⟩
 have z1:W1.heap.size=W.heap.size+1+1:=by rw [hW1];simp
 have b1:Hid (Below W.heap.size W W1):=by unfold Hid;rw [hW1];exact ((Below.refl _ _).alloc (Nat.le_refl _) _).alloc (by simp) _
 have bx:Bx W1 W.heap.size [.int .i64 c.what, .int .i64 c.ses, .int .i64 c.seq, .string (byStr c.name), .int .i64 c.num, .int .i64 c.share, .slice a c.bys.length cap]:=by rw [hW1];exact (bx_new W _ _).keep (((Below.refl _ _).alloc (Nat.le_refl _) _).block _ (by simp))
 have ba:Bx W1 (W.heap.size+1) [.int .i64 0, .int .i64 0]:=by
  rw [hW1];have:=bx_new (W.alloc (.cells #[.int .i64 c.what, .int .i64 c.ses, .int .i64 c.seq, .string (byStr c.name), .int .i64 c.num, .int .i64 c.share, .slice a c.bys.length cap] 44)) [.int .i64 0, .int .i64 0] 40
  rwa [show (W.alloc (.cells #[.int .i64 c.what, .int .i64 c.ses, .int .i64 c.seq, .string (byStr c.name), .int .i64 c.num, .int .i64 c.share, .slice a c.bys.length cap] 44)).heap.size=W.heap.size+1 by simp] at this
 have CT:Hid (Calls Tryz.prog 26 #[.pointer (some ⟨f,0,none⟩),caV c a cap] W1 λ e w'=>e = .returned (.bool true)/\Below W1.heap.size W1 w'):=by
  have:=sh_Counts (h.below b1.out) c a cap hb (by omega)
  rcases M.cnt_ways S c with ⟨z,_,_⟩ | ⟨_,z | z | z⟩
  · rw [z] at this;exact this
  · exact absurd q1 z
  · exact absurd z q2
  · exact absurd z q3
 unfold caV at CT;have BX:=hide bx;have BA:=hide ba;have c0:=bx.cell 0 _ rfl;have c1:=bx.cell 1 _ rfl;have c2:=bx.cell 2 _ rfl;have c3:=bx.cell 3 _ rfl;have c4:=bx.cell 4 _ rfl;have c5:=bx.cell 5 _ rfl;have c6:=bx.cell 6 _ rfl;clear bx ba;have fl:f<W.heap.size:=h.lt;have Z1:=hide z1
 have T0:Hid (∀ q,W.heap.size<=q->T q=0):=λ q hq=>by
  by_cases z:T q=0
  · exact z
  · have:=h.tlt q z;omega
 have AFT:=hide (λ wc (hw:Below W.heap.size W wc) hX hA=>cnt_do h c a cap hb nl hr ha hc h63 hi hn hs wh hw hX hA);unfold caV at AFT
 have SD:=hide (λ (w:World) (N:Nat) (hL:LeftN W f T N ⟨S.idx+1,(M.act S c).2.2,S.done⟩ w) (hN:W.heap.size<=N)=>said_left (S:=S) (d:=⟨c.ses,c.seq,if (M.act S c).2.1=0 then ⟨(M.act S c).1,S.idx+1⟩ else M.an0,(M.act S c).2.1⟩) hL hN h.inv.dl hi ses1 (λ z=>by
  have z':(M.act S c).2.1=0:=z;show 1<=(if (M.act S c).2.1=0 then (⟨(M.act S c).1,S.idx+1⟩:M.An) else M.an0).idx/\_;rw [if_pos z'];show 1<=S.idx+1/\S.idx+1<=S.idx+1
  omega))
 have UP:Hid (∀ wc,Below W1.heap.size W1 wc->Below W.heap.size W wc/\Bx wc W.heap.size [.int .i64 c.what, .int .i64 c.ses, .int .i64 c.seq, .string (byStr c.name), .int .i64 c.num, .int .i64 c.share, .slice a c.bys.length cap]/\Bx wc (W.heap.size+1) [.int .i64 0, .int .i64 0]):=λ wc h3=>⟨below_on b1.out h3,BX.out.keep (h3.block _ BX.out.lt),BA.out.keep (h3.block _ BA.out.lt)⟩
 have CN:Hid (M.cntF S c=(if (M.act S c).2.1=0 then ⟨(M.act S c).1,S.idx+1⟩ else M.an0,(M.act S c).2.1,⟨S.idx+1,(M.act S c).2.2,M.say S.done (M.lastN ⟨S.idx+1,(M.act S c).2.2,S.done⟩ c.ses) ⟨c.ses,c.seq,if (M.act S c).2.1=0 then ⟨(M.act S c).1,S.idx+1⟩ else M.an0,(M.act S c).2.1⟩⟩)):=rfl;rw [CN.out];simp only;unfold lastV at SD;clear hb hr ha hc hn hs q1 q2 q3 wh ses1 seq1 nl h CN z1;generalize hS9:(⟨S.idx+1,(M.act S c).2.2,M.say S.done (M.lastN ⟨S.idx+1,(M.act S c).2.2,S.done⟩ c.ses) ⟨c.ses,c.seq,if (M.act S c).2.1=0 then ⟨(M.act S c).1,S.idx+1⟩ else M.an0,(M.act S c).2.1⟩⟩:M.Sh)=S9 at *;clear hS9;generalize (⟨S.idx+1,(M.act S c).2.2,S.done⟩:M.Sh)=S6 at *;generalize (M.act S c).2.1=re at *;generalize (M.act S c).1=rn at *;generalize hI:S.idx=I at *;clear hI;generalize byStr c.name=s at *
 go_enter Tryz.func13, Tryz.ntmps13
 go_upto_region 1 with fail
 rw [←hW1];clear hW1
 go_upto_region 3 with (go_at_call 26;refine CT.out.mono ?_;rintro e wm ⟨rfl,h2⟩;obtain ⟨wb,bX,bA⟩:=UP.out wm h2;clear h2)
 obtain ⟨⟨x2,xf⟩,oc,DO⟩:=AFT.out wm wb bX bA;have d2:=bX.cell 2 _ rfl;have e0:=(oc 0).trans (bX.cell 0 _ rfl);have e1:=(oc 1).trans (bX.cell 1 _ rfl);have e2:=(oc 2).trans (bX.cell 2 _ rfl);have e3:=(oc 3).trans (bX.cell 3 _ rfl);have e4:=(oc 4).trans (bX.cell 4 _ rfl);have e5:=(oc 5).trans (bX.cell 5 _ rfl);have e6:=(oc 6).trans (bX.cell 6 _ rfl);have DO':=hide DO;have zc:Hid (W.heap.size+1<wm.heap.size):=bA.lt;have z4:Hid ((wm.setCell ⟨f,2,none⟩ (.int .i64 (I+1))).heap.size=wm.heap.size):=World.size_setCell ..;clear DO AFT UP oc bX bA wb c0 c1 c2 c3 c4 c5 c6 CT
 go_upto_region 4 with fail
 generalize hw4:wm.setCell ⟨f,2,none⟩ (.int .i64 (I+1))=w4 at *;clear hw4 x2 xf d2
 have l1:W.heap.size<w4.heap.size:=by have:=z4.out;have:=zc.out;omega
 have l2 : ¬ W.heap.size=w4.heap.size:=by omega
 go_upto_region 6 with (go_at_call 38;refine DO'.out.mono ?_;rintro e w6 ⟨rfl,lf,b8,b0,ba⟩;have LF:=hide lf;have B8:=hide b8;have B0:=hide b0;have BA6:=hide ba;clear lf b8 b0 ba)
 clear e0 e1 e2 e3 e4 e5 e6 DO';have hz4:=z4.out;rw [hz4] at *;clear hz4;have b81:=B8.out.cell 1 _ rfl;have b82:=B8.out.cell 2 _ rfl;have b83:=B8.out.cell 3 _ rfl;have f81:=B8.out.free 1;have f82:=B8.out.free 2;have f83:=B8.out.free 3
 by_cases hz:re=0
 case neg =>
  rw [if_neg hz,err_some hz] at SD;rw [err_some hz];have HZ:=hide hz;clear hz
  go_upto_region 9 with fail
  clear b81 b82 b83 f81 f82 f83;have L7:Hid (LeftN W f T (wm.heap.size+1) S6 (w6.setCell ⟨wm.heap.size,3,none⟩ (.iface 69 (.int .i64 re)))):=LF.out.set (T0.out _ (by have:=zc.out;omega)) (by omega) (by have:=zc.out;omega);have B7:Hid (Bx (w6.setCell ⟨wm.heap.size,3,none⟩ (.iface 69 (.int .i64 re))) wm.heap.size [.int .i64 c.seq, .int .i64 0, .int .i64 0, .iface 69 (.int .i64 re)]):=B8.out.put (j:=3);have A7:Hid (Bx (w6.setCell ⟨wm.heap.size,3,none⟩ (.iface 69 (.int .i64 re))) (W.heap.size+1) [.int .i64 0, .int .i64 0]):=BA6.out.else (by have:=zc.out;omega);have C7:Hid ((w6.setCell ⟨wm.heap.size,3,none⟩ (.iface 69 (.int .i64 re))).cell? ⟨W.heap.size,1,none⟩=some (.int .i64 c.ses)):=(B0.out.else (by have:=zc.out;omega)).cell 1 _ rfl;clear LF B8 B0 BA6;generalize (w6.setCell ⟨wm.heap.size,3,none⟩ (.iface 69 (.int .i64 re)))=w7 at *;obtain ⟨ml7,v1,_,_,upd⟩:=SD.out _ _ L7.out (by have:=zc.out;omega);obtain ⟨w9,r9,lf9,k9,z9⟩:=upd w7 rfl rfl rfl rfl;obtain ⟨wd,rd,lfd,kd,zd⟩:=upd w7.drew rfl rfl rfl rfl;replace r9:(Instr.mapUpdate 87 (.map (some ml7)) (.int .i64 c.ses) (.agg #[.int .i64 c.seq, .int .i64 0, .int .i64 0, .iface 69 (.int .i64 re)])).run Tryz.prog w7 = .ok () w9:=r9;replace rd:(Instr.mapUpdate 87 (.map (some ml7)) (.int .i64 c.ses) (.agg #[.int .i64 c.seq, .int .i64 0, .int .i64 0, .iface 69 (.int .i64 re)])).run Tryz.prog w7.drew = .ok () wd:=rd;have c71:=C7.out;have b70:=B7.out.cell 0 _ rfl;have b71:=B7.out.cell 1 _ rfl;have b72:=B7.out.cell 2 _ rfl;have b73:=B7.out.cell 3 _ rfl;have zc':=zc.out;have b7l:=B7.out.lt;have a7l:=A7.out.lt
  have R9:Hid (LeftN W f T (wm.heap.size+1) S9 w9/\Bx w9 wm.heap.size [.int .i64 c.seq, .int .i64 0, .int .i64 0, .iface 69 (.int .i64 re)]/\Bx w9 (W.heap.size+1) [.int .i64 0, .int .i64 0]):=⟨lf9,B7.out.keep (k9 _ b7l (T0.out _ (by omega)) (by omega)),A7.out.keep (k9 _ a7l (T0.out _ (by omega)) (by omega))⟩
  have RD:Hid (LeftN W f T (wm.heap.size+1) S9 wd/\Bx wd wm.heap.size [.int .i64 c.seq, .int .i64 0, .int .i64 0, .iface 69 (.int .i64 re)]/\Bx wd (W.heap.size+1) [.int .i64 0, .int .i64 0]):=⟨lfd,B7.out.keep (kd _ b7l (T0.out _ (by omega)) (by omega)),A7.out.keep (kd _ a7l (T0.out _ (by omega)) (by omega))⟩
  clear upd lf9 lfd k9 kd SD zd z9 zc' b7l a7l
  go_cut [6] from 45 to 51 (λ v wx=>v = .pointer (some ⟨wm.heap.size,0,none⟩)/\Hid (LeftN W f T (wm.heap.size+1) S9 wx/\Bx wx wm.heap.size [.int .i64 c.seq, .int .i64 0, .int .i64 0, .iface 69 (.int .i64 re)]/\Bx wx (W.heap.size+1) [.int .i64 0, .int .i64 0]))
  case first =>
   go_region_with (fail)
   all_goals (
    go_wp2
    go_meet
    case rel=>first | exact ⟨rfl,R9⟩ | exact ⟨rfl,RD⟩ | exact ⟨rfl,RD.out.1.drew,RD.out.2⟩ | exact ⟨rfl,R9.out.1.drew,R9.out.2⟩)
  case rest =>
   clear r9 rd v1 b70 b71 b72 b73 c71;obtain ⟨rfl,HF⟩:=hcut;have rb:=HF.out.2.1;have ra:=HF.out.2.2;have p0:=rb.cell 0 _ rfl;have p1:=rb.cell 1 _ rfl;have p2:=rb.cell 2 _ rfl;have p3:=rb.cell 3 _ rfl;have s0:=ra.cell 0 _ rfl;have s1:=ra.cell 1 _ rfl;have t0:=ra.free 0;have t1:=ra.free 1
   have n1 : ¬ W.heap.size+1=wm.heap.size:=by have:=zc.out;omega
   have n2 : ¬ wm.heap.size=W.heap.size+1:=by omega
   have fin:=(ra.put (j:=0) (v := .int .i64 0)).put (j:=1) (v := .int .i64 0);have e0:=fin.cell 0 _ rfl;have e1:=fin.cell 1 _ rfl;have E0:=hide e0;have E1:=hide e1;have LFF:Hid (Left W f T S9 ((wc.setCell ⟨W.heap.size+1,0,none⟩ (.int .i64 0)).setCell ⟨W.heap.size+1,1,none⟩ (.int .i64 0))):=((HF.out.1.set (T0.out _ (by omega)) (by have:=zc.out;omega) (by omega)).set (T0.out _ (by omega)) (by have:=zc.out;omega) (by omega)).left (by have:=zc.out;omega)
   have DR:Hid (∀ V,Left W f T S9 V->Left W f T S9 V.drew):=λ V ⟨T',g1,g2,g3⟩=>⟨T',g1.up (λ _ _=>rfl) (Nat.le_refl _),⟨g2.os,g2.tape,g2.output,g2.size,g2.block⟩,g3⟩
   clear rb ra fin e0 e1
   go_upto_region 10 with fail
   go_region_with (fail)
   all_goals (
    go_simp
    go_wp2
    have e0:=E0.out;have e1:=E1.out;refine bodyPost_ret (v := .tuple #[.agg #[.int .i64 0, .int .i64 0], .iface 69 (.int .i64 re)]) (by simp [results, Tryz.results13,go_sem,e0,e1]) rfl ?_
    refine ⟨by rw [err_some HZ.out];rfl, ?_⟩
    repeat (first | exact LFF.out | refine DR.out _ ?_))
 case pos =>
  rw [if_pos hz,err_nil hz] at SD;rw [err_nil hz];have HZ:=hide hz;clear hz;obtain ⟨_,_,v2,_,_⟩:=SD.out _ _ LF.out (by have:=zc.out;omega)
  go_upto_region 9 with fail
  clear b81 b82 b83 f81 f82 f83 v2;have L7:Hid (LeftN W f T (wm.heap.size+1) S6 ((w6.setCell ⟨wm.heap.size,1,none⟩ (.int .i64 rn)).setCell ⟨wm.heap.size,2,none⟩ (.int .i64 (I+1)))):=(LF.out.set (T0.out _ (by have:=zc.out;omega)) (by omega) (by have:=zc.out;omega)).set (T0.out _ (by have:=zc.out;omega)) (by omega) (by have:=zc.out;omega);have B7:Hid (Bx ((w6.setCell ⟨wm.heap.size,1,none⟩ (.int .i64 rn)).setCell ⟨wm.heap.size,2,none⟩ (.int .i64 (I+1))) wm.heap.size [.int .i64 c.seq, .int .i64 rn, .int .i64 (I+1), .nilIface]):=(B8.out.put (j:=1)).put (j:=2);have A7:Hid (Bx ((w6.setCell ⟨wm.heap.size,1,none⟩ (.int .i64 rn)).setCell ⟨wm.heap.size,2,none⟩ (.int .i64 (I+1))) (W.heap.size+1) [.int .i64 0, .int .i64 0]):=(BA6.out.else (by have:=zc.out;omega)).else (by have:=zc.out;omega);have C7:Hid (((w6.setCell ⟨wm.heap.size,1,none⟩ (.int .i64 rn)).setCell ⟨wm.heap.size,2,none⟩ (.int .i64 (I+1))).cell? ⟨W.heap.size,1,none⟩=some (.int .i64 c.ses)):=((B0.out.else (by have:=zc.out;omega)).else (by have:=zc.out;omega)).cell 1 _ rfl;clear LF B8 B0 BA6;generalize ((w6.setCell ⟨wm.heap.size,1,none⟩ (.int .i64 rn)).setCell ⟨wm.heap.size,2,none⟩ (.int .i64 (I+1)))=w7 at *;obtain ⟨ml7,v1,_,_,upd⟩:=SD.out _ _ L7.out (by have:=zc.out;omega);obtain ⟨w9,r9,lf9,k9,z9⟩:=upd w7 rfl rfl rfl rfl;obtain ⟨wd,rd,lfd,kd,zd⟩:=upd w7.drew rfl rfl rfl rfl;replace r9:(Instr.mapUpdate 87 (.map (some ml7)) (.int .i64 c.ses) (.agg #[.int .i64 c.seq, .int .i64 rn, .int .i64 (I+1), .nilIface])).run Tryz.prog w7 = .ok () w9:=r9;replace rd:(Instr.mapUpdate 87 (.map (some ml7)) (.int .i64 c.ses) (.agg #[.int .i64 c.seq, .int .i64 rn, .int .i64 (I+1), .nilIface])).run Tryz.prog w7.drew = .ok () wd:=rd;have c71:=C7.out;have b70:=B7.out.cell 0 _ rfl;have b71:=B7.out.cell 1 _ rfl;have b72:=B7.out.cell 2 _ rfl;have b73:=B7.out.cell 3 _ rfl;have zc':=zc.out;have b7l:=B7.out.lt;have a7l:=A7.out.lt
  have R9:Hid (LeftN W f T (wm.heap.size+1) S9 w9/\Bx w9 wm.heap.size [.int .i64 c.seq, .int .i64 rn, .int .i64 (I+1), .nilIface]/\Bx w9 (W.heap.size+1) [.int .i64 0, .int .i64 0]):=⟨lf9,B7.out.keep (k9 _ b7l (T0.out _ (by omega)) (by omega)),A7.out.keep (k9 _ a7l (T0.out _ (by omega)) (by omega))⟩
  have RD:Hid (LeftN W f T (wm.heap.size+1) S9 wd/\Bx wd wm.heap.size [.int .i64 c.seq, .int .i64 rn, .int .i64 (I+1), .nilIface]/\Bx wd (W.heap.size+1) [.int .i64 0, .int .i64 0]):=⟨lfd,B7.out.keep (kd _ b7l (T0.out _ (by omega)) (by omega)),A7.out.keep (kd _ a7l (T0.out _ (by omega)) (by omega))⟩
  clear upd lf9 lfd k9 kd SD zd z9 zc' b7l a7l
  go_cut [6] from 45 to 51 (λ v wx=>v = .pointer (some ⟨wm.heap.size,0,none⟩)/\Hid (LeftN W f T (wm.heap.size+1) S9 wx/\Bx wx wm.heap.size [.int .i64 c.seq, .int .i64 rn, .int .i64 (I+1), .nilIface]/\Bx wx (W.heap.size+1) [.int .i64 0, .int .i64 0]))
  case first =>
   go_region_with (fail)
   all_goals (
    go_wp2
    go_meet
    case rel=>first | exact ⟨rfl,R9⟩ | exact ⟨rfl,RD⟩ | exact ⟨rfl,RD.out.1.drew,RD.out.2⟩ | exact ⟨rfl,R9.out.1.drew,R9.out.2⟩)
  case rest =>
   clear r9 rd v1 b70 b71 b72 b73 c71;obtain ⟨rfl,HF⟩:=hcut;have rb:=HF.out.2.1;have ra:=HF.out.2.2;have p0:=rb.cell 0 _ rfl;have p1:=rb.cell 1 _ rfl;have p2:=rb.cell 2 _ rfl;have p3:=rb.cell 3 _ rfl;have s0:=ra.cell 0 _ rfl;have s1:=ra.cell 1 _ rfl;have t0:=ra.free 0;have t1:=ra.free 1
   have n1 : ¬ W.heap.size+1=wm.heap.size:=by have:=zc.out;omega
   have n2 : ¬ wm.heap.size=W.heap.size+1:=by omega
   have fin:=(ra.put (j:=0) (v := .int .i64 rn)).put (j:=1) (v := .int .i64 (I+1));have e0:=fin.cell 0 _ rfl;have e1:=fin.cell 1 _ rfl;have E0:=hide e0;have E1:=hide e1;have LFF:Hid (Left W f T S9 ((wc.setCell ⟨W.heap.size+1,0,none⟩ (.int .i64 rn)).setCell ⟨W.heap.size+1,1,none⟩ (.int .i64 (I+1)))):=((HF.out.1.set (T0.out _ (by omega)) (by have:=zc.out;omega) (by omega)).set (T0.out _ (by omega)) (by have:=zc.out;omega) (by omega)).left (by have:=zc.out;omega)
   have DR:Hid (∀ V,Left W f T S9 V->Left W f T S9 V.drew):=λ V ⟨T',g1,g2,g3⟩=>⟨T',g1.up (λ _ _=>rfl) (Nat.le_refl _),⟨g2.os,g2.tape,g2.output,g2.size,g2.block⟩,g3⟩
   clear rb ra fin e0 e1
   go_upto_region 10 with fail
   go_region_with (fail)
   all_goals (
    go_simp
    go_wp2
    have e0:=E0.out;have e1:=E1.out;refine bodyPost_ret (v := .tuple #[.agg #[.int .i64 rn, .int .i64 (I+1)], .nilIface]) (by simp [results, Tryz.results13,go_sem,e0,e1]) rfl ?_
    refine ⟨by rw [err_nil rfl];rfl, ?_⟩
    repeat (first | exact LFF.out | refine DR.out _ ?_))
theorem sh_Do {W:World} {f:Nat} {T:Nat->Nat} {S:M.Sh} (h:SA W f T S) {c:M.Ca} {a:Option Addr} {cap:Nat} (hc:CaIn W c a cap) (ha:c.bys ≠ [] -> ∀ p,a=some p->T p.block=0) (hi:S.idx<=900000) :
 Calls Tryz.prog 13 #[.pointer (some ⟨f,0,none⟩),caV c a cap] W λ e w'=>e = .returned (.tuple #[anV (M.shDo S c).1,errV (M.shDo S c).2.1])/\Left W f T (M.shDo S c).2.2 w':=by
 obtain ⟨mm,ml,D,E,kb,mb,va,vc,G,h⟩:=h
 by_cases q:M.callF c≠0∨(M.was S c.ses).seq=c.seq∨c.seq<(M.was S c.ses).seq
 · have e:(M.shDo S c).2.2=S:=by
    refine M.cnt_no ?_
    rcases M.cnt_ways S c with ⟨_,z,y⟩ | ⟨z,_⟩
    · rcases q with x | x | x
      · exact absurd z x
      · omega
      · omega
    · exact z
   refine (sh_Do_no h c a cap hc.nb hc.nl q).mono ?_;rintro _ w' ⟨rfl,hb⟩;rw [e]
   exact ⟨rfl,T,⟨mm,ml,D,E,kb,mb,va,vc,G,h.below hb⟩,stay_of hb (Nat.le_refl _),λ q hq => .inl hq⟩
 · have q1:M.callF c=0:=by
    by_cases z:M.callF c=0
    · exact z
    · exact absurd (.inl z) q
   have q2 : ¬ (M.was S c.ses).seq=c.seq:=λ z=>q (.inr (.inl z));have q3 : ¬ c.seq<(M.was S c.ses).seq:=λ z=>q (.inr (.inr z));rw [M.do_is q1,if_neg q2,if_neg q3];exact sh_Do_yes h c a cap hc.nb hc.rd ha hc.le hc.cp hi hc.num hc.shr q1 q2 q3
structure Has (W0 w:World) (f:Nat) (T:Nat->Nat) (S:M.Sh):Prop where
 sa:SA w f T S
 bl:Below W0.heap.size W0 w
 tn : ∀ q,T q≠0->W0.heap.size<=q
theorem SA.lt {w:World} {f:Nat} {T:Nat->Nat} {S:M.Sh} (h:SA w f T S) {q:Nat} (hq:w.heap.size<=q):T q=0:=by
 obtain ⟨mm,ml,D,E,kb,mb,va,vc,G,h⟩:=h
 by_cases z:T q=0
 · exact z
 · have:=h.tlt q z;omega
theorem Has.up {W0 w w':World} {f:Nat} {T:Nat->Nat} {S:M.Sh} (h:Has W0 w f T S) (hb:Below w.heap.size w w'):Has W0 w' f T S :=
 ⟨h.sa.up (λ q hq=>hb.block q (by
  by_cases z:q<w.heap.size
  · exact z
  · exact absurd (h.sa.lt (by omega)) hq)) hb.size,below_on h.bl hb,h.tn⟩
theorem Has.left {W0 w w':World} {f:Nat} {T:Nat->Nat} {S S':M.Sh} (h:Has W0 w f T S) (hl:Left w f T S' w') : ∃ T',Has W0 w' f T' S'/\(∀ q,q<w.heap.size->T q=0->T' q=0/\w'.heap[q]? = w.heap[q]?)/\w.heap.size<=w'.heap.size:=by
 obtain ⟨T',a,b,c⟩:=hl;have z:=h.bl.size
 refine ⟨T',⟨a,⟨b.os.trans h.bl.os,b.tape.trans h.bl.tape,b.output.trans h.bl.output,Nat.le_trans z b.size,λ q hq => ?_⟩,λ q hq => ?_⟩,λ q hq ht=>⟨?_,b.block q hq (λ y=>y ht)⟩,b.size⟩
 · rw [b.block q (by omega) (λ y=>by have:=h.tn q y;omega)]
   exact h.bl.block q hq
 · rcases c q hq with y | y
   · exact h.tn q y
   · omega
 · by_cases y:T' q=0
   · exact y
   · rcases c q y with x | x
     · exact absurd ht x
     · omega
end Go.Proofs.YtaijnacghiloaaaGreatDoor

namespace Go.Proofs.YtaijnacghiloaaaGreatDoor.M
set_option linter.unusedVariables false
def GG (S:Sh):Prop := ∀ k,k<S.l.length->groveF (S.l.getD k vg0).2=0
theorem gg_zero:GG sh0:=λ k hk=>by simp [sh0] at hk
theorem dec_good {b:List Nat} (h:(decF b).2=0):groveF (decV b)=0:=by
 have dv:decV b=rGrove b:=by unfold decV;rw [if_pos h]
 rw [dv];unfold decF at h
 by_cases z:groveF (rGrove b)=0
 · exact z
 · split at h
   · simp at h
   · split at h
     · simp at h;omega
     · split at h
       · simp at h
       · exact h
def keepV (l r:List (Vn×Gv)):Prop := ∀ k,k<l.length->k<r.length/\(r.getD k vg0).1.name=(l.getD k vg0).1.name/\(r.getD k vg0).1.num=(l.getD k vg0).1.num/\(r.getD k vg0).2=(l.getD k vg0).2
theorem keep_refl (l:List (Vn×Gv)):keepV l l:=λ k hk=>⟨hk,rfl,rfl,rfl⟩
theorem keep_setV (l:List (Vn×Gv)) (k:Nat) (st sh:Int):keepV l (setV l k st sh):=λ j hj=>by
 rw [len_setV,getD_setV l k st sh hj]
 by_cases q:k=j
 · rw [if_pos q];exact ⟨hj,rfl,rfl,rfl⟩
 · rw [if_neg q];exact ⟨hj,rfl,rfl,rfl⟩
theorem keep_setS (l:List (Vn×Gv)) (k:Nat) (st:Int):keepV l (setS l k st):=λ j hj=>by
 have e:(setS l k st).getD j vg0=if k=j then (⟨(l.getD j vg0).1.name,(l.getD j vg0).1.num,st,(l.getD j vg0).1.share⟩,(l.getD j vg0).2) else l.getD j vg0:=by
  unfold setS;exact mod_at hj
 have el:(setS l k st).length=l.length:=by unfold setS;rw [List.length_modify]
 rw [el,e]
 by_cases q:k=j
 · rw [if_pos q];exact ⟨hj,rfl,rfl,rfl⟩
 · rw [if_neg q];exact ⟨hj,rfl,rfl,rfl⟩
theorem keep_trans {a b c:List (Vn×Gv)} (h:keepV a b) (k:keepV b c):keepV a c:=λ j hj=>by
 obtain ⟨h1,h2,h3,h4⟩:=h j hj;obtain ⟨k1,k2,k3,k4⟩:=k j h1
 exact ⟨k1,k2.trans h2,k3.trans h3,k4.trans h4⟩
theorem keep_app (l:List (Vn×Gv)) (x:Vn×Gv):keepV l (l ++ [x]):=λ j hj=>by
 have e:(l ++ [x]).getD j vg0=l.getD j vg0:=by simp [List.getD,List.getElem?_append_left hj]
 rw [e]
 exact ⟨by simp;omega,rfl,rfl,rfl⟩
theorem act_keep (s:Sh) (c:Ca):keepV s.l (act s c).2.2/\((act s c).2.2.length=s.l.length ∨ ∃ x:Vn×Gv,groveF x.2=0/\(act s c).2.2=s.l ++ [x]):=by
 unfold act
 by_cases w1:c.what=1
 · rw [if_pos w1]
   by_cases d:(decF c.bys).2≠0
   · rw [if_pos d];exact ⟨keep_refl _, .inl rfl⟩
   · rw [if_neg d]
     by_cases m:many s c.name=0/\8<=names s
     · rw [if_pos m];exact ⟨keep_refl _, .inl rfl⟩
     · rw [if_neg m]
       exact ⟨keep_app _ _, .inr ⟨_,dec_good (by omega),rfl⟩⟩
 · rw [if_neg w1]
   cases verN s c.name c.num with
   | none=>exact ⟨keep_refl _, .inl rfl⟩
   | some k =>
     simp only
     by_cases w2:c.what=2
     · rw [if_pos w2]
       repeat' split
       all_goals first
        | exact ⟨keep_refl _, .inl rfl⟩
        | exact ⟨keep_setV _ _ _ _, .inl (len_setV _ _ _ _)⟩
     · rw [if_neg w2]
       have tw : ∀ o,(setV (setS s.l o 4) k 3 0).length=s.l.length:=λ o=>by rw [len_setV];unfold setS;rw [List.length_modify]
       by_cases w3:c.what=3
       · rw [if_pos w3]
         split
         · exact ⟨keep_refl _, .inl rfl⟩
         · cases atN s c.name 3 with
           | none=>exact ⟨keep_setV _ _ _ _, .inl (len_setV _ _ _ _)⟩
           | some o=>exact ⟨keep_trans (keep_setS _ _ _) (keep_setV _ _ _ _), .inl (tw o)⟩
       · rw [if_neg w3]
         split
         · exact ⟨keep_refl _, .inl rfl⟩
         · exact ⟨keep_setV _ _ _ _, .inl (len_setV _ _ _ _)⟩
theorem do_list (s:Sh) (c:Ca):(shDo s c).2.2.l=s.l∨(shDo s c).2.2.l=(act s c).2.2:=by
 unfold shDo
 by_cases f:callF c≠0
 · rw [if_pos f];exact .inl rfl
 · rw [if_neg f]
   cases lastN s c.ses with
   | none=>exact .inr rfl
   | some k =>
     simp only
     repeat' split
     all_goals first
      | exact .inl rfl
      | exact .inr rfl
theorem do_keep (s:Sh) (c:Ca):keepV s.l (shDo s c).2.2.l:=by
 rcases do_list s c with e | e
 · rw [e];exact keep_refl _
 · rw [e];exact (act_keep s c).1
theorem gg_do {s:Sh} (h:GG s) (c:Ca):GG (shDo s c).2.2:=by
 intro k hk
 by_cases q:k<s.l.length
 · rw [(do_keep s c k q).2.2.2];exact h k q
 · rcases do_list s c with e | e
   · rw [e] at hk;exact absurd hk q
   · rw [e] at hk ⊢
     rcases (act_keep s c).2 with e2 | ⟨x,h1,e2⟩
     · rw [e2] at hk;exact absurd hk q
     · rw [e2] at hk ⊢
       have ek:k=s.l.length:=by simp at hk;omega
       rw [ek];simp [List.getD];exact h1
theorem pick_is {S:Sh} {n:List Nat} {key:Int} {k:Nat} (h:pickO S n key=some k):k<S.l.length/\(vAt S k).name=n/\(vAt S k).stage≠4:=by
 have key1 : ∀ st:Int,(st=2∨st=3) -> ∀ j,atN S n st=some j->j<S.l.length/\(vAt S j).name=n/\(vAt S j).stage≠4:=λ st hs j hj=>by
  obtain ⟨a,b,c⟩:=at_is hj
  refine ⟨a,b, ?_⟩
  have c':(vAt S j).stage=st:=c;omega
 unfold pickO at h
 cases e:atN S n 2 with
 | none=>rw [e] at h;exact key1 3 (.inr rfl) k h
 | some c =>
   rw [e] at h;simp only at h
   split at h
   · cases h;exact key1 2 (.inl rfl) _ e
   · exact key1 3 (.inr rfl) k h
def grvO (S:Sh) (o:Option Nat):Gv:=match o with
 | none=>(0,0, [], [])
 | some k=>(S.l.getD k vg0).2
def scF (S:Sh) (i:Int) (n:List Nat) (r:List Int) (key tok:Int):Int :=
 if timeB tok=false then 1 else if i<tok then 6 else if pickF S n key≠0 then pickF S n key else standF (grvO S (pickO S n key)) r
def scV (S:Sh) (i:Int) (n:List Nat) (r:List Int) (key tok:Int):Int×Int×Int :=
 if scF S i n r key tok≠0 then (0,0,0) else (evalG (grvO S (pickO S n key)) r,(pickV S n key).num,i)
def cU (k:Int) (b:List Nat):Ca:=⟨1,0,k, [109],0,0,b⟩
def cP (k n:Int):Ca:=⟨3,0,k, [109],n,0, []⟩
def cT (k n s:Int):Ca:=⟨2,0,k, [109],n,s, []⟩
def cR (k n:Int):Ca:=⟨4,0,k, [109],n,0, []⟩
def sT (k:Int) (a:An) (l:List (Vn×Gv)):Sh:=⟨k,l, [⟨0,k,a,0⟩]⟩
def vT (n st s:Int) (g:Gv):Vn×Gv:=(⟨[109],n,st,s⟩,g)
theorem serve1 {b:List Nat} (h:(decF b).2=0):shDo sh0 (cU 1 b)=(⟨1,1⟩,0,sT 1 ⟨1,1⟩ [vT 1 1 0 (decV b)]):=by
 simp [shDo,act,cU,callF,lastN,findN,sh0,timeB,letB,many,names,h,sT,vT]
theorem serve2 {b:List Nat} {g:Gv} (h:(decF b).2=0):shDo (sT 1 ⟨1,1⟩ [vT 1 1 0 g]) (cU 2 b)=(⟨2,2⟩,0,sT 2 ⟨2,2⟩ [vT 1 1 0 g,vT 2 1 0 (decV b)]):=by
 simp [shDo,act,cU,callF,lastN,findN,timeB,letB,many,names,h,sT,vT]
theorem serve3 (g h:Gv):shDo (sT 2 ⟨2,2⟩ [vT 1 1 0 g,vT 2 1 0 h]) (cP 3 1)=(⟨0,3⟩,0,sT 3 ⟨0,3⟩ [vT 1 3 0 g,vT 2 1 0 h]):=by
 simp [shDo,act,cP,callF,lastN,findN,timeB,letB,sT,vT,verN,atN,setV]
theorem serve4 (g h:Gv) {s:Int} (h1:1<=s) (h2:s<=99):shDo (sT 3 ⟨0,3⟩ [vT 1 3 0 g,vT 2 1 0 h]) (cT 4 2 s)=(⟨0,4⟩,0,sT 4 ⟨0,4⟩ [vT 1 3 0 g,vT 2 2 s h]):=by
 have q : ¬ (s<1∨99<s):=by omega
 simp [shDo,act,cT,callF,lastN,findN,timeB,letB,sT,vT,verN,atN,setV,q]
theorem serve5 (g h:Gv) (s:Int):shDo (sT 4 ⟨0,4⟩ [vT 1 3 0 g,vT 2 2 s h]) (cR 5 2)=(⟨0,5⟩,0,sT 5 ⟨0,5⟩ [vT 1 3 0 g,vT 2 4 0 h]):=by
 simp [shDo,act,cR,callF,lastN,findN,timeB,letB,sT,vT,verN,setV]
theorem serve6 (g h:Gv):shDo (sT 5 ⟨0,5⟩ [vT 1 3 0 g,vT 2 4 0 h]) (cR 6 1)=(⟨0,6⟩,0,sT 6 ⟨0,6⟩ [vT 1 4 0 g,vT 2 4 0 h]):=by
 simp [shDo,act,cR,callF,lastN,findN,timeB,letB,sT,vT,verN,setV]
theorem cnt_zero {c:Ca} (h:callF c=0) (hs:0<c.seq):cntB sh0 c=true:=by
 unfold cntB;rw [h];have:(was sh0 c.ses).seq=0:=rfl;rw [this];simp [hs]
theorem cnt_next {k:Int} {a:An} {l:List (Vn×Gv)} {c:Ca} (h:callF c=0) (h0:c.ses=0) (hs:k<c.seq):cntB (sT k a l) c=true:=by
 unfold cntB;rw [h,h0]
 have:(was (sT k a l) 0).seq=k:=by simp [was,sT,lastN,findN]
 rw [this];simp [hs]
structure Qt (n:Nat) (X:Fl) (l:List Ca):Prop where
 lost:X.lost=false
 cl:X.L.calls=l
 m:X.m=l.length
 ah:X.L.ahead = -1
 st:X.L.stop=false
 kl:X.ks.length=n
theorem qt_zero (n:Nat):Qt n (fl0 n) []:=⟨rfl,rfl,rfl,rfl,rfl,List.length_replicate ..⟩
theorem Qt.S {n:Nat} {X:Fl} {l:List Ca} (h:Qt n X l):X.S=shAll sh0 l:=by
 show shN X.L.calls X.m=_;rw [h.cl,h.m];exact shN_all l
theorem Qt.do {n:Nat} {X:Fl} {l:List Ca} (h:Qt n X l) {c:Ca} (co:CaOk c) (room:(recs l).length+(recL c).length<=100000) {S':Sh} {a:An} (hd:shDo (shAll sh0 l) c=(a,0,S')) (ct:cntB (shAll sh0 l) c=true):(doX X c).1=a/\(doX X c).2.1=0/\Qt n (doX X c).2.2 (l ++ [c])/\(doX X c).2.2.ks=X.ks/\shAll sh0 (l ++ [c])=S':=by
 have sf:stpF X.L=false:=by unfold stpF;rw [h.st,h.ah];rfl
 have af:apF X.L c=0:=by
  unfold apF
  rw [if_neg (by rw [co.rng];decide),if_neg (by
   have:=co.nl;have:=co.bl
   have e:X.L.whole=(recs l).length:=by unfold Lg.whole;rw [h.cl]
   omega),if_neg (by rw [sf];decide)]
 have al:apL X.L c=⟨l ++ [c], [],min X.L.safe X.L.whole, -1,false⟩:=by
  unfold apL;rw [if_neg (by rw [af,h.st];decide),if_neg (by rw [h.ah];decide),if_neg (by rw [h.ah];decide),h.cl,h.ah,h.st]
 have sf2:stpF (apL X.L c)=false:=by rw [al];rfl
 have kf:kpF X c=0:=by
  unfold kpF syF;rw [if_neg (by rw [af];decide),if_neg (by rw [sf2];decide)]
 have kx:(kpX X c).calls=l ++ [c]/\(kpX X c).ahead = -1/\(kpX X c).stop=false:=by
  unfold kpX syL;rw [if_neg (by rw [af];decide),if_neg (by rw [sf2];decide),al]
  exact ⟨rfl,rfl,rfl⟩
 have e:doX X c=(a,0,⟨kpX X c,X.m+1,false,X.ks⟩):=by
  unfold doX;rw [h.lost,if_neg (by decide),h.S,if_pos ct,if_neg (by rw [kf];decide),hd]
 rw [e]
 refine ⟨rfl,rfl,⟨rfl,kx.1,by show X.m+1=_;rw [h.m,List.length_append];rfl,kx.2.1,kx.2.2,h.kl⟩,rfl, ?_⟩
 rw [shAll_app];show (shDo (shAll sh0 l) c).2.2=S';rw [hd]
theorem Qt.crash {n:Nat} {X:Fl} {l:List Ca} (h:Qt n X l) (ok:FlOk X) (lok:LgOk X.L) (keep:Int):Qt n (crX X keep) l/\(crX X keep).ks=X.ks:=by
 obtain ⟨_,q1,q2,q3,_⟩:=cr_fl ok lok keep
 have e:(crX X keep).m=l.length:=by
  have:=h.m;have:=congrArg List.length h.cl;omega
 refine ⟨⟨rfl, ?_,e,rfl,rfl,h.kl⟩,rfl⟩
 rw [q3,e,h.cl,List.take_length]
theorem Qt.tell {n:Nat} {X:Fl} {l:List Ca} (h:Qt n X l) (i:Nat):Qt n (tlX X i) l:=by
 unfold tlX
 split
 · exact ⟨h.lost,h.cl,h.m,h.ah,h.st,by show (X.ks.set i _).length=n;rw [List.length_set];exact h.kl⟩
 · exact h
theorem ca_one {c:Ca} (hn:c.name = [109]) (rg:rngF c=true) (hb:c.bys.length<=6000) (bb : ∀ x∈c.bys,x<256):CaOk c:=⟨rg,by rw [hn];decide,hb,by rw [hn];intro x hx;rw [List.mem_singleton.1 hx];decide,bb⟩
theorem recs_le6 : ∀ l:List Ca,(∀ c∈l,CaOk c)->(recs l).length<=l.length*6170
 | [],_=>by simp [recs]
 | c :: l,h=>by
   have i:=recs_le6 l λ x hx=>h x (List.mem_cons_of_mem _ hx);have:=(h c (List.mem_cons_self ..)).rec_le.2
   have e:recs (c :: l)=recL c ++ recs l:=by unfold recs;simp
   rw [e,List.length_append,List.length_cons,Nat.succ_mul];omega
theorem ask_early (l:List Ca) {k:Nat} (h:k<4) (r:List Int) (key:Int):scF (shN l k) (k:Nat) [109] r key 4=6/\scV (shN l k) (k:Nat) [109] r key 4=(0,0,0):=by
 have e:scF (shN l k) (k:Nat) [109] r key 4=6:=by
  unfold scF;rw [if_neg (by decide),if_pos (by omega)]
 exact ⟨e,by unfold scV;rw [if_pos (by rw [e];decide)]⟩
theorem pick_four {key s:Int} (g h:Gv):pickO (sT 4 ⟨0,4⟩ [vT 1 3 0 g,vT 2 2 s h]) [109] key=if key*37 % 100<s then some 1 else some 0:=by
 simp [pickO,atN,findN,sT,vT,vAt]
theorem ask_four {key s:Int} (g h:Gv) (h0:0<=key) (h1:key<=1000000) (r:List Int) :
 scF (sT 4 ⟨0,4⟩ [vT 1 3 0 g,vT 2 2 s h]) 4 [109] r key 4=standF (if key*37 % 100<s then h else g) r /\
 (standF (if key*37 % 100<s then h else g) r=0->scV (sT 4 ⟨0,4⟩ [vT 1 3 0 g,vT 2 2 s h]) 4 [109] r key 4=(evalG (if key*37 % 100<s then h else g) r,if key*37 % 100<s then 2 else 1,4)) /\
 (standF (if key*37 % 100<s then h else g) r≠0->scV (sT 4 ⟨0,4⟩ [vT 1 3 0 g,vT 2 2 s h]) 4 [109] r key 4=(0,0,0)):=by
 have tk:timeB key=true:=by unfold timeB;simp [h0,h1]
 have pf:pickF (sT 4 ⟨0,4⟩ [vT 1 3 0 g,vT 2 2 s h]) [109] key=0:=by
  unfold pickF;rw [if_neg (by rw [tk];decide),pick_four]
  split <;> rfl
 have gr:grvO (sT 4 ⟨0,4⟩ [vT 1 3 0 g,vT 2 2 s h]) (pickO (sT 4 ⟨0,4⟩ [vT 1 3 0 g,vT 2 2 s h]) [109] key)=if key*37 % 100<s then h else g:=by
  rw [pick_four]
  split <;> rfl
 have nm:(pickV (sT 4 ⟨0,4⟩ [vT 1 3 0 g,vT 2 2 s h]) [109] key).num=if key*37 % 100<s then 2 else 1:=by
  unfold pickV;rw [if_neg (by rw [tk];decide),pick_four]
  split <;> rfl
 have e:scF (sT 4 ⟨0,4⟩ [vT 1 3 0 g,vT 2 2 s h]) 4 [109] r key 4=standF (if key*37 % 100<s then h else g) r:=by
  unfold scF;rw [if_neg (by decide),if_neg (by decide),if_neg (by rw [pf];decide),gr]
 refine ⟨e,λ z => ?_,λ z => ?_⟩
 · unfold scV
   rw [if_neg (by rw [e,z];decide),gr,nm]
 · unfold scV
   rw [if_pos (by rw [e];exact z)]
theorem ask_six {key:Int} (g h:Gv) (h0:0<=key) (h1:key<=1000000) (r:List Int):scF (sT 6 ⟨0,6⟩ [vT 1 4 0 g,vT 2 4 0 h]) 6 [109] r key 6=5:=by
 have tk:timeB key=true:=by unfold timeB;simp [h0,h1]
 have pk:pickO (sT 6 ⟨0,6⟩ [vT 1 4 0 g,vT 2 4 0 h]) [109] key=none:=by simp [pickO,atN,findN,sT,vT]
 have pf:pickF (sT 6 ⟨0,6⟩ [vT 1 4 0 g,vT 2 4 0 h]) [109] key=5:=by
  unfold pickF;rw [if_neg (by rw [tk];decide),pk];rfl
 unfold scF;rw [if_neg (by decide),if_neg (by decide),if_pos (by rw [pf];decide),pf]
end Go.Proofs.YtaijnacghiloaaaGreatDoor.M
