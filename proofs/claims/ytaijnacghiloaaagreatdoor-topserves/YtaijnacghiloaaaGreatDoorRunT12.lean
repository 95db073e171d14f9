/-
  Several texts as one: CdDec, EncL, CdAddB, CdQ, CdEnc, GwLaid, GwDone, GroveP, GFill.
-/
import Derived.Test.YtaijnacghiloaaaGreatDoorRunT11
import Derived.Test.YtaijnacghiloaaaGreatDoorRunT5
import Derived.Test.YtaijnacghiloaaaGreatDoorRunT1
import Derived.Test.YtaijnacghiloaaaGreatDoorRunT4
import Derived.Test.YtaijnacghiloaaaGreatDoorRunT2
import Derived.Deep.Cut
import Derived.Deep.CutRange
import Derived.Deep.AppendLies
import Derived.OwnWalk
namespace Go.Proofs.YtaijnacghiloaaaGreatDoor
open Go.ChangeShapes Go.WideShapes Go.ChangeAt Go.RowKit Go.Lib
set_option linter.unusedVariables false
theorem M.lAll_fin (b:List Nat):(M.lAll b).2.fin<=b.length:=by
 have f : ∀ (k:Nat) {s:M.In},s.fin<=b.length->(M.lTrees b k s).2.fin<=b.length:=by
  intro k
  induction k with
  | zero=>intro s h;exact h
  | succ k ih=>intro s h;exact ih (M.lNodes_fin _ (M.rMany_fin (M.rNum_fin h)))
 refine f _ ?_;exact M.rMany_fin (M.rNum_fin (M.rNum_fin (Nat.zero_le _)))
def M.wrF (b:List Nat):Int:=if (M.lAll b).2.bad≠0 then (M.lAll b).2.bad else if (M.lAll b).2.fin<b.length then 2 else M.groveF (M.lGrove b)
theorem M.dec_is (b:List Nat) (h : ¬ 6000<b.length):M.decF b=(if M.wrF b=0 then (0,0) else (M.lat (M.lAll b).2,M.wrF b))/\(M.wrF b=0->M.decV b=M.lGrove b):=by
 have a:=M.lAll_is b;have f:=M.lAll_fin b
 have e:M.decF b=if (M.rAll b).2.bad≠0 then ((M.rAll b).2.at',(M.rAll b).2.bad) else if (M.rAll b).2.fin≠b.length then ((M.rAll b).2.fin,2) else if M.groveF (M.rGrove b)≠0 then ((M.rAll b).2.fin,M.groveF (M.rGrove b)) else (0,0):=by
  unfold M.decF;rw [if_neg h]
 unfold M.decV;rw [e];unfold M.wrF M.lat;rw [a.1] at f ⊢
 by_cases q:(M.rAll b).2.bad=0
 · rw [if_neg (by simp [q])]
   simp only [if_neg (show ¬ (M.rAll b).2.bad≠0 by simp [q]),if_pos q];rw [a.2 q]
   by_cases r:(M.rAll b).2.fin<b.length
   · rw [if_pos (by omega),if_pos r]
     exact ⟨rfl,λ z=>absurd z (by decide)⟩
   · rw [if_neg (by omega),if_neg r]
     by_cases t:M.groveF (M.rGrove b)=0
     · rw [if_neg (by simp [t]),t]
       exact ⟨rfl,λ _=>rfl⟩
     · rw [if_pos t,if_neg t]
       exact ⟨rfl,λ z=>absurd z t⟩
 · rw [if_pos q]
   simp only [if_pos q,if_neg q]
   exact ⟨by first | rfl | trivial,λ z=>absurd z (by first | exact q | trivial)⟩
set_option maxHeartbeats 16000000 in
set_option maxRecDepth 10000 in
theorem wrongR {w:World} {g:Nat} {a:Option Addr} {bs:List Nat} {c:Nat} {O:Gr} (h:Rdr w g a bs c (M.lAll bs).2) (ho:RdG w O) (hm:O.m=M.lGrove bs):Calls Tryz.prog 137 #[.pointer (some ⟨g,0,none⟩),O.v] w λ e w'=>e = .returned (errV (M.wrF bs))/\Below w.heap.size w w':=by
 have B0:Hid (∀ o,Below w.heap.size w (w.alloc o)):=λ o=>(Below.refl _ w).alloc (Nat.le_refl _) o
 have EW:Hid (M.wrF bs=if (M.lAll bs).2.bad≠0 then (M.lAll bs).2.bad else if (M.lAll bs).2.fin<bs.length then 2 else M.groveF O.m):=by rw [hm];exact rfl
 have GC:=hide (λ W (hW:Below w.heap.size w W)=>gcheck_any O W (ho.below hW));have gl:=h.lt;have ml:=h.rd.1;have fl:=h.fin;generalize (M.lAll bs).2=s at *;generalize M.wrF bs=WF at *;have y0:=h.box.c0;have y1:=h.box.c1;have y2:=h.box.c2;have A0:=λ o=>((B0.out o).cell (p:=⟨g,0,none⟩) gl).trans y0;have A1:=λ o=>((B0.out o).cell (p:=⟨g,1,none⟩) gl).trans y1;have A2:=λ o=>((B0.out o).cell (p:=⟨g,2,none⟩) gl).trans y2;have BB:bs.length<=9223372036854775807:=ml;unfold Gr.v at GC ⊢;clear h ho hm y0 y1 y2 ml
 by_cases q:s.bad=0
 · rw [if_neg (by simp [q])] at EW
   rw [err_nil q] at A2;rw [show M.lat s=s.fin from if_pos q] at A1;have Q:=hide q;clear q
   by_cases r:s.fin<bs.length
   · have EW2:Hid (WF=2):=by unfold Hid;rw [EW.out,if_pos r]
     have t1:decide ((s.fin:Int)<(bs.length:Int))=true:=decide_eq_true (by omega);have t2:decide (s.fin<bs.length)=true:=decide_eq_true r;clear EW GC r
     go_enter Tryz.func137, Tryz.ntmps137
     go_upto_region 3 with fail
     go_quiet (fail)
     have K2:=hide (below_drew (B0.out (.cells #[.int .i64 O.f, .int .i64 O.w, .slice O.wa O.ws.length O.wc, .slice O.ta O.ks.length O.tc] 35)) nq (by simp))
     go_wp2
     go_ret
     exact ⟨by rw [EW2.out];rfl,K2.out⟩
   · have EW2:Hid (WF=M.groveF O.m):=by unfold Hid;rw [EW.out,if_neg r]
     have t1:decide ((s.fin:Int)<(bs.length:Int))=false:=decide_eq_false (by omega);have t2:decide (s.fin<bs.length)=false:=decide_eq_false r;clear EW r
     go_enter Tryz.func137, Tryz.ntmps137
     go_upto_region 3 with fail
     go_quiet (fail)
     have K2:=hide (below_drew (B0.out (.cells #[.int .i64 O.f, .int .i64 O.w, .slice O.wa O.ws.length O.wc, .slice O.ta O.ks.length O.tc] 35)) nq (by simp))
     go_wp2_with (go_at_call 21;refine (GC.out _ K2.out).mono ?_;rintro e w3 ⟨rfl,hb3⟩;have K3:=hide (below_on K2.out hb3);clear hb3)
     go_ret
     exact ⟨by rw [EW2.out];rfl,K3.out⟩
 · rw [if_pos q] at EW
   rw [err_some q] at A2;have Q:=hide q;clear GC q
   go_enter Tryz.func137, Tryz.ntmps137
   go_wp2
   go_ret
   exact ⟨by rw [EW.out,err_some Q.out];rfl,B0.out _⟩
def Gr.no:Gr:=⟨0,0,none, [],0,none, [],0⟩
def CdDecNew:Prop := ∀ (a:Option Addr) (bs:List Nat) (c:Nat) (W:World),RdB W a bs->bs.length<=c->c<=9223372036854775807->Calls Tryz.prog 108 #[.slice a bs.length c] W λ e w' => ∃ O:Gr,e = .returned (.tuple #[O.v, .int .i64 ((M.decF bs).1:Nat),errV (M.decF bs).2])/\O.m=M.decV bs/\NewH W w' O/\Below W.heap.size W w'
theorem Gr.no_rd (W:World):RdG W Gr.no:=⟨⟨Nat.zero_le _,λ h=>absurd rfl h⟩,⟨Nat.zero_le _,(λ k hk=>by cases hk),λ h=>absurd rfl h⟩⟩
theorem box4 {w W:World} {t:TypeId} {x0 x1 x2 x3:Value} (hb:Below (w.alloc (.cells #[x0,x1,x2,x3] t)).heap.size (w.alloc (.cells #[x0,x1,x2,x3] t)) W):(W.cell? ⟨w.heap.size,0,none⟩=some x0/\W.cell? ⟨w.heap.size,1,none⟩=some x1/\W.cell? ⟨w.heap.size,2,none⟩=some x2/\W.cell? ⟨w.heap.size,3,none⟩=some x3) /\ ∀ j,W.frozen? ⟨w.heap.size,j,none⟩=false:=by
 have k:=new_kept rfl hb
 exact ⟨⟨k.1 0 _ rfl,k.1 1 _ rfl,k.1 2 _ rfl,k.1 3 _ rfl⟩,k.2⟩
set_option maxHeartbeats 16000000 in
set_option maxRecDepth 10000 in
theorem cddec_new:CdDecNew:=by
 intro a bs c w h hc h63;have bl:bs.length<=9223372036854775807:=h.1
 by_cases big:6000<bs.length
 · have E1:Hid (M.decF bs=(0,4)):=by unfold Hid M.decF;rw [if_pos big]
   have E2:Hid (M.decV bs=(0,0, [], [])):=by unfold Hid M.decV;rw [E1.out];rfl
   have t1:decide ((6000:Int)<(bs.length:Int))=true:=decide_eq_true (by omega);have t2:decide (6000<bs.length)=true:=decide_eq_true big;obtain ⟨⟨y0,y1,y2,y3⟩,yf⟩:=box4 (w:=w) (t := 35) (x0 := .int .i64 0) (x1 := .int .i64 0) (x2 := .slice none 0 0) (x3 := .slice none 0 0) (Below.refl _ _);have K4:=hide (lay4 (x0 := .int .i64 0) (x1 := .int .i64 0) (x2 := .slice none 0 0) (x3 := .slice none 0 0) ((Below.refl _ w).alloc (Nat.le_refl _) (.cells #[.int .i64 0, .int .i64 0, .slice none 0 0, .slice none 0 0] 35)) (Nat.le_refl _));obtain ⟨e0,e1,e2,e3⟩:=put4_at (x0 := .int .i64 0) (x1 := .int .i64 0) (x2 := .slice none 0 0) (x3 := .slice none 0 0) y0 y1 y2 y3;clear h hc big
   go_enter Tryz.func108, Tryz.ntmps108
   go_wp2
   refine bodyPost_ret (v := .tuple #[.agg #[.int .i64 0, .int .i64 0, .slice none 0 0, .slice none 0 0], .int .i64 0, .iface 69 (.int .i64 4)]) (by simp [results, Tryz.results108,go_sem,y0,y1,y2,y3]) rfl ?_
   exact ⟨Gr.no,by rw [E1.out];rfl,by rw [E2.out];rfl,(λ _ _ _=>Gr.no_rd _),(Below.refl _ w).alloc (Nat.le_refl _) _⟩
 · have D:=hide (M.dec_is bs big)
   have t1:decide ((6000:Int)<(bs.length:Int))=false:=decide_eq_false (by omega);have t2:decide (6000<bs.length)=false:=decide_eq_false big
   obtain ⟨W1,hW1⟩ : ∃ X,X=(w.alloc (.cells #[.int .i64 0, .int .i64 0, .slice none 0 0, .slice none 0 0] 35)).alloc (.cells #[.slice a bs.length c, .int .i64 0, .nilIface] 234):=⟨_,rfl⟩
   have z1:W1.heap.size=w.heap.size+1+1:=by rw [hW1];simp
   have bw1:Below w.heap.size w W1:=by rw [hW1];exact ((Below.refl _ w).alloc (Nat.le_refl _) _).alloc (by simp) _
   have k0:Hid ((W1.cell? ⟨w.heap.size,0,none⟩=some (.int .i64 0)/\W1.cell? ⟨w.heap.size,1,none⟩=some (.int .i64 0)/\W1.cell? ⟨w.heap.size,2,none⟩=some (.slice none 0 0)/\W1.cell? ⟨w.heap.size,3,none⟩=some (.slice none 0 0)) /\ ∀ j,W1.frozen? ⟨w.heap.size,j,none⟩=false):=by
    rw [hW1];exact box4 ((Below.refl _ _).alloc (Nat.le_refl _) _)
   have R0:Hid (Rdr W1 (w.heap.size+1) a bs c M.in0):=by
    have k:=new_kept (w:=w.alloc (.cells #[.int .i64 0, .int .i64 0, .slice none 0 0, .slice none 0 0] 35)) (cs:=#[.slice a bs.length c, .int .i64 0, .nilIface]) (t := 234) rfl (Below.refl _ _);rw [←hW1] at k
    have es:(w.alloc (.cells #[.int .i64 0, .int .i64 0, .slice none 0 0, .slice none 0 0] 35)).heap.size=w.heap.size+1:=by simp
    rw [es] at k
    refine ⟨⟨k.1 0 _ rfl,k.1 1 _ rfl,k.1 2 _ rfl,k.2⟩,h.below bw1,hc,h63,Nat.zero_le _,λ hn p hp e => ?_⟩
    obtain ⟨b,off,e2,hl,_⟩:=h.2.2 hn;rw [hp] at e2;cases e2;simp at e;omega
   have GR:=hide (groveR R0.out);have GL:=hide R0.out.lt;have WR:=hide (λ (W:World) (O:Gr) (h1:Rdr W (w.heap.size+1) a bs c (M.lAll bs).2) (h2:RdG W O) (h3:O.m=M.lGrove bs)=>wrongR h1 h2 h3);unfold Gr.v at GR WR;have Z1:=hide z1;have BW1:=hide bw1
   have DE:Hid ((M.decF bs).2≠0->M.decV bs=(0,0, [], [])):=λ z=>by unfold M.decV;rw [if_neg z]
   generalize M.wrF bs=WF at *;generalize M.decF bs=DF at *;generalize M.decV bs=DV at *;generalize M.lAll bs=LA at *;generalize M.lGrove bs=LG at *;have HW1:=hide hW1;clear h hc big z1 bw1 bl h63 hW1
   have AFT:Hid (∀ (w1 w3:World) (O:Gr),W1.grownBy w1 (some (w.heap.size+1))->NewH W1 w1 O->Below (w1.alloc (.cells #[.int .i64 O.f, .int .i64 O.w, .slice O.wa O.ws.length O.wc, .slice O.ta O.ks.length O.tc] 35)).heap.size (w1.alloc (.cells #[.int .i64 O.f, .int .i64 O.w, .slice O.wa O.ws.length O.wc, .slice O.ta O.ks.length O.tc] 35)) w3->((w3.cell? ⟨w.heap.size,0,none⟩=some (.int .i64 0)/\w3.cell? ⟨w.heap.size,1,none⟩=some (.int .i64 0)/\w3.cell? ⟨w.heap.size,2,none⟩=some (.slice none 0 0)/\w3.cell? ⟨w.heap.size,3,none⟩=some (.slice none 0 0)) /\ ∀ j,w3.frozen? ⟨w.heap.size,j,none⟩=false)/\Below w.heap.size w w3 /\ ∀ W2,w3.grownBy W2 (some w.heap.size)->NewH w W2 O):=by
    intro w1 w3 O hg hn hb;have zz:=Z1.out;have hs:=hg.size;have b1:Below w1.heap.size w1 w3:=below_on ((Below.refl _ w1).alloc (Nat.le_refl _) _) hb;have e3:w3.heap[w.heap.size]? = W1.heap[w.heap.size]? := (b1.block _ (by omega)).trans (hg.block _ (by omega) (λ e=>by rw [Option.some.injEq] at e;omega));obtain ⟨⟨y0,y1,y2,y3⟩,yf⟩:=k0.out
    refine ⟨⟨⟨(World.cell?_of_block (a:=⟨w.heap.size,0,none⟩) e3).trans y0,(World.cell?_of_block (a:=⟨w.heap.size,1,none⟩) e3).trans y1,(World.cell?_of_block (a:=⟨w.heap.size,2,none⟩) e3).trans y2,(World.cell?_of_block (a:=⟨w.heap.size,3,none⟩) e3).trans y3⟩,λ j=>(World.frozen?_of_block (a:=⟨w.heap.size,j,none⟩) e3).trans (yf j)⟩, ?_,λ W'' hg'' => ?_⟩
    · exact below_on (BW1.out.grown hg (by omega) (λ k hk=>by cases hk;omega)) b1
    · intro W3 hz3 hc3
      refine hn W3 (by have:=b1.size;have:=hg''.size;omega) (λ b h1 h2=>(hc3 b (by omega) (by have:=b1.size;have:=hg''.size;omega)).trans ((hg''.block b (by have:=b1.size;omega) (λ e=>by cases e;omega)).trans (b1.block b h2)))
   by_cases q:WF=0
   · have E1:Hid (DF=(0,0)):=by unfold Hid;rw [D.out.1,if_pos q]
     have E2:Hid (DV=LG):=D.out.2 q;rw [err_nil q] at WR;clear D q k0
     go_enter Tryz.func108, Tryz.ntmps108
     go_upto_region 4 with fail
     rw [←HW1.out];clear HW1
     go_upto_region 5 with (go_at_call 136;refine GR.out.mono ?_;rintro e w1 ⟨O,rfl,om,nh,rr,gg⟩;have OM:=hide om;have NH:=hide nh;have RR:=hide rr;have GG:=hide gg;clear om nh rr gg)
     have RG:Hid (RdG (w1.alloc (.cells #[.int .i64 O.f, .int .i64 O.w, .slice O.wa O.ws.length O.wc, .slice O.ta O.ks.length O.tc] 35)) O):=NH.out _ (by simp) (λ b h1 h2=>((Below.refl _ w1).alloc (Nat.le_refl _) _).block b h2);have RA:=hide (RR.out.alloc (.cells #[.int .i64 O.f, .int .i64 O.w, .slice O.wa O.ws.length O.wc, .slice O.ta O.ks.length O.tc] 35))
     go_upto_region 8 with (go_at_call 137;refine (WR.out _ O RA.out RG.out OM.out).mono ?_;rintro e w3 ⟨rfl,hb3⟩;have B3:=hide hb3;clear hb3)
     obtain ⟨⟨⟨x0,x1,x2,x3⟩,xf⟩,kw,rg⟩:=AFT.out w1 w3 O GG.out NH.out B3.out;obtain ⟨⟨u0,u1,u2,u3⟩,uf⟩:=box4 B3.out;have f0:=xf 0;have f1:=xf 1;have f2:=xf 2;have f3:=xf 3;have KW:=hide kw;have RGH:=hide rg;clear xf uf kw rg
     go_wp2
     obtain ⟨e0,e1,e2,e3⟩:=put4_at (x0 := .int .i64 O.f) (x1 := .int .i64 O.w) (x2 := .slice O.wa O.ws.length O.wc) (x3 := .slice O.ta O.ks.length O.tc) x0 x1 x2 x3;refine bodyPost_ret (v := .tuple #[.agg #[.int .i64 O.f, .int .i64 O.w, .slice O.wa O.ws.length O.wc, .slice O.ta O.ks.length O.tc], .int .i64 0, .nilIface]) (by simp [results, Tryz.results108,go_sem,e0,e1,e2,e3]) rfl ?_
     exact ⟨O,by rw [E1.out];rfl,by rw [E2.out];exact OM.out,RGH.out _ grown4_at,lay4 KW.out (Nat.le_refl _)⟩
   · have E1:Hid (DF=(M.lat LA.2,WF)):=by unfold Hid;rw [D.out.1,if_neg q]
     have E2:Hid (DV=(0,0, [], [])):=DE.out (by rw [E1.out];exact q);rw [err_some q] at WR;have Q:=hide q;clear D q k0
     go_enter Tryz.func108, Tryz.ntmps108
     go_upto_region 4 with fail
     rw [←HW1.out];clear HW1
     go_upto_region 5 with (go_at_call 136;refine GR.out.mono ?_;rintro e w1 ⟨O,rfl,om,nh,rr,gg⟩;have OM:=hide om;have NH:=hide nh;have RR:=hide rr;have GG:=hide gg;clear om nh rr gg)
     have RG:Hid (RdG (w1.alloc (.cells #[.int .i64 O.f, .int .i64 O.w, .slice O.wa O.ws.length O.wc, .slice O.ta O.ks.length O.tc] 35)) O):=NH.out _ (by simp) (λ b h1 h2=>((Below.refl _ w1).alloc (Nat.le_refl _) _).block b h2);have RA:=hide (RR.out.alloc (.cells #[.int .i64 O.f, .int .i64 O.w, .slice O.wa O.ws.length O.wc, .slice O.ta O.ks.length O.tc] 35))
     go_upto_region 7 with (go_at_call 137;refine (WR.out _ O RA.out RG.out OM.out).mono ?_;rintro e w3 ⟨rfl,hb3⟩;have B3:=hide hb3;clear hb3)
     obtain ⟨⟨⟨x0,x1,x2,x3⟩,xf⟩,kw,rg⟩:=AFT.out w1 w3 O GG.out NH.out B3.out;have u1:=(RA.out.up B3.out).box.c1;have f0:=xf 0;have f1:=xf 1;have f2:=xf 2;have f3:=xf 3;have KW:=hide kw;clear xf kw rg
     go_region_with (fail)
     all_goals (
      go_simp
      go_wp2
      obtain ⟨e0,e1,e2,e3⟩:=put4_at (x0 := .int .i64 0) (x1 := .int .i64 0) (x2 := .slice none 0 0) (x3 := .slice none 0 0) x0 x1 x2 x3;refine bodyPost_ret (v := .tuple #[.agg #[.int .i64 0, .int .i64 0, .slice none 0 0, .slice none 0 0], .int .i64 ((M.lat LA.2:Nat):Int), .iface 69 (.int .i64 WF)]) (by simp [results, Tryz.results108,go_sem,e0,e1,e2,e3]) rfl ?_
      exact ⟨Gr.no,by rw [E1.out,err_some Q.out];rfl,by rw [E2.out];rfl,(λ _ _ _=>Gr.no_rd _),(lay4 KW.out (Nat.le_refl _)).drew⟩)
def M.preL (g:M.Gv) (k:Nat):List Int:=M.gf g :: M.gw g :: ((M.gt g).length:Int) :: (((M.gs g).zip (M.gt g)).take k).flatMap M.trL
theorem M.pre_zero (g:M.Gv):M.preL g 0 = [M.gf g,M.gw g,((M.gt g).length:Int)]:=rfl
theorem M.nd_len (n:M.Nd):(M.ndL n).length<=5:=by
 unfold M.ndL
 split <;> simp
theorem M.nds_len : ∀ t:List M.Nd,(t.flatMap M.ndL).length<=5*t.length
 | []=>Nat.le_refl _
 | n :: t=>by
   have a:=M.nds_len t;have b:=M.nd_len n;rw [List.flatMap_cons,List.length_append];show _<=5*(t.length+1);omega
theorem M.trs_len : ∀ l:List (Int×List M.Nd),(∀ x∈l,x.2.length<=63)->(l.flatMap M.trL).length<=317*l.length
 | [],_=>Nat.le_refl _
 | x :: l,h=>by
   have a:=M.trs_len l λ y hy=>h y (List.mem_cons_of_mem _ hy);have b:=M.nds_len x.2;have c:=h x (List.mem_cons_self ..);rw [List.flatMap_cons,List.length_append];show (x.2.flatMap M.ndL).length+1+1+_<=317*(l.length+1);omega
theorem M.nds_more (P:List Int) {ts:List M.Nd} {j:Nat} (hj:j<ts.length):P ++ (ts.take (j+1)).flatMap M.ndL=P ++ (ts.take j).flatMap M.ndL ++ M.ndL (M.nAt ts j):=by
 have e:M.nAt ts j=ts[j]:=by unfold M.nAt;rw [M.getD_at hj]
 rw [List.take_succ_eq_append_getElem hj,List.flatMap_append,e,List.append_assoc];simp
theorem M.pre_more (G:Gr) {k:Nat} (hk:k<G.ks.length) {x:Int} (hx:x=G.ws.getD k 0) (hz:((M.gs G.m).zip (M.gt G.m)).length=G.ks.length) (ho : ∀ y∈(M.gs G.m).zip (M.gt G.m),M.TrOk y) :
 Hid (M.preL G.m (k+1)=M.preL G.m k ++ [x] ++ [((G.ks[k]'hk).2.1.length:Int)] ++ (G.ks[k]'hk).2.1.flatMap M.ndL)/\(G.ks[k]'hk).2.1.length<=63:=by
 have hz':k<((M.gs G.m).zip (M.gt G.m)).length:=by rw [hz];exact hk
 have hw:k<G.ws.length:=by have:=List.length_zip (l₁:=M.gs G.m) (l₂:=M.gt G.m);rw [hz] at this;have e:(M.gs G.m).length=G.ws.length:=rfl;omega
 have e:((M.gs G.m).zip (M.gt G.m))[k]=(x,(G.ks[k]'hk).2.1):=by
  rw [List.getElem_zip];refine Prod.ext ?_ ?_
  · show G.ws[k]=x
    rw [hx];simp [List.getD,hw]
  · show (tl G.ks)[k]'_=_
    simp [tl]
 have o:=ho _ (List.getElem_mem hz');rw [e] at o
 refine ⟨?_,o.2.2.1⟩
 unfold Hid M.preL;rw [List.take_succ_eq_append_getElem hz',List.flatMap_append,e];simp [M.trL,List.append_assoc]
theorem M.nd_in {n:M.Nd} (h:M.NdOk n) : ∀ x∈M.ndL n,M.I64 x:=by
 intro x hx;unfold M.ndL at hx
 split at hx
 · simp at hx
   rcases hx with rfl | rfl
   · exact h.1
   · exact h.2.2.2.2.1
 · have b:=M.i64_01 (M.ns n)
   simp at hx
   rcases hx with rfl | rfl | rfl | rfl | rfl
   · exact h.1
   · exact h.2.1
   · exact h.2.2.1
   · exact h.2.2.2.1
   · exact b
theorem M.gr_in {g:M.Gv} (hf:M.I64 (M.gf g)/\M.I64 (M.gw g)) (ho : ∀ y∈(M.gs g).zip (M.gt g),M.TrOk y) (ht:(M.gt g).length<=12) : ∀ x∈M.grL g,M.I64 x:=by
 intro x hx;unfold M.grL at hx
 rcases List.mem_cons.1 hx with rfl | hx
 · exact hf.1
 rcases List.mem_cons.1 hx with rfl | hx
 · exact hf.2
 rcases List.mem_cons.1 hx with rfl | hx
 · unfold M.I64;omega
 obtain ⟨y,hy,hx⟩:=List.mem_flatMap.1 hx;have o:=ho y hy;unfold M.trL at hx
 rcases List.mem_cons.1 hx with rfl | hx
 · exact o.1
 rcases List.mem_cons.1 hx with rfl | hx
 · have:=o.2.2.1
   unfold M.I64;omega
 obtain ⟨n,hn,hx⟩:=List.mem_flatMap.1 hx;exact M.nd_in (o.2.2.2 n hn) x hx
theorem rd_lit (w:World) (ns:List Int) (t:TypeId) (hl:ns.length<=1000):Rd (w.alloc (.cells (ns.map (Value.int .i64)).toArray t)) (some ⟨w.heap.size,0,none⟩) ns :=
 ⟨by unfold maxLen;omega,λ _=>⟨w.heap.size,0,rfl,by simp,λ i hi=>by
  have e:(ns.map (Value.int .i64)).toArray[i]? = some (.int .i64 (ns.getD i 0)):=by simp [List.getD,hi]
  rw [Nat.zero_add,World.cell?_alloc_new]
  exact e⟩⟩
theorem add_below {w1 W:World} (ns:List Int) (va:Option Addr) (vc:Nat) (L:List Nat) (K:Below w1.heap.size w1 W) (ho:W.ownsRow w1.heap.size 5 1 (.slice va L.length vc) L.length (byCells L)) (hi : ∀ x∈ns,M.I64 x) (hl:L.length+10*ns.length<=140737488355328) (hn:ns.length<=1000) (o:Obj) (ho':o = .cells (ns.map (Value.int .i64)).toArray 3) :
 Calls Tryz.prog 22 #[.slice va L.length vc, .slice (some ⟨W.heap.size,0,none⟩) ns.length ns.length] (W.alloc o) λ e w' => ∃ va' vc',e = .returned (.slice va' (L ++ M.bysL ns).length vc')/\w'.ownsRow w1.heap.size 5 1 (.slice va' (L ++ M.bysL ns).length vc') (L ++ M.bysL ns).length (byCells (L ++ M.bysL ns))/\Below w1.heap.size w1 w':=by
 subst ho';refine (add_any w1.heap.size va vc L (some ⟨W.heap.size,0,none⟩) ns ns.length _ (by have:=K.size;simp;omega) (ho.alloc _) (rd_lit W ns _ hn) hi ?_ hl).mono ?_
 · intro _ p hp
   cases hp;intro e;exact Nat.lt_irrefl _ (ho.lt _ e).2
 · rintro e w2 ⟨va',vc',rfl,hw⟩
   exact ⟨va',vc',rfl,hw.own,(K.alloc K.size _).grown hw.gr hw.le (λ k hk=>(ho.lt k hk).1)⟩
set_option maxHeartbeats 4000000 in
set_option maxRecDepth 10000 in
theorem addnode_below {w1 w:World} (n:M.Nd) (va:Option Addr) (vc:Nat) (L:List Nat) (K:Below w1.heap.size w1 w) (ho:w.ownsRow w1.heap.size 5 1 (.slice va L.length vc) L.length (byCells L)) (hn:M.NdOk n) (hl:L.length+50<=140737488355328) :
 Calls Tryz.prog 23 #[.slice va L.length vc,ndV n] w λ e w' => ∃ va' vc',e = .returned (.slice va' (L ++ M.bysL (M.ndL n)).length vc')/\w'.ownsRow w1.heap.size 5 1 (.slice va' (L ++ M.bysL (M.ndL n)).length vc') (L ++ M.bysL (M.ndL n)).length (byCells (L ++ M.bysL (M.ndL n)))/\Below w1.heap.size w1 w':=by
 have HI:=hide (M.nd_in hn);obtain ⟨f,cc,l,r,b,v⟩:=n;have nv:ndV (f,cc,l,r,b,v) = .agg #[.int .i64 f, .int .i64 cc, .int .i64 l, .int .i64 r, .bool b, .int .i64 v]:=rfl;rw [nv]
 obtain ⟨W0,hW0⟩ : ∃ X,X=w.alloc (.cells #[.int .i64 f, .int .i64 cc, .int .i64 l, .int .i64 r, .bool b, .int .i64 v] 26):=⟨_,rfl⟩
 have K0:Hid (Below w1.heap.size w1 W0):=by rw [hW0];exact K.alloc K.size _
 have O0:Hid (W0.ownsRow w1.heap.size 5 1 (.slice va L.length vc) L.length (byCells L)):=by rw [hW0];exact ho.alloc _
 have k:=new_kept hW0 (Below.refl _ _);have y0:=k.1 0 _ rfl;have y1:=k.1 1 _ rfl;have y2:=k.1 2 _ rfl;have y3:=k.1 3 _ rfl;have y4:=k.1 4 _ rfl;have y5:=k.1 5 _ rfl;have HW0:=hide hW0;clear ho K hn nv k hW0
 by_cases q:f = -1
 · have ML:M.ndL (f,cc,l,r,b,v) = [f,v]:=if_pos q
   rw [ML] at HI ⊢;have A1:=hide (add_below [f,v] va vc L K0.out O0.out HI.out (by show L.length+20<=_;omega) (by show 2<=1000;omega) _ rfl)
   have t1:(f == -1)=true:=by rw [beq_iff_eq];exact q
   simp only [List.length_cons,List.length_nil,List.map_cons,List.map_nil,Nat.zero_add] at A1;generalize L ++ M.bysL [f,v]=Z at *;clear ML q HI O0 K0
   go_enter Tryz.func23, Tryz.ntmps23
   go_upto_region 1 with fail
   rw [←HW0.out];clear HW0
   go_wp2_with (go_at_call 22;refine A1.out.mono ?_;rintro e w2 ⟨ua,uc,rfl,o2,k2⟩;have O2:=hide o2;have K2:=hide k2;clear o2 k2)
   go_ret
   exact ⟨ua,uc,rfl,O2.out,K2.out⟩
 · have ML:M.ndL (f,cc,l,r,b,v) = [f,cc,l,r,if b=true then 1 else 0]:=if_neg q
   rw [ML] at HI ⊢
   obtain ⟨z,hz⟩ : ∃ z:Int,z=if b=true then 1 else 0:=⟨_,rfl⟩
   rw [←hz] at HI ⊢;have A1:=hide (add_below [f,cc,l,r,z] va vc L K0.out O0.out HI.out (by show L.length+50<=_;omega) (by show 5<=1000;omega) _ rfl)
   have t1:(f == -1)=false:=by rw [beq_eq_false_iff_ne];exact q
   simp only [List.length_cons,List.length_nil,List.map_cons,List.map_nil,Nat.zero_add] at A1;generalize L ++ M.bysL [f,cc,l,r,z]=Z at *;clear ML q HI O0 K0
   cases b with
   | true =>
     have hz1:z=1:=hz;clear hz;subst hz1
     go_enter Tryz.func23, Tryz.ntmps23
     go_upto_region 1 with fail
     rw [←HW0.out];clear HW0
     go_wp2_with (go_at_call 22;refine A1.out.mono ?_;rintro e w2 ⟨ua,uc,rfl,o2,k2⟩;have O2:=hide o2;have K2:=hide k2;clear o2 k2)
     go_ret
     exact ⟨ua,uc,rfl,O2.out,K2.out⟩
   | false =>
     have hz1:z=0:=hz;clear hz;subst hz1
     go_enter Tryz.func23, Tryz.ntmps23
     go_upto_region 1 with fail
     rw [←HW0.out];clear HW0
     go_wp2_with (go_at_call 22;refine A1.out.mono ?_;rintro e w2 ⟨ua,uc,rfl,o2,k2⟩;have O2:=hide o2;have K2:=hide k2;clear o2 k2)
     go_ret
     exact ⟨ua,uc,rfl,O2.out,K2.out⟩
def CdEncGives:Prop := ∀ (G:Gr) (W:World),RdG W G->Calls Tryz.prog 5 #[G.v] W λ e w' => ∃ v,e = .returned (.tuple #[v,errV (M.encF G.m)])/\w'.ownsRow W.heap.size 5 1 v (M.encV G.m).length (byCells (M.encV G.m))/\Below W.heap.size W w'
theorem M.enc_byte (g:M.Gv) : ∀ x∈M.encV g,x<256:=by
 unfold M.encV
 split
 · exact M.bys_byte _
 · intro x hx;cases hx
theorem M.enc_le {g:M.Gv} (h:M.Good g) (k:Nat):(M.bysL (M.preL g k)).length<=50000:=by
 have zo:=M.zip_ok h;have zl:=M.zip_len h;have t12:=h.t12
 have hi : ∀ x∈M.preL g k,M.I64 x:=λ x hx=>by
  refine M.gr_in (by have:=h.f0;have:=h.f8;have:=h.w1;have:=h.w3;unfold M.I64;omega) zo t12 x ?_;unfold M.preL at hx;unfold M.grL
  rcases List.mem_cons.1 hx with e | hx
  · rw [e];exact List.mem_cons_self ..
  rcases List.mem_cons.1 hx with e | hx
  · rw [e];exact List.mem_cons_of_mem _ (List.mem_cons_self ..)
  rcases List.mem_cons.1 hx with e | hx
  · rw [e];exact List.mem_cons_of_mem _ (List.mem_cons_of_mem _ (List.mem_cons_self ..))
  obtain ⟨y,hy,hx⟩:=List.mem_flatMap.1 hx;exact List.mem_cons_of_mem _ (List.mem_cons_of_mem _ (List.mem_cons_of_mem _ (List.mem_flatMap.2 ⟨y,List.mem_of_mem_take hy,hx⟩)))
 have a:=M.bys_len _ hi;have b:=M.trs_len (((M.gs g).zip (M.gt g)).take k) λ x hx=>(zo x (List.mem_of_mem_take hx)).2.2.1
 have c:(((M.gs g).zip (M.gt g)).take k).length<=12:=by rw [List.length_take,zl];omega
 have e:(M.preL g k).length=((((M.gs g).zip (M.gt g)).take k).flatMap M.trL).length+1+1+1:=rfl;omega
theorem M.pre_tr (G:Gr) {k:Nat} (hk:k<G.ks.length) {x:Int} (hx:x=G.ws.getD k 0) (hz:((M.gs G.m).zip (M.gt G.m)).length=G.ks.length) (ho : ∀ y∈(M.gs G.m).zip (M.gt G.m),M.TrOk y) :
 M.I64 x/\1<=(G.ks[k]'hk).2.1.length /\ ∀ n∈(G.ks[k]'hk).2.1,M.NdOk n:=by
 have hz':k<((M.gs G.m).zip (M.gt G.m)).length:=by rw [hz];exact hk
 have hw:k<G.ws.length:=by have:=List.length_zip (l₁:=M.gs G.m) (l₂:=M.gt G.m);rw [hz] at this;have e:(M.gs G.m).length=G.ws.length:=rfl;omega
 have e:((M.gs G.m).zip (M.gt G.m))[k]=(x,(G.ks[k]'hk).2.1):=by
  rw [List.getElem_zip];refine Prod.ext ?_ ?_
  · show G.ws[k]=x
    rw [hx];simp [List.getD,hw]
  · show (tl G.ks)[k]'_=_
    simp [tl]
 have o:=ho _ (List.getElem_mem hz');rw [e] at o
 exact ⟨o.1,o.2.1,o.2.2.2⟩
set_option maxHeartbeats 16000000 in
set_option maxRecDepth 10000 in
theorem cdenc_any:CdEncGives:=by
 intro G w h;have hm1:G.ks.length<=9223372036854775807:=h.2.1;have hm2:G.ws.length<=9223372036854775807:=h.1.1;have B0:Hid (∀ o,Below w.heap.size w (w.alloc o)):=λ o=>(Below.refl _ w).alloc (Nat.le_refl _) o;have HR:=hide (λ o=>gcheck_any G (w.alloc o) (h.below (B0.out o)));unfold Gr.v at HR ⊢
 by_cases h0:M.groveF G.m=0
 · have Gd:=(M.good_iff G.m).1 h0
   have len12:G.ks.length<=12:=by have:=Gd.t12;rwa [show (M.gt G.m).length=G.ks.length from tl_len G.ks] at this
   have WL:Hid (G.ws.length=G.ks.length):=Gd.len.trans (tl_len G.ks);have ZO:=hide (M.zip_ok Gd);have ZL:Hid (((M.gs G.m).zip (M.gt G.m)).length=G.ks.length):=(M.zip_len Gd).trans (tl_len G.ks)
   have FW:Hid (M.I64 G.f/\M.I64 G.w):=by have:=Gd.f0;have:=Gd.f8;have:=Gd.w1;have:=Gd.w3;unfold Hid M.I64;exact ⟨⟨by show _<=M.gf G.m;omega,by show M.gf G.m<=_;omega⟩,⟨by show _<=M.gw G.m;omega,by show M.gw G.m<=_;omega⟩⟩
   have LE:=hide (M.enc_le Gd);have HG:=hide h
   have P0:Hid (M.preL G.m 0 = [G.f,G.w,(G.ks.length:Int)]):=by
    unfold Hid;rw [M.pre_zero,show (M.gt G.m).length=G.ks.length from tl_len G.ks];rfl
   have PE:Hid (M.bysL (M.preL G.m G.ks.length)=M.encB G.m):=by
    unfold Hid M.preL M.encB M.grL;rw [List.take_of_length_le (by rw [ZL.out];exact Nat.le_refl _)]
   have EF:Hid (M.encF G.m=if 6000<(M.encB G.m).length then 4 else 0):=by unfold Hid M.encF;rw [if_neg (by simp [h0])]
   have EV:Hid (M.encV G.m=if M.encF G.m=0 then M.encB G.m else []):=rfl
   have K1L:Hid (1<=G.ks.length):=by have:=Gd.t0;rwa [show (M.gt G.m).length=G.ks.length from tl_len G.ks] at this
   rw [h0,err_nil rfl] at HR;clear h Gd h0;generalize M.encF G.m=eF at *;generalize M.encV G.m=eV at *;generalize M.encB G.m=eB at *
   go_enter Tryz.func5, Tryz.ntmps5
   go_upto_region 4 with (go_at_call 21;refine (HR.out _).mono ?_;rintro e w1 ⟨rfl,hb⟩;have k1:=hide (below_on (B0.out _) hb);have KB:=hide hb;clear hb)
   have GC:Hid (∀ W,Below w1.heap.size w1 W->W.cell? ⟨w.heap.size,0,none⟩=some (.int .i64 G.f)/\W.cell? ⟨w.heap.size,1,none⟩=some (.int .i64 G.w)/\W.cell? ⟨w.heap.size,2,none⟩=some (.slice G.wa G.ws.length G.wc)/\W.cell? ⟨w.heap.size,3,none⟩=some (.slice G.ta G.ks.length G.tc)):=λ W hW=>by
    have k2:=below_on KB.out hW;have r:=(new_kept rfl k2).1
    exact ⟨r 0 _ rfl,r 1 _ rfl,r 2 _ rfl,r 3 _ rfl⟩
   have HG1:Hid (∀ W,Below w1.heap.size w1 W->RdG W G):=λ W hW=>HG.out.below (below_on k1.out hW);clear HR KB HG;obtain ⟨c0,c1,c2,c3⟩:=GC.out w1 (Below.refl _ _)
   have A0:=hide (add_below (w1:=w1) (W:=w1) [G.f,G.w,(G.ks.length:Int)] none 0 [] (Below.refl _ _) (World.ownsRow_nil _ _ _ _) (by
    intro x hx
    rcases List.mem_cons.1 hx with rfl | hx
    · exact FW.out.1
    rcases List.mem_cons.1 hx with rfl | hx
    · exact FW.out.2
    rw [List.mem_singleton] at hx
    rw [hx];unfold M.I64;omega) (by show 0+30<=_;omega) (by show 3<=1000;omega) _ rfl)
   have PB:Hid ([] ++ M.bysL [G.f,G.w,(G.ks.length:Int)]=M.bysL (M.preL G.m 0)):=by unfold Hid;rw [P0.out];rfl
   rw [PB.out] at A0;simp only [List.length_cons,List.length_nil,List.map_cons,List.map_nil,Nat.zero_add] at A0;clear PB P0;generalize hL0:M.bysL (M.preL G.m 0)=L0 at A0;have HL0:=hide hL0;clear hL0
   go_upto_region 5 with (go_at_call 22;refine A0.out.mono ?_;rintro e w2 ⟨ua,uc,rfl,o2,k2⟩;have O2:=hide o2;have K2:=hide k2;clear o2 k2)
   clear c0 c1 c2 c3 A0;obtain ⟨c0,c1,c2,c3⟩:=GC.out w2 K2.out;obtain ⟨tb,to',eta,htb,htc⟩:=(HG1.out w1 (Below.refl _ _)).2.2.2 (by intro e;have:=K1L.out;rw [e] at this;simp at this);obtain ⟨wb,wo,ewa,hwb,hwc⟩:=(HG1.out w1 (Below.refl _ _)).1.2 (by intro e;have a:=WL.out;have b:=K1L.out;rw [e] at a;have c:0=G.ks.length:=a;omega);have EWA:=hide ewa;have HWC:=hide hwc;have HTC:=hide htc;have HTB:=hide htb;have HWB:=hide hwb;have ETA:=hide eta;clear hwc htc htb hwb ewa eta
   go_wp2
   rw [ETA.out];clear c0 c1 c2 c3
   go_loopw [5,27] (λ v i wr => ∃ (k:Nat) (ua:Option Addr) (uc:Nat) (L:List Nat),k<=G.ks.length/\i = .int .i64 k/\v = .slice ua L.length uc/\Hid (L=M.bysL (M.preL G.m k))/\Hid (wr.ownsRow w1.heap.size 5 1 (.slice ua L.length uc) L.length (byCells L))/\Hid (Below w1.heap.size w1 wr)) (λ _ i _=>G.ks.length-(intOf i).toNat)
   case atStart=>exact ⟨0,ua,uc,L0,Nat.zero_le _,rfl,rfl,HL0.out.symm,O2,K2⟩
   case round =>
    clear O2 K2 HL0;obtain ⟨k,ua,uc,L,hk,rfl,rfl,EL,OO,K⟩:=hrel
    by_cases hlt:k<G.ks.length
    · have kz:(k:Int)<(G.ks.length:Int):=by omega
      have c2:=(GC.out wr K.out).2.2.1;rw [EWA.out] at c2;have wcr:=(K.out.cell (p:=⟨wb,wo+k,none⟩) HWB.out).trans (HWC.out k (by rw [WL.out];exact hlt));have tcr:=(K.out.cell (p:=⟨tb,to'+k,none⟩) HTB.out).trans (HTC.out k hlt)
      have kw:(k:Int)<(G.ws.length:Int):=by rw [WL.out];exact kz
      have RN:=hide ((HG1.out w1 (Below.refl _ _)).2.2.1 G.ks[k] (List.getElem_mem hlt))
      obtain ⟨x,hx⟩ : ∃ x,x=G.ws.getD k 0:=⟨_,rfl⟩
      obtain ⟨ZM,l63⟩:Hid (M.preL G.m (k+1)=M.preL G.m k ++ [x] ++ [(G.ks[k].2.1.length:Int)] ++ G.ks[k].2.1.flatMap M.ndL)/\G.ks[k].2.1.length<=63:=M.pre_more G hlt hx ZL.out ZO.out;have TK:Hid (M.I64 x/\1<=G.ks[k].2.1.length /\ ∀ n∈G.ks[k].2.1,M.NdOk n):=M.pre_tr G hlt hx ZL.out ZO.out;rw [←hx] at wcr;unfold tV at tcr;have LK:=LE.out k;have LK1:=hide (LE.out (k+1));rw [←EL.out] at LK;clear hx;generalize G.ks[k].2.1=ts at *;generalize G.ks[k].2.2=tcap at *;generalize G.ks[k].1=tad at *
      have tm:ts.length<=9223372036854775807:=by omega
      obtain ⟨nb,no,etad,hnb,hnc⟩:=RN.out.2 (by intro e;have:=TK.out.2.1;rw [e] at this;simp at this);subst etad;have HNB:=hide hnb;have HNC:=hide hnc
      have A1:=hide (add_below (w1:=w1) (W:=wr) [x,(ts.length:Int)] ua uc L K.out OO.out (by
       intro y hy
       rcases List.mem_cons.1 hy with rfl | hy
       · exact TK.out.1
       rw [List.mem_singleton] at hy
       rw [hy];unfold M.I64;omega) (by show L.length+20<=_;omega) (by show 2<=1000;omega) _ rfl)
      simp only [List.length_cons,List.length_nil,List.map_cons,List.map_nil,Nat.zero_add] at A1
      obtain ⟨L1,hL1⟩ : ∃ L1,L1=L ++ M.bysL [x,(ts.length:Int)]:=⟨_,rfl⟩
      rw [←hL1] at A1
      have ZB:Hid (M.bysL (M.preL G.m (k+1))=L1 ++ M.bysL (ts.flatMap M.ndL)):=by
       unfold Hid;rw [ZM.out,hL1,EL.out,M.bys_app,M.bys_app,M.bys_app,show M.bysL [x,(ts.length:Int)]=M.bysL [x] ++ M.bysL [(ts.length:Int)] from M.bys_app [x] [(ts.length:Int)]];simp only [List.append_assoc]
      have L1L:Hid (L1.length<=50020):=by
       unfold Hid;rw [hL1,List.length_append]
       have:=M.bys_len [x,(ts.length:Int)] (by
        intro y hy
        rcases List.mem_cons.1 hy with rfl | hy
        · exact TK.out.1
        rw [List.mem_singleton] at hy
        rw [hy];unfold M.I64;omega)
       have e2 : [x,(ts.length:Int)].length=2:=rfl;omega
      clear hL1 hnb hnc RN EL ZM OO
      go_upto_region 9 with (go_at_call 22;refine A1.out.mono ?_;rintro e w3 ⟨ua3,uc3,rfl,o3,k3⟩;have O3:=hide o3;have K3:=hide k3;clear o3 k3)
      clear c2 wcr tcr A1 K
      go_wp2
      go_loopw [5,44] (λ v i wr => ∃ (j:Nat) (ua:Option Addr) (uc:Nat) (L:List Nat),j<=ts.length/\i = .int .i64 j/\v = .slice ua L.length uc/\Hid (L=L1 ++ M.bysL ((ts.take j).flatMap M.ndL))/\Hid (wr.ownsRow w1.heap.size 5 1 (.slice ua L.length uc) L.length (byCells L))/\Hid (Below w1.heap.size w1 wr)) (λ _ i _=>ts.length-(intOf i).toNat)
      case atStart=>exact ⟨0,ua3,uc3,L1,Nat.zero_le _,rfl,rfl,(by unfold Hid;show L1=L1 ++ [];rw [List.append_nil]),O3,K3⟩
      case round =>
       clear O3 K3;obtain ⟨j,ua4,uc4,L4,hj,rfl,rfl,EL4,O4,K4⟩:=hrel
       by_cases jlt:j<ts.length
       · have jz:(j:Int)<(ts.length:Int):=by omega
         obtain ⟨s0,s1,s2,s3,s4,s5⟩:=(HNC.out j jlt).below K4.out HNB.out;have okn:=TK.out.2.2 (M.nAt ts j) (by unfold M.nAt;rw [M.getD_at jlt];exact List.getElem_mem jlt)
         have L4L:L4.length<=60000:=by
          rw [EL4.out,List.length_append]
          have a:=M.bys_len ((ts.take j).flatMap M.ndL) (λ y hy=>by
           obtain ⟨n,hn,hy⟩:=List.mem_flatMap.1 hy
           exact M.nd_in (TK.out.2.2 n (List.mem_of_mem_take hn)) y hy)
          have b:=M.nds_len (ts.take j);rw [List.length_take] at b;have:=L1L.out;omega
         have EL5:Hid (L4 ++ M.bysL (M.ndL (M.nAt ts j))=L1 ++ M.bysL ((ts.take (j+1)).flatMap M.ndL)):=by
          have:=M.nds_more [] (ts:=ts) jlt;rw [List.nil_append,List.nil_append] at this;unfold Hid;rw [this,M.bys_app,EL4.out,List.append_assoc]
         generalize M.nAt ts j=N at *;have K5:=hide (K4.out.alloc K4.out.size (.cells #[.int .i64 (M.nf N), .int .i64 (M.nc N), .int .i64 (M.nl N), .int .i64 (M.nr N), .bool (M.ns N), .int .i64 (M.nv N)] 26));have O5:=hide (O4.out.alloc (.cells #[.int .i64 (M.nf N), .int .i64 (M.nc N), .int .i64 (M.nl N), .int .i64 (M.nr N), .bool (M.ns N), .int .i64 (M.nv N)] 26));have A2:=hide (addnode_below N ua4 uc4 L4 K5.out O5.out okn (by omega));have nv:ndV N = .agg #[.int .i64 (M.nf N), .int .i64 (M.nc N), .int .i64 (M.nl N), .int .i64 (M.nr N), .bool (M.ns N), .int .i64 (M.nv N)]:=rfl;rw [nv] at A2;generalize L4 ++ M.bysL (M.ndL N)=L5 at *;clear nv okn EL4 O4 K5 O5
         go_wp2_with (go_at_call 23;refine A2.out.mono ?_;rintro e w6 ⟨ua6,uc6,rfl,o6,k6⟩;have O6:=hide o6;have K6:=hide k6;clear o6 k6)
         go_roundw
         case rel=>exact ⟨j+1,ua6,uc6,L5,by omega,by go_num,rfl,EL5,O6,K6⟩
         case measure=>simp [intOf];omega
       · have ej:j=ts.length:=by omega
         have jz : ¬ ((j:Int)<(ts.length:Int)):=by omega
         have EL5:Hid (L4=M.bysL (M.preL G.m (k+1))):=by unfold Hid;rw [ZB.out,EL4.out,ej,List.take_length]
         clear ej EL4 ZB
         go_wp2
         exact ⟨⟨k+1,ua4,uc4,L4,hlt,rfl,rfl,EL5,O4,K4⟩,by show G.ks.length-(((k:Int)+1).toNat)<G.ks.length-((k:Int).toNat);omega⟩
    · have ek:k=G.ks.length:=by omega
      have kz : ¬ ((k:Int)<(G.ks.length:Int)):=by omega
      have EB:Hid (L=eB):=by unfold Hid;rw [EL.out,ek];exact PE.out
      have LK:=LE.out k;rw [←EL.out] at LK;clear ek EL PE
      by_cases big:6000<L.length
      · have t1:decide ((6000:Int)<(L.length:Int))=true:=decide_eq_true (by omega)
        have t2:decide (6000<L.length)=true:=decide_eq_true big
        have E1:Hid (eF=4):=by unfold Hid;rw [EF.out,←EB.out,if_pos big]
        have E2:Hid (eV = []):=by unfold Hid;rw [EV.out,E1.out];rfl
        clear big EF EV
        go_wp2
        go_ret2
        exact ⟨.slice none 0 0,by rw [E1.out];rfl,by rw [E2.out];exact World.ownsRow_nil _ _ _ _,below_on k1.out K.out⟩
      · have t1:decide ((6000:Int)<(L.length:Int))=false:=decide_eq_false (by omega)
        have t2:decide (6000<L.length)=false:=decide_eq_false big
        have E1:Hid (eF=0):=by unfold Hid;rw [EF.out,←EB.out,if_neg big]
        have E2:Hid (eV=L):=by unfold Hid;rw [EV.out,E1.out,if_pos rfl,EB.out]
        clear big EF EV
        go_wp2
        go_ret2
        exact ⟨_,by rw [E1.out];rfl,by rw [E2.out];exact own_low k1.out.size OO.out,below_on k1.out K.out⟩
 · have EF:Hid (M.encF G.m=M.groveF G.m):=by unfold Hid M.encF;rw [if_pos h0]
   have EV:Hid (M.encV G.m = []):=by unfold Hid M.encV;rw [EF.out,if_neg h0]
   rw [err_some h0] at HR;have H0:=hide h0;clear h h0
   go_enter Tryz.func5, Tryz.ntmps5
   go_wp2_with (go_at_call 21;refine (HR.out _).mono ?_;rintro e w1 ⟨rfl,hb⟩;have k1:=hide (below_on (B0.out _) hb);clear hb)
   go_ret2
   exact ⟨.slice none 0 0,by rw [EF.out,err_some H0.out];rfl,by rw [EV.out];exact World.ownsRow_nil _ _ _ _,k1.out⟩
theorem rdn_keep {W W':World} {a:Option Addr} {ts:List M.Nd} (h:RdN W a ts) (hs : ∀ p,a=some p->W'.heap[p.block]? = W.heap[p.block]?) (hz:W.heap.size<=W'.heap.size):RdN W' a ts :=
 ⟨h.1,λ hn=>by
  obtain ⟨b,off,e,hl,hc⟩:=h.2 hn;have hb:W'.heap[b]? = W.heap[b]? := hs _ e
  refine ⟨b,off,e,Nat.lt_of_lt_of_le hl hz,λ i hi => ?_⟩
  obtain ⟨h0,h1,h2,h3,h4,h5⟩:=hc i hi
  exact ⟨(World.cell?_of_block (a:=⟨b,_,none⟩) hb).trans h0,(World.cell?_of_block (a:=⟨b,_,none⟩) hb).trans h1,(World.cell?_of_block (a:=⟨b,_,none⟩) hb).trans h2,(World.cell?_of_block (a:=⟨b,_,none⟩) hb).trans h3,(World.cell?_of_block (a:=⟨b,_,none⟩) hb).trans h4,(World.cell?_of_block (a:=⟨b,_,none⟩) hb).trans h5⟩⟩
theorem rd_keep {W W':World} {a:Option Addr} {xs:List Int} (h:Rd W a xs) (hs : ∀ p,a=some p->W'.heap[p.block]? = W.heap[p.block]?) (hz:W.heap.size<=W'.heap.size):Rd W' a xs :=
 ⟨h.1,λ hn=>by
  obtain ⟨b,off,e,hl,hc⟩:=h.2 hn;have hb:W'.heap[b]? = W.heap[b]? := hs _ e
  exact ⟨b,off,e,Nat.lt_of_lt_of_le hl hz,λ i hi=>(World.cell?_of_block (a:=⟨b,_,none⟩) hb).trans (hc i hi)⟩⟩
structure Gw (wx wr:World) (gb:Nat) (f wy:Int) (wv:Value) (C:List Tc) (x:Value):Prop where
 gr:wx.grownBy wr (some gb)
 c0:wr.cell? ⟨gb,0,none⟩=some (.int .i64 f)
 c1:wr.cell? ⟨gb,1,none⟩=some (.int .i64 wy)
 c2:wr.cell? ⟨gb,2,none⟩=some wv
 c3:wr.cell? ⟨gb,3,none⟩=some x
 fr : ∀ j,wr.frozen? ⟨gb,j,none⟩=false
 lt:gb<wx.heap.size
 ox:wr.ownsRow wx.heap.size 27 1 x C.length (C.map tV)
 rd : ∀ c∈C,RdN wr c.1 c.2.1
 ap : ∀ c∈C, ∀ p,c.1=some p->wx.heap.size<=p.block/\p.block<wr.heap.size/\x.ownBlock≠some p.block
theorem Gw.up {wx wr W:World} {gb:Nat} {f wy:Int} {wv:Value} {C:List Tc} {x:Value} (h:Gw wx wr gb f wy wv C x) (hb:Below wr.heap.size wr W):Gw wx W gb f wy wv C x:=by
 have hl:gb<wr.heap.size:=Nat.lt_of_lt_of_le h.lt h.gr.size
 exact ⟨grown_trans h.gr (grown_of hb none) (.inr (λ q hq=>by cases hq)),(hb.cell (p:=⟨gb,0,none⟩) hl).trans h.c0,(hb.cell (p:=⟨gb,1,none⟩) hl).trans h.c1,(hb.cell (p:=⟨gb,2,none⟩) hl).trans h.c2,(hb.cell (p:=⟨gb,3,none⟩) hl).trans h.c3,λ j=>(hb.frozen (p:=⟨gb,j,none⟩) hl).trans (h.fr j),h.lt,own_up h.ox hb,λ c hc=>(h.rd c hc).below hb,λ c hc p hp=>⟨(h.ap c hc p hp).1,Nat.lt_of_lt_of_le (h.ap c hc p hp).2.1 hb.size,(h.ap c hc p hp).2.2⟩⟩
theorem Gw.more {wx w0 wr w6:World} {gb:Nat} {f wy:Int} {wv:Value} {C:List Tc} {x:Value} (h:Gw wx wr gb f wy wv C x) (hx : ∀ q,x.ownBlock=some q->q<w0.heap.size) (h0:wx.heap.size<=w0.heap.size) (hw:w0.heap.size<=wr.heap.size) {a:Option Addr} {ts:List M.Nd} {cp g2 c2:Nat} {o:Obj} (hne:ts ≠ []) (hr:RdN wr a ts) (ha : ∀ p,a=some p->w0.heap.size<=p.block)
 (hg:(wr.alloc o).grownBy w6 x.ownBlock) (ho:w6.ownsRow wx.heap.size 27 1 (.slice (some ⟨g2,0,none⟩) (C.length+1) c2) (C.length+1) (C.map tV ++ [.slice a ts.length cp])) (hor:x.ownBlock=some g2∨g2=wr.heap.size+1) :
 Gw wx (w6.setCell ⟨gb,3,none⟩ (.slice (some ⟨g2,0,none⟩) (C.length+1) c2)) gb f wy wv (C ++ [(a,ts,cp)]) (.slice (some ⟨g2,0,none⟩) (C.length+1) c2):=by
 have hl:=h.lt;have hs:=h.gr.size
 have gz:wr.heap.size+1<=w6.heap.size:=by have:=hg.size;simpa using this
 have xb : ∀ q,x.ownBlock=some q->wx.heap.size<=q:=λ q hq=>(h.ox.lt q hq).1;have blk : ∀ q,q<wr.heap.size->q≠gb->x.ownBlock≠some q->(w6.setCell ⟨gb,3,none⟩ (.slice (some ⟨g2,0,none⟩) (C.length+1) c2)).heap[q]? = wr.heap[q]? := λ q q1 q2 q3=>(Below.heap_setCell _ _ _ _ q2).trans ((hg.block q (by simp;omega) (λ e=>q3 e.symm)).trans (Below.heap_alloc _ _ _ q1));have gf:w6.heap[gb]? = wr.heap[gb]? := (hg.block gb (by simp;omega) (λ e=>by have:=xb gb e.symm;omega)).trans (Below.heap_alloc _ _ _ (by omega));have cf : ∀ j,w6.cell? ⟨gb,j,none⟩=wr.cell? ⟨gb,j,none⟩:=λ j=>World.cell?_of_block (a:=⟨gb,j,none⟩) gf;have so : ∀ (j:Nat),3≠j->(w6.setCell ⟨gb,3,none⟩ (.slice (some ⟨g2,0,none⟩) (C.length+1) c2)).cell? ⟨gb,j,none⟩=w6.cell? ⟨gb,j,none⟩:=λ j hj=>World.cell?_setCell_other _ _ _ _ (by intro e;cases e;exact hj rfl)
 have sz:(w6.setCell ⟨gb,3,none⟩ (.slice (some ⟨g2,0,none⟩) (C.length+1) c2)).heap.size=w6.heap.size:=by simp
 have nb : ∀ p,a=some p->wx.heap.size<=p.block/\p.block<wr.heap.size/\x.ownBlock≠some p.block/\p.block≠g2:=λ p hp=>by
  obtain ⟨b,off,e,hl2,_⟩:=hr.2 hne;have q0:=ha p hp;rw [hp] at e;cases e;have q0':w0.heap.size<=b:=q0
  refine ⟨show wx.heap.size<=b by omega,hl2,λ e=>by have:=hx _ e;simp at this;omega,λ e => ?_⟩
  have e':b=g2:=e
  rcases hor with q | q
  · have:=hx _ q;omega
  · omega
 refine ⟨?_, ?_, ?_, ?_, ?_, ?_,hl, ?_, ?_, ?_⟩
 · exact grown_trans (grown_trans (grown_trans h.gr (World.grownBy_alloc wr o none) (.inr (λ q hq=>by cases hq))) hg (.inr (λ q hq=>xb q hq))) grown_set (.inl rfl)
 · rw [so 0 (by decide),cf];exact h.c0
 · rw [so 1 (by decide),cf];exact h.c1
 · rw [so 2 (by decide),cf];exact h.c2
 · exact World.cell?_setCell_same (u:=x) _ _ _ ((cf 3).trans h.c3)
 · intro j
   have:w6.frozen? ⟨gb,j,none⟩=false:=(World.frozen?_of_block (a:=⟨gb,j,none⟩) gf).trans (h.fr j)
   simpa using this
 · have:=ownsRow_setCell_below ho (a:=⟨gb,3,none⟩) hl (.slice (some ⟨g2,0,none⟩) (C.length+1) c2)
   rw [List.map_append,List.length_append];exact this
 · intro c hc
   rcases List.mem_append.1 hc with q | q
   · exact rdn_keep (h.rd c q) (λ p hp=>blk _ (h.ap c q p hp).2.1 (by have:=(h.ap c q p hp).1;omega) (h.ap c q p hp).2.2) (by rw [sz];omega)
   · have e:c=(a,ts,cp):=by simpa using q
     subst e;exact rdn_keep hr (λ p hp=>blk _ (nb p hp).2.1 (by have:=(nb p hp).1;omega) (nb p hp).2.2.1) (by rw [sz];omega)
 · intro c hc p hp
   rw [sz];have ow:Value.ownBlock (.slice (some ⟨g2,0,none⟩) (C.length+1) c2)=some g2:=rfl;rw [ow]
   rcases List.mem_append.1 hc with q | q
   · obtain ⟨q1,q2,q3⟩:=h.ap c q p hp
     refine ⟨q1,by omega,λ e => ?_⟩
     cases e
     rcases hor with r | r
     · exact q3 r
     · omega
   · have e:c=(a,ts,cp):=by simpa using q
     subst e;obtain ⟨q1,q2,q3,q4⟩:=nb p hp
     exact ⟨q1,by omega,λ e=>q4 (by cases e;rfl)⟩
abbrev nilG:Obj := .cells #[.int .i64 0, .int .i64 0, .slice none 0 0, .slice none 0 0] 35
structure Zf (V:World) (p:Nat):Prop where
 c0:V.cell? ⟨p,0,none⟩=some (.int .i64 0)
 c1:V.cell? ⟨p,1,none⟩=some (.int .i64 0)
 c2:V.cell? ⟨p,2,none⟩=some (.slice none 0 0)
 c3:V.cell? ⟨p,3,none⟩=some (.slice none 0 0)
 fr : ∀ j,V.frozen? ⟨p,j,none⟩=false
 sz:p<V.heap.size
theorem zf_made (W:World):Zf (W.alloc nilG) W.heap.size :=
 ⟨World.cell?_alloc_at _ _ _ 0 rfl,World.cell?_alloc_at _ _ _ 1 rfl,World.cell?_alloc_at _ _ _ 2 rfl,World.cell?_alloc_at _ _ _ 3 rfl,λ j=>by
  unfold World.frozen?;rw [heap_alloc_new W _]
  simp,by simp⟩
theorem Zf.same {V V':World} {p:Nat} (h:Zf V p) (hs:V'.heap[p]? = V.heap[p]?) (hz:V.heap.size<=V'.heap.size):Zf V' p :=
 ⟨(World.cell?_of_block (a:=⟨p,0,none⟩) hs).trans h.c0,(World.cell?_of_block (a:=⟨p,1,none⟩) hs).trans h.c1,(World.cell?_of_block (a:=⟨p,2,none⟩) hs).trans h.c2,(World.cell?_of_block (a:=⟨p,3,none⟩) hs).trans h.c3,λ j=>(World.frozen?_of_block (a:=⟨p,j,none⟩) hs).trans (h.fr j),Nat.lt_of_lt_of_le h.sz hz⟩
theorem Zf.up {V V':World} {p:Nat} (h:Zf V p) (hb:Below V.heap.size V V'):Zf V' p:=h.same (hb.block p h.sz) hb.size
abbrev put4 (W:World) (p:Nat) (x0 x1 x2 x3:Value):World:=(((W.setCell ⟨p,0,none⟩ x0).setCell ⟨p,1,none⟩ x1).setCell ⟨p,2,none⟩ x2).setCell ⟨p,3,none⟩ x3
theorem put4_far {W:World} {p q:Nat} {x0 x1 x2 x3:Value} (h:q≠p):(put4 W p x0 x1 x2 x3).heap[q]? = W.heap[q]? := by
 unfold put4;rw [Below.heap_setCell _ _ _ _ h,Below.heap_setCell _ _ _ _ h,Below.heap_setCell _ _ _ _ h,Below.heap_setCell _ _ _ _ h]
theorem put4_size {W:World} {p:Nat} {x0 x1 x2 x3:Value}:(put4 W p x0 x1 x2 x3).heap.size=W.heap.size:=by simp
theorem put4_below {B:Nat} {w W:World} {p:Nat} {x0 x1 x2 x3:Value} (h:Below B w W) (hp:B<=p):Below B w (put4 W p x0 x1 x2 x3) :=
 (((h.setCell (p:=⟨p,0,none⟩) hp _).setCell (p:=⟨p,1,none⟩) hp _).setCell (p:=⟨p,2,none⟩) hp _).setCell (p:=⟨p,3,none⟩) hp _
theorem put4_cells {W:World} {p:Nat} {x0 x1 x2 x3:Value} (z:Zf W p) :
 (put4 W p x0 x1 x2 x3).cell? ⟨p,0,none⟩=some x0/\(put4 W p x0 x1 x2 x3).cell? ⟨p,1,none⟩=some x1/\(put4 W p x0 x1 x2 x3).cell? ⟨p,2,none⟩=some x2/\(put4 W p x0 x1 x2 x3).cell? ⟨p,3,none⟩=some x3 /\ ∀ j,(put4 W p x0 x1 x2 x3).frozen? ⟨p,j,none⟩=false:=by
 have o : ∀ (V:World) (i j:Nat) (v:Value),i≠j->(V.setCell ⟨p,i,none⟩ v).cell? ⟨p,j,none⟩=V.cell? ⟨p,j,none⟩:=λ V i j v hij=>World.cell?_setCell_other _ _ _ _ (by intro e;cases e;exact hij rfl);have s : ∀ (V:World) (j:Nat) (v u:Value),V.cell? ⟨p,j,none⟩=some u->(V.setCell ⟨p,j,none⟩ v).cell? ⟨p,j,none⟩=some v:=λ V j v u hu=>World.cell?_setCell_same (u:=u) _ _ _ hu
 refine ⟨?_, ?_, ?_, ?_,λ j => ?_⟩
 · rw [o _ _ _ _ (by decide),o _ _ _ _ (by decide),o _ _ _ _ (by decide),s _ _ _ _ z.c0]
 · rw [o _ _ _ _ (by decide),o _ _ _ _ (by decide),s _ _ _ (.int .i64 0) (by rw [o _ _ _ _ (by decide)];exact z.c1)]
 · rw [o _ _ _ _ (by decide),s _ _ _ (.slice none 0 0) (by rw [o _ _ _ _ (by decide),o _ _ _ _ (by decide)];exact z.c2)]
 · rw [s _ _ _ (.slice none 0 0) (by rw [o _ _ _ _ (by decide),o _ _ _ _ (by decide),o _ _ _ _ (by decide)];exact z.c3)]
 · have:=z.fr j
   simpa using this
theorem set4f {W:World} {p:Nat} {x0 x1 x2 x3 y0 y1 y2 y3:Value} (h0:W.cell? ⟨p,0,none⟩=some y0) (h1:W.cell? ⟨p,1,none⟩=some y1) (h2:W.cell? ⟨p,2,none⟩=some y2) (h3:W.cell? ⟨p,3,none⟩=some y3) :
 (W.setCell ⟨p,0,none⟩ x0).cell? ⟨p,0,none⟩=some x0/\((W.setCell ⟨p,0,none⟩ x0).setCell ⟨p,1,none⟩ x1).cell? ⟨p,1,none⟩=some x1 /\
 (((W.setCell ⟨p,0,none⟩ x0).setCell ⟨p,1,none⟩ x1).setCell ⟨p,2,none⟩ x2).cell? ⟨p,2,none⟩=some x2 /\
 ((((W.setCell ⟨p,0,none⟩ x0).setCell ⟨p,1,none⟩ x1).setCell ⟨p,2,none⟩ x2).setCell ⟨p,3,none⟩ x3).cell? ⟨p,3,none⟩=some x3:=by
 have o : ∀ (V:World) (i j:Nat) (v:Value),i≠j->(V.setCell ⟨p,i,none⟩ v).cell? ⟨p,j,none⟩=V.cell? ⟨p,j,none⟩:=λ V i j v hij=>World.cell?_setCell_other _ _ _ _ (by intro e;cases e;exact hij rfl)
 refine ⟨World.cell?_setCell_same _ _ _ h0,World.cell?_setCell_same (u:=y1) _ _ _ ?_,World.cell?_setCell_same (u:=y2) _ _ _ ?_,World.cell?_setCell_same (u:=y3) _ _ _ ?_⟩
 · rw [o _ _ _ _ (by decide)];exact h1
 · rw [o _ _ _ _ (by decide),o _ _ _ _ (by decide)];exact h2
 · rw [o _ _ _ _ (by decide),o _ _ _ _ (by decide),o _ _ _ _ (by decide)];exact h3
structure Gs (w wx:World) (gb:Nat) (f wy:Int) (ws:List Int) (wa:Option Addr) (wc:Nat):Prop where
 gw:Gw wx wx gb f wy (.slice wa ws.length wc) [] (.slice none 0 0)
 rw:Rd wx wa ws
 ne : ∀ p,wa=some p->p.block≠gb/\p.block≠w.heap.size
 gn:w.heap.size<gb
 z:Zf wx w.heap.size
 b:Below w.heap.size w wx
theorem gs_a {w w3:World} {f wy:Int} {ws:List Int} {wa:Option Addr} {wc:Nat} (h0:0<ws.length) (hb:Below ((w.alloc nilG).alloc nilG).drew.heap.size ((w.alloc nilG).alloc nilG).drew w3) (hr:Rd w3 wa ws) (ha : ∀ p,wa=some p->((w.alloc nilG).alloc nilG).drew.heap.size<=p.block) :
 Zf w3 (w.heap.size+1)/\Gs w (put4 w3 (w.heap.size+1) (.int .i64 f) (.int .i64 wy) (.slice wa ws.length wc) (.slice none 0 0)) (w.heap.size+1) f wy ws wa wc:=by
 have e1:(w.alloc nilG).heap.size=w.heap.size+1:=by simp
 have e2:((w.alloc nilG).alloc nilG).drew.heap.size=w.heap.size+1+1:=by
  show ((w.alloc nilG).alloc nilG).heap.size=_;simp
 have z1:Zf w3 (w.heap.size+1):=by
  have:=((zf_made (w.alloc nilG)).up (Below.refl _ _).drew).up hb;rw [e1] at this;exact this
 have z0:Zf w3 w.heap.size:=((zf_made w).up (((Below.refl _ _).alloc (Nat.le_refl _) _).drew)).up hb;have b0:Below w.heap.size w w3:=below_on ((((Below.refl _ w).alloc (Nat.le_refl _) _).alloc (by simp) _).drew) hb;have s3:=hb.size;rw [e2] at s3
 have fresh : ∀ p,wa=some p->p.block≠w.heap.size+1/\p.block≠w.heap.size:=λ p hp=>by
  have:=ha p hp;rw [e2] at this;omega
 obtain ⟨p0,p1,p2,p3,pf⟩:=put4_cells (x0 := .int .i64 f) (x1 := .int .i64 wy) (x2 := .slice wa ws.length wc) (x3 := .slice none 0 0) z1
 refine ⟨z1,⟨⟨World.grownBy.refl _ _,p0,p1,p2,p3,pf,by rw [put4_size];omega,World.ownsRow_nil _ _ _ _,(λ c hc=>by cases hc),(λ c hc=>by cases hc)⟩,rd_keep hr (λ p hp=>put4_far (fresh p hp).1) (by rw [put4_size];exact Nat.le_refl _),fresh,by omega,z0.same (put4_far (by omega)) (by rw [put4_size];exact Nat.le_refl _),put4_below b0 (by omega)⟩⟩
theorem gs_b {w w3:World} {f wy:Int} {ws:List Int} {wa:Option Addr} {wc:Nat} (h0:0<ws.length) (hb:Below (w.alloc nilG).drew.heap.size (w.alloc nilG).drew w3) (hr:Rd w3 wa ws) (ha : ∀ p,wa=some p->(w.alloc nilG).drew.heap.size<=p.block) :
 Gs w (w3.alloc (.cells #[.int .i64 f, .int .i64 wy, .slice wa ws.length wc, .slice none 0 0] 35)) w3.heap.size f wy ws wa wc:=by
 have e1:(w.alloc nilG).drew.heap.size=w.heap.size+1:=by
  show (w.alloc nilG).heap.size=_;simp
 have z0:Zf w3 w.heap.size:=((zf_made w).up ((Below.refl _ _).drew)).up hb;have b0:Below w.heap.size w w3:=below_on (((Below.refl _ w).alloc (Nat.le_refl _) _).drew) hb;have s3:=hb.size;rw [e1] at s3;have ba:Below w3.heap.size w3 (w3.alloc (.cells #[.int .i64 f, .int .i64 wy, .slice wa ws.length wc, .slice none 0 0] 35)):=(Below.refl _ _).alloc (Nat.le_refl _) _
 refine ⟨⟨World.grownBy.refl _ _,World.cell?_alloc_at _ _ _ 0 rfl,World.cell?_alloc_at _ _ _ 1 rfl,World.cell?_alloc_at _ _ _ 2 rfl,World.cell?_alloc_at _ _ _ 3 rfl,λ j => ?_,by simp,World.ownsRow_nil _ _ _ _,(λ c hc=>by cases hc),(λ c hc=>by cases hc)⟩,hr.below ba,λ p hp => ?_,by omega,z0.up ba,below_on b0 ba⟩
 · unfold World.frozen?
   rw [heap_alloc_new w3 _];simp
 · obtain ⟨b,off,e,hl,_⟩:=hr.2 (by intro e;rw [e] at h0;simp at h0)
   have q:=ha p hp;rw [e1] at q;rw [hp] at e;cases e;have q':w.heap.size+1<=b:=q
   exact ⟨Nat.ne_of_lt hl,show b≠w.heap.size by omega⟩
theorem gw_done {w wx wr:World} {gb:Nat} {f wy:Int} {ws:List Int} {wa:Option Addr} {wc:Nat} {C:List Tc} {x:Value} (s:Gs w wx gb f wy ws wa wc) (h:Gw wx wr gb f wy (.slice wa ws.length wc) C x) (h0:0<C.length) (h12:C.length<=12) (hw0:0<ws.length) (y0 y1 y2 y3:Value) :
 ∃ g c,x = .slice (some ⟨g,0,none⟩) C.length c/\Zf wr w.heap.size/\RdG (put4 wr w.heap.size y0 y1 y2 y3) ⟨f,wy,wa,ws,wc,some ⟨g,0,none⟩,C,c⟩/\Below w.heap.size w (put4 wr w.heap.size y0 y1 y2 y3):=by
 have gs:=h.gr.size;have rz:=s.z.sz;obtain ⟨g,c,e,hg1,hg2⟩:=h.ox.form h0;subst e;have far : ∀ q,q≠w.heap.size->(put4 wr w.heap.size y0 y1 y2 y3).heap[q]? = wr.heap[q]? := λ q hq=>put4_far hq
 refine ⟨g,c,rfl,s.z.same (h.gr.block _ rz (λ e=>by have:=s.gn;cases e;omega)) gs,⟨rd_keep s.rw (λ p hp => ?_) (by rw [put4_size];exact gs), ?_, ?_,λ _=>⟨g,0,rfl,by rw [put4_size];exact hg2,λ i hi => ?_⟩⟩,put4_below (s.b.grown h.gr s.b.size (λ k hk=>by cases hk;have:=s.gn;omega)) (Nat.le_refl _)⟩
 · obtain ⟨n1,n2⟩:=s.ne p hp
   have hp':wa=some p:=hp;obtain ⟨b,off,e,hl,_⟩:=s.rw.2 (by intro e;rw [e] at hw0;simp at hw0);rw [hp'] at e;cases e;exact (far _ n2).trans (h.gr.block _ hl (λ e=>n1 (by cases e;rfl)))
 · show C.length<=maxLen
   unfold maxLen;omega
 · intro c' hc
   have hc':c'∈C:=hc;exact rdn_keep (h.rd c' hc') (λ p hp=>far _ (by have:=(h.ap c' hc' p hp).1;omega)) (by rw [put4_size];exact Nat.le_refl _)
 · have hi':i<C.length:=hi
   rw [Nat.zero_add];refine (World.cell?_of_block (a:=⟨g,i,none⟩) (far g (by omega))).trans ((h.ox.cellAt i (by omega)).trans ?_);rw [List.getElem?_map,List.getElem?_eq_getElem hi'];rfl
def EvalGives:Prop := ∀ (G:Gr) (b:Option Addr) (xs:List Int) (cb:Nat) (W:World),RdG W G->Rd W b xs->Calls Tryz.prog 20 #[G.v, .slice b xs.length cb] W λ e w'=>e = .returned (.tuple #[.int .i64 (M.evalG G.m xs),errV (M.standF G.m xs)])/\Below W.heap.size W w'
def EachGives:Prop := ∀ (G:Gr) (b:Option Addr) (xs:List Int) (cb:Nat) (W:World),RdG W G->Rd W b xs->Calls Tryz.prog 46 #[G.v, .slice b xs.length cb] W λ e w' => ∃ ag cg,e = .returned (.tuple #[.slice ag (M.eachV G.m xs).length cg,errV (M.standF G.m xs)])/\Rd w' ag (M.eachV G.m xs)/\Below W.heap.size W w'
def M.fillK (l:List Int) (k:Nat):List Int:=l.take k ++ List.replicate (l.length-k) 0
theorem M.fillK_len (l:List Int) {k:Nat} (h:k<=l.length):(M.fillK l k).length=l.length:=by unfold M.fillK;simp;omega
theorem M.fillK_zero (l:List Int):M.fillK l 0=List.replicate l.length 0:=by unfold M.fillK;simp
theorem M.fillK_all (l:List Int):M.fillK l l.length=l:=by unfold M.fillK;simp
theorem M.fillK_set (l:List Int) {k:Nat} (h:k<l.length):(M.fillK l k).set k (l.getD k 0)=M.fillK l (k+1):=by
 apply List.ext_getElem?;intro i;rw [M.getD_at h];unfold M.fillK
 by_cases e:i=k
 · subst e
   rw [List.getElem?_set_self (by simp;omega),List.getElem?_append_left (by simp;omega),List.getElem?_take_of_lt (by omega),List.getElem?_eq_getElem h]
 · rw [List.getElem?_set_ne (λ c=>e c.symm)]
   by_cases q:i<k
   · rw [List.getElem?_append_left (by simp;omega),List.getElem?_append_left (by simp;omega),List.getElem?_take_of_lt q,List.getElem?_take_of_lt (by omega)]
   · rw [List.getElem?_append_right (by simp;omega),List.getElem?_append_right (by simp;omega)]
     simp only [List.length_take,List.getElem?_replicate];rw [Nat.min_eq_left (by omega),Nat.min_eq_left (by omega)]
     by_cases q2:i<l.length
     · rw [if_pos (by omega),if_pos (by omega)]
     · rw [if_neg (by omega),if_neg (by omega)]
theorem fillK_own {wr:World} {B g n:Nat} {F:List Int} {k:Nat} (hk:k<F.length)
 (hown:wr.ownsRow B 3 1 (.slice (some ⟨g,0,none⟩) n n) n ((M.fillK F k).map (Value.int .i64))) :
 (wr.setCell ⟨g,k,none⟩ (.int .i64 (F.getD k 0))).ownsRow B 3 1 (.slice (some ⟨g,0,none⟩) n n) n ((M.fillK F (k+1)).map (Value.int .i64)):=by
 have:=(hown.stored k (.int .i64 (F.getD k 0))).1;rw [←M.fillK_set F hk,List.map_set];exact this
theorem fillK_cell {wr:World} {B g n:Nat} {F:List Int} {k:Nat} (hk:k<F.length) (hn:F.length=n)
 (hown:wr.ownsRow B 3 1 (.slice (some ⟨g,0,none⟩) n n) n ((M.fillK F k).map (Value.int .i64))) : ∃ z,wr.cell? ⟨g,k,none⟩=some (.int .i64 z):=by
 have hl:(M.fillK F k).length=n:=by rw [M.fillK_len F (by omega),hn]
 exact ⟨_,own_at hown hl k (by omega)⟩
end Go.Proofs.YtaijnacghiloaaaGreatDoor
