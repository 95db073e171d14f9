/-
  Several texts as one: FlatO, FlatQ, ShCopy, FlatL, FlatN.
-/
import Derived.Test.YtaijnacghiloaaaGreatDoorRunT18
import Derived.Test.YtaijnacghiloaaaGreatDoorRunT11
import Derived.Test.YtaijnacghiloaaaGreatDoorRunT6
import Derived.Deep.AppendLies
import Derived.Test.YtaijnacghiloaaaGreatDoorRunT12
import Derived.Deep.RegionHeld3
import Derived.Deep.RegionLaw
import Derived.Deep.Cut
import Derived.Deep.CutRange
import Derived.RegionTactic
import Derived.Test.YtaijnacghiloaaaGreatDoorRunT4
import Derived.Deep.RegionWith
namespace Go.Proofs.YtaijnacghiloaaaGreatDoor
open Go.ChangeShapes Go.WideShapes Go.ChangeAt Go.RowKit Go.Lib
set_option linter.unusedVariables false
def M.allN (g:M.Gv):List M.Nd:=M.laidK (M.gt g) (M.gt g).length
def M.allR (g:M.Gv):List Int:=M.rootsK (M.gt g) (M.gt g).length
theorem M.allR_len (g:M.Gv):(M.allR g).length=(M.gt g).length:=M.rootsK_len _ _
structure Fp where
 wa:Option Addr
 wc:Nat
 na:Option Addr
 nc:Nat
 ra:Option Addr
 rc:Nat
structure FoAt (W:World) (p:Nat) (g:M.Gv) (P:Fp):Prop where
 lt:p<W.heap.size
 c0:W.cell? ⟨p,0,none⟩=some (.int .i64 (M.gf g))
 c1:W.cell? ⟨p,1,none⟩=some (.int .i64 (M.gw g))
 c2:W.cell? ⟨p,2,none⟩=some (.slice P.wa (M.gs g).length P.wc)
 c3:W.cell? ⟨p,3,none⟩=some (.slice P.na (M.allN g).length P.nc)
 c4:W.cell? ⟨p,4,none⟩=some (.slice P.ra (M.allR g).length P.rc)
 rw:Rd W P.wa (M.gs g)
 rn:RdN W P.na (M.allN g)
 rr:Rd W P.ra (M.allR g)
 ca:(M.allN g).length<=P.nc
theorem FoAt.below {W W':World} {p:Nat} {g:M.Gv} {P:Fp} (h:FoAt W p g P) (hb:Below W.heap.size W W'):FoAt W' p g P :=
 ⟨Nat.lt_of_lt_of_le h.lt hb.size,(hb.cell (p:=⟨p,0,none⟩) h.lt).trans h.c0,(hb.cell (p:=⟨p,1,none⟩) h.lt).trans h.c1,(hb.cell (p:=⟨p,2,none⟩) h.lt).trans h.c2,(hb.cell (p:=⟨p,3,none⟩) h.lt).trans h.c3,(hb.cell (p:=⟨p,4,none⟩) h.lt).trans h.c4,h.rw.below hb,h.rn.below hb,h.rr.below hb,h.ca⟩
def FO (W:World) (p:Nat) (g:M.Gv):Prop := ∃ P,FoAt W p g P
theorem FO.below {W W':World} {p:Nat} {g:M.Gv} (h:FO W p g) (hb:Below W.heap.size W W'):FO W' p g:=by
 obtain ⟨P,h⟩:=h
 exact ⟨P,h.below hb⟩
theorem M.tree_in {g:M.Gv} (K:M.Good g) {k:Nat} (hk:k<(M.gt g).length):(M.treeF ((M.gt g).getD k []) (M.gf g)).2=0:=by
 rw [M.getD_at hk];exact K.trees _ (List.getElem_mem hk)
theorem M.allN_le {g:M.Gv} (K:M.Good g):(M.allN g).length<=1000:=by
 have t12:=K.t12;have:=M.laidK_bound (T:=M.gt g) (λ i hi=>(M.tree_ok (M.tree_in K hi)).1.1) (M.gt g).length (Nat.le_refl _);unfold M.allN;omega
theorem gw_new {w0 w wx wr:World} {gb:Nat} {f wy:Int} {ws:List Int} {wa:Option Addr} {wc:Nat} {C:List Tc} {x:Value} (s:Gs w wx gb f wy ws wa wc) (h:Gw wx wr gb f wy (.slice wa ws.length wc) C x) (h0:0<C.length) (h12:C.length<=12) (hw0:0<ws.length) (hz:w0.heap.size<=w.heap.size) (ha : ∀ p,wa=some p->w0.heap.size<=p.block) (y0 y1 y2 y3:Value) :
 ∃ g c,x = .slice (some ⟨g,0,none⟩) C.length c/\Zf wr w.heap.size/\NewH w0 (put4 wr w.heap.size y0 y1 y2 y3) ⟨f,wy,wa,ws,wc,some ⟨g,0,none⟩,C,c⟩/\Below w.heap.size w (put4 wr w.heap.size y0 y1 y2 y3):=by
 obtain ⟨g,c,e,z,r,b⟩:=gw_done s h h0 h12 hw0 y0 y1 y2 y3;have bz:=s.b.size
 refine ⟨g,c,e,z,λ W hW hk => ?_,b⟩
 have key : ∀ q,w0.heap.size<=q->q<(put4 wr w.heap.size y0 y1 y2 y3).heap.size->W.heap[q]? = (put4 wr w.heap.size y0 y1 y2 y3).heap[q]? := hk;have gx:=h.ox.lt g (by rw [e];rfl)
 refine ⟨⟨r.1.1,λ hn => ?_⟩,r.2.1,λ t ht=>⟨(r.2.2.1 t ht).1,λ hn => ?_⟩,λ hn => ?_⟩
 · obtain ⟨b2,off,e2,hl,hc⟩:=r.1.2 hn
   have hb:W.heap[b2]? = _:=key b2 (ha _ e2) hl
   exact ⟨b2,off,e2,Nat.lt_of_lt_of_le hl hW,λ i hi=>(World.cell?_of_block (a:=⟨b2,off+i,none⟩) hb).trans (hc i hi)⟩
 · obtain ⟨b2,off,e2,hl,hc⟩:=(r.2.2.1 t ht).2 hn
   have lo:=(h.ap t ht _ e2).1;have hb:W.heap[b2]? = _:=key b2 (by have:wx.heap.size<=b2:=lo;omega) hl;have k : ∀ j v,(put4 wr w.heap.size y0 y1 y2 y3).cell? ⟨b2,j,none⟩=some v->W.cell? ⟨b2,j,none⟩=some v:=λ j v hv=>(World.cell?_of_block (a:=⟨b2,j,none⟩) hb).trans hv
   exact ⟨b2,off,e2,Nat.lt_of_lt_of_le hl hW,λ i hi=>⟨k _ _ (hc i hi).1,k _ _ (hc i hi).2.1,k _ _ (hc i hi).2.2.1,k _ _ (hc i hi).2.2.2.1,k _ _ (hc i hi).2.2.2.2.1,k _ _ (hc i hi).2.2.2.2.2⟩⟩
 · obtain ⟨b2,off,e2,hl,hc⟩:=r.2.2.2 hn
   have e3:g=b2:=by cases e2;rfl
   have hb:W.heap[b2]? = _:=key b2 (by omega) hl
   exact ⟨b2,off,e2,Nat.lt_of_lt_of_le hl hW,λ i hi=>(World.cell?_of_block (a:=⟨b2,off+i,none⟩) hb).trans (hc i hi)⟩
theorem infoTr:(Tryz.prog.info? 27).map (λ i=>(i.zero,i.size,i.bytes))=some (some (.slice none 0 0),1,24):=by kernel_rfl
set_option maxHeartbeats 16000000 in
set_option maxRecDepth 10000 in
theorem copy_any (G:Gr) (w0:World) (h:RdG w0 G) (hg:M.groveF G.m=0) :
 Calls Tryz.prog 126 #[G.v] w0 λ e w' => ∃ J:Gr,e = .returned J.v/\J.m=G.m/\NewH w0 w' J/\Below w0.heap.size w0 w':=by
 have K:=(M.good_iff G.m).1 hg;have tlen:(M.gt G.m).length=G.ks.length:=tl_len G.ks
 have n0:0<G.ks.length:=by rw [←tlen];exact K.t0
 have n12:G.ks.length<=12:=by rw [←tlen];exact K.t12
 have wl:G.ws.length=G.ks.length:=by rw [←tlen];exact K.len
 have wp:0<G.ws.length:=by omega
 obtain ⟨w,hw⟩ : ∃ X,X=w0.alloc (.cells #[.int .i64 G.f, .int .i64 G.w, .slice G.wa G.ws.length G.wc, .slice G.ta G.ks.length G.tc] 35):=⟨_,rfl⟩
 obtain ⟨p,hp⟩ : ∃ x,x=w0.heap.size:=⟨_,rfl⟩
 have B0:Below w0.heap.size w0 w:=by rw [hw];exact (Below.refl _ _).alloc (Nat.le_refl _) _
 have h:=h.below B0
 have zp:w.heap.size=p+1:=by rw [hw,hp];simp
 have c0:w.cell? ⟨p,0,none⟩=some (.int .i64 G.f):=by rw [hw,hp];exact World.cell?_alloc_at _ _ _ 0 rfl
 have c1:w.cell? ⟨p,1,none⟩=some (.int .i64 G.w):=by rw [hw,hp];exact World.cell?_alloc_at _ _ _ 1 rfl
 have c2:w.cell? ⟨p,2,none⟩=some (.slice G.wa G.ws.length G.wc):=by rw [hw,hp];exact World.cell?_alloc_at _ _ _ 2 rfl
 have c3:w.cell? ⟨p,3,none⟩=some (.slice G.ta G.ks.length G.tc):=by rw [hw,hp];exact World.cell?_alloc_at _ _ _ 3 rfl
 obtain ⟨bw,ow,ewa,hbw,hcw⟩:=h.1.2 (by intro e;rw [e] at wl;simp at wl;omega);have CC:=hide (λ W (hW:Below w.heap.size w W)=>clone_ints bw ow G.wc G.ws W (λ i hi=>(hW.cell (p:=⟨bw,ow+i,none⟩) hbw).trans (hcw i hi)) (by omega) (Nat.lt_of_lt_of_le hbw hW.size));obtain ⟨bt,ot,eta,hbt,hct⟩:=h.2.2.2 (by intro e;rw [e] at n0;simp at n0)
 have pl:p<w.heap.size:=by omega
 have KC:Hid (∀ W,Below w.heap.size w W->W.cell? ⟨p,0,none⟩=some (.int .i64 G.f)/\W.cell? ⟨p,1,none⟩=some (.int .i64 G.w)/\W.cell? ⟨p,2,none⟩=some (.slice (some ⟨bw,ow,none⟩) G.ws.length G.wc)/\W.cell? ⟨p,3,none⟩=some (.slice (some ⟨bt,ot,none⟩) G.ks.length G.tc)):=λ W hW=>⟨(hW.cell (p:=⟨p,0,none⟩) pl).trans c0,(hW.cell (p:=⟨p,1,none⟩) pl).trans c1,by rw [←ewa];exact (hW.cell (p:=⟨p,2,none⟩) pl).trans c2,by rw [←eta];exact (hW.cell (p:=⟨p,3,none⟩) pl).trans c3⟩
 have HCT:Hid (∀ W,Below w.heap.size w W -> ∀ i (hi:i<G.ks.length),W.cell? ⟨bt,ot+i,none⟩=some (tV G.ks[i])):=λ W hW i hi=>(hW.cell (p:=⟨bt,ot+i,none⟩) hbt).trans (hct i hi)
 have HT:Hid (∀ k (hk:k<G.ks.length),G.ks[k].2.1 ≠ [] /\ ∀ W,Below w.heap.size w W->Calls Tryz.prog 151 #[tV G.ks[k]] W λ e w' => ∃ a cap,e = .returned (.slice a G.ks[k].2.1.length cap)/\RdN w' a G.ks[k].2.1/\(∀ p,a=some p->W.heap.size<=p.block)/\Below W.heap.size W w'):=λ k hk=>by
  have F:=(M.tree_ok (M.tree_in K (show k<(M.gt G.m).length by rw [tlen];exact hk))).1;have e:(M.gt G.m).getD k []=G.ks[k].2.1:=tl_at G.ks hk;rw [e] at F;have rk:=h.2.2.1 _ (List.getElem_mem hk)
  have ne:G.ks[k].2.1 ≠ []:=by intro e2;have:=F.2.1;rw [e2] at this;simp at this
  refine ⟨ne,λ W hW => ?_⟩
  obtain ⟨b,off,e2,hl,hc⟩:=(rk.below hW).2 ne;unfold tV;rw [e2];exact clone_nodes b off _ _ W hc F.1 hl
 have EN:Hid ((tl G.ks).take G.ks.length=tl G.ks):=by unfold Hid;rw [List.take_of_length_le (by rw [tl_len];exact Nat.le_refl _)]
 have TK:Hid (∀ k (hk:k<G.ks.length),(tl G.ks).take (k+1)=(tl G.ks).take k ++ [G.ks[k].2.1]):=λ k hk=>by
  unfold tl;rw [List.take_add_one,List.getElem?_map,List.getElem?_eq_getElem hk];rfl
 have HP:=hide pl;have HPB:=hide B0
 have PN:Hid (∀ W,Below w.heap.size w W -> ¬ W.heap.size=p):=λ W hW e=>by have:=HP.out;have:=hW.size;omega
 obtain ⟨i0,hi,hz0,hz1,hz2⟩:=info_parts infoTr;have I0:=hide hi;have SA:Hid (∀ w3 wa wcc,Below ((w.alloc nilG).alloc nilG).drew.heap.size ((w.alloc nilG).alloc nilG).drew w3->Rd w3 wa G.ws->(∀ p,wa=some p->((w.alloc nilG).alloc nilG).drew.heap.size<=p.block)->Zf w3 (w.heap.size+1)/\Gs w (put4 w3 (w.heap.size+1) (.int .i64 G.f) (.int .i64 G.w) (.slice wa G.ws.length wcc) (.slice none 0 0)) (w.heap.size+1) G.f G.w G.ws wa wcc):=λ w3 wa wcc h1 h2 h3=>gs_a wp h1 h2 h3;have SB:Hid (∀ w3 wa wcc,Below (w.alloc nilG).drew.heap.size (w.alloc nilG).drew w3->Rd w3 wa G.ws->(∀ p,wa=some p->(w.alloc nilG).drew.heap.size<=p.block)->Gs w (w3.alloc (.cells #[.int .i64 G.f, .int .i64 G.w, .slice wa G.ws.length wcc, .slice none 0 0] 35)) w3.heap.size G.f G.w G.ws wa wcc):=λ w3 wa wcc h1 h2 h3=>gs_b wp h1 h2 h3
 have HM:Hid (∀ g c wa wcc (C:List Tc),tl C=tl G.ks->(⟨G.f,G.w,wa,G.ws,wcc,g,C,c⟩:Gr).m=G.m):=λ g c wa wcc C e=>by
  unfold Gr.m;rw [e]
 have HPE:=hide hp;have ZP:=hide zp;unfold Gr.v;clear h hg K wl hbw hcw ewa hbt hct eta hi tlen c0 c1 c2 c3 zp hp B0 pl;generalize tl G.ks=GL at *;generalize G.f=gf at *;generalize G.w=gw at *
 go_enter Tryz.func126, Tryz.ntmps126
 go_upto_region 1 with fail
 rw [←hw];simp only [←HPE.out];rw [←ZP.out];clear hw
 go_cut [3] from 6 to 13 (λ v wx => ∃ gb wa wcc,v = .pointer (some ⟨gb,0,none⟩)/\Hid (Gs w wx gb gf gw G.ws wa wcc)/\Hid (∀ p,wa=some p->w0.heap.size<=p.block))
 case first =>
  have B1:Hid (Below w.heap.size w (w.alloc nilG).drew):=((Below.refl _ w).alloc (Nat.le_refl _) _).drew;have B2:Hid (Below w.heap.size w ((w.alloc nilG).alloc nilG).drew):=(((Below.refl _ w).alloc (Nat.le_refl _) _).alloc (by simp) _).drew;obtain ⟨a0,a1,a2,a4⟩:=KC.out _ B1.out;obtain ⟨b0,b1,b2,b4⟩:=KC.out _ B2.out;obtain ⟨x0,x1,x2,x4⟩:=KC.out _ ((Below.refl _ w).alloc (Nat.le_refl _) nilG);obtain ⟨y0,y1,y2,y4⟩:=KC.out _ (((Below.refl _ w).alloc (Nat.le_refl _) nilG).alloc (by simp) nilG);clear HT HCT TK
  have pn0 : ¬ w.heap.size=p:=by have:=HP.out;omega
  have pn1 : ¬ w.heap.size+1=p:=by have:=HP.out;omega
  go_region_held3 (λ W=>W.cell? ⟨p,0,none⟩=some (.int .i64 gf)/\W.cell? ⟨p,1,none⟩=some (.int .i64 gw)/\W.cell? ⟨p,2,none⟩=some (.slice (some ⟨bw,ow,none⟩) G.ws.length G.wc)) (go_keep) (first
   | (go_at_call 127;refine (CC.out _ ?qw).mono ?_;(case qw=>exact B2.out);rintro e w3 ⟨wa,wcc,rfl,hr3,ha3,hb3⟩;have HSA:=SA.out w3 wa wcc hb3 hr3 ha3;have Z3:=HSA.1;have HG:=hide HSA.2;clear HSA;have z0:=Z3.c0;have z1:=Z3.c1;have z2:=Z3.c2;have z3:=Z3.c3;have zf:=Z3.fr;have dd:=KC.out w3 (below_on B2.out hb3);have d0:=dd.1;have d1:=dd.2.1;have d2:=dd.2.2.1;have pn3 : ¬ w3.heap.size=p:=PN.out w3 (below_on B2.out hb3);clear dd)
   | (go_at_call 127;refine (CC.out _ ?qw).mono ?_;(case qw=>exact B1.out);rintro e w3 ⟨wa,wcc,rfl,hr3,ha3,hb3⟩;have HG:=hide (SB.out w3 wa wcc hb3 hr3 ha3);have dd:=KC.out w3 (below_on B1.out hb3);have d0:=dd.1;have d1:=dd.2.1;have d2:=dd.2.2.1;have pn3 : ¬ w3.heap.size=p:=PN.out w3 (below_on B1.out hb3);clear dd))
  all_goals go_wp2
  all_goals go_meet
  all_goals (case rel=>exact ⟨_,_,_,rfl,HG,λ p hp=>Nat.le_trans (by have:=HPB.out.size;first | (simp;omega) | (simp at *;omega)) (ha3 p hp)⟩)
 case rest =>
  obtain ⟨gb,wa,wcc,rfl,HG,HA⟩:=hcut
  obtain ⟨wx,hwx⟩ : ∃ W,W=wc:=⟨_,rfl⟩
  subst hwx;obtain ⟨f0,f1,f2,f3⟩:=KC.out wx HG.out.b;have KB:Hid (∀ W,wx.grownBy W (some gb)->Below w.heap.size w W):=λ W hW=>HG.out.b.grown hW HG.out.b.size (λ k hk=>by cases hk;have:=HG.out.gn;omega);clear CC SA SB
  go_wp2
  go_loopw [17] (λ i wr => ∃ (k:Nat) (x:Value) (C:List Tc),k<=G.ks.length/\i = .int .i64 k/\Hid (tl C=GL.take k/\C.length=k)/\Hid (Gw wx wr gb gf gw (.slice wa G.ws.length wcc) C x)) (λ i _=>G.ks.length-(intOf i).toNat)
  case atStart=>exact ⟨0, .slice none 0 0, [],Nat.zero_le _,rfl,⟨rfl,rfl⟩,HG.out.gw⟩
  case round =>
   clear f0 f1 f2 f3;obtain ⟨k,x,C,hk,rfl,HC,GW⟩:=hrel
   by_cases hlt:k<G.ks.length
   · have kb:=KB.out wr GW.out.gr
     have kz:(k:Int)<(G.ks.length:Int):=by omega
     have x3:=GW.out.c3;have ct:=HCT.out wr kb k hlt;have tk:=TK.out k hlt;obtain ⟨l3,CL0⟩:=HT.out k hlt;unfold tV at ct CL0;generalize G.ks[k].2.1=LV at *;generalize G.ks[k].2.2=lc at *;generalize G.ks[k].1=la at *;have CL1:=hide CL0;have OX:=hide GW.out.ox;have LT:=GW.out.lt;have GZ:=GW.out.gr.size
     have cl:C.length<=12:=by have:=HC.out.2;omega
     have BD:Hid (Below w.heap.size w wr.drew):=kb.drew;have UP:Hid (∀ W,Below wr.drew.heap.size wr.drew W->Gw wx W gb gf gw (.slice wa G.ws.length wcc) C x):=λ W hW=>GW.out.up (((Below.refl _ _).drew).trans hW)
     have XO:Hid (∀ W (o:Obj),Below wr.drew.heap.size wr.drew W->W.cell? ⟨gb,3,none⟩=some x/\(W.alloc o).cell? ⟨gb,3,none⟩=some x/\(W.alloc o).ownsRow wx.heap.size 27 1 x C.length (C.map tV)/\wx.heap.size<=(W.alloc o).heap.size):=λ W o hW=>by
      have q:=UP.out W hW;have qa:=q.up ((Below.refl _ W).alloc (Nat.le_refl _) o)
      exact ⟨q.c3,qa.c3,qa.ox,qa.gr.size⟩
     have PG : ¬ gb=p:=by have:=HP.out;have:=HG.out.gn;omega
     have PZ:Hid (∀ W,Below wr.drew.heap.size wr.drew W -> ¬ W.heap.size=gb):=λ W hW=>by
      have q:=hW.size;have q2:wr.drew.heap.size=wr.heap.size:=rfl
      omega
     have MO:Hid (∀ (w5:World) (o:Obj) a cp g2 c2 w6,Below wr.drew.heap.size wr.drew w5->RdN w5 a LV->(∀ p,a=some p->wr.drew.heap.size<=p.block)->(w5.alloc o).grownBy w6 x.ownBlock->w6.ownsRow wx.heap.size 27 1 (.slice (some ⟨g2,0,none⟩) (C.length+1) c2) (C.length+1) (C.map tV ++ [.slice a LV.length cp])->(x.ownBlock=some g2∨g2=w5.heap.size+1)->(w6.cell? ⟨gb,3,none⟩=some x/\w6.frozen? ⟨gb,3,none⟩=false)/\Hid (Gw wx (w6.setCell ⟨gb,3,none⟩ (.slice (some ⟨g2,0,none⟩) (C.length+1) c2)) gb gf gw (.slice wa G.ws.length wcc) (C ++ [(a,LV,cp)]) (.slice (some ⟨g2,0,none⟩) (C.length+1) c2))):=λ w5 o a cp g2 c2 w6 hb hr ha hg ho hor=>by
      have q:=UP.out w5 hb;have hg':=hg;have gf':w6.heap[gb]? = w5.heap[gb]? := (hg'.block gb (by have:=q.gr.size;simp;omega) (λ e=>by have:=(q.ox.lt gb e.symm).1;omega)).trans (Below.heap_alloc _ _ _ (by have:=q.gr.size;omega));have qs:=q.gr.size
      refine ⟨⟨(World.cell?_of_block (a:=⟨gb,3,none⟩) gf').trans q.c3,(World.frozen?_of_block (a:=⟨gb,3,none⟩) gf').trans (q.fr 3)⟩, ?_⟩
      exact q.more (w0:=wr) (λ z hz=>(GW.out.ox.lt z hz).2) GZ hb.size l3 hr ha hg' ho hor
     have T1:Hid (∀ a cp,tl (C ++ [(a,LV,cp)])=GL.take (k+1)/\(C ++ [(a,LV,cp)]).length=k+1):=λ a cp=>by
      rw [tk,←HC.out.1]
      refine ⟨by simp [tl],by rw [List.length_append,HC.out.2];rfl⟩
     clear HT HCT TK GW HC l3 tk KC CL0
     go_upto_region 5 with fail
     go_region_law (first
      | (go_simp;go_at_call 151;refine (CL1.out _ BD.out).mono ?_;rintro e w5 ⟨ac,cap5,rfl,hr5,ha5,hb5⟩;have HR5:=hide hr5;have HA5:=hide ha5;have A5:=hide (XO.out w5 (.cells #[.slice ac LV.length cap5] 27) hb5);have c35:=A5.out.1;have c36:=A5.out.2.1;have pz2:=PZ.out w5 hb5)
      | (refine step_append_lies _ rfl (.tmp 22) (.tmp 25) 33 rfl wx.heap.size 27 i0 (.slice none 0 0) 1 24 Tryz.underlying33 I0.out hz0 hz1 hz2 rfl (by decide) x C.length (C.map tV) rfl A5.out.2.2.1 ⟨w5.heap.size,0,none⟩ 1 1 [.slice ac LV.length cap5] rfl rfl (World.news_of_block (by first | exact heap_alloc_new _ _ | (simp;done))) (by intro u hu;simp at hu;subst hu;rfl) (by decide) (by unfold maxLen;omega) (by omega) A5.out.2.2.2 (w5.heap.size+1) (by simp) ?_;intro g6 c6 w6 hown6 hgrow6 hor6 hlt6;have MM:=MO.out w5 _ ac cap5 g6 c6 w6 hb5 HR5.out HA5.out hgrow6 hown6 hor6;have v3:=MM.1.1;have vf:=MM.1.2;have NG:=MM.2;clear MM;clear hown6 hgrow6 hor6))
     all_goals (
      go_wp2
      go_roundw
      case rel=>exact ⟨k+1,_,C ++ [(ac,LV,cap5)],by omega,by go_num,T1.out ac cap5,NG⟩
      case measure=>simp [intOf];omega)
   · have hke:k=G.ks.length:=by omega
     have hC:0<C.length:=by have:=HC.out.2;omega
     have hC12:C.length<=12:=by have:=HC.out.2;omega
     obtain ⟨gx,cx,ex,Z,_,_⟩:=gw_done HG.out GW.out hC hC12 wp .nilIface .nilIface .nilIface .nilIface;subst ex
     have FIN:Hid (NewH w0 (put4 wr w.heap.size (.int .i64 gf) (.int .i64 gw) (.slice wa G.ws.length wcc) (.slice (some ⟨gx,0,none⟩) C.length cx)) ⟨gf,gw,wa,G.ws,wcc,some ⟨gx,0,none⟩,C,cx⟩/\Below w0.heap.size w0 (put4 wr w.heap.size (.int .i64 gf) (.int .i64 gw) (.slice wa G.ws.length wcc) (.slice (some ⟨gx,0,none⟩) C.length cx))):=by
      obtain ⟨g3,c3,e3,_,r1,r2⟩:=gw_new HG.out GW.out hC hC12 wp HPB.out.size HA.out (.int .i64 gf) (.int .i64 gw) (.slice wa G.ws.length wcc) (.slice (some ⟨gx,0,none⟩) C.length cx);cases e3
      exact ⟨r1,below_on HPB.out r2⟩
     have EM:Hid (tl C=GL):=by unfold Hid;rw [HC.out.1,hke];exact EN.out
     have y0:=GW.out.c0;have y1:=GW.out.c1;have y2:=GW.out.c2;have y3:=GW.out.c3;have z0:=Z.c0;have z1:=Z.c1;have z2:=Z.c2;have z3:=Z.c3;have zf:=Z.fr;obtain ⟨e0,e1,e2,e3⟩:=set4f (x0 := .int .i64 gf) (x1 := .int .i64 gw) (x2 := .slice wa G.ws.length wcc) (x3 := .slice (some ⟨gx,0,none⟩) C.length cx) z0 z1 z2 z3
     have kz : ¬ ((k:Int)<(G.ks.length:Int)):=by omega
     clear HC GW HT HCT TK Z hke
     go_wp2
     (try simp only [Exit.inBlock,Exit.then])
     refine bodyPost_ret (v := .agg #[.int .i64 gf, .int .i64 gw, .slice wa G.ws.length wcc, .slice (some ⟨gx,0,none⟩) C.length cx]) (by simp [results, Tryz.results126,go_sem,e0,e1,e2,e3]) rfl ?_
     exact ⟨⟨gf,gw,wa,G.ws,wcc,some ⟨gx,0,none⟩,C,cx⟩,rfl,HM.out _ _ _ _ C EM.out,FIN.out.1,FIN.out.2⟩
set_option maxHeartbeats 8000000 in
set_option maxRecDepth 10000 in
theorem lay_any (L ts:List M.Nd) (va:Option Addr) (vc:Nat) (a0:Option Addr) (cap:Nat) (m:Int) (B:Nat) (w:World) (ht:RdN w a0 ts) (hs : ∀ p,a0=some p->p.block<B) (F:M.Fair ts m)
 (hv:w.ownsRow B 26 6 (.slice va L.length vc) L.length (ndCells L)) (hB:B<=w.heap.size) (hl:L.length<=1000) :
 Calls Tryz.prog 128 #[.slice va L.length vc, .slice a0 ts.length cap] w λ e w' => ∃ g c,e = .returned (.slice (some ⟨g,0,none⟩) (L.length+ts.length) c)/\w'.ownsRow B 26 6 (.slice (some ⟨g,0,none⟩) (L.length+ts.length) c) (L.length+ts.length) (ndCells (M.laid L ts))/\w.grownBy w' (Value.slice va L.length vc).ownBlock/\((Value.slice va L.length vc).ownBlock=some g∨w.heap.size<=g):=by
 have l63:ts.length<=63:=F.1;have l0:0<ts.length:=F.2.1;obtain ⟨bt,ot,rfl,hbt,hct⟩:=ht.2 (by intro e;rw [e] at l0;simp at l0);have hbB:bt<B:=hs _ rfl;have OB:Hid (∀ q,(Value.slice va L.length vc).ownBlock=some q->B<=q):=λ q hq=>(hv.lt q hq).1
 have HC:Hid (∀ W,w.grownBy W (Value.slice va L.length vc).ownBlock -> ∀ i,i<ts.length->SixAt W bt (ot+i*6) (M.nAt ts i)):=λ W hW i hi=>by
  have hb:W.heap[bt]? = w.heap[bt]? := hW.block bt hbt (λ e=>by have:=OB.out bt e.symm;omega);obtain ⟨h0,h1,h2,h3,h4,h5⟩:=hct i hi
  exact ⟨(World.cell?_of_block (a:=⟨bt,_,none⟩) hb).trans h0,(World.cell?_of_block (a:=⟨bt,_,none⟩) hb).trans h1,(World.cell?_of_block (a:=⟨bt,_,none⟩) hb).trans h2,(World.cell?_of_block (a:=⟨bt,_,none⟩) hb).trans h3,(World.cell?_of_block (a:=⟨bt,_,none⟩) hb).trans h4,(World.cell?_of_block (a:=⟨bt,_,none⟩) hb).trans h5⟩
 have M0:Hid (M.mid L ts 0=L ++ [M.nAt ts 0]):=M.mid_zero L ts;have ME:Hid (M.mid L ts ts.length=M.laid L ts):=M.mid_end F
 have ST:Hid (∀ i,i<ts.length->L.length+i<(M.mid L ts i).length/\(M.mid L ts i).length<=L.length+63 /\ ∃ j:Nat,j<ts.length/\M.nAt (M.mid L ts i) (L.length+i)=M.nAt ts j/\(M.nf (M.nAt ts j) = -1->M.mid L ts (i+1)=M.mid L ts i)/\(M.nf (M.nAt ts j) ≠ -1 -> ∃ a b:Nat,M.nl (M.nAt ts j)=a/\M.nr (M.nAt ts j)=b/\a<ts.length/\b<ts.length/\M.mid L ts (i+1)=(M.mid L ts i).set (L.length+i) (M.nf (M.nAt ts j),M.nc (M.nAt ts j),((M.mid L ts i).length:Int),((M.mid L ts i).length:Int)+1,M.ns (M.nAt ts j),M.nv (M.nAt ts j)) ++ [M.nAt ts a,M.nAt ts b])):=λ i hi=>by
  obtain ⟨q,hl'⟩:=M.ord_all F i (by omega);have hl:=hl' hi;have hx:(M.ordS ts i).getD i 0<ts.length:=q.lt _ (M.getD_mem' hl);have n63:=M.nodup_len _ _ q.nd q.lt;rw [M.mid_len (by omega)]
  refine ⟨by omega,by omega,(M.ordS ts i).getD i 0,hx,M.mid_at hl,λ hf=>M.mid_leaf hl hf,λ hf => ?_⟩
  obtain ⟨a,b,ea,eb,_,h2,_,h4,_⟩:=M.ask_at F.2.2.2.2.1 hx hf
  refine ⟨a,b,ea,eb,h2,h4, ?_⟩
  rw [←M.mid_len (by omega)];refine M.mid_ask hl hf _ _ _ ?_ ?_ rfl
  · rw [ea,Int.toNat_natCast]
  · rw [eb,Int.toNat_natCast]
 have EN:Hid ((M.mid L ts ts.length).length=L.length+ts.length):=by unfold Hid;rw [ME.out,M.laid_len]
 obtain ⟨j0,hj,hy0,hy1,hy2⟩:=info_parts infoN;have J0:=hide hj;obtain ⟨r0,r1,r2,r3,r4,r5⟩:=hct 0 l0;simp only [Nat.zero_mul,Nat.add_zero] at r0 r1 r2 r3 r4 r5;have HV:=hide hv;have NC0:Hid (ndCells [M.nAt ts 0] = [.int .i64 (M.nf (M.nAt ts 0)), .int .i64 (M.nc (M.nAt ts 0)), .int .i64 (M.nl (M.nAt ts 0)), .int .i64 (M.nr (M.nAt ts 0)), .bool (M.ns (M.nAt ts 0)), .int .i64 (M.nv (M.nAt ts 0))]):=rfl
 have l0z:(0:Int)<(ts.length:Int):=by omega
 clear F ht hct hs hv hj;generalize M.laid L ts=LD at *;generalize hn0:M.nAt ts 0=n0 at M0 NC0 r0 r1 r2 r3 r4 r5;have HN0:=hide hn0;clear hn0;generalize M.nf n0=nf at *;generalize M.nc n0=nc at *;generalize M.nl n0=nl at *;generalize M.nr n0=nr at *;generalize M.ns n0=ns at *;generalize M.nv n0=nv at *
 go_enter Tryz.func128, Tryz.ntmps128
 go_wp2_with (at_builtin;refine wpList_append_lies _ rfl (.tmp 9) (.tmp 13) 27 rfl B 26 j0 (.agg #[.int .i64 0, .int .i64 0, .int .i64 0, .int .i64 0, .bool false, .int .i64 0]) 6 48 Tryz.underlying27 J0.out hy0 hy1 hy2 rfl (by omega) (.slice va L.length vc) L.length (ndCells L) rfl (HV.out.alloc _) ⟨w.heap.size,0,none⟩ 1 1 [.int .i64 nf, .int .i64 nc, .int .i64 nl, .int .i64 nr, .bool ns, .int .i64 nv] rfl rfl (World.news_of_block (heap_alloc_new _ _)) (by simp [Value.oneCell']) (by omega) (by unfold maxLen;omega) (by omega) (by simp;omega) (w.heap.size+1) (by simp) ?_)
 intro g1 c1 w1 hov hgrow hat hlt1
 have HO1:Hid (w1.ownsRow B 26 6 (.slice (some ⟨g1,0,none⟩) (L.length+1) c1) (L.length+1) (ndCells (M.mid L ts 0))):=by
  unfold Hid;rw [M0.out,ndCells_app,NC0.out];exact hov
 have G1:Hid (w.grownBy w1 (Value.slice va L.length vc).ownBlock):=grown_trans (World.grownBy_alloc w _ _) hgrow (.inl rfl)
 have A1:Hid ((Value.slice va L.length vc).ownBlock=some g1∨w.heap.size<=g1):=by
  rcases hat with q | q
  · exact .inl q
  · exact .inr (by omega)
 have L1:Hid ((M.mid L ts 0).length=L.length+1):=by unfold Hid;rw [M0.out];simp
 clear hov hgrow hat HV r0 r1 r2 r3 r4 r5 NC0 M0 HN0
 go_wp2
 go_loopw [0,5] (λ u i wr => ∃ (k AT g c N:Nat) (X:List M.Nd),k<=ts.length/\i = .int .i64 (AT:Nat)/\Hid (AT=L.length+k)/\u = .slice (some ⟨g,0,none⟩) N c/\Hid (X=M.mid L ts k/\N=X.length)/\wr.ownsRow B 26 6 (.slice (some ⟨g,0,none⟩) N c) N (ndCells X)/\Hid (w.grownBy wr (Value.slice va L.length vc).ownBlock)/\Hid ((Value.slice va L.length vc).ownBlock=some g∨w.heap.size<=g)) (λ _ i _=>L.length+ts.length-(intOf i).toNat)
 case atStart=>exact ⟨0,L.length,g1,c1,L.length+1,M.mid L ts 0,Nat.zero_le _,rfl,rfl,rfl,⟨rfl,L1.out.symm⟩,HO1.out,G1,A1⟩
 case round =>
  clear HO1 G1 A1 L1;obtain ⟨k,AT,g,c,N,X,hk,rfl,HAT,rfl,HX,hown,G,A⟩:=hrel
  by_cases hlt:k<ts.length
  · obtain ⟨k1,k2,j,hj,ej,LF,AS⟩:=ST.out k hlt
    rw [←HX.out.1,←HX.out.2] at k1 k2;rw [←HX.out.1] at ej LF AS;rw [←HAT.out] at k1 ej AS
    have hX:AT<X.length:=by rw [←HX.out.2];exact k1
    obtain ⟨x0,x1,x2,x3,x4,x5⟩:=ndCells_at X AT hX;rw [ej] at x0 x1 x2 x3 x4 x5;have q0:=(hown.cellAt (AT*6) (by omega)).trans x0;have q1:=(hown.cellAt (AT*6+1) (by omega)).trans x1;have q2:=(hown.cellAt (AT*6+2) (by omega)).trans x2;have q3:=(hown.cellAt (AT*6+3) (by omega)).trans x3;have q4:=(hown.cellAt (AT*6+4) (by omega)).trans x4;have q5:=(hown.cellAt (AT*6+5) (by omega)).trans x5;have fz2:=hown.frozenAt (AT*6+2);have fz3:=hown.frozenAt (AT*6+3)
    have kz:(AT:Int)<(N:Int):=by omega
    have gl:g<wr.heap.size:=(hown.lt g rfl).2;have HO:=hide hown
    have PK:Hid (AT+1=L.length+(k+1)):=by unfold Hid;rw [HAT.out];omega
    have ak:=HAT.out
    have az2:AT<=1063:=by omega
    clear ak;clear x0 x1 x2 x3 x4 x5 hown
    by_cases hf:M.nf (M.nAt ts j) = -1
    · have t:(M.nf (M.nAt ts j) == -1)=true:=by rw [beq_iff_eq];exact hf
      have N1:Hid (X=M.mid L ts (k+1)/\N=X.length):=⟨(HX.out.1.trans (by rw [←HX.out.1];exact (LF hf).symm)),HX.out.2⟩
      clear LF AS hf HX HC ST ej;generalize M.nf (M.nAt ts j)=nf at *;generalize M.nc (M.nAt ts j)=nc at *;generalize M.nl (M.nAt ts j)=nl at *;generalize M.nr (M.nAt ts j)=nr at *;generalize M.ns (M.nAt ts j)=ns at *;generalize M.nv (M.nAt ts j)=nv at *
      go_wp2
      go_roundw
      case rel=>exact ⟨k+1,AT+1,g,c,N,X,by omega,by go_num,PK,rfl,N1,HO.out.alloc _,grown_trans G.out (World.grownBy_alloc wr _ none) (.inr (λ q hq=>by cases hq)),A⟩
      case measure=>have:=HAT.out;simp [intOf];omega
    · have t:(M.nf (M.nAt ts j) == -1)=false:=by rw [beq_eq_false_iff_ne];exact hf
      obtain ⟨a,b,ea,eb,ha,hb,eX⟩:=AS hf
      have N1:Hid ((X.set AT (M.nf (M.nAt ts j),M.nc (M.nAt ts j),(N:Int),(N:Int)+1,M.ns (M.nAt ts j),M.nv (M.nAt ts j))) ++ [M.nAt ts a,M.nAt ts b]=M.mid L ts (k+1)):=by unfold Hid;rw [eX,HX.out.2]
      have S2:Hid (((ndCells X).set (AT*6+2) (.int .i64 (N:Int))).set (AT*6+3) (.int .i64 ((N:Int)+1))=ndCells (X.set AT (M.nf (M.nAt ts j),M.nc (M.nAt ts j),(N:Int),(N:Int)+1,M.ns (M.nAt ts j),M.nv (M.nAt ts j)))):=by
       have:=ndCells_set2 X AT hX (N:Int) ((N:Int)+1);rw [ej] at this;exact this
      have XL:Hid ((X.set AT (M.nf (M.nAt ts j),M.nc (M.nAt ts j),(N:Int),(N:Int)+1,M.ns (M.nAt ts j),M.nv (M.nAt ts j))).length=N):=by unfold Hid;rw [List.length_set];exact HX.out.2.symm
      rw [ea] at q2;rw [eb] at q3
      have az:(a:Int)<(ts.length:Int):=by omega
      have bz:(b:Int)<(ts.length:Int):=by omega
      clear LF AS hf HX ST ej eX hX ea eb;generalize X.set AT (M.nf (M.nAt ts j),M.nc (M.nAt ts j),(N:Int),(N:Int)+1,M.ns (M.nAt ts j),M.nv (M.nAt ts j))=Y at *;generalize M.nf (M.nAt ts j)=nf at *;generalize M.nc (M.nAt ts j)=nc at *;generalize M.ns (M.nAt ts j)=ns at *;generalize M.nv (M.nAt ts j)=nv at *
      go_upto_region 7 with fail
      go_cut [40] from 28 to 40 (λ _ wx=>Hid (wx.ownsRow B 26 6 (.slice (some ⟨g,0,none⟩) N c) N (ndCells Y))/\(wx.cell? ⟨wr.heap.size,2,none⟩=some (.int .i64 (a:Int))/\wx.cell? ⟨wr.heap.size,3,none⟩=some (.int .i64 (b:Int)))/\Hid (w.grownBy wx (Value.slice va L.length vc).ownBlock))
      case first =>
       have st:=(HO.out.stored (AT*6+2) (.int .i64 (N:Int))).1;have st2:=(st.stored (AT*6+3) (.int .i64 ((N:Int)+1))).1;rw [S2.out] at st2;have ST2:=hide st2
       have GS:Hid (∀ o,w.grownBy (((wr.setCell ⟨g,AT*6+2,none⟩ (.int .i64 (N:Int))).setCell ⟨g,AT*6+3,none⟩ (.int .i64 ((N:Int)+1))).alloc o) (Value.slice va L.length vc).ownBlock):=λ o=>by
        have ss:some g=(Value.slice va L.length vc).ownBlock ∨ ∀ q,some g=some q->w.heap.size<=q:=by
         rcases A.out with q | q
         · exact .inl q.symm
         · exact .inr (λ z hz=>by cases hz;exact q)
        exact grown_trans (grown_trans (grown_trans G.out grown_set ss) grown_set ss) (World.grownBy_alloc _ o none) (.inr (λ q hq=>by cases hq))
       have SZ:((wr.setCell ⟨g,AT*6+2,none⟩ (.int .i64 (N:Int))).setCell ⟨g,AT*6+3,none⟩ (.int .i64 ((N:Int)+1))).heap.size=wr.heap.size:=by simp
       have CA:Hid (∀ (o:Array Value) (i:Nat) (v:Value),o[i]? = some v->(((wr.setCell ⟨g,AT*6+2,none⟩ (.int .i64 (N:Int))).setCell ⟨g,AT*6+3,none⟩ (.int .i64 ((N:Int)+1))).alloc (.cells o 26)).cell? ⟨wr.heap.size,i,none⟩=some v):=λ o i v hv=>by
        rw [←SZ];exact (World.cell?_alloc_at _ _ _ i rfl).trans hv
       clear st st2 SZ
       go_wp2
       go_meet
       case rel=>exact ⟨ST2.out.alloc _,⟨CA.out _ 2 _ rfl,CA.out _ 3 _ rfl⟩,GS.out _⟩
      case rest =>
       obtain ⟨HY,⟨n2,n3⟩,GY⟩:=hcut;obtain ⟨a0,a1,a2,a3,a4,a5⟩:=HC.out wc GY.out a ha;obtain ⟨b0,b1,b2,b3,b4,b5⟩:=HC.out wc GY.out b hb;have NC:Hid (ndCells [M.nAt ts a,M.nAt ts b] = [.int .i64 (M.nf (M.nAt ts a)), .int .i64 (M.nc (M.nAt ts a)), .int .i64 (M.nl (M.nAt ts a)), .int .i64 (M.nr (M.nAt ts a)), .bool (M.ns (M.nAt ts a)), .int .i64 (M.nv (M.nAt ts a)), .int .i64 (M.nf (M.nAt ts b)), .int .i64 (M.nc (M.nAt ts b)), .int .i64 (M.nl (M.nAt ts b)), .int .i64 (M.nr (M.nAt ts b)), .bool (M.ns (M.nAt ts b)), .int .i64 (M.nv (M.nAt ts b))]):=rfl;generalize M.nAt ts a=na at *;generalize M.nAt ts b=nb at *
       have szc:B<=wc.heap.size:=by have:=GY.out.size;omega
       clear HC q0 q1 q2 q3 q4 q5 fz2 fz3 S2;generalize M.nf na=af at *;generalize M.nc na=ac at *;generalize M.nl na=al at *;generalize M.nr na=ar at *;generalize M.ns na=ax at *;generalize M.nv na=av at *;generalize M.nf nb=bf at *;generalize M.nc nb=bc at *;generalize M.nl nb=bl at *;generalize M.nr nb=br at *;generalize M.ns nb=bs at *;generalize M.nv nb=bv at *
       go_upto_region 8 with fail
       go_region_law (refine step_append_lies _ rfl (.tmp 41) (.tmp 52) 27 rfl B 26 j0 (.agg #[.int .i64 0, .int .i64 0, .int .i64 0, .int .i64 0, .bool false, .int .i64 0]) 6 48 Tryz.underlying27 J0.out hy0 hy1 hy2 rfl (by omega) (.slice (some ⟨g,0,none⟩) N c) N (ndCells Y) rfl (by first | exact HY.out.alloc _ | exact HY.out.drew.alloc _ | exact (HY.out.alloc _).drew) ⟨wc.heap.size,0,none⟩ 2 2 [.int .i64 af, .int .i64 ac, .int .i64 al, .int .i64 ar, .bool ax, .int .i64 av, .int .i64 bf, .int .i64 bc, .int .i64 bl, .int .i64 br, .bool bs, .int .i64 bv] rfl rfl (World.news_of_block (by first | exact heap_alloc_new _ _ | (simp;done))) (by simp [Value.oneCell']) (by omega) (by unfold maxLen;omega) (by omega) (by simp;omega) (wc.heap.size+1) (by simp) ?_;intro g7 c7 w7 hov7 hgrow7 hat7 hlt7)
       all_goals (
        have HO7:Hid (w7.ownsRow B 26 6 (.slice (some ⟨g7,0,none⟩) (N+2) c7) (N+2) (ndCells (Y ++ [na,nb]))):=by
         unfold Hid;rw [ndCells_app,NC.out];exact hov7
        have G7:Hid (w.grownBy w7 (Value.slice va L.length vc).ownBlock):=(by
         have ss:(Value.slice (some ⟨g,0,none⟩) N c).ownBlock=(Value.slice va L.length vc).ownBlock ∨ ∀ q,(Value.slice (some ⟨g,0,none⟩) N c).ownBlock=some q->w.heap.size<=q:=by
          rcases A.out with q | q
          · exact .inl q.symm
          · exact .inr (λ z hz=>by cases hz;exact q)
         exact grown_trans (grown_drew (grown_trans GY.out (World.grownBy_alloc wc _ none) (.inr (λ q hq=>by cases hq)))) hgrow7 ss)
        have A7:Hid ((Value.slice va L.length vc).ownBlock=some g7∨w.heap.size<=g7):=(by
         rcases hat7 with q | q
         · have e:g=g7:=by simpa [Value.ownBlock] using q
           rw [←e];exact A.out
         · exact .inr (by have:=GY.out.size;omega))
        have N7:Hid (Y ++ [na,nb]=M.mid L ts (k+1)/\N+2=(Y ++ [na,nb]).length):=⟨N1.out,by rw [List.length_append,XL.out];rfl⟩
        clear hov7 hgrow7 hat7
        go_wp2
        go_roundw
        case rel=>exact ⟨k+1,AT+1,g7,c7,N+2,Y ++ [na,nb],by omega,by go_num,PK,rfl,N7,HO7.out,G7,A7⟩
        case measure=>have:=HAT.out;simp [intOf];omega)
  · have hke:k=ts.length:=by omega
    have XE:Hid (X=LD):=by unfold Hid;rw [HX.out.1,hke,ME.out]
    have NE:Hid (N=L.length+ts.length):=by unfold Hid;rw [HX.out.2,HX.out.1,hke];exact EN.out
    have kz : ¬ ((AT:Int)<(N:Int)):=by have:=NE.out;have:=HAT.out;omega
    have HO:=hide hown;clear hown HX hke ST HC
    go_wp2
    go_ret
    refine ⟨g,c,by rw [←NE.out];rfl, ?_,G.out,A.out⟩
    rw [←NE.out,←XE.out];exact HO.out
structure Nw (wx wr:World) (fb:Nat) (f wy:Int) (wv:Value) (X:List M.Nd) (R:List Int) (u v:Value):Prop where
 gr:wx.grownBy wr (some fb)
 c0:wr.cell? ⟨fb,0,none⟩=some (.int .i64 f)
 c1:wr.cell? ⟨fb,1,none⟩=some (.int .i64 wy)
 c2:wr.cell? ⟨fb,2,none⟩=some wv
 c3:wr.cell? ⟨fb,3,none⟩=some u
 c4:wr.cell? ⟨fb,4,none⟩=some v
 fr : ∀ j,wr.frozen? ⟨fb,j,none⟩=false
 lt:fb<wx.heap.size
 ou:wr.ownsRow wx.heap.size 26 6 u X.length (ndCells X)
 ov:wr.ownsRow wx.heap.size 3 1 v R.length (R.map (Value.int .i64))
 dj:u.ownBlock=none∨v.ownBlock=none∨u.ownBlock≠v.ownBlock
theorem own_set_far {W:World} {p o B e size n:Nat} {v x:Value} {l:List Value} (h:W.ownsRow B e size v n l) (hp:p<B):(W.setCell ⟨p,o,none⟩ x).ownsRow B e size v n l:=ownsRow_setCell_below h (a:=⟨p,o,none⟩) hp x
theorem set_other {W:World} {p i j:Nat} {x:Value} (h:i≠j):(W.setCell ⟨p,i,none⟩ x).cell? ⟨p,j,none⟩=W.cell? ⟨p,j,none⟩:=World.cell?_setCell_other _ _ _ _ (by intro e;cases e;exact h rfl)
theorem Nw.roots {wx wr w1:World} {fb:Nat} {f wy:Int} {wv:Value} {X:List M.Nd} {R:List Int} {u v:Value} (h:Nw wx wr fb f wy wv X R u v) {z:Int} {o:Obj} {g c:Nat} (hg:(wr.alloc o).grownBy w1 v.ownBlock)
 (ho:w1.ownsRow wx.heap.size 3 1 (.slice (some ⟨g,0,none⟩) (R.length+1) c) (R.length+1) (R.map (Value.int .i64) ++ [.int .i64 z])) (ha:v.ownBlock=some g∨g=wr.heap.size+1) :
 Nw wx (w1.setCell ⟨fb,4,none⟩ (.slice (some ⟨g,0,none⟩) (R.length+1) c)) fb f wy wv X (R ++ [z]) u (.slice (some ⟨g,0,none⟩) (R.length+1) c):=by
 have hl:=h.lt;have hs:=h.gr.size;have vb : ∀ q,v.ownBlock=some q->wx.heap.size<=q:=λ q hq=>(h.ov.lt q hq).1;have gf:w1.heap[fb]? = wr.heap[fb]? := (hg.block fb (by simp;omega) (λ e=>by have:=vb fb e.symm;omega)).trans (Below.heap_alloc _ _ _ (by omega));have cf : ∀ j,w1.cell? ⟨fb,j,none⟩=wr.cell? ⟨fb,j,none⟩:=λ j=>World.cell?_of_block (a:=⟨fb,j,none⟩) gf
 refine ⟨?_, ?_, ?_, ?_, ?_, ?_, ?_,hl, ?_, ?_, ?_⟩
 · refine grown_trans (grown_trans (grown_trans h.gr (World.grownBy_alloc wr o none) (.inr (λ q hq=>by cases hq))) hg (.inr (λ q hq=>vb q hq))) grown_set (.inl rfl)
 · rw [set_other (by decide),cf];exact h.c0
 · rw [set_other (by decide),cf];exact h.c1
 · rw [set_other (by decide),cf];exact h.c2
 · rw [set_other (by decide),cf];exact h.c3
 · exact World.cell?_setCell_same (u:=v) _ _ _ ((cf 4).trans h.c4)
 · intro j
   have:w1.frozen? ⟨fb,j,none⟩=false:=(World.frozen?_of_block (a:=⟨fb,j,none⟩) gf).trans (h.fr j)
   simpa using this
 · refine own_set_far ((h.ou.alloc o).kept hg ?_) hl
   rcases h.dj with q | q | q
   · exact .inl q
   · rw [q]
     cases hu:u.ownBlock with
     | none=>exact .inl rfl
     | some y=>exact .inr (by simp)
   · exact .inr q
 · have:=own_set_far (p:=fb) (o:=4) (x := .slice (some ⟨g,0,none⟩) (R.length+1) c) ho hl
   rw [List.map_append,List.length_append];exact this
 · cases hu:u.ownBlock with
   | none=>exact .inl rfl
   | some y =>
     refine .inr (.inr (λ e => ?_))
     have e':y=g:=by simpa [Value.ownBlock] using e
     have hy:=(h.ou.lt y hu).2
     rcases ha with q | q
     · rcases h.dj with d | d | d
       · rw [d] at hu;cases hu
       · rw [d] at q;cases q
       · exact d (by rw [hu,q,e'])
     · omega
theorem Nw.nodes {wx wr w1:World} {fb:Nat} {f wy:Int} {wv:Value} {X Y:List M.Nd} {R:List Int} {u v:Value} (h:Nw wx wr fb f wy wv X R u v) {g c n:Nat} (hg:wr.grownBy w1 u.ownBlock)
 (ho:w1.ownsRow wx.heap.size 26 6 (.slice (some ⟨g,0,none⟩) n c) n (ndCells Y)) (hn:Y.length=n) (ha:u.ownBlock=some g∨wr.heap.size<=g) :
 Nw wx (w1.setCell ⟨fb,3,none⟩ (.slice (some ⟨g,0,none⟩) n c)) fb f wy wv Y R (.slice (some ⟨g,0,none⟩) n c) v:=by
 have hl:=h.lt;have hs:=h.gr.size;have ub : ∀ q,u.ownBlock=some q->wx.heap.size<=q:=λ q hq=>(h.ou.lt q hq).1;have gf:w1.heap[fb]? = wr.heap[fb]? := hg.block fb (by omega) (λ e=>by have:=ub fb e.symm;omega);have cf : ∀ j,w1.cell? ⟨fb,j,none⟩=wr.cell? ⟨fb,j,none⟩:=λ j=>World.cell?_of_block (a:=⟨fb,j,none⟩) gf
 refine ⟨?_, ?_, ?_, ?_, ?_, ?_, ?_,hl, ?_, ?_, ?_⟩
 · refine grown_trans (grown_trans h.gr hg (.inr (λ q hq=>ub q hq))) grown_set (.inl rfl)
 · rw [set_other (by decide),cf];exact h.c0
 · rw [set_other (by decide),cf];exact h.c1
 · rw [set_other (by decide),cf];exact h.c2
 · exact World.cell?_setCell_same (u:=u) _ _ _ ((cf 3).trans h.c3)
 · rw [set_other (by decide),cf];exact h.c4
 · intro j
   have:w1.frozen? ⟨fb,j,none⟩=false:=(World.frozen?_of_block (a:=⟨fb,j,none⟩) gf).trans (h.fr j)
   simpa using this
 · have:=own_set_far (p:=fb) (o:=3) (x := .slice (some ⟨g,0,none⟩) n c) ho hl
   rw [hn];exact this
 · refine own_set_far (h.ov.kept hg ?_) hl
   rcases h.dj with q | q | q
   · rw [q]
     cases hv:v.ownBlock with
     | none=>exact .inl rfl
     | some y=>exact .inr (by simp)
   · exact .inl q
   · exact .inr (λ e=>q e.symm)
 · cases hv:v.ownBlock with
   | none=>exact .inr (.inl rfl)
   | some y =>
     refine .inr (.inr (λ e => ?_))
     have e':g=y:=by simpa [Value.ownBlock] using e
     have hy:=(h.ov.lt y hv).2
     rcases ha with q | q
     · rcases h.dj with d | d | d
       · rw [d] at q;cases q
       · rw [d] at hv;cases hv
       · exact d (by rw [q,hv,e'])
     · omega
theorem nw_start {w2:World} {f wy:Int} {wv:Value} (W:World) (e:W=w2.alloc (.cells #[.int .i64 f, .int .i64 wy,wv, .slice none 0 0, .slice none 0 0] 172)):Nw W W w2.heap.size f wy wv [] [] (.slice none 0 0) (.slice none 0 0):=by
 subst e
 refine ⟨World.grownBy.refl _ _,World.cell?_alloc_at _ _ _ 0 rfl,World.cell?_alloc_at _ _ _ 1 rfl,World.cell?_alloc_at _ _ _ 2 rfl,World.cell?_alloc_at _ _ _ 3 rfl,World.cell?_alloc_at _ _ _ 4 rfl,λ j => ?_,by simp,World.ownsRow_nil _ _ _ _,World.ownsRow_nil _ _ _ _, .inl rfl⟩
 unfold World.frozen?;rw [heap_alloc_new w2 _];simp
def FoH (w w':World) (p:Nat) (g:M.Gv):Prop := ∀ W:World,w'.heap.size<=W.heap.size->(∀ b,w.heap.size<=b->b<w'.heap.size->W.heap[b]? = w'.heap[b]?)->FO W p g
theorem nw_new {w wx wr:World} {fb:Nat} {g:M.Gv} {wa:Option Addr} {wc:Nat} {u v:Value} (h:Nw wx wr fb (M.gf g) (M.gw g) (.slice wa (M.gs g).length wc) (M.allN g) (M.allR g) u v) (hw:Rd wx wa (M.gs g)) (hn : ∀ p,wa=some p->p.block≠fb) (hN:(M.allN g).length<=1000) (h1:w.heap.size<=fb) (h2:w.heap.size<=wx.heap.size) (h3 : ∀ p,wa=some p->w.heap.size<=p.block):FoH w wr fb g:=by
 intro W hz hk;have gs:=h.gr.size;have lt:=h.lt;obtain ⟨ra,rc,ev,rr,_⟩:=own_rd h.ov;subst ev;obtain ⟨na,nc,eu,rn,_⟩:=own_rdN rfl (by unfold maxLen;omega) h.ou;subst eu;have cf : ∀ j,W.cell? ⟨fb,j,none⟩=wr.cell? ⟨fb,j,none⟩:=λ j=>World.cell?_of_block (a:=⟨fb,j,none⟩) (hk fb h1 (by omega))
 refine ⟨⟨wa,wc,na,nc,ra,rc⟩,by omega,(cf 0).trans h.c0,(cf 1).trans h.c1,(cf 2).trans h.c2,(cf 3).trans h.c3,(cf 4).trans h.c4,⟨hw.1,λ hne => ?_⟩,⟨rn.1,λ hne => ?_⟩,⟨rr.1,λ hne => ?_⟩, ?_⟩
 · obtain ⟨b,off,e,hl,hc⟩:=hw.2 hne
   subst e;have hb:=hn _ rfl;have hq:wr.heap[b]? = wx.heap[b]? := h.gr.block b hl (λ e=>hb (by cases e;rfl));have hr:W.heap[b]? = wx.heap[b]? := (hk b (h3 _ rfl) (by omega)).trans hq
   exact ⟨b,off,rfl,by omega,λ i hi=>(World.cell?_of_block (a:=⟨b,off+i,none⟩) hr).trans (hc i hi)⟩
 · obtain ⟨b,off,e,hl,hc⟩:=rn.2 hne
   subst e;have o:=h.ou.lt b rfl;have hr:W.heap[b]? = wr.heap[b]? := hk b (by omega) hl;have k : ∀ j v,wr.cell? ⟨b,j,none⟩=some v->W.cell? ⟨b,j,none⟩=some v:=λ j v hv=>(World.cell?_of_block (a:=⟨b,j,none⟩) hr).trans hv
   exact ⟨b,off,rfl,by omega,λ i hi=>⟨k _ _ (hc i hi).1,k _ _ (hc i hi).2.1,k _ _ (hc i hi).2.2.1,k _ _ (hc i hi).2.2.2.1,k _ _ (hc i hi).2.2.2.2.1,k _ _ (hc i hi).2.2.2.2.2⟩⟩
 · obtain ⟨b,off,e,hl,hc⟩:=rr.2 hne
   subst e;have o:=h.ov.lt b rfl;have hr:W.heap[b]? = wr.heap[b]? := hk b (by omega) hl
   exact ⟨b,off,rfl,by omega,λ i hi=>(World.cell?_of_block (a:=⟨b,off+i,none⟩) hr).trans (hc i hi)⟩
 · rcases h.ou.2 with ⟨e,h0⟩ | ⟨_,_,_,e,_,_,h1,_⟩
   · rw [h0];exact Nat.zero_le _
   · cases e;exact h1
set_option maxHeartbeats 8000000 in
set_option maxRecDepth 10000 in
theorem fnew_new (G:Gr) (w:World) (h:RdG w G) (hg:M.groveF G.m=0) :
 Calls Tryz.prog 96 #[G.v] w λ e w' => ∃ p,e = .returned (.tuple #[.pointer (some ⟨p,0,none⟩), .nilIface])/\FoH w w' p G.m/\Below w.heap.size w w':=by
 have K:=(M.good_iff G.m).1 hg;have C1:=hide (λ W (hW:Below w.heap.size w W)=>gcheck_any G W (h.below hW));rw [hg,err_nil rfl] at C1;have tlen:(M.gt G.m).length=G.ks.length:=tl_len G.ks
 have n0:0<G.ks.length:=by rw [←tlen];exact K.t0
 have n12:G.ks.length<=12:=by rw [←tlen];exact K.t12
 have wl:G.ws.length=G.ks.length:=by rw [←tlen];exact K.len
 have w0:0<G.ws.length:=by omega
 have hN:=M.allN_le K;have B0:Hid (∀ o,Below w.heap.size w (w.alloc o)):=λ o=>(Below.refl _ w).alloc (Nat.le_refl _) o;obtain ⟨bw,ow,ewa,hbw,hcw⟩:=h.1.2 (by intro e;rw [e] at wl;simp at wl;omega);have CC:=hide (λ W (hW:Below w.heap.size w W)=>clone_ints bw ow G.wc G.ws W (λ i hi=>(hW.cell (p:=⟨bw,ow+i,none⟩) hbw).trans (hcw i hi)) (by omega) (Nat.lt_of_lt_of_le hbw hW.size));obtain ⟨bt,ot,eta,hbt,hct⟩:=h.2.2.2 (by intro e;rw [e] at n0;simp at n0);have HCT:Hid (∀ W,Below w.heap.size w W -> ∀ i (hi:i<G.ks.length),W.cell? ⟨bt,ot+i,none⟩=some (tV G.ks[i])):=λ W hW i hi=>(hW.cell (p:=⟨bt,ot+i,none⟩) hbt).trans (hct i hi)
 have HT:Hid (∀ k (hk:k<G.ks.length),(∀ W,Below w.heap.size w W->RdN W G.ks[k].1 G.ks[k].2.1)/\(∀ p,G.ks[k].1=some p->p.block<w.heap.size)/\M.Fair G.ks[k].2.1 G.f/\G.ks[k].2.1.length<=63/\M.laidK (tl G.ks) (k+1)=M.laid (M.laidK (tl G.ks) k) G.ks[k].2.1/\M.rootsK (tl G.ks) (k+1)=M.rootsK (tl G.ks) k ++ [((M.laidK (tl G.ks) k).length:Int)]/\(M.laidK (tl G.ks) k).length<=1000):=λ k hk=>by
  have F:=(M.tree_ok (M.tree_in K (show k<(M.gt G.m).length by rw [tlen];exact hk))).1;have e:(M.gt G.m).getD k []=G.ks[k].2.1:=tl_at G.ks hk;rw [e] at F;have rk:=h.2.2.1 _ (List.getElem_mem hk)
  refine ⟨λ W hW=>rk.below hW,λ p hp => ?_,F,F.1, ?_,rfl, ?_⟩
  · obtain ⟨b,off,e2,hl,_⟩:=rk.2 (by intro e2;have:=F.2.1;rw [e2] at this;simp at this)
    rw [hp] at e2;cases e2;exact hl
  · show M.laid _ ((tl G.ks).getD k [])=_
    rw [tl_at G.ks hk]
  · have:=M.laidK_le (tl G.ks) (show k<=(tl G.ks).length by rw [tl_len];omega)
    have e3:(M.allN G.m).length=(M.laidK (tl G.ks) (tl G.ks).length).length:=rfl;omega
 have EN:Hid (M.laidK (tl G.ks) G.ks.length=M.allN G.m/\M.rootsK (tl G.ks) G.ks.length=M.allR G.m):=by
  have e:(M.gt G.m).length=G.ks.length:=tlen;unfold Hid M.allN M.allR;rw [e]
  exact ⟨rfl,rfl⟩
 have HM:Hid (M.gf G.m=G.f/\M.gw G.m=G.w/\M.gs G.m=G.ws):=⟨rfl,rfl,rfl⟩
 have HN:=hide hN;have RLN:Hid (∀ k,(M.rootsK (tl G.ks) k).length=k):=λ k=>M.rootsK_len _ k
 have R0:Hid (M.laidK (tl G.ks) 0 = []/\M.rootsK (tl G.ks) 0 = []):=⟨rfl,rfl⟩
 obtain ⟨i0,hi,hz0,hz1,hz2⟩:=info_parts info3;have I0:=hide hi;unfold Gr.v at C1 ⊢;rw [ewa,eta] at C1;rw [ewa,eta];clear h hg K tlen hbw hcw hct hbt ewa eta hN hi wl;generalize M.laidK (tl G.ks)=LK at *;generalize M.rootsK (tl G.ks)=RK at *
 go_enter Tryz.func96, Tryz.ntmps96
 go_upto_region 4 with (go_at_call 21;refine (C1.out _ (B0.out _)).mono ?_;rintro e w1 ⟨rfl,hb1⟩;have hb1':=below_on (B0.out _) hb1;obtain ⟨c0,c1,c2,c3⟩:=kept_box hb1;have HB1:=hide hb1)
 go_cut [5] from 13 to 21 (λ v wx => ∃ fb wa wc,v = .pointer (some ⟨fb,0,none⟩)/\Hid (Nw wx wx fb G.f G.w (.slice wa G.ws.length wc) [] [] (.slice none 0 0) (.slice none 0 0))/\Hid (Rd wx wa G.ws/\(∀ p,wa=some p->p.block≠fb)/\w.heap.size<=fb /\ ∀ p,wa=some p->w.heap.size<=p.block)/\Hid (Below w.heap.size w wx)/\wx.cell? ⟨w.heap.size,3,none⟩=some (.slice (some ⟨bt,ot,none⟩) G.ks.length G.tc))
 case first =>
  have C2:=hide (CC.out _ (below_on (B0.out _) ((HB1.out).drew)))
  have KB:Hid (∀ W,Below w1.drew.heap.size w1.drew W->Below w.heap.size w W/\W.cell? ⟨w.heap.size,0,none⟩=some (.int .i64 G.f)/\W.cell? ⟨w.heap.size,1,none⟩=some (.int .i64 G.w)/\W.cell? ⟨w.heap.size,2,none⟩=some (.slice (some ⟨bw,ow,none⟩) G.ws.length G.wc)/\W.cell? ⟨w.heap.size,3,none⟩=some (.slice (some ⟨bt,ot,none⟩) G.ks.length G.tc)):=λ W hW=>by
   have:=below_on HB1.out (((Below.refl _ _).drew).trans hW)
   exact ⟨below_on (B0.out _) this,kept_box this⟩
  have FIN:Hid (∀ (w2:World) (wa:Option Addr) (o:Obj),Below w.heap.size w w2->w2.cell? ⟨w.heap.size,3,none⟩=some (.slice (some ⟨bt,ot,none⟩) G.ks.length G.tc)->Rd w2 wa G.ws->Hid (Rd (w2.alloc o) wa G.ws/\(∀ p,wa=some p->p.block≠w2.heap.size)/\w.heap.size<=w2.heap.size)/\Hid (Below w.heap.size w (w2.alloc o))/\(w2.alloc o).cell? ⟨w.heap.size,3,none⟩=some (.slice (some ⟨bt,ot,none⟩) G.ks.length G.tc)):=λ w2 wa o hb hc hr=>by
   have ba:Below w2.heap.size w2 (w2.alloc o):=(Below.refl _ _).alloc (Nat.le_refl _) o
   refine ⟨⟨hr.below ba,λ p hp => ?_,hb.size⟩,below_on hb ba,(ba.cell (p:=⟨w.heap.size,3,none⟩) (block_lt_of_cell hc)).trans hc⟩
   obtain ⟨b,off,e,hl,_⟩:=hr.2 (by intro e;rw [e] at w0;simp at w0);rw [hp] at e;cases e;exact Nat.ne_of_lt hl
  clear CC HCT HT EN C1 hb1
  go_region_with (go_at_call 127;refine C2.out.mono ?_;rintro e w2 ⟨wa,wc,rfl,hr2,ha2,hb2⟩;obtain ⟨k0,d0,d1,d2,d3⟩:=KB.out w2 hb2;have HR2:=hide hr2;have HA2:Hid (∀ p,wa=some p->w.heap.size<=p.block):=(λ p hp=>Nat.le_trans (by first | (have q:=HB1.out.size;simp at q;simp;omega) | simp) (ha2 p hp)))
  all_goals (
   have F2:=hide (FIN.out w2 wa (.cells #[.int .i64 G.f, .int .i64 G.w, .slice wa G.ws.length wc, .slice none 0 0, .slice none 0 0] 172) k0 d3 HR2.out);clear KB C2 FIN hr2 ha2 hb2
   go_wp2
   go_meet
   case rel=>exact ⟨w2.heap.size,wa,wc,rfl,nw_start _ rfl,⟨F2.out.1.out.1,F2.out.1.out.2.1,F2.out.1.out.2.2,HA2.out⟩,F2.out.2.1,F2.out.2.2⟩)
 case rest =>
  obtain ⟨fb,wa,wcc,rfl,NW,RW,K,c3⟩:=hcut
  obtain ⟨wx,hwx⟩ : ∃ W,W=wc:=⟨_,rfl⟩
  subst hwx;have KB:Hid (∀ W,wx.grownBy W (some fb)->Below w.heap.size w W):=λ W hW=>K.out.grown hW K.out.size (λ k hk=>by cases hk;exact RW.out.2.2.1);have BX:Hid (w.heap.size<=wx.heap.size):=K.out.size;clear CC C1 hb1 hb1' c0 c1 c2 HB1 B0
  go_wp2
  go_loopw [25] (λ i wr => ∃ (k:Nat) (u v:Value),k<=G.ks.length/\i = .int .i64 k/\Hid (Nw wx wr fb G.f G.w (.slice wa G.ws.length wcc) (LK k) (RK k) u v)) (λ i _=>G.ks.length-(intOf i).toNat)
  case atStart=>exact ⟨0, .slice none 0 0, .slice none 0 0,Nat.zero_le _,rfl,by unfold Hid;rw [R0.out.1,R0.out.2];exact NW.out⟩
  case round =>
   clear NW;obtain ⟨k,u,v,hk,rfl,NW⟩:=hrel
   by_cases hlt:k<G.ks.length
   · obtain ⟨t1,t2,t3,t4,t5,t6,t7⟩:=HT.out k hlt
     have kb:=KB.out wr NW.out.gr;have ct:=HCT.out wr kb k hlt;unfold tV at ct
     have kz:(k:Int)<(G.ks.length:Int):=by omega
     obtain ⟨va,vc,ev,_,_⟩:=own_rd NW.out.ov;obtain ⟨ua,uc,eu,_,_⟩:=own_rdN rfl (by unfold maxLen;omega) NW.out.ou;subst ev;subst eu;have y0:=NW.out.c0;have y3:=NW.out.c3;have y4:=NW.out.c4;have f3:=NW.out.fr 3;have f4:=NW.out.fr 4;have RL:Hid ((RK k).length=k):=RLN.out k
     have rl:(RK k).length<=12:=by rw [RL.out];omega
     have T6:=hide t6;have T5:=hide t5;have LY:=hide (λ W (hW:Below w.heap.size w W) (ho:W.ownsRow wx.heap.size 26 6 (.slice ua (LK k).length uc) (LK k).length (ndCells (LK k))) (hs:wx.heap.size<=W.heap.size)=>lay_any (LK k) G.ks[k].2.1 ua uc G.ks[k].1 G.ks[k].2.2 G.f wx.heap.size W (t1 W hW) (λ p hp=>Nat.lt_of_lt_of_le (t2 p hp) BX.out) t3 ho hs t7);have LL:Hid ((M.laid (LK k) G.ks[k].2.1).length=(LK k).length+G.ks[k].2.1.length):=M.laid_len _ _;clear t1 t2 t3 t5 t6 HT HCT kb EN;generalize G.ks[k].2.1=ts at *;generalize G.ks[k].2.2=tcc at *;generalize G.ks[k].1=ta at *
     go_upto_region 8 with fail
     go_cut [42] from 29 to 42 (λ _ wz => ∃ v',Hid (Nw wx wz fb G.f G.w (.slice wa G.ws.length wcc) (LK k) (RK (k+1)) (.slice ua (LK k).length uc) v'))
     case first =>
      have NR:=hide (λ w1 o g c (hg:(wr.alloc o).drew.grownBy w1 (Value.slice va (RK k).length vc).ownBlock) ho ha=>NW.out.roots (z:=((LK k).length:Int)) (w1:=w1) (o:=o) (g:=g) (c:=c) (grown_undrew hg) ho ha);have OV:=hide NW.out.ov;have GZ:=NW.out.gr.size
      have FL:Hid (∀ w1 (o:Obj),(wr.alloc o).drew.grownBy w1 (Value.slice va (RK k).length vc).ownBlock->w1.cell? ⟨fb,4,none⟩=some (.slice va (RK k).length vc)/\w1.frozen? ⟨fb,4,none⟩=false):=λ w1 o hg=>by
       have hl:=NW.out.lt;have gf:w1.heap[fb]? = wr.heap[fb]? := ((grown_undrew hg).block fb (by simp;omega) (λ e=>by have:=(NW.out.ov.lt fb e.symm).1;omega)).trans (Below.heap_alloc _ _ _ (by omega))
       exact ⟨(World.cell?_of_block (a:=⟨fb,4,none⟩) gf).trans NW.out.c4,(World.frozen?_of_block (a:=⟨fb,4,none⟩) gf).trans (NW.out.fr 4)⟩
      rw [←T6.out] at NR;have fbl:fb<wr.heap.size:=Nat.lt_of_lt_of_le NW.out.lt GZ;have y4a : ∀ o,(wr.alloc o).cell? ⟨fb,4,none⟩=some (.slice va (RK k).length vc):=λ o=>(World.cell?_of_block (a:=⟨fb,4,none⟩) (Below.heap_alloc _ _ _ fbl)).trans y4;have y3a : ∀ o,(wr.alloc o).cell? ⟨fb,3,none⟩=some (.slice ua (LK k).length uc):=λ o=>(World.cell?_of_block (a:=⟨fb,3,none⟩) (Below.heap_alloc _ _ _ fbl)).trans y3;clear LY T5 LL;generalize (LK k).length=LN at *;generalize (RK k).length=RN at *
      go_region_law (refine step_append_lies _ rfl (.tmp 33) (.tmp 39) 24 rfl wx.heap.size 3 i0 (.int .i64 0) 1 8 Tryz.underlying24 I0.out hz0 hz1 hz2 rfl (by omega) (.slice va RN vc) RN ((RK k).map (Value.int .i64)) rfl (by first | exact OV.out.alloc _ | exact (OV.out.alloc _).drew) ⟨wr.heap.size,0,none⟩ 1 1 [.int .i64 (LN:Int)] rfl rfl (World.news_of_block (by first | exact heap_alloc_new _ _ | (simp;done))) (by simp [Value.oneCell']) (by omega) (by unfold maxLen;omega) (by omega) (by simp;omega) (wr.heap.size+1) (by simp) ?_;intro g7 c7 w7 hov7 hgrow7 hat7 hlt7;obtain ⟨z4,zf⟩:=FL.out w7 _ hgrow7)
      all_goals (
       have N7:=hide (NR.out w7 _ g7 c7 hgrow7 hov7 hat7);clear hov7 hgrow7 hat7 NR FL
       go_wp2
       go_meet
       case rel=>exact ⟨_,N7⟩)
     case rest =>
      obtain ⟨v',NX⟩:=hcut;have x3:=NX.out.c3;have xf:=NX.out.fr 3;have L1:=hide (LY.out wc (KB.out wc NX.out.gr) NX.out.ou NX.out.gr.size)
      have NF:Hid (∀ w2 g c,wc.grownBy w2 (Value.slice ua (LK k).length uc).ownBlock->w2.ownsRow wx.heap.size 26 6 (.slice (some ⟨g,0,none⟩) ((LK k).length+ts.length) c) ((LK k).length+ts.length) (ndCells (M.laid (LK k) ts))->((Value.slice ua (LK k).length uc).ownBlock=some g∨wc.heap.size<=g)->(w2.cell? ⟨fb,3,none⟩=some (.slice ua (LK k).length uc)/\w2.frozen? ⟨fb,3,none⟩=false)/\Hid (Nw wx (w2.setCell ⟨fb,3,none⟩ (.slice (some ⟨g,0,none⟩) ((LK k).length+ts.length) c)) fb G.f G.w (.slice wa G.ws.length wcc) (LK (k+1)) (RK (k+1)) (.slice (some ⟨g,0,none⟩) ((LK k).length+ts.length) c) v')):=λ w2 g c hg ho ha=>by
       have hl:=NX.out.lt;have hs:=NX.out.gr.size;have gf:w2.heap[fb]? = wc.heap[fb]? := hg.block fb (by omega) (λ e=>by have:=(NX.out.ou.lt fb e.symm).1;omega)
       refine ⟨⟨(World.cell?_of_block (a:=⟨fb,3,none⟩) gf).trans NX.out.c3,(World.frozen?_of_block (a:=⟨fb,3,none⟩) gf).trans (NX.out.fr 3)⟩, ?_⟩
       have:=NX.out.nodes hg ho LL.out ha;rw [←T5.out] at this;exact this
      clear LY T5 T6 LL y0 y3 y4 f3 f4;generalize (LK k).length=LN at *
      go_wp2_with (go_at_call 128;refine L1.out.mono ?_;rintro e w2 ⟨g2,c2,rfl,ho2,hg2,ha2⟩;obtain ⟨⟨z3,zf3⟩,N2⟩:=NF.out w2 g2 c2 hg2 ho2 ha2)
      go_roundw
      case rel=>exact ⟨k+1,_,v',by omega,by go_num,N2⟩
      case measure=>simp [intOf];omega
   · have hke:k=G.ks.length:=by omega
     have kb:=KB.out wr NW.out.gr
     have FIN:Hid (FoH w wr fb G.m):=by
      have:=NW.out;rw [hke,EN.out.1,EN.out.2] at this;exact nw_new (wx:=wx) (w:=w) this RW.out.1 RW.out.2.1 HN.out RW.out.2.2.1 BX.out RW.out.2.2.2
     have KK:=hide kb
     have kz : ¬ ((k:Int)<(G.ks.length:Int)):=by omega
     clear hke HT HCT EN kb
     go_wp2
     go_ret2
     exact ⟨fb,rfl,FIN.out,KK.out⟩
end Go.Proofs.YtaijnacghiloaaaGreatDoor
