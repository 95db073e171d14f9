import Derived.Test.YtaijnacghiloaaaGreatDoorRunT36
import Derived.Test.YtaijnacghiloaaaGreatDoorRunT37
import Derived.RegionTactic
import Derived.Deep.RegionWith
import Derived.Test.YtaijnacghiloaaaGreatDoorRunT5
import Derived.Test.YtaijnacghiloaaaGreatDoorRunT6
import Derived.Test.YtaijnacghiloaaaGreatDoorRunT12
import Derived.Deep.AppendLies
import Derived.Test.YtaijnacghiloaaaGreatDoorRunT28
import Derived.Test.YtaijnacghiloaaaGreatDoorRunT7
namespace Go.Proofs.YtaijnacghiloaaaGreatDoor
open Go.ChangeShapes Go.WideShapes Go.ChangeAt Go.RowKit Go.Lib Go.Maps
set_option linter.unusedVariables false
def FK (W w:World) (f:Nat) (L:M.Lg) (S:M.Sh) (lost:Bool) (ks:List Nat) (C:List M.Ca) (Z:Nat->Nat) (lf sf:Nat) (T:Nat->Nat):Prop:=∃ va ra rc ss B,FA W w f L S lost ks C Z lf va sf T ra rc ss B
set_option maxHeartbeats 16000000 in
set_option maxRecDepth 10000 in
theorem fl_keep {W w:World} {f:Nat} {L:M.Lg} {S:M.Sh} {lost:Bool} {ks:List Nat} {C:List M.Ca} {Z:Nat->Nat} {lf sf:Nat} {T:Nat->Nat} (h:FK W w f L S lost ks C Z lf sf T) {c:M.Ca} {a:Option Addr} {cap:Nat} (hi:CaIn w c a cap) (X:M.Fl) (hX:X.L=L) :
 Calls Tryz.prog 27 #[.pointer (some ⟨f,0,none⟩),caV c a cap] w λe w'=>e = .returned (errV (M.kpF X c))/\∃ Z',FK W w' f (M.kpX X c) S (decide (M.kpF X c=9)) ks C Z' lf sf T/\KeptF w Z Z' w':=by
 obtain ⟨va,ra,rc,ss,B,h⟩:=h;unfold M.kpF M.kpX;rw [hX];clear hX X;unfold caV
 obtain ⟨W1,hW1⟩:∃ V,V=w.alloc (.cells #[.int .i64 c.what,.int .i64 c.ses,.int .i64 c.seq,.string (byStr c.name),.int .i64 c.num,.int .i64 c.share,.slice a c.bys.length cap] 44):=⟨_,rfl⟩
 have ba:Below w.heap.size w W1:=by rw [hW1];exact (Below.refl _ _).alloc (Nat.le_refl _) _
 have bx:Bx W1 w.heap.size [.int .i64 c.what,.int .i64 c.ses,.int .i64 c.seq,.string (byStr c.name),.int .i64 c.num,.int .i64 c.share,.slice a c.bys.length cap]:=by rw [hW1];exact bx_new w _ _
 have h1:=h.up (ba.drew);have hi1:=hi.below ba.drew;have AP:=hide (h1.hl.append hi1);unfold caV at AP
 have AF:Hid (∀ w2 va',HL W w2 lf va' (M.apL L c)->KeptL W1.drew lf va va' w2->∃ Z2,FA W w2 f (M.apL L c) S lost ks C Z2 lf va' sf T ra rc ss B/\KeptF w Z Z2 w2):=λw2 va' hl hk=>by
  obtain ⟨Z2,f2,k2⟩:=h1.log hl hk
  exact ⟨Z2,f2,(KeptF.refl ba.drew).trans k2⟩
 have c0:=(h.up ba).box.cell 0 _ rfl;have x0:=bx.cell 0 _ rfl;have x1:=bx.cell 1 _ rfl;have x2:=bx.cell 2 _ rfl;have x3:=bx.cell 3 _ rfl;have x4:=bx.cell 4 _ rfl;have x5:=bx.cell 5 _ rfl;have x6:=bx.cell 6 _ rfl;clear h h1 hi hi1 ba bx;generalize byStr c.name=nm at *
 have PUT:Hid (∀ (w3:World) (L3:M.Lg) (va3:Option Addr) (Z3:Nat->Nat) (b:Bool),FA W w3 f L3 S lost ks C Z3 lf va3 sf T ra rc ss B->KeptF w Z Z3 w3->∃ Z',FK W (w3.setCell ⟨f,3,none⟩ (.bool b)) f L3 S b ks C Z' lf sf T/\KeptF w Z Z' (w3.setCell ⟨f,3,none⟩ (.bool b))):=λw3 L3 va3 Z3 b f3 k3=>by
  obtain ⟨f4,k4⟩:=f3.put b
  exact ⟨Z3,⟨va3,ra,rc,ss,B,f4⟩,k3.trans k4⟩
 have IS:=hide (λ(e:Int) (V:World)=>is_any e 9 (by decide) V)
 by_cases q:M.apF L c=0
 case neg =>
  have e1:(if M.apF L c≠0 then M.apF L c else M.syF (M.apL L c))=M.apF L c:=if_pos q;have e2:(if M.apF L c≠0 then M.apL L c else M.syL (M.apL L c))=M.apL L c:=if_pos q;rw [e1,e2];rw [err_some q] at AP;have IS1:=hide (IS.out (M.apF L c));rw [err_some q] at IS1 ⊢;clear e1 e2 q IS;generalize M.apL L c=L2 at *;generalize hp:decide (M.apF L c=9)=bo at *;clear hp;generalize M.apF L c=ae at *
  go_enter Tryz.func27,Tryz.ntmps27
  go_upto_region 1 with fail
  rw [←hW1];clear hW1
  go_region_with (go_at_call 53;refine AP.out.mono ?_;rintro e w2 ⟨rfl,va',hl,hk⟩;obtain ⟨Z2,f2,k2⟩:=AF.out w2 va' hl hk;have F2:=hide f2;have K2:=hide k2;have y0:=f2.box.cell 3 _ rfl;have y1:=f2.box.free 3;clear hl hk f2 k2)
  all_goals (
   go_wp2_with (go_at_call 55;refine (IS1.out w2).mono ?_;rintro e w3 ⟨rfl,ew⟩;have ew2:=ew.symm;subst ew2)
   go_ret
   exact ⟨rfl,PUT.out _ _ _ _ _ F2.out K2.out⟩)
 case pos =>
  have e1:(if M.apF L c≠0 then M.apF L c else M.syF (M.apL L c))=M.syF (M.apL L c):=if_neg (by simpa using q);have e2:(if M.apF L c≠0 then M.apL L c else M.syL (M.apL L c))=M.syL (M.apL L c):=if_neg (by simpa using q);rw [e1,e2];rw [err_nil q] at AP;have IS1:=hide (IS.out (M.syF (M.apL L c)))
  have SY:Hid (∀ w2 va' Z2,FA W w2 f (M.apL L c) S lost ks C Z2 lf va' sf T ra rc ss B->KeptF w Z Z2 w2->Calls Tryz.prog 54 #[.pointer (some ⟨lf,0,none⟩)] w2 λe w'=>e = .returned (errV (M.syF (M.apL L c)))/\∃ Z3,FA W w' f (M.syL (M.apL L c)) S lost ks C Z3 lf va' sf T ra rc ss B/\KeptF w Z Z3 w'):=λw2 va' Z2 f2 k2=>by
   refine f2.hl.sync.mono ?_;rintro e w' ⟨rfl,hl,hk⟩;obtain ⟨Z3,f3,k3⟩:=f2.log hl hk
   exact ⟨rfl,Z3,f3,k2.trans k3⟩
  clear e1 e2 q IS;generalize M.apL L c=L2 at *;generalize M.syL L2=L3 at *;generalize hp:decide (M.syF L2=9)=bo at *;clear hp;have ways:=err_ways (M.syF L2);generalize errV (M.syF L2)=ev at *
  go_enter Tryz.func27,Tryz.ntmps27
  go_upto_region 1 with fail
  rw [←hW1];clear hW1
  go_region_with (go_at_call 53;refine AP.out.mono ?_;rintro e w2 ⟨rfl,va',hl,hk⟩;obtain ⟨Z2,f2,k2⟩:=AF.out w2 va' hl hk;have SY2:=hide (SY.out w2 va' Z2 f2 k2);have y2:=f2.box.cell 0 _ rfl;clear hl hk f2 k2)
  all_goals (
   go_wp2_with (first
    | (go_at_call 54;refine SY2.out.mono ?_;rintro e w3 ⟨rfl,Z3,f3,k3⟩;have F3:=hide f3;have K3:=hide k3;have y0:=f3.box.cell 3 _ rfl;have y1:=f3.box.free 3;clear f3 k3)
    | (go_at_call 55;refine (IS1.out w3).mono ?_;rintro e w4 ⟨rfl,ew⟩;have ew2:=ew.symm;subst ew2))
   go_ret
   exact ⟨rfl,PUT.out _ _ _ _ _ F3.out K3.out⟩)
theorem fl_box {W w W1 w9:World} {f:Nat} {L:M.Lg} {S:M.Sh} {lost:Bool} {ks:List Nat} {C:List M.Ca} {Z Z9:Nat->Nat} {lf:Nat} {va:Option Addr} {sf:Nat} {T:Nat->Nat} {ra:Option Addr} {rc:Nat} {ss:List Nat} {B:Nat->Nat->Prop} {p:Nat} (ba:Below w.heap.size w W1) (bx:Bx W1 p [.int .i64 0,.int .i64 0]) (hp:w.heap.size<=p) (zw:W.heap.size<=w.heap.size) (zp:Z p=0) (h:FA W w9 f L S lost ks C Z9 lf va sf T ra rc ss B) (k:KeptF W1 Z Z9 w9):Bx w9 p [.int .i64 0,.int .i64 0]/\∀ y0 y1,FA W ((w9.setCell ⟨p,0,none⟩ y0).setCell ⟨p,1,none⟩ y1) f L S lost ks C Z9 lf va sf T ra rc ss B/\KeptF w Z Z9 ((w9.setCell ⟨p,0,none⟩ y0).setCell ⟨p,1,none⟩ y1):=by
 obtain ⟨t0,t1⟩:=k.2 p bx.lt zp
 refine ⟨bx.keep t1,λy0 y1=>?_⟩
 have far:∀ q,q≠p->((w9.setCell ⟨p,0,none⟩ y0).setCell ⟨p,1,none⟩ y1).heap[q]? = w9.heap[q]? := λq hq=>by
  rw [heap_setCell_other _ _ _ _ hq,heap_setCell_other _ _ _ _ hq]
 have sz:((w9.setCell ⟨p,0,none⟩ y0).setCell ⟨p,1,none⟩ y1).heap.size=w9.heap.size:=by simp
 have zb:W.heap.size<=p:=by omega
 refine ⟨h.stay ((h.bl.setCell zb _).setCell zb _) (by rw [sz];exact Nat.le_refl _) (λq hq=>far q (λe=>hq (by rw [e];exact t0))),by rw [sz];exact Nat.le_trans ba.size k.1,λq hq h0=>?_⟩
 obtain ⟨s0,s1⟩:=k.2 q (Nat.lt_of_lt_of_le hq ba.size) h0
 exact ⟨s0,by rw [far q (by omega),s1];exact ba.block q hq⟩
theorem sh_CountsA {W:World} {f:Nat} {T:Nat->Nat} {S:M.Sh} (h:SA W f T S) {c:M.Ca} {a:Option Addr} {cap:Nat} (hb:isB c.name) (hl:c.name.length<=9223372036854775807) :
 Calls Tryz.prog 26 #[.pointer (some ⟨f,0,none⟩),caV c a cap] W λe w'=>e = .returned (.bool (M.cntB S c))/\Below W.heap.size W w':=by
 obtain ⟨mm,ml,D,E,kb,mb,va,vc,G,h⟩:=h;exact sh_Counts h c a cap hb hl
theorem fl_shDo {W w:World} {f:Nat} {L:M.Lg} {S:M.Sh} {lost:Bool} {ks:List Nat} {C:List M.Ca} {Z:Nat->Nat} {lf sf:Nat} {T:Nat->Nat} (h:FK W w f L S lost ks C Z lf sf T) {c:M.Ca} {a:Option Addr} {cap:Nat} (hi:CaIn w c a cap) (ha:c.bys ≠ []->∀ p,a=some p->Z p.block=0) (hx:S.idx<=900000) :
 Calls Tryz.prog 13 #[.pointer (some ⟨sf,0,none⟩),caV c a cap] w λe w'=>e = .returned (.tuple #[anV (M.shDo S c).1,errV (M.shDo S c).2.1])/\∃ Z' T',FK W w' f L (M.shDo S c).2.2 lost ks C Z' lf sf T'/\KeptF w Z Z' w':=by
 obtain ⟨va,ra,rc,ss,B,h⟩:=h;refine (sh_Do h.hs.sa hi (λhne p hp=>?_) hx).mono ?_
 · by_cases z:T p.block=0
   · exact z
   · have:=h.zs _ z
     rw [ha hne p hp] at this;cases this
 · rintro e w' ⟨rfl,hl⟩
   obtain ⟨T',a1,a2,a3⟩:=h.hs.left hl;obtain ⟨Z',f2,k2⟩:=h.shelf a1 a2 a3
   exact ⟨rfl,Z',T',⟨va,ra,rc,ss,B,f2⟩,k2⟩
theorem FK.up {W w w':World} {f:Nat} {L:M.Lg} {S:M.Sh} {lost:Bool} {ks:List Nat} {C:List M.Ca} {Z:Nat->Nat} {lf sf:Nat} {T:Nat->Nat} (h:FK W w f L S lost ks C Z lf sf T) (hb:Below w.heap.size w w'):FK W w' f L S lost ks C Z lf sf T:=by
 obtain ⟨va,ra,rc,ss,B,h⟩:=h
 exact ⟨va,ra,rc,ss,B,h.up hb⟩
theorem KeptF.up {w w1 w2:World} {Z Z':Nat->Nat} (h:KeptF w Z Z' w1) (hb:Below w1.heap.size w1 w2):KeptF w Z Z' w2:=⟨Nat.le_trans h.1 hb.size,λq hq h0=>⟨(h.2 q hq h0).1,(hb.block q (Nat.lt_of_lt_of_le hq h.1)).trans (h.2 q hq h0).2⟩⟩
theorem CaIn.kept {w w':World} {c:M.Ca} {a:Option Addr} {cap:Nat} {Z Z':Nat->Nat} (h:CaIn w c a cap) (ha:c.bys ≠ []->∀ p,a=some p->Z p.block=0) (k:KeptF w Z Z' w'):CaIn w' c a cap/\(c.bys ≠ []->∀ p,a=some p->Z' p.block=0):=by
 have lt:c.bys ≠ []->∀ p,a=some p->p.block<w.heap.size:=λhne p hp=>by
  obtain ⟨b,off,e,hl,_⟩:=h.rd.2.2 hne
  rw [e] at hp;cases hp;exact hl
 exact ⟨⟨h.nb,h.nl,rdB_keep h.rd (λhne p hp=>(k.2 _ (lt hne p hp) (ha hne p hp)).2) k.1,h.le,h.cp,h.num,h.shr,h.nil⟩,λhne p hp=>(k.2 _ (lt hne p hp) (ha hne p hp)).1⟩
set_option maxHeartbeats 16000000 in
set_option maxRecDepth 10000 in
theorem fl_Do {W w:World} {f:Nat} {X:M.Fl} {Z:Nat->Nat} (h:FH W w f X Z) {c:M.Ca} {a:Option Addr} {cap:Nat} (hi:CaIn w c a cap) (ha:c.bys ≠ []->∀ p,a=some p->Z p.block=0) (hx:X.m<=900000) :
 Calls Tryz.prog 7 #[.pointer (some ⟨f,0,none⟩),caV c a cap] w λe w'=>e = .returned (.tuple #[anV (M.doX X c).1,errV (M.doX X c).2.1])/\∃ Z',FH W w' f (M.doX X c).2.2 Z'/\KeptF w Z Z' w':=by
 obtain ⟨ok,lf,va,sf,T,ra,rc,ss,B,h⟩:=h
 have fk:FK W w f X.L X.S X.lost X.ks X.L.calls Z lf sf T:=⟨va,ra,rc,ss,B,h⟩
 obtain ⟨d1,d2,d3,d4,d5,d6,d7⟩:=M.do_fl ok h.hl.ok hi.nb hi.rd.2.1
 have ids:X.S.idx<=900000:=by rw [ok.idx];omega
 have CLOSE:Hid (∀ (V:World) (Z':Nat->Nat) (T':Nat->Nat),FK W V f (M.doX X c).2.2.L (M.doX X c).2.2.S (M.doX X c).2.2.lost X.ks X.L.calls Z' lf sf T'->FH W V f (M.doX X c).2.2 Z'):=λV Z' T' ⟨va',ra',rc',ss',B',hf⟩=>by
  refine ⟨d1,lf,va',sf,T',ra',rc',ss',B',?_⟩
  rw [d7];refine hf.calls (λk hk=>?_);have le:=ok.at hk;rw [←M.shN_take (M.doX X c).2.2.L.calls le,←M.shN_take X.L.calls le,d4]
 obtain ⟨W1,hW1⟩:∃ V,V=(w.alloc (.cells #[.int .i64 c.what,.int .i64 c.ses,.int .i64 c.seq,.string (byStr c.name),.int .i64 c.num,.int .i64 c.share,.slice a c.bys.length cap] 44)).alloc (.cells #[.int .i64 0,.int .i64 0] 40):=⟨_,rfl⟩
 have z1:W1.heap.size=w.heap.size+1+1:=by rw [hW1];simp
 have ba:Below w.heap.size w W1:=by rw [hW1];exact ((Below.refl _ _).alloc (Nat.le_refl _) _).alloc (by simp) _
 have bx:Bx W1 w.heap.size [.int .i64 c.what,.int .i64 c.ses,.int .i64 c.seq,.string (byStr c.name),.int .i64 c.num,.int .i64 c.share,.slice a c.bys.length cap]:=by rw [hW1];exact (bx_new w _ _).keep (((Below.refl _ _).alloc (Nat.le_refl _) _).block _ (by simp))
 have by':Bx W1 (w.heap.size+1) [.int .i64 0,.int .i64 0]:=by
  rw [hW1];have:=bx_new (w.alloc (.cells #[.int .i64 c.what,.int .i64 c.ses,.int .i64 c.seq,.string (byStr c.name),.int .i64 c.num,.int .i64 c.share,.slice a c.bys.length cap] 44)) [.int .i64 0,.int .i64 0] 40
  rwa [show (w.alloc (.cells #[.int .i64 c.what,.int .i64 c.ses,.int .i64 c.seq,.string (byStr c.name),.int .i64 c.num,.int .i64 c.share,.slice a c.bys.length cap] 44)).heap.size=w.heap.size+1 by simp] at this
 have Z0:∀ q,w.heap.size<=q->Z q=0:=λq hq=>by
  by_cases y:Z q=0
  · exact y
  · have:=(h.tn q y).2;omega
 have BOX:Hid (∀ (V:World) (L9:M.Lg) (S9:M.Sh) (l9:Bool) (Z9 T9:Nat->Nat),FK W V f L9 S9 l9 X.ks X.L.calls Z9 lf sf T9->KeptF W1 Z Z9 V->(V.cell? ⟨w.heap.size+1,0,none⟩=some (.int .i64 0)/\V.cell? ⟨w.heap.size+1,1,none⟩=some (.int .i64 0)/\V.frozen? ⟨w.heap.size+1,0,none⟩=false/\V.frozen? ⟨w.heap.size+1,1,none⟩=false)/\∀ y0 y1,FK W ((V.setCell ⟨w.heap.size+1,0,none⟩ y0).setCell ⟨w.heap.size+1,1,none⟩ y1) f L9 S9 l9 X.ks X.L.calls Z9 lf sf T9/\KeptF w Z Z9 ((V.setCell ⟨w.heap.size+1,0,none⟩ y0).setCell ⟨w.heap.size+1,1,none⟩ y1)/\((V.setCell ⟨w.heap.size+1,0,none⟩ y0).setCell ⟨w.heap.size+1,1,none⟩ y1).cell? ⟨w.heap.size+1,0,none⟩=some y0/\((V.setCell ⟨w.heap.size+1,0,none⟩ y0).setCell ⟨w.heap.size+1,1,none⟩ y1).cell? ⟨w.heap.size+1,1,none⟩=some y1):=λV L9 S9 l9 Z9 T9 ⟨va',ra',rc',ss',B',hf⟩ hk=>by
  obtain ⟨b9,g9⟩:=fl_box ba by' (Nat.le_succ _) h.bl.size (Z0 _ (Nat.le_succ _)) hf hk
  refine ⟨⟨b9.cell 0 _ rfl,b9.cell 1 _ rfl,b9.free 0,b9.free 1⟩,λy0 y1=>?_⟩
  obtain ⟨g1,g2⟩:=g9 y0 y1;have fin:=(b9.put (j:=0) (v:=y0)).put (j:=1) (v:=y1)
  exact ⟨⟨va',ra',rc',ss',B',g1⟩,g2,fin.cell 0 _ rfl,fin.cell 1 _ rfl⟩
 -- the call's own copy stays
 have CAL:Hid (∀ (V:World) (Z9:Nat->Nat),KeptF W1 Z Z9 V->∀ j,V.cell? ⟨w.heap.size,j,none⟩=W1.cell? ⟨w.heap.size,j,none⟩):=λV Z9 hk j=>World.cell?_of_block (a:=⟨w.heap.size,j,none⟩) (hk.2 _ bx.lt (Z0 _ (Nat.le_refl _))).2;have fk1:FK W W1 f X.L X.S X.lost X.ks X.L.calls Z lf sf T:=fk.up ba;have hi1:=hi.below ba;have x0:=bx.cell 0 _ rfl;have x1:=bx.cell 1 _ rfl;have x2:=bx.cell 2 _ rfl;have x3:=bx.cell 3 _ rfl;have x4:=bx.cell 4 _ rfl;have x5:=bx.cell 5 _ rfl;have x6:=bx.cell 6 _ rfl;have c1:=(h.up ba).box.cell 1 _ rfl;have c3:=(h.up ba).box.cell 3 _ rfl
 cases hl:X.lost with
 | true =>
   have e0:M.doX X c=(M.an0,9,X):=by unfold M.doX;rw [hl,if_pos rfl]
   rw [e0] at CLOSE ⊢;obtain ⟨⟨p0,p1,p2,p3⟩,pp⟩:=BOX.out W1 X.L X.S X.lost Z T fk1 (KeptF.refl (Below.refl _ _));obtain ⟨g1,g2,g3,g4⟩:=pp (.int .i64 0) (.int .i64 0)
   have FIN:Hid (∃ Z',FH W ((W1.setCell ⟨w.heap.size+1,0,none⟩ (.int .i64 0)).setCell ⟨w.heap.size+1,1,none⟩ (.int .i64 0)) f X Z'/\KeptF w Z Z' ((W1.setCell ⟨w.heap.size+1,0,none⟩ (.int .i64 0)).setCell ⟨w.heap.size+1,1,none⟩ (.int .i64 0))):=⟨Z,CLOSE.out _ Z T g1,g2⟩
   rw [hl] at c3;have EA:Hid (anV M.an0 = .agg #[.int .i64 0,.int .i64 0]):=rfl;simp only;rw [EA.out,err_some (show (9:Int)≠0 by decide)]
   clear h fk ok d1 d2 d3 d4 d5 d6 d7 hi hi1 ha hx e0 CLOSE BOX CAL fk1 bx by' ba Z0 ids g1 g2 pp c1 EA hl x0 x1 x2 x3 x4 x5 x6 z1
   unfold caV;generalize byStr c.name=nm at *
   go_enter Tryz.func7,Tryz.ntmps7
   go_upto_region 1 with fail
   rw [←hW1];clear hW1
   go_wp2
   refine bodyPost_ret (v := .tuple #[.agg #[.int .i64 0,.int .i64 0],.iface 69 (.int .i64 9)]) (by simp [results,Tryz.results7,go_sem,g3,g4]) rfl ?_
   exact ⟨rfl,FIN.out⟩
 | false =>
   rw [hl] at c3 fk1;have CT:=hide (sh_CountsA (h.up (ba.drew)).hs.sa (c:=c) (a:=a) (cap:=cap) hi.nb hi.nl)
   have DOS:Hid (∀ (V:World) (L9:M.Lg) (Z9:Nat->Nat),FK W V f L9 X.S false X.ks X.L.calls Z9 lf sf T->KeptF W1 Z Z9 V->Calls Tryz.prog 13 #[.pointer (some ⟨sf,0,none⟩),caV c a cap] V λe w'=>e = .returned (.tuple #[anV (M.shDo X.S c).1,errV (M.shDo X.S c).2.1])/\∃ Z' T',FK W w' f L9 (M.shDo X.S c).2.2 false X.ks X.L.calls Z' lf sf T'/\KeptF W1 Z Z' w'):=λV L9 Z9 hf hk=>by
    obtain ⟨ci,ca⟩:=(hi.below ba).kept ha hk;refine (fl_shDo hf ci ca ids).mono ?_;rintro e w' ⟨rfl,Z',T',g1,g2⟩
    exact ⟨rfl,Z',T',g1,hk.trans g2⟩
   have KEEP:Hid (∀ (V:World),Below W1.heap.size W1 V->Calls Tryz.prog 27 #[.pointer (some ⟨f,0,none⟩),caV c a cap] V λe w'=>e = .returned (errV (M.kpF X c))/\∃ Z',FK W w' f (M.kpX X c) X.S (decide (M.kpF X c=9)) X.ks X.L.calls Z' lf sf T/\KeptF W1 Z Z' w'):=λV hV=>by
    refine (fl_keep (fk1.up hV) (hi1.below hV) X rfl).mono ?_;rintro e w' ⟨rfl,Z',g1,g2⟩
    exact ⟨rfl,Z',g1,(KeptF.refl hV).trans g2⟩
   have FK1:=hide fk1;have C3:Hid (∀ (V:World) (L9:M.Lg) (S9:M.Sh) (l9:Bool) (Z9 T9:Nat->Nat),FK W V f L9 S9 l9 X.ks X.L.calls Z9 lf sf T9->V.cell? ⟨f,1,none⟩=some (.pointer (some ⟨sf,0,none⟩))):=λV L9 S9 l9 Z9 T9 ⟨va',ra',rc',ss',B',hf⟩=>hf.box.cell 1 _ rfl
   cases hc:M.cntB X.S c with
   | false =>
     have e0:M.doX X c=((M.shDo X.S c).1,(M.shDo X.S c).2.1,X):=by unfold M.doX;rw [hl,if_neg (by decide),hc,if_neg (by decide)]
     have eS:=M.cnt_no hc;rw [eS] at DOS;rw [e0] at CLOSE ⊢;simp only at CLOSE;rw [hl] at CLOSE;rw [hc] at CT;simp only
     clear h fk ok d1 d2 d3 d4 d5 d6 d7 hi hi1 ha hx e0 KEEP fk1 bx by' Z0 ids hl hc eS z1
     unfold caV anV at *;generalize (M.shDo X.S c).1.num=r1 at *;generalize (M.shDo X.S c).1.idx=r2 at *;generalize errV (M.shDo X.S c).2.1=r3 at *;have BA:=hide ba;clear ba;generalize byStr c.name=nm at *
     go_enter Tryz.func7,Tryz.ntmps7
     go_upto_region 1 with fail
     rw [←hW1];clear hW1
     go_upto_region 3 with fail
     go_region_with (go_at_call 26;refine CT.out.mono ?_;rintro e w2 ⟨rfl,h2⟩;have b2:Below W1.heap.size W1 w2:=(below_on ((Below.refl _ W1).drew) h2);have f2:=FK1.out.up b2.drew;have k2:KeptF W1 Z Z w2.drew:=KeptF.refl b2.drew;have D2:=hide (DOS.out _ _ _ f2 k2);have cc:=CAL.out w2 Z (KeptF.refl b2);have q0:=(cc 0).trans x0;have q1:=(cc 1).trans x1;have q2:=(cc 2).trans x2;have q3:=(cc 3).trans x3;have q4:=(cc 4).trans x4;have q5:=(cc 5).trans x5;have q6:=(cc 6).trans x6;have q7:w2.cell? ⟨f,1,none⟩=some (.pointer (some ⟨sf,0,none⟩)):=(by have:=C3.out w2.drew _ _ _ _ _ f2;exact this);clear h2 b2 f2 k2 cc)
     all_goals (
      clear x0 x1 x2 x3 x4 x5 x6 c1 c3
      go_upto_region 7 with fail
      go_region_with (go_at_call 13;refine D2.out.mono ?_;rintro e w3 ⟨rfl,Z3,T3,f3,k3⟩;obtain ⟨⟨p0,p1,p2,p3⟩,pp⟩:=BOX.out _ _ _ _ _ _ f3 k3;obtain ⟨g1,g2,g3,g4⟩:=pp (.int .i64 r1) (.int .i64 r2);have FIN:Hid (∃ Z',FH W ((w3.setCell ⟨w.heap.size+1,0,none⟩ (.int .i64 r1)).setCell ⟨w.heap.size+1,1,none⟩ (.int .i64 r2)) f X Z'/\KeptF w Z Z' ((w3.setCell ⟨w.heap.size+1,0,none⟩ (.int .i64 r1)).setCell ⟨w.heap.size+1,1,none⟩ (.int .i64 r2))):=⟨Z3,CLOSE.out _ Z3 T3 g1,g2⟩;have G3:=hide g3;have G4:=hide g4;clear f3 k3 pp g1 g2 g3 g4))
     all_goals (
      go_wp2
      have g3:=G3.out;have g4:=G4.out;refine bodyPost_ret (v := .tuple #[.agg #[.int .i64 r1,.int .i64 r2],r3]) (by simp [results,Tryz.results7,go_sem,g3,g4]) rfl ?_
      exact ⟨rfl,FIN.out⟩)
   | true =>
     rw [hc] at CT
     by_cases hz:M.kpF X c=0
     case neg =>
      have e0:M.doX X c=(M.an0,M.kpF X c,⟨M.kpX X c,X.m,decide (M.kpF X c=9),X.ks⟩):=by unfold M.doX;rw [hl,if_neg (by decide),hc,if_pos rfl,if_pos hz]
      have eS:(⟨M.kpX X c,X.m,decide (M.kpF X c=9),X.ks⟩:M.Fl).S=X.S:=by
       have:=d2;rw [e0,if_neg (λz=>hz z.2.2)] at this;exact this
      rw [e0] at CLOSE ⊢;simp only at CLOSE;rw [eS] at CLOSE;have EA:Hid (anV M.an0 = .agg #[.int .i64 0,.int .i64 0]):=rfl;simp only;rw [EA.out];rw [err_some hz] at KEEP ⊢
      clear h fk ok d1 d2 d3 d4 d5 d6 d7 hi hi1 ha hx e0 DOS fk1 bx by' Z0 ids hl hc eS z1 EA hz FK1 C3
      generalize hbo:decide (M.kpF X c=9)=bo at *;clear hbo;generalize hY:(⟨M.kpX X c,X.m,bo,X.ks⟩:M.Fl)=Y at *;clear hY;generalize M.kpX X c=L9 at *;generalize M.kpF X c=ke at *;unfold caV at *;generalize byStr c.name=nm at *
      go_enter Tryz.func7,Tryz.ntmps7
      go_upto_region 1 with fail
      rw [←hW1];clear hW1
      go_upto_region 3 with fail
      go_region_with (go_at_call 26;refine CT.out.mono ?_;rintro e w2 ⟨rfl,h2⟩;have b2:Below W1.heap.size W1 w2:=(below_on ((Below.refl _ W1).drew) h2);have K2:=hide (KEEP.out _ b2);have cc:=CAL.out w2 Z (KeptF.refl b2);have q0:=(cc 0).trans x0;have q1:=(cc 1).trans x1;have q2:=(cc 2).trans x2;have q3:=(cc 3).trans x3;have q4:=(cc 4).trans x4;have q5:=(cc 5).trans x5;have q6:=(cc 6).trans x6;clear h2 b2 cc)
      all_goals (
       clear x0 x1 x2 x3 x4 x5 x6 c1 c3
       go_wp2_with (go_at_call 27;refine K2.out.mono ?_;rintro e w3 ⟨rfl,Z3,f3,k3⟩;obtain ⟨⟨p0,p1,p2,p3⟩,pp⟩:=BOX.out _ _ _ _ _ _ f3 k3;obtain ⟨g1,g2,g3,g4⟩:=pp (.int .i64 0) (.int .i64 0);have FIN:Hid (∃ Z',FH W ((w3.setCell ⟨w.heap.size+1,0,none⟩ (.int .i64 0)).setCell ⟨w.heap.size+1,1,none⟩ (.int .i64 0)) f Y Z'/\KeptF w Z Z' ((w3.setCell ⟨w.heap.size+1,0,none⟩ (.int .i64 0)).setCell ⟨w.heap.size+1,1,none⟩ (.int .i64 0))):=⟨Z3,CLOSE.out _ Z3 T g1,g2⟩;have G3:=hide g3;have G4:=hide g4;clear f3 k3 pp g1 g2 g3 g4)
       have g3:=G3.out;have g4:=G4.out;refine bodyPost_ret (v := .tuple #[.agg #[.int .i64 0,.int .i64 0],.iface 69 (.int .i64 ke)]) (by simp [results,Tryz.results7,go_sem,g3,g4]) rfl ?_
       exact ⟨rfl,FIN.out⟩)
     case pos =>
      have e0:M.doX X c=((M.shDo X.S c).1,(M.shDo X.S c).2.1,⟨M.kpX X c,X.m+1,false,X.ks⟩):=by unfold M.doX;rw [hl,if_neg (by decide),hc,if_pos rfl,if_neg (by simpa using hz)]
      have eS:(⟨M.kpX X c,X.m+1,false,X.ks⟩:M.Fl).S=(M.shDo X.S c).2.2:=by
       have:=d2;rw [e0,if_pos ⟨hl,hc,hz⟩] at this;exact this
      rw [e0] at CLOSE ⊢;simp only at CLOSE;rw [eS] at CLOSE;rw [show decide (M.kpF X c=9)=false from decide_eq_false (by omega),err_nil hz] at KEEP;simp only
      clear h fk ok d1 d2 d3 d4 d5 d6 d7 hi hi1 ha hx e0 fk1 bx by' Z0 ids hl hc eS z1 hz FK1
      generalize hY:(⟨M.kpX X c,X.m+1,false,X.ks⟩:M.Fl)=Y at *;clear hY;generalize M.kpX X c=L9 at *;generalize (M.shDo X.S c).2.2=S9 at *;unfold caV anV at *;generalize (M.shDo X.S c).1.num=r1 at *;generalize (M.shDo X.S c).1.idx=r2 at *;generalize errV (M.shDo X.S c).2.1=r3 at *;generalize byStr c.name=nm at *
      go_enter Tryz.func7,Tryz.ntmps7
      go_upto_region 1 with fail
      rw [←hW1];clear hW1
      go_upto_region 3 with fail
      go_region_with (go_at_call 26;refine CT.out.mono ?_;rintro e w2 ⟨rfl,h2⟩;have b2:Below W1.heap.size W1 w2:=(below_on ((Below.refl _ W1).drew) h2);have K2:=hide (KEEP.out _ b2);have cc:=CAL.out w2 Z (KeptF.refl b2);have q0:=(cc 0).trans x0;have q1:=(cc 1).trans x1;have q2:=(cc 2).trans x2;have q3:=(cc 3).trans x3;have q4:=(cc 4).trans x4;have q5:=(cc 5).trans x5;have q6:=(cc 6).trans x6;clear h2 b2 cc)
      all_goals (
       go_upto_region 7 with (go_at_call 27;refine K2.out.mono ?_;rintro e w3 ⟨rfl,Z3,f3,k3⟩;have bd3:Below w3.heap.size w3 w3.drew:=(Below.refl _ w3).drew;have D3:=hide (DOS.out _ _ _ (f3.up bd3) (k3.up bd3));have cc:=CAL.out w3 Z3 k3;have q0:=(cc 0).trans x0;have q1:=(cc 1).trans x1;have q2:=(cc 2).trans x2;have q3:=(cc 3).trans x3;have q4:=(cc 4).trans x4;have q5:=(cc 5).trans x5;have q6:=(cc 6).trans x6;have q7:=C3.out _ _ _ _ _ _ f3;clear f3 k3 cc bd3)
       clear x0 x1 x2 x3 x4 x5 x6 c1 c3
       go_region_with (go_at_call 13;refine D3.out.mono ?_;rintro e w4 ⟨rfl,Z4,T4,f4,k4⟩;obtain ⟨⟨p0,p1,p2,p3⟩,pp⟩:=BOX.out _ _ _ _ _ _ f4 k4;obtain ⟨g1,g2,g3,g4⟩:=pp (.int .i64 r1) (.int .i64 r2);have FIN:Hid (∃ Z',FH W ((w4.setCell ⟨w.heap.size+1,0,none⟩ (.int .i64 r1)).setCell ⟨w.heap.size+1,1,none⟩ (.int .i64 r2)) f Y Z'/\KeptF w Z Z' ((w4.setCell ⟨w.heap.size+1,0,none⟩ (.int .i64 r1)).setCell ⟨w.heap.size+1,1,none⟩ (.int .i64 r2))):=⟨Z4,CLOSE.out _ Z4 T4 g1,g2⟩;have G3:=hide g3;have G4:=hide g4;clear f4 k4 pp g1 g2 g3 g4))
      all_goals (
       go_wp2
       have g3:=G3.out;have g4:=G4.out;refine bodyPost_ret (v := .tuple #[.agg #[.int .i64 r1,.int .i64 r2],r3]) (by simp [results,Tryz.results7,go_sem,g3,g4]) rfl ?_
       exact ⟨rfl,FIN.out⟩)
theorem FH.bl {W w:World} {f:Nat} {X:M.Fl} {Z:Nat->Nat} (h:FH W w f X Z):Below W.heap.size W w:=by
 obtain ⟨ok,lf,va,sf,T,ra,rc,ss,B,h⟩:=h;exact h.bl
theorem FH.up {W w w':World} {f:Nat} {X:M.Fl} {Z:Nat->Nat} (h:FH W w f X Z) (hb:Below w.heap.size w w'):FH W w' f X Z:=by
 obtain ⟨ok,lf,va,sf,T,ra,rc,ss,B,h⟩:=h
 exact ⟨ok,lf,va,sf,T,ra,rc,ss,B,h.up hb⟩
theorem FH.z0 {W w:World} {f:Nat} {X:M.Fl} {Z:Nat->Nat} (h:FH W w f X Z) {q:Nat} (hq:q<W.heap.size∨w.heap.size<=q):Z q=0:=by
 obtain ⟨ok,lf,va,sf,T,ra,rc,ss,B,h⟩:=h
 by_cases y:Z q=0
 · exact y
 · have:=h.tn q y
   omega
theorem FH.doIn {W w:World} {f:Nat} {X:M.Fl} {Z:Nat->Nat} (h:FH W w f X Z) {k:CaC} (hc:CaIn W k.1 k.2.1 k.2.2) (hm:X.m<=900000) :
 Calls Tryz.prog 7 #[.pointer (some ⟨f,0,none⟩),caV k.1 k.2.1 k.2.2] w λe w'=>e = .returned (.tuple #[anV (M.doX X k.1).1,errV (M.doX X k.1).2.1])/\∃ Z',FH W w' f (M.doX X k.1).2.2 Z'/\KeptF w Z Z' w' :=
 fl_Do h (hc.below h.bl) (λhne p hp=>by
  obtain ⟨b,off,e,hl,_⟩:=hc.rd.2.2 hne
  rw [e] at hp;cases hp
  exact h.z0 (.inl hl)) hm
end Go.Proofs.YtaijnacghiloaaaGreatDoor

namespace Go.Proofs.YtaijnacghiloaaaGreatDoor
open Go.ChangeShapes Go.WideShapes Go.ChangeAt Go.RowKit Go.Lib Go.Maps
set_option linter.unusedVariables false
structure Bk (w:World) (Z:Nat->Nat) (p:Nat) (l:List Value):Prop where
 bx:Bx w p l
 z:Z p=0
theorem Bk.kept {w w':World} {Z Z':Nat->Nat} {p:Nat} {l:List Value} (h:Bk w Z p l) (k:KeptF w Z Z' w'):Bk w' Z' p l:=⟨h.bx.keep (k.2 p h.bx.lt h.z).2,(k.2 p h.bx.lt h.z).1⟩
theorem Bk.up {w w':World} {Z:Nat->Nat} {p:Nat} {l:List Value} (h:Bk w Z p l) (b:Below w.heap.size w w'):Bk w' Z p l:=⟨h.bx.keep (b.block p h.bx.lt),h.z⟩
namespace M
end M
end Go.Proofs.YtaijnacghiloaaaGreatDoor

namespace Go.Proofs.YtaijnacghiloaaaGreatDoor
open Go.ChangeShapes Go.WideShapes Go.ChangeAt Go.RowKit Go.Lib Go.Maps
set_option linter.unusedVariables false
theorem i64_0:I64 0:=by unfold I64;omega
theorem i64_1:I64 1:=by unfold I64;omega
structure M.Tv (n:Nat) (X:M.Fl) (ks:List Nat) (l:List M.Ca) (S:M.Sh):Prop where
 q:M.Qt n X l
 s:M.shAll M.sh0 l=S
 ok:∀ c∈l,M.CaOk c
 ks:X.ks=ks
theorem M.tv_zero (n:Nat):M.Tv n (M.fl0 n) (List.replicate n 0) [] M.sh0:=⟨M.qt_zero n,rfl,(λc hc=>by cases hc),rfl⟩
theorem M.Tv.next {n:Nat} {X:M.Fl} {ks:List Nat} {l:List M.Ca} {S S':M.Sh} (h:M.Tv n X ks l S) {c:M.Ca} (co:M.CaOk c) (hl:l.length<=5) {a:M.An} (hd:M.shDo S c=(a,0,S')) (ct:M.cntB S c=true):(M.doX X c).1=a/\(M.doX X c).2.1=0/\M.Tv n (M.doX X c).2.2 ks (l ++ [c]) S':=by
 have r1:=M.recs_le6 l h.ok;have r2:=co.rec_le.2;have r3:l.length*6170<=5*6170:=Nat.mul_le_mul_right _ hl;rw [←h.s] at hd ct
 obtain ⟨e1,e2,e3,e4,e5⟩:=h.q.do co (by omega) hd ct
 refine ⟨e1,e2,e3,e5,λd hd=>?_,e4.trans h.ks⟩
 rcases List.mem_append.1 hd with z | z
 · exact h.ok d z
 · rw [List.mem_singleton.1 z];exact co
def M.Kp (n i k:Nat) (ks:List Nat):Prop:=ks.length=n/\∀ j,j<n->ks.getD j 0=if j<i then 4 else if j=i then k else 0
theorem M.kp_zero (n:Nat):M.Kp n 0 0 (List.replicate n 0):=⟨List.length_replicate ..,λj hj=>by
 rw [if_neg (by omega)]
 have:(List.replicate n 0).getD j 0=0:=by simp [List.getD,hj]
 rw [this]
 split <;> rfl⟩
theorem M.Kp.tell {n i k:Nat} {ks:List Nat} (h:M.Kp n i k ks) (hi:i<n):M.Kp n i (k+1) (ks.set i (ks.getD i 0+1)):=by
 have e:=h.2 i hi;rw [if_neg (by omega),if_pos rfl] at e
 refine ⟨by rw [List.length_set];exact h.1,λj hj=>?_⟩
 by_cases q:j=i
 · subst q
   rw [if_neg (by omega),if_pos rfl,e];simp [List.getD,h.1,hj]
 · have:=h.2 j hj
   rw [if_neg q] at this ⊢;rw [←this];simp [List.getD,List.getElem?_set_ne (λz=>q z.symm)]
theorem M.Kp.at {n i k:Nat} {ks:List Nat} (h:M.Kp n i k ks) (hi:i<n):ks.getD i 0=k:=by
 have e:=h.2 i hi
 rwa [if_neg (by omega),if_pos rfl] at e
theorem M.Kp.up {n i:Nat} {ks:List Nat} (h:M.Kp n i 4 ks):M.Kp n (i+1) 0 ks:=⟨h.1,λj hj=>by
 rw [h.2 j hj]
 by_cases q:j<i
 · rw [if_pos q,if_pos (by omega)]
 · by_cases p:j=i
   · rw [if_neg q,if_pos p,if_pos (by omega)]
   · rw [if_neg q,if_neg p,if_neg (by omega)]
     split <;> rfl⟩
theorem M.Kp.first {n:Nat} {ks:List Nat} (h:M.Kp n n 0 ks) (hn:1<=n):ks.getD 0 0=4:=by
 rw [h.2 0 (by omega),if_pos (by omega)]
theorem nb109:isB [109]:=λx hx=>by rw [List.mem_singleton.1 hx];decide
theorem tv_do {W w:World} {f n:Nat} {X:M.Fl} {Z:Nat->Nat} {ks:List Nat} {l:List M.Ca} {S S':M.Sh} (h:FH W w f X Z) (t:M.Tv n X ks l S) {what k num share:Int} {bys:List Nat} {a:Option Addr} {cap:Nat} (ci:CaIn W ⟨what,0,k, [109],num,share,bys⟩ a cap) (co:M.CaOk ⟨what,0,k, [109],num,share,bys⟩) (hl:l.length<=5) {an:M.An} (hd:M.shDo S ⟨what,0,k, [109],num,share,bys⟩=(an,0,S')) (ct:M.cntB S ⟨what,0,k, [109],num,share,bys⟩=true) :
 Calls Tryz.prog 7 #[.pointer (some ⟨f,0,none⟩),.agg #[.int .i64 what,.int .i64 0,.int .i64 k,.string ⟨#[109]⟩,.int .i64 num,.int .i64 share,.slice a bys.length cap]] w λe w'=>e = .returned (.tuple #[.agg #[.int .i64 an.num,.int .i64 an.idx],.nilIface])/\∃ X' Z',FH W w' f X' Z'/\KeptF w Z Z' w'/\M.Tv n X' ks (l ++ [⟨what,0,k, [109],num,share,bys⟩]) S':=by
 have hm:X.m<=900000:=by have:=t.q.m;omega
 obtain ⟨e1,e2,e3⟩:=t.next co hl hd ct;refine (h.doIn (k:=(⟨what,0,k, [109],num,share,bys⟩,a,cap)) ci hm).mono ?_;rintro e w' ⟨rfl,Z',h',k'⟩
 refine ⟨?_,_,Z',h',k',e3⟩
 show Ending.returned (.tuple #[anV (M.doX X ⟨what,0,k, [109],num,share,bys⟩).1,errV (M.doX X ⟨what,0,k, [109],num,share,bys⟩).2.1])=_;rw [e1,e2,err_nil rfl];rfl
theorem tv_crash {W w:World} {f n:Nat} {X:M.Fl} {Z:Nat->Nat} {ks:List Nat} {l:List M.Ca} {S:M.Sh} (h:FH W w f X Z) (t:M.Tv n X ks l S) (hl:l.length<=100) (keep:Int) (hk:M.I64 keep) :
 Calls Tryz.prog 8 #[.pointer (some ⟨f,0,none⟩),.int .i64 keep] w λe w'=>e = .returned (.tuple #[])/\∃ X' Z',FH W w' f X' Z'/\KeptF w Z Z' w'/\M.Tv n X' ks l S:=by
 have hh:=h;obtain ⟨ok,lf,va,sf,T,ra,rc,ss,B,hf⟩:=hh;obtain ⟨c1,c2⟩:=t.q.crash ok hf.hl.ok keep;refine (fl_Crash h keep hk (by rw [t.q.cl];exact hl)).mono ?_;rintro e w' ⟨rfl,Z',h',k'⟩
 exact ⟨rfl,_,Z',h',k',c1,t.s,t.ok,c2.trans t.ks⟩
theorem tv_tell {W w:World} {f n:Nat} {X:M.Fl} {Z:Nat->Nat} {ks:List Nat} {l:List M.Ca} {S:M.Sh} (h:FH W w f X Z) (t:M.Tv n X ks l S) (hl:l.length<=100) {i:Nat} (hi:i<n) (hk:ks.getD i 0<l.length) :
 Calls Tryz.prog 10 #[.pointer (some ⟨f,0,none⟩),.int .i64 (i:Int)] w λe w'=>e = .returned .nilIface/\∃ X' Z',FH W w' f X' Z'/\KeptF w Z Z' w'/\M.Tv n X' (ks.set i (ks.getD i 0+1)) l S:=by
 refine (fl_Tell h (k:=i) (by rw [t.q.kl];exact hi) (by have:=t.q.m;omega)).mono ?_;rintro e w' ⟨rfl,Z',h',k'⟩
 refine ⟨rfl,_,Z',h',k',t.q.tell i,t.s,t.ok,?_⟩
 unfold M.tlX;rw [if_pos (by rw [t.ks,t.q.m];exact hk),t.ks]
theorem tv_score {W w:World} {f n:Nat} {X:M.Fl} {Z:Nat->Nat} {ks:List Nat} {l:List M.Ca} {S:M.Sh} (h:FH W w f X Z) (t:M.Tv n X ks l S) (hl:l.length<=100) {i:Nat} (hi:i<n) (a:Option Addr) (xs:List Int) (ca:Nat) (hr:Rd w a xs) (key tok:Int) :
 Calls Tryz.prog 9 #[.pointer (some ⟨f,0,none⟩),.int .i64 (i:Int),.string ⟨#[109]⟩,.slice a xs.length ca,.int .i64 key,.int .i64 tok] w λe w'=>e = .returned (.tuple #[scoV (M.scV (M.shN l (ks.getD i 0)) (ks.getD i 0:Nat) [109] xs key tok),errV (M.scF (M.shN l (ks.getD i 0)) (ks.getD i 0:Nat) [109] xs key tok)])/\∃ Z',FH W w' f X Z'/\KeptF w Z Z' w':=by
 have:=fl_Score h (k:=i) (by rw [t.q.kl];exact hi) (by have:=t.q.m;omega) nb109 (by decide) a xs ca hr key tok;rw [t.q.cl,t.ks] at this;exact this
theorem M.Tv.all {n:Nat} {X:M.Fl} {ks:List Nat} {l:List M.Ca} {S:M.Sh} (t:M.Tv n X ks l S) {k:Nat} (hk:k=l.length):M.shN l k=S:=by rw [hk,M.shN_all];exact t.s
theorem M.boo_two (l:List M.Sa) (m:Int):M.booF l m 2 2 100=(M.samF l m).2/\M.booF l m 0 1 1=(M.samF l m).2:=by
 unfold M.booF;constructor
 · by_cases h:(M.samF l m).2=0
   · rw [if_neg (by simp [h]),if_neg (by omega),h]
   · rw [if_pos h]
 · by_cases h:(M.samF l m).2=0
   · rw [if_neg (by simp [h]),if_neg (by omega),h]
   · rw [if_pos h]
end Go.Proofs.YtaijnacghiloaaaGreatDoor
