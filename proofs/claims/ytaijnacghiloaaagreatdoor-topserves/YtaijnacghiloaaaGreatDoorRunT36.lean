/-
  Several texts as one: FlB, FlC, FlNew, FlCr.
-/
import Derived.Test.YtaijnacghiloaaaGreatDoorRunT31
import Derived.Test.YtaijnacghiloaaaGreatDoorRunT35
import Derived.Deep.QuietTactic
import Derived.RegionTactic
import Derived.Deep.RegionWith
import Derived.Test.YtaijnacghiloaaaGreatDoorRunT20
import Derived.Test.YtaijnacghiloaaaGreatDoorRunT15
namespace Go.Proofs.YtaijnacghiloaaaGreatDoor
open Go.ChangeShapes Go.WideShapes Go.ChangeAt Go.RowKit Go.Lib Go.Maps
set_option linter.unusedVariables false
theorem FA.ra_is {W w:World} {f:Nat} {L:M.Lg} {S:M.Sh} {lost:Bool} {ks:List Nat} {C:List M.Ca} {Z:Nat->Nat} {lf:Nat} {va:Option Addr} {sf:Nat} {T:Nat->Nat} {ra:Option Addr} {rc:Nat} {ss:List Nat} {B:Nat->Nat->Prop} (h:FA W w f L S lost ks C Z lf va sf T ra rc ss B) {k:Nat} (hk:k<ks.length) : ∃ g,ra=some ⟨g,0,none⟩/\Z g=4/\w.cell? ⟨g,k,none⟩=some (ptS (ss.getD k 0)):=by
 have hk2:k<ss.length:=by rw [h.len];exact hk
 rcases h.ro.2 with ⟨_,z⟩ | ⟨g,cap,cur,hv,_⟩
 · rw [z] at hk2;exact absurd hk2 (Nat.not_lt_zero _)
 · have era:ra=some ⟨g,0,none⟩:=by cases hv;rfl
   refine ⟨g,era,h.zr _ era, ?_⟩
   have ro:=h.ro;rw [era] at ro;rw [ro.cellAt k (by omega)];simp [List.getD,hk2]
set_option maxHeartbeats 4000000 in
theorem fl_scorer {W w:World} {f:Nat} {L:M.Lg} {S:M.Sh} {lost:Bool} {ks:List Nat} {C:List M.Ca} {Z:Nat->Nat} {lf:Nat} {va:Option Addr} {sf:Nat} {T:Nat->Nat} {ra:Option Addr} {rc:Nat} {ss:List Nat} {B:Nat->Nat->Prop} (h:FA W w f L S lost ks C Z lf va sf T ra rc ss B) {k:Nat} (hk:k<ks.length) :
 Calls Tryz.prog 32 #[.pointer (some ⟨f,0,none⟩), .int .i64 (k:Int)] w λ e w'=>e = .returned (.tuple #[ptS (ss.getD k 0), .nilIface])/\w'=w:=by
 obtain ⟨g,era,_,cg⟩:=h.ra_is hk;subst era;have c2:=h.box.cell 2 _ rfl
 have hk2:k<ss.length:=by rw [h.len];exact hk
 have rc1:ss.length<=rc:=by
  rcases h.ro.2 with ⟨hv,_⟩ | ⟨g',cap,cur,hv,_,_,hc,_⟩
  · cases hv
  · cases hv;exact hc
 clear h;generalize ss.length=n at *;generalize ss.getD k 0=s at *;have d1:decide ((k:Int)<0)=false:=decide_eq_false (by omega);have d2:decide ((n:Int)<=(k:Int))=false:=decide_eq_false (by omega);have d3:decide (n<=k)=false:=decide_eq_false (by omega)
 have b1:(0:Int)<=(k:Int):=by omega
 have b2:(k:Int)<(n:Int):=by omega
 unfold ptS at cg ⊢
 go_enter Tryz.func32, Tryz.ntmps32
 go_wp2
 go_ret2
 exact ⟨rfl,rfl⟩
set_option maxHeartbeats 8000000 in
theorem fl_Score {W w:World} {f:Nat} {X:M.Fl} {Z:Nat->Nat} (h:FH W w f X Z) {k:Nat} (hk:k<X.ks.length) (hm:X.m<=1000) {n:List Nat} (hb:isB n) (hl:n.length<=9223372036854775807) (a:Option Addr) (xs:List Int) (ca:Nat) (hr:Rd w a xs) (key tok:Int) :
 Calls Tryz.prog 9 #[.pointer (some ⟨f,0,none⟩), .int .i64 (k:Int), .string (byStr n), .slice a xs.length ca, .int .i64 key, .int .i64 tok] w λ e w'=>e = .returned (.tuple #[scoV (M.scV (M.shN X.L.calls (X.ks.getD k 0)) (X.ks.getD k 0) n xs key tok),errV (M.scF (M.shN X.L.calls (X.ks.getD k 0)) (X.ks.getD k 0) n xs key tok)]) /\ ∃ Z',FH W w' f X Z'/\KeptF w Z Z' w':=by
 obtain ⟨ok,lf,va,sf,T,ra,rc,ss,B,h⟩:=h;have le:=ok.at hk
 obtain ⟨W1,hW1⟩ : ∃ V,V=w.alloc (.cells #[.int .i64 0, .int .i64 0, .int .i64 0] 47):=⟨_,rfl⟩
 have ba:Below w.heap.size w W1:=by rw [hW1];exact (Below.refl _ _).alloc (Nat.le_refl _) _
 have bx:Bx W1 w.heap.size [.int .i64 0, .int .i64 0, .int .i64 0]:=by rw [hW1];exact bx_new w _ _
 have h1:=h.up ba;have SC:=hide (fl_scorer h1 hk);have SS:=hide (sc_Score (h1.sc k hk) hb hl a xs ca (hr.below ba) key tok (by omega))
 have AFT:Hid (∀ w2 B',SZ W w2 (ss.getD k 0) (M.shN X.L.calls (X.ks.getD k 0)) (X.ks.getD k 0) B'->KeptS W1 (B k) B' w2->Bx w2 w.heap.size [.int .i64 0, .int .i64 0, .int .i64 0] /\ ∀ y0 y1 y2, ∃ Z',FH W (((w2.setCell ⟨w.heap.size,0,none⟩ y0).setCell ⟨w.heap.size,1,none⟩ y1).setCell ⟨w.heap.size,2,none⟩ y2) f X Z'/\KeptF w Z Z' (((w2.setCell ⟨w.heap.size,0,none⟩ y0).setCell ⟨w.heap.size,1,none⟩ y1).setCell ⟨w.heap.size,2,none⟩ y2)):=λ w2 B' hs hk2=>by
  obtain ⟨Z',B2,f2,k2⟩:=h1.score hk hs hk2
  have eks:X.ks.set k (X.ks.getD k 0)=X.ks:=by
   apply List.ext_getElem (by simp);intro j h1 h2
   by_cases e:k=j
   · subst e;simp [List.getD,hk]
   · rw [List.getElem_set_ne e]
  rw [eks] at f2
  have z1:W1.heap.size=w.heap.size+1:=by rw [hW1];simp
  have zq:Z w.heap.size=0:=by
   by_cases y:Z w.heap.size=0
   · exact y
   · have:=(h.tn _ y).2;omega
  obtain ⟨t0,t1⟩:=k2.2 w.heap.size (by omega) zq
  refine ⟨bx.keep t1,λ y0 y1 y2 => ?_⟩
  have far : ∀ q,q≠w.heap.size->(((w2.setCell ⟨w.heap.size,0,none⟩ y0).setCell ⟨w.heap.size,1,none⟩ y1).setCell ⟨w.heap.size,2,none⟩ y2).heap[q]? = w2.heap[q]? := λ q hq=>by
   rw [heap_setCell_other _ _ _ _ hq,heap_setCell_other _ _ _ _ hq,heap_setCell_other _ _ _ _ hq]
  have sz:(((w2.setCell ⟨w.heap.size,0,none⟩ y0).setCell ⟨w.heap.size,1,none⟩ y1).setCell ⟨w.heap.size,2,none⟩ y2).heap.size=w2.heap.size:=by simp
  have zb:=h.bl.size
  refine ⟨Z',⟨ok,lf,va,sf,T,ra,rc,ss,B2,f2.stay (((f2.bl.setCell zb _).setCell zb _).setCell zb _) (by rw [sz];exact Nat.le_refl _) (λ q hq=>far q (λ e=>hq (by rw [e];exact t0)))⟩,by rw [sz];have:=k2.1;omega,λ q hq h0 => ?_⟩
  obtain ⟨s0,s1⟩:=k2.2 q (by omega) h0
  exact ⟨s0,by rw [far q (by omega),s1];exact ba.block q hq⟩
 clear h h1 ok ba bx hr hb hl;unfold scoV at SS ⊢;generalize M.scV (M.shN X.L.calls (X.ks.getD k 0)) (X.ks.getD k 0) n xs key tok=sv at *;generalize errV (M.scF (M.shN X.L.calls (X.ks.getD k 0)) (X.ks.getD k 0) n xs key tok)=ev at *;generalize ss.getD k 0=s at *;generalize byStr n=nm at *;unfold ptS at SC
 go_enter Tryz.func9, Tryz.ntmps9
 go_upto_region 1 with fail
 rw [←hW1];clear hW1
 go_wp2_with (first
  | (go_at_call 32;refine SC.out.mono ?_;rintro e w1 ⟨rfl,ew⟩;have ew2:=ew.symm;subst ew2)
  | (go_at_call 33;refine SS.out.mono ?_;rintro e w2 ⟨rfl,B',hs,hk2⟩;obtain ⟨bx2,AF⟩:=AFT.out w2 B' hs hk2;have A2:=hide AF;have BX2:=hide bx2;have x0:=bx2.cell 0 _ rfl;have x1:=bx2.cell 1 _ rfl;have x2:=bx2.cell 2 _ rfl;have y0:=bx2.free 0;have y1:=bx2.free 1;have y2:=bx2.free 2;clear hs hk2 AF bx2))
 have fin:=((BX2.out.put (j:=0) (v := .int .i64 sv.1)).put (j:=1) (v := .int .i64 sv.2.1)).put (j:=2) (v := .int .i64 sv.2.2);have e0:=fin.cell 0 _ rfl;have e1:=fin.cell 1 _ rfl;have e2:=fin.cell 2 _ rfl;clear fin;refine bodyPost_ret (v := .tuple #[.agg #[.int .i64 sv.1, .int .i64 sv.2.1, .int .i64 sv.2.2],ev]) (by simp [results, Tryz.results9,go_sem,e0,e1,e2]) rfl ?_
 exact ⟨rfl,A2.out _ _ _⟩
set_option maxHeartbeats 16000000 in
set_option maxRecDepth 10000 in
theorem fl_Tell {W w:World} {f:Nat} {X:M.Fl} {Z:Nat->Nat} (h:FH W w f X Z) {k:Nat} (hk:k<X.ks.length) (hm:X.m<=900) :
 Calls Tryz.prog 10 #[.pointer (some ⟨f,0,none⟩), .int .i64 (k:Int)] w λ e w'=>e = .returned .nilIface /\ ∃ Z',FH W w' f (M.tlX X k) Z'/\KeptF w Z Z' w':=by
 obtain ⟨ok,lf,va,sf,T,ra,rc,ss,B,h⟩:=h;have le:=ok.at hk;have SC:=hide (fl_scorer h hk)
 have IX:Hid (∀ V,Below w.heap.size w V->Calls Tryz.prog 31 #[.pointer (some ⟨sf,0,none⟩)] V λ e w'=>e = .returned (.int .i64 (X.m:Int))/\w'=V):=λ V hV=>by
  have:=sh_Index (h.up hV).hs.sa;rw [ok.idx] at this;exact this
 have IY:Hid (∀ V,Below w.heap.size w V->Calls Tryz.prog 30 #[.pointer (some ⟨ss.getD k 0,0,none⟩)] V λ e w'=>e = .returned (.int .i64 (X.ks.getD k 0:Int))/\w'=V):=λ V hV=>sc_Index ((h.up hV).sc k hk);have c0:=h.box.cell 0 _ rfl;have c1:=h.box.cell 1 _ rfl;have fl:f<w.heap.size:=h.box.lt
 by_cases q:X.ks.getD k 0<X.m
 case neg =>
  have e0:M.tlX X k=X:=by unfold M.tlX;rw [if_neg q]
  rw [e0]
  have FIN:Hid (∀ V,Below w.heap.size w V -> ∃ Z',FH W V f X Z'/\KeptF w Z Z' V):=λ V hV=>⟨Z,⟨ok,lf,va,sf,T,ra,rc,ss,B,h.up hV⟩,KeptF.refl hV⟩
  have d1:decide ((X.m:Int)<=(X.ks.getD k 0:Int))=true:=decide_eq_true (by omega);have d2:decide (X.m<=X.ks.getD k 0)=true:=decide_eq_true (by omega);clear h ok e0 q le;generalize X.ks.getD k 0=i at *;generalize ss.getD k 0=s at *;unfold ptS at SC
  go_enter Tryz.func10, Tryz.ntmps10
  go_upto_region 4 with (go_at_call 32;refine SC.out.mono ?_;rintro e w1 ⟨rfl,ew⟩;have ew2:=ew.symm;subst ew2)
  have bd:Below w.heap.size w w.drew:=(Below.refl _ w).drew
  go_region_with (first
   | (go_at_call 31;refine (IX.out _ bd).mono ?_;rintro e w1 ⟨rfl,ew⟩;have ew2:=ew.symm;subst ew2)
   | (go_at_call 30;refine (IY.out _ bd).mono ?_;rintro e w1 ⟨rfl,ew⟩;have ew2:=ew.symm;subst ew2))
  all_goals (
   go_wp2
   go_ret
   exact ⟨rfl,FIN.out _ bd⟩)
 case pos =>
  have e0:M.tlX X k=⟨X.L,X.m,X.lost,X.ks.set k (X.ks.getD k 0+1)⟩:=by unfold M.tlX;rw [if_pos q]
  have ok':=M.tl_fl ok k;rw [e0] at ok' ⊢;have kl:X.ks.getD k 0<X.L.calls.length:=Nat.lt_of_lt_of_le q ok.le
  have LC:Hid (∀ V,Below w.heap.size w V->Calls Tryz.prog 34 #[.pointer (some ⟨lf,0,none⟩), .int .i64 (X.ks.getD k 0:Int)] V λ e w' => ∃ a c,e = .returned (.tuple #[caV (X.L.calls.getD (X.ks.getD k 0) M.caR) a c, .bool true])/\CaIn w' (X.L.calls.getD (X.ks.getD k 0) M.caR) a c/\Below V.heap.size V w' /\ ∀ p,a=some p->V.heap.size<=p.block):=λ V hV=>by
   refine ((h.up hV).hl.call kl).mono ?_;rintro e w' ⟨a,c,rfl,h1,h2,h3⟩
   exact ⟨a,c,rfl,h1,h2,λ p hp=>(h3 p hp).1⟩
  have HE:Hid (∀ V (a:Option Addr) (c:Nat),Below w.heap.size w V->CaIn V (X.L.calls.getD (X.ks.getD k 0) M.caR) a c->(∀ p,a=some p->w.heap.size<=p.block)->Calls Tryz.prog 35 #[.pointer (some ⟨ss.getD k 0,0,none⟩),caV (X.L.calls.getD (X.ks.getD k 0) M.caR) a c, .int .i64 ((X.ks.getD k 0:Int)+1)] V λ e w'=>e = .returned .nilIface /\ ∃ Z',FH W w' f ⟨X.L,X.m,X.lost,X.ks.set k (X.ks.getD k 0+1)⟩ Z'/\KeptF w Z Z' w'):=λ V a c hV hc ha=>by
   have hV2:=h.up hV;refine (sc_HearG (k:=(X.L.calls.getD (X.ks.getD k 0) M.caR,a,c)) (hV2.sc k hk) hc (λ hne p hp z => ?_) (by omega)).mono ?_
   · have zz:=h.zb k p.block hk z
     have:=(h.tn p.block (by rw [zz];omega)).2;have:=ha p hp;omega
   · rintro e w' ⟨rfl,B',hs,hk2⟩
     refine ⟨rfl, ?_⟩
     rw [←M.shN_succ kl] at hs;obtain ⟨Z',B2,f2,k2⟩:=hV2.score hk hs hk2
     exact ⟨Z',⟨ok',lf,va,sf,T,ra,rc,ss,B2,f2⟩,(KeptF.refl hV).trans k2⟩
  have d1:decide ((X.m:Int)<=(X.ks.getD k 0:Int))=false:=decide_eq_false (by omega);have d2:decide (X.m<=X.ks.getD k 0)=false:=decide_eq_false (by omega);have i1:IntKind.i64.wrap ((X.ks.getD k 0:Int)+1)=(X.ks.getD k 0:Int)+1:=i64_in (by omega) (by omega);clear h ok e0 q le ok' kl;generalize X.L.calls.getD (X.ks.getD k 0) M.caR=ck at *;generalize hY:(⟨X.L,X.m,X.lost,X.ks.set k (X.ks.getD k 0+1)⟩:M.Fl)=Y at *;clear hY;generalize X.ks.getD k 0=i at *;generalize ss.getD k 0=s at *;unfold ptS at SC;unfold caV at LC HE
  go_enter Tryz.func10, Tryz.ntmps10
  go_upto_region 4 with (go_at_call 32;refine SC.out.mono ?_;rintro e w1 ⟨rfl,ew⟩;have ew2:=ew.symm;subst ew2)
  have bd:Below w.heap.size w w.drew:=(Below.refl _ w).drew
  go_cut [25] from 18 to 24 (λ v wx=>v = .bool false/\Hid (Below w.heap.size w wx))
  case first =>
   clear HE LC
   go_region_with (first
    | (go_at_call 31;refine (IX.out _ bd).mono ?_;rintro e w1 ⟨rfl,ew⟩;have ew2:=ew.symm;subst ew2)
    | (go_at_call 30;refine (IY.out _ bd).mono ?_;rintro e w1 ⟨rfl,ew⟩;have ew2:=ew.symm;subst ew2))
   all_goals (
    go_wp2
    go_meet
    case rel=>exact ⟨rfl,bd⟩)
  case rest =>
  obtain ⟨rfl,HB4⟩:=hcut
  obtain ⟨w4,hw4⟩ : ∃ x,x=wc:=⟨_,rfl⟩
  subst hw4;have k0:w4.cell? ⟨f,0,none⟩=some (.pointer (some ⟨lf,0,none⟩)):=(HB4.out.cell (p:=⟨f,0,none⟩) fl).trans c0;have bd2:Below w.heap.size w w4.drew:=HB4.out.drew;have be2 : ∀ o:Obj,Below w.heap.size w (w4.alloc o).drew:=λ o=>(HB4.out.alloc HB4.out.size o).drew;have f4:f<w4.heap.size:=Nat.lt_of_lt_of_le fl HB4.out.size;clear IX c0 c1 bd
  go_upto_region 6 with fail
  go_cut [7,8] from 26 to 35 (λ v _ wx => ∃ (p:Nat) (a:Option Addr) (c:Nat),v = .pointer (some ⟨p,0,none⟩)/\Hid (Bx wx p [.int .i64 ck.what, .int .i64 ck.ses, .int .i64 ck.seq, .string (byStr ck.name), .int .i64 ck.num, .int .i64 ck.share, .slice a ck.bys.length c])/\Hid (CaIn wx ck a c)/\Hid (Below w.heap.size w wx)/\Hid (∀ q,a=some q->w.heap.size<=q.block))
  case first =>
   clear HE;have ns:w.heap.size<=w4.heap.size:=HB4.out.size
   have AFA:Hid (∀ w2 (a:Option Addr) (c:Nat),CaIn w2 ck a c->Below w4.drew.heap.size w4.drew w2->(∀ p,a=some p->w4.drew.heap.size<=p.block) -> ∃ (p:Nat) (a':Option Addr) (c':Nat),Value.pointer (some ⟨w2.heap.size,0,none⟩) = .pointer (some ⟨p,0,none⟩)/\Hid (Bx (w2.alloc (.cells #[.int .i64 ck.what, .int .i64 ck.ses, .int .i64 ck.seq, .string (byStr ck.name), .int .i64 ck.num, .int .i64 ck.share, .slice a ck.bys.length c] 44)) p [.int .i64 ck.what, .int .i64 ck.ses, .int .i64 ck.seq, .string (byStr ck.name), .int .i64 ck.num, .int .i64 ck.share, .slice a' ck.bys.length c'])/\Hid (CaIn (w2.alloc (.cells #[.int .i64 ck.what, .int .i64 ck.ses, .int .i64 ck.seq, .string (byStr ck.name), .int .i64 ck.num, .int .i64 ck.share, .slice a ck.bys.length c] 44)) ck a' c')/\Hid (Below w.heap.size w (w2.alloc (.cells #[.int .i64 ck.what, .int .i64 ck.ses, .int .i64 ck.seq, .string (byStr ck.name), .int .i64 ck.num, .int .i64 ck.share, .slice a ck.bys.length c] 44)))/\Hid (∀ q,a'=some q->w.heap.size<=q.block)):=λ w2 a c ci b2 na=>by
    have b3:=below_on bd2 b2;have bo:Below w2.heap.size w2 (w2.alloc (.cells #[.int .i64 ck.what, .int .i64 ck.ses, .int .i64 ck.seq, .string (byStr ck.name), .int .i64 ck.num, .int .i64 ck.share, .slice a ck.bys.length c] 44)):=(Below.refl _ _).alloc (Nat.le_refl _) _
    exact ⟨w2.heap.size,a,c,rfl,bx_new w2 _ _,ci.below bo,below_on b3 bo,λ q hq=>Nat.le_trans ns (na q hq)⟩
   go_region_with (first
    | (go_at_call 30;refine (IY.out _ (by first | exact bd2 | exact be2 _)).mono ?_;rintro e w1 ⟨rfl,ew⟩;have ew2:=ew.symm;subst ew2)
    | (go_at_call 34;refine (LC.out _ bd2).mono ?_;rintro e w2 ⟨a,c,rfl,ci,b2,na⟩;have AF:=hide (AFA.out w2 a c ci b2 na);clear ci b2 na)
    | (go_at_call 34;refine (LC.out _ (be2 _)).mono ?_;rintro e w2 ⟨a,c,rfl,ci,b2,na⟩;have BX2:Hid (Bx w2 w4.heap.size [.int .i64 0, .int .i64 0, .int .i64 0, .string ⟨#[]⟩, .int .i64 0, .int .i64 0, .slice none 0 0]):=(bx_new w4 _ _).keep (b2.block _ (by show _<(w4.alloc _).heap.size;simp));have x0:=BX2.out.cell 0 _ rfl;have x1:=BX2.out.cell 1 _ rfl;have x2:=BX2.out.cell 2 _ rfl;have x3:=BX2.out.cell 3 _ rfl;have x4:=BX2.out.cell 4 _ rfl;have x5:=BX2.out.cell 5 _ rfl;have x6:=BX2.out.cell 6 _ rfl;have y0:=BX2.out.free 0;have y1:=BX2.out.free 1;have y2:=BX2.out.free 2;have y3:=BX2.out.free 3;have y4:=BX2.out.free 4;have y5:=BX2.out.free 5;have y6:=BX2.out.free 6;have CI:=hide ci;have B2:=hide (below_on (be2 _) b2);have NA:Hid (∀ p,a=some p->w4.heap.size+1<=p.block):=(λ p hp=>by have:=na p hp;have e:(w4.alloc (.cells #[.int .i64 0, .int .i64 0, .int .i64 0, .string ⟨#[]⟩, .int .i64 0, .int .i64 0, .slice none 0 0] 44)).drew.heap.size=w4.heap.size+1:=(by show (w4.alloc _).heap.size=_;simp);omega);clear ci b2 na))
   all_goals (
    go_wp2
    go_meet
    case rel =>
     first
     | exact AF.out
     | (refine ⟨w4.heap.size,a,c,rfl, ?_,CI.out.keep (λ p hp => ?_) (by simp only [World.size_setCell];exact Nat.le_refl _), ?_,λ q hq => ?_⟩
        · exact (((((((BX2.out.put (j:=0)).put (j:=1)).put (j:=2)).put (j:=3)).put (j:=4)).put (j:=5)).put (j:=6))
        · have np:p.block≠w4.heap.size:=by have:=NA.out p hp;omega
          rw [heap_setCell_other _ _ _ _ np,heap_setCell_other _ _ _ _ np,heap_setCell_other _ _ _ _ np,heap_setCell_other _ _ _ _ np,heap_setCell_other _ _ _ _ np,heap_setCell_other _ _ _ _ np,heap_setCell_other _ _ _ _ np]
        · exact ((((((B2.out.setCell ns _).setCell ns _).setCell ns _).setCell ns _).setCell ns _).setCell ns _).setCell ns _
        · have:=NA.out q hq
          omega)
     | (trace_state;sorry))
  case rest =>
   obtain ⟨p,a,c,rfl,HX,HC,HB6,HN⟩:=hcut
   obtain ⟨w6,hw6⟩ : ∃ x,x=wc:=⟨_,rfl⟩
   subst hw6;have x0:=HX.out.cell 0 _ rfl;have x1:=HX.out.cell 1 _ rfl;have x2:=HX.out.cell 2 _ rfl;have x3:=HX.out.cell 3 _ rfl;have x4:=HX.out.cell 4 _ rfl;have x5:=HX.out.cell 5 _ rfl;have x6:=HX.out.cell 6 _ rfl;have bd6:Below w.heap.size w w6.drew:=HB6.out.drew;have HH:=hide (HE.out w6.drew a c bd6 (HC.out.below ((Below.refl _ w6).drew)) HN.out);clear HE LC HX HC HN be2 k0
   go_upto_region 7 with fail
   go_region_with (first
    | (go_at_call 30;refine (IY.out _ bd6).mono ?_;rintro e w1 ⟨rfl,ew⟩;have ew2:=ew.symm;subst ew2)
    | (go_at_call 35;refine HH.out.mono ?_;rintro e w7 ⟨rfl,h7⟩;have H7:=hide h7;clear h7))
   all_goals (
    go_wp2
    go_ret
    exact ⟨rfl,H7.out⟩)
theorem FA.push {W w w2 w3:World} {f:Nat} {L:M.Lg} {S:M.Sh} {lost:Bool} {ks:List Nat} {C:List M.Ca} {Z:Nat->Nat} {lf:Nat} {va:Option Addr} {sf:Nat} {T:Nat->Nat} {ra:Option Addr} {rc:Nat} {ss:List Nat} {B:Nat->Nat->Prop} {n s' g cap:Nat} {B':Nat->Prop} (h:FA W w f L S lost ks C Z lf va sf T ra rc ss B) (hs:SZ W w s' M.sh0 0 B') (hn : ∀ q,B' q->n<=q) (hZ : ∀ q,n<=q->Z q=0) (hnw:n<=w.heap.size) (hw:Below w.heap.size w w2) (ho:w3.ownsRow W.heap.size 75 1 (.slice (some ⟨g,0,none⟩) (ss.length+1) cap) (ss.length+1) (ss.map ptS ++ [ptS s'])) (hg:w2.grownBy w3 (Value.slice ra ss.length rc).ownBlock) (ha:(Value.slice ra ss.length rc).ownBlock=some g∨g=w2.heap.size) :
 (w3.cell? ⟨f,2,none⟩=some (.slice ra ss.length rc)/\w3.frozen? ⟨f,2,none⟩=false) /\ ∃ Z' B2,FA W (w3.setCell ⟨f,2,none⟩ (.slice (some ⟨g,0,none⟩) (ss.length+1) cap)) f L S lost (ks ++ [0]) C Z' lf va sf T (some ⟨g,0,none⟩) cap (ss ++ [s']) B2/\(∀ q,Z' q≠0->Z q≠0∨n<=q):=by
 have gown : ∀ q,(Value.slice ra ss.length rc).ownBlock=some q->Z q=4:=λ q hq=>by
  cases ra with
  | none=>cases hq
  | some p=>cases hq;exact h.zr p rfl
 have fz:W.heap.size<=f:=(h.tn f (by rw [h.zf];decide)).1;have flt:f<w.heap.size:=h.box.lt
 have ltn : ∀ q,Z q≠0->q<n:=λ q hq=>by
  by_cases y:q<n
  · exact y
  · exact absurd (hZ q (by omega)) hq
 -- what stays up to the store
 have st3 : ∀ q,q<w.heap.size->Z q≠4->w3.heap[q]? = w.heap[q]? := λ q hq h4=>by
  rw [hg.block q (Nat.lt_of_lt_of_le hq hw.size) (λ z=>h4 (gown q z.symm))];exact hw.block q hq
 have sz3:w.heap.size<=w3.heap.size:=Nat.le_trans hw.size hg.size
 obtain ⟨w4,hw4⟩ : ∃ V,V=w3.setCell ⟨f,2,none⟩ (.slice (some ⟨g,0,none⟩) (ss.length+1) cap):=⟨_,rfl⟩
 have sz4:w4.heap.size=w3.heap.size:=by rw [hw4];exact World.size_setCell ..
 have oth : ∀ q,q≠f->w4.heap[q]? = w3.heap[q]? := λ q hq=>by rw [hw4];exact heap_setCell_other _ _ _ _ hq
 have st4 : ∀ q,q<w.heap.size->Z q≠4->q≠f->w4.heap[q]? = w.heap[q]? := λ q hq h4 hf=>(oth q hf).trans (st3 q hq h4);have b2:Below W.heap.size W w2:=below_on h.bl hw;have b3:Below W.heap.size W w3:=b2.grown hg b2.size (λ q hq=>(h.tn q (by rw [gown q hq];decide)).1)
 have hb:Below W.heap.size W w4:=by rw [hw4];exact b3.setCell fz _
 have bf:Bx w3 f (flL lf sf ra ss.length rc lost):=h.box.keep (st3 f flt (by rw [h.zf];decide))
 have gz:Z g=4∨(Z g=0/\w.heap.size<=g):=by
  rcases ha with z | z
  · exact .inl (gown g z)
  · right
    have:=hw.size
    refine ⟨?_,by omega⟩
    by_cases y:Z g=0
    · exact y
    · have:=(h.tn g y).2;omega
 have gB : ¬ B' g:=λ z=>by
  have:=hs.lt z
  rcases gz with y | y
  · have:=ltn g (by rw [y];decide)
    have:=hn g z;omega
  · omega
 have gf:g≠f:=λ e=>by
  rcases gz with y | y
  · rw [e,h.zf] at y;cases y
  · omega
 refine ⟨⟨bf.cell 2 _ rfl,bf.free 2⟩, ?_⟩
 rw [←hw4]
 classical
 refine ⟨λ q=>if q=g then 4 else if B' q then 5+ks.length else Z q,λ j=>if j=ks.length then B' else B j,⟨by rw [List.length_append,List.length_append,h.len];rfl, ?_,⟨h.hs.sa.up (λ q hq => ?_) (by omega),hb,h.hs.tn⟩,λ j hj => ?_, ?_, ?_, ?_,λ q hq => ?_,λ q hq => ?_,λ p hp => ?_,λ j q hj hq => ?_,λ q hq => ?_⟩,λ q hq => ?_⟩
 · obtain ⟨vc,h1⟩:=h.hl.la
   exact ⟨⟨vc,h1.up (λ q hq=>st4 q (h.hl.lt hq) (by rw [h.zl q hq];decide) (λ e=>by have:=h.zl q hq;rw [e,h.zf] at this;cases this))⟩,hb,h.hl.tn⟩
 · have zq:=h.zs q hq
   exact st4 q (h.tn q (by rw [zq];decide)).2 (by rw [zq];decide) (λ e=>by rw [e,h.zf] at zq;cases zq)
 · rw [List.length_append] at hj
   by_cases e:j=ks.length
   · subst e
     have a1:(ks ++ [0]).getD ks.length 0=0:=by simp [List.getD]
     have a2:(ss ++ [s']).getD ks.length 0=s':=by rw [←h.len];simp [List.getD]
     rw [if_pos rfl,a1,a2];refine hs.stay hb (by omega) (λ q hq=>st4 q (hs.lt hq).2 (λ y => ?_) (λ y => ?_))
     · have:=ltn q (by rw [y];decide)
       have:=hn q hq;omega
     · have:=ltn q (by rw [y,h.zf];decide)
       have:=hn q hq;omega
   · have jl:j<ks.length:=by
      have:j<ks.length+1:=hj;omega
     show SZ W w4 ((ss ++ [s']).getD j 0) (M.shN C ((ks ++ [0]).getD j 0)) ((ks ++ [0]).getD j 0) (if j=ks.length then B' else B j)
     have a1:(ks ++ [0]).getD j 0=ks.getD j 0:=by simp [List.getD,List.getElem?_append_left jl]
     have a2:(ss ++ [s']).getD j 0=ss.getD j 0:=by simp [List.getD,List.getElem?_append_left (show j<ss.length by rw [h.len];exact jl)]
     rw [if_neg e,a1,a2]
     exact (h.sc j jl).stay hb (by omega) (λ q hq=>by
      have zq:=h.zb j q jl hq
      exact st4 q (h.tn q (by rw [zq];omega)).2 (by rw [zq];omega) (λ y=>by rw [y,h.zf] at zq;omega))
 · rw [List.length_append,List.map_append]
   exact sp_stay ho (λ p hp=>by cases hp;exact oth g gf)
 · rw [List.length_append,hw4]
   exact bf.put (j:=2) (v := .slice (some ⟨g,0,none⟩) (ss.length+1) cap)
 · show (if f=g then 4 else if B' f then 5+ks.length else Z f)=1
   rw [if_neg (Ne.symm gf),if_neg (λ z=>by have:=hn f z;have:=ltn f (by rw [h.zf];decide);omega)];exact h.zf
 · have zq:=h.zl q hq
   have qn:=ltn q (by rw [zq];decide);show (if q=g then 4 else if B' q then 5+ks.length else Z q)=2;rw [if_neg (λ e=>by rcases gz with y | y <;> rw [e] at zq <;> omega),if_neg (λ z=>by have:=hn q z;omega)];exact zq
 · have zq:=h.zs q hq
   have qn:=ltn q (by rw [zq];decide);show (if q=g then 4 else if B' q then 5+ks.length else Z q)=3;rw [if_neg (λ e=>by rcases gz with y | y <;> rw [e] at zq <;> omega),if_neg (λ z=>by have:=hn q z;omega)];exact zq
 · cases hp
   show (if g=g then 4 else if B' g then 5+ks.length else Z g)=4;rw [if_pos rfl]
 · rw [List.length_append] at hj
   show (if q=g then 4 else if B' q then 5+ks.length else Z q)=5+j
   by_cases e:j=ks.length
   · subst e
     rw [if_pos rfl] at hq;rw [if_neg (λ e=>gB (by rw [←e];exact hq)),if_pos hq]
   · rw [if_neg e] at hq
     have jl:j<ks.length:=by
      have:j<ks.length+1:=hj;omega
     have zq:=h.zb j q jl hq;have qn:=ltn q (by rw [zq];omega);rw [if_neg (λ e=>by rcases gz with y | y <;> rw [e] at zq <;> omega),if_neg (λ z=>by have:=hn q z;omega)];exact zq
 · have hq':(if q=g then 4 else if B' q then 5+ks.length else Z q)≠0:=hq
   rw [sz4]
   by_cases e:q=g
   · subst e
     have:=ho.lt q rfl;exact this
   · rw [if_neg e] at hq'
     by_cases z:B' q
     · have:=hs.lt z;omega
     · rw [if_neg z] at hq'
       have:=h.tn q hq';omega
 · have hq':(if q=g then 4 else if B' q then 5+ks.length else Z q)≠0:=hq
   by_cases e:q=g
   · rcases gz with y | y
     · left;rw [e,y];decide
     · right;omega
   · rw [if_neg e] at hq'
     by_cases z:B' q
     · exact .inr (hn q z)
     · rw [if_neg z] at hq'
       exact .inl hq'
theorem infoSco:(Tryz.prog.info? 75).map (λ i=>(i.zero,i.size,i.bytes))=some (some (.pointer none),1,8):=by kernel_rfl
theorem FA.first {W w wl ws:World} {lf sf:Nat} {T:Nat->Nat} (hb:Below W.heap.size W w) (hl:HL W wl lf none M.lg0) (el:lf=w.heap.size) (bl:Below w.heap.size w wl) (hs:SA ws sf T M.sh0) (bs:Below wl.heap.size wl ws) (ts : ∀ q,T q≠0->wl.heap.size<=q) (t:TypeId) :
 ∃ Z,FA W (ws.alloc (.cells #[.pointer (some ⟨lf,0,none⟩), .pointer (some ⟨sf,0,none⟩), .slice none 0 0, .bool false] t)) ws.heap.size M.lg0 M.sh0 false [] [] Z lf none sf T none 0 [] (λ _ _=>False)/\(∀ q,Z q≠0->w.heap.size<=q)/\Below w.heap.size w (ws.alloc (.cells #[.pointer (some ⟨lf,0,none⟩), .pointer (some ⟨sf,0,none⟩), .slice none 0 0, .bool false] t)):=by
 obtain ⟨w4,hw4⟩ : ∃ V,V=ws.alloc (.cells #[.pointer (some ⟨lf,0,none⟩), .pointer (some ⟨sf,0,none⟩), .slice none 0 0, .bool false] t):=⟨_,rfl⟩
 have b4:Below ws.heap.size ws w4:=by rw [hw4];exact (Below.refl _ _).alloc (Nat.le_refl _) _
 have z4:w4.heap.size=ws.heap.size+1:=by rw [hw4];simp
 have bx:Bx w4 ws.heap.size (flL lf sf none 0 0 false):=by rw [hw4];exact bx_new ws (flL lf sf none 0 0 false) t
 have bws:=below_on bl bs;have bw4:=below_on bws b4;have lfl:lf<wl.heap.size:=hl.lt (.inl rfl);have z2:=bs.size;have z0:=bl.size;have zz:=hb.size
 have slt : ∀ q,T q≠0->q<ws.heap.size:=λ q hq=>by
  by_cases y:q<ws.heap.size
  · exact y
  · exact absurd (hs.lt (by omega)) hq
 rw [←hw4]
 classical
 have isl : ∀ q,LB lf none q->q=lf:=λ q hq=>by
  rcases hq with y | ⟨p,y,_⟩
  · exact y
  · cases y
 refine ⟨λ q=>if q=ws.heap.size then 1 else if q=lf then 2 else if T q≠0 then 3 else 0,⟨rfl,(hl.up bs).up b4,⟨hs.up (λ q hq=>b4.block q (slt q hq)) b4.size,below_on hb bw4,λ q hq=>by have:=ts q hq;omega⟩,(λ k hk=>by cases hk),World.ownsRow_nil _ _ _ _,bx,if_pos rfl,λ q hq => ?_,λ q hq => ?_,(λ p hp=>by cases hp),(λ k q hk=>by cases hk),λ q hq => ?_⟩,λ q hq => ?_,bw4⟩
 · show (if q=ws.heap.size then 1 else if q=lf then 2 else if T q≠0 then 3 else 0)=2
   have:=isl q hq;rw [if_neg (by omega),if_pos this]
 · show (if q=ws.heap.size then 1 else if q=lf then 2 else if T q≠0 then 3 else 0)=3
   have:=ts q hq;have:=slt q hq;rw [if_neg (by omega),if_neg (by omega),if_pos hq]
 · have hq':(if q=ws.heap.size then 1 else if q=lf then 2 else if T q≠0 then 3 else 0)≠0:=hq
   by_cases y:q=ws.heap.size
   · omega
   · rw [if_neg y] at hq'
     by_cases x:q=lf
     · omega
     · rw [if_neg x] at hq'
       by_cases v:T q≠0
       · have:=ts q v
         have:=slt q v;omega
       · rw [if_neg v] at hq';exact absurd rfl hq'
 · have hq':(if q=ws.heap.size then 1 else if q=lf then 2 else if T q≠0 then 3 else 0)≠0:=hq
   by_cases y:q=ws.heap.size
   · omega
   · rw [if_neg y] at hq'
     by_cases x:q=lf
     · omega
     · rw [if_neg x] at hq'
       by_cases v:T q≠0
       · have:=ts q v
         omega
       · rw [if_neg v] at hq';exact absurd rfl hq'
set_option maxHeartbeats 16000000 in
set_option maxRecDepth 10000 in
theorem fl_New {W w:World} (hb:Below W.heap.size W w) (n:Nat) (h1:1<=n) (h8:n<=8):Calls Tryz.prog 6 #[.int .i64 (n:Int)] w λ e w' => ∃ f Z,e = .returned (.tuple #[.pointer (some ⟨f,0,none⟩), .nilIface])/\FH W w' f (M.fl0 n) Z/\Below w.heap.size w w' /\ ∀ q,Z q≠0->w.heap.size<=q:=by
 have LN:=hide (HL.new hb);have SN:=hide sh_New;have FI:=hide (λ (wl ws:World) (lf sf:Nat) (T:Nat->Nat) hl el bl hs bs ts=>FA.first (wl:=wl) (ws:=ws) (lf:=lf) (sf:=sf) (T:=T) hb hl el bl hs bs ts 74);obtain ⟨i0,hi0,hz0,hz1,hz2⟩:=info_parts infoSco;have I0:=hide hi0;clear hi0;have t1:decide ((n:Int)<1)=false:=decide_eq_false (by omega);have t2:decide ((8:Int)<(n:Int))=false:=decide_eq_false (by omega);have t3:decide (n<1)=false:=decide_eq_false (by omega);have t4:decide (8<n)=false:=decide_eq_false (by omega);clear hb
 go_enter Tryz.func6, Tryz.ntmps6
 go_upto_region 4 with (first
  | (go_at_call 24;refine LN.out.mono ?_;rintro e wl ⟨lf,rfl,hl,bl,el⟩;have HLq:=hide hl;have BL:=hide bl;have EL:=hide el;clear hl bl el)
  | (go_at_call 11;refine (SN.out wl).mono ?_;rintro e ws ⟨sf,T,rfl,sa,bs,ts⟩;have ALL:=hide (FI.out wl ws lf sf T HLq.out EL.out BL.out sa bs ts);clear sa bs ts))
 clear LN SN FI HLq BL EL t1 t2 t3 t4;obtain ⟨Z0,f0,z0,b0⟩:=ALL.out;have F0:=hide f0;have ZZ0:=hide z0;have B0:=hide b0;clear ALL f0 z0 b0
 obtain ⟨w0,hw0⟩ : ∃ V,V=ws.alloc (.cells #[.pointer (some ⟨lf,0,none⟩), .pointer (some ⟨sf,0,none⟩), .slice none 0 0, .bool false] 74):=⟨_,rfl⟩
 obtain ⟨fq,hfq⟩ : ∃ x,x=ws.heap.size:=⟨_,rfl⟩
 rw [←hw0] at F0 B0 ⊢;rw [←hfq] at F0 ⊢;clear hw0 hfq
 go_wp2
 go_loopw [17] (λ i wr => ∃ (j:Nat) (Z:Nat->Nat) (ra:Option Addr) (rc:Nat) (ss:List Nat) (B:Nat->Nat->Prop),j<=n/\i = .int .i64 (j:Int)/\Hid (ss.length=j)/\Hid (FA W wr fq M.lg0 M.sh0 false (List.replicate j 0) [] Z lf none sf T ra rc ss B)/\Hid (Below w.heap.size w wr)/\Hid (∀ q,Z q≠0->w.heap.size<=q)) (λ i _=>n-(intOf i).toNat)
 case atStart=>exact ⟨0,Z0,none,0, [],_,Nat.zero_le _,rfl,rfl,F0,B0,ZZ0⟩
 case round =>
  clear F0 B0 ZZ0;obtain ⟨j,Z,ra,rc,ss,B,hj,rfl,LE,HF,HB,HZ⟩:=hrel
  by_cases hlt:j<n
  · have kz:(j:Int)<(n:Int):=by omega
    have bd:Below wr.heap.size wr wr.drew:=(Below.refl _ wr).drew;have NW:=hide (sc_New (HF.out.up bd).bl)
    have c2:wr.cell? ⟨fq,2,none⟩=some (.slice ra j rc):=by have:=HF.out.box.cell 2 _ rfl;rw [LE.out] at this;exact this
    have fl:=HF.out.box.lt
    have AFT:Hid (∀ w1 s B',SZ W w1 s M.sh0 0 B'->Below wr.drew.heap.size wr.drew w1->(∀ q,B' q->wr.drew.heap.size<=q)->w1.cell? ⟨fq,2,none⟩=some (.slice ra j rc) /\ ∀ o:Obj,(w1.alloc o).cell? ⟨fq,2,none⟩=some (.slice ra j rc)/\(w1.alloc o).ownsRow W.heap.size 75 1 (.slice ra j rc) j (ss.map ptS)/\W.heap.size<=(w1.alloc o).heap.size /\ ∀ (g cap:Nat) (w3:World),w3.ownsRow W.heap.size 75 1 (.slice (some ⟨g,0,none⟩) (j+1) cap) (j+1) (ss.map ptS ++ [ptS s])->(w1.alloc o).grownBy w3 (Value.slice ra j rc).ownBlock->((Value.slice ra j rc).ownBlock=some g∨g=w1.heap.size+1)->(w3.cell? ⟨fq,2,none⟩=some (.slice ra j rc)/\w3.frozen? ⟨fq,2,none⟩=false) /\ ∃ Z' B2,FA W (w3.setCell ⟨fq,2,none⟩ (.slice (some ⟨g,0,none⟩) (j+1) cap)) fq M.lg0 M.sh0 false (List.replicate (j+1) 0) [] Z' lf none sf T (some ⟨g,0,none⟩) cap (ss ++ [s]) B2/\Below w.heap.size w (w3.setCell ⟨fq,2,none⟩ (.slice (some ⟨g,0,none⟩) (j+1) cap)) /\ ∀ q,Z' q≠0->w.heap.size<=q):=λ w1 s B' hs hb1 hn=>by
     have b1:Below wr.heap.size wr w1:=below_on bd hb1;have f1:=HF.out.up b1;have e1:w1.cell? ⟨fq,2,none⟩=some (.slice ra j rc):=(b1.cell (p:=⟨fq,2,none⟩) fl).trans c2
     refine ⟨e1,λ o => ?_⟩
     have bo:Below w1.heap.size w1 (w1.alloc o):=(Below.refl _ _).alloc (Nat.le_refl _) o;have fo:=f1.up bo;have el:=LE.out
     have zo:(w1.alloc o).heap.size=w1.heap.size+1:=by simp
     have rr:=fo.ro;rw [el] at rr
     refine ⟨(bo.cell (p:=⟨fq,2,none⟩) (block_lt_of_cell e1)).trans e1,rr,fo.bl.size,λ g cap w3 ho hg ha => ?_⟩
     have eN:wr.drew.heap.size=wr.heap.size:=rfl
     have pu:=f1.push (n:=wr.heap.size) (s':=s) (g:=g) (cap:=cap) (w2:=w1.alloc o) (w3:=w3) hs hn (λ q hq=>by
      by_cases y:Z q=0
      · exact y
      · have:=(HF.out.tn q y).2;omega) b1.size bo (by rw [el];exact ho) (by rw [el];exact hg) (by rw [el,zo];exact ha)
     rw [el] at pu;obtain ⟨p1,Z',B2,p2,p3⟩:=pu
     refine ⟨p1,Z',B2, ?_, ?_,λ q hq => ?_⟩
     · rw [List.replicate_succ']
       exact p2
     · have b4:Below w.heap.size w (w1.alloc o):=below_on (below_on HB.out b1) bo
       have fz:w.heap.size<=fq:=HZ.out fq (by rw [HF.out.zf];decide);refine (b4.grown hg b4.size (λ q hq => ?_)).setCell fz _;refine HZ.out q ?_;have:=HF.out.zr
       cases ra with
       | none=>cases hq
       | some p=>cases hq;rw [this p rfl];decide
     · rcases p3 q hq with y | y
       · exact HZ.out q y
       · exact Nat.le_trans HB.out.size y
    have JL:Hid (j+1<=100):=by unfold Hid;omega
    have LE2:=hide LE.out;clear HF HB HZ LE bd
    go_upto_region 6 with fail
    go_region_law (first
     | (refine step_append_lies _ rfl (.tmp 23) (.tmp 25) 72 rfl W.heap.size 75 i0 (.pointer none) 1 8 Tryz.underlying72 I0.out hz0 hz1 hz2 rfl (by omega) (.slice ra j rc) j (ss.map ptS) rfl (AF.out (.cells #[.pointer (some ⟨s,0,none⟩)] 75)).2.1 ⟨w1.heap.size,0,none⟩ 1 1 [.pointer (some ⟨s,0,none⟩)] rfl rfl (World.news_of_block (heap_alloc_new _ _)) (by simp [Value.oneCell']) (by omega) (by have:=JL.out;unfold maxLen;omega) (by have:=JL.out;omega) (AF.out _).2.2.1 (w1.heap.size+1) (by simp) ?_;intro g cap w3 ho3 hg3 ha3 hl3;obtain ⟨⟨y0,y1⟩,pz⟩:=(AF.out _).2.2.2 g cap w3 ho3 hg3 ha3;have PZ:=hide pz;clear ho3 hg3 ha3 hl3 pz)
     | (go_simp;go_at_call 25;refine NW.out.mono ?_;rintro e w1 ⟨s,B',rfl,hs,hb1,hn⟩;obtain ⟨e1,af⟩:=AFT.out w1 s B' hs hb1 hn;have AF:=hide af;have e2:=λ o=>(AF.out o).1;clear hs hb1 hn af))
    all_goals (
     obtain ⟨Z',B2,p1,p2,p3⟩:=PZ.out;have P1:=hide p1;have P2:=hide p2;have P3:=hide p3;clear p1 p2 p3 PZ AF AFT NW
     go_wp2
     go_roundw
     case rel=>exact ⟨j+1,Z',some ⟨g,0,none⟩,cap,ss ++ [s],B2,by omega,by go_num,(by unfold Hid;rw [List.length_append,LE2.out];rfl),P1,P2,P3⟩
     case measure=>simp [intOf];omega)
  · have ej:j=n:=by omega
    have kz : ¬ ((j:Int)<(n:Int)):=by omega
    have FIN:Hid (FH W wr fq (M.fl0 n) Z/\Below w.heap.size w wr /\ ∀ q,Z q≠0->w.heap.size<=q):=by
     refine ⟨⟨M.fl0_ok n,lf,none,sf,T,ra,rc,ss,B, ?_⟩,HB.out,HZ.out⟩
     have:=HF.out;rw [ej] at this;exact this
    clear HF HB HZ LE ej
    go_wp2
    go_ret2
    exact ⟨fq,rfl,Z,FIN.out⟩
theorem own_mx {W:World} {B:Nat} {e:TypeId} {c n:Nat} {v:Value} {l:List Value} (h:W.ownsRow B e c v n l):n<=9223372036854775807:=by
 rcases h.2 with ⟨_,z⟩ | ⟨g,cap,cur,_,_,_,z1,z2,_⟩
 · omega
 · unfold maxLen at z2;omega
set_option maxHeartbeats 16000000 in
set_option maxRecDepth 10000 in
theorem fl_Crash {W w:World} {f:Nat} {X:M.Fl} {Z:Nat->Nat} (h:FH W w f X Z) (keep:Int) (hk:M.I64 keep) (hl:X.L.calls.length<=100) :
 Calls Tryz.prog 8 #[.pointer (some ⟨f,0,none⟩), .int .i64 keep] w λ e w'=>e = .returned (.tuple #[]) /\ ∃ Z',FH W w' f (M.crX X keep) Z'/\KeptF w Z Z' w':=by
 obtain ⟨ok,lf,va,sf,T,ra,rc,ss,B,h⟩:=h;obtain ⟨ok',q1,q2,q3,q4⟩:=M.cr_fl ok h.hl.ok keep;have CR:=hide (h.hl.crash keep hk);have l2:(M.crL X.L keep).calls.length<=100:=Nat.le_trans q2 hl
 have AF1:Hid (∀ w1,HL W w1 lf va (M.crL X.L keep)->KeptL w lf va va w1 -> ∃ Z2,FA W (w1.setCell ⟨f,3,none⟩ (.bool false)) f (M.crL X.L keep) X.S false X.ks X.L.calls Z2 lf va sf T ra rc ss B/\KeptF w Z Z2 (w1.setCell ⟨f,3,none⟩ (.bool false))/\w1.cell? ⟨f,3,none⟩=some (.bool X.lost)/\w1.frozen? ⟨f,3,none⟩=false):=λ w1 hl1 hk1=>by
  obtain ⟨Z2,f2,k2⟩:=h.log hl1 hk1;obtain ⟨f3,k3⟩:=f2.put false
  exact ⟨Z2,f3,k2.trans k3,f2.box.cell 3 _ rfl,f2.box.free 3⟩
 have AF2:Hid (∀ w2 Z2 w3 s T',FA W w2 f (M.crL X.L keep) X.S false X.ks X.L.calls Z2 lf va sf T ra rc ss B->KeptF w Z Z2 w2->Has w2 w3 s T' (M.shAll M.sh0 (M.crL X.L keep).calls)->(w3.cell? ⟨f,1,none⟩=some (.pointer (some ⟨sf,0,none⟩))/\w3.frozen? ⟨f,1,none⟩=false) /\ ∃ Z3,FA W (w3.setCell ⟨f,1,none⟩ (.pointer (some ⟨s,0,none⟩))) f (M.crX X keep).L (M.crX X keep).S false X.ks (M.crX X keep).L.calls Z3 lf va s T' ra rc ss B/\KeptF w Z Z3 (w3.setCell ⟨f,1,none⟩ (.pointer (some ⟨s,0,none⟩)))):=λ w2 Z2 w3 s T' f2 k2 hs=>by
  have f3:=f2.up hs.bl
  refine ⟨⟨f3.box.cell 1 _ rfl,f3.box.free 1⟩, ?_⟩
  have hs':Has W w3 s T' (M.shAll M.sh0 (M.crL X.L keep).calls):=⟨hs.sa,f3.bl,λ q hq=>Nat.le_trans f2.bl.size (hs.tn q hq)⟩
  obtain ⟨Z3,f4,z1,zz,oth⟩:=f3.anew hs' (n:=w2.heap.size) hs.tn (λ q hq=>by
   by_cases y:Z2 q=0
   · exact y
   · have:=(f2.tn q y).2;omega)
  have eS:(M.crX X keep).S=M.shAll M.sh0 (M.crL X.L keep).calls:=M.shN_all _
  refine ⟨Z3, ?_,k2.trans ⟨by rw [zz];exact hs.bl.size,λ q hq h0=>⟨by rw [z1 q hq];exact h0, ?_⟩⟩⟩
  · rw [eS]
    exact f4.calls (λ j hj=>q4 _ (ok.at hj))
  · rw [oth q (λ e=>by rw [e,f2.zf] at h0;cases h0)]
    exact hs.bl.block q hq
 have c0:=h.box.cell 0 _ rfl;have SHF:Hid (∀ V L,HL W V lf va L->L.calls.length<=100->Calls Tryz.prog 29 #[.pointer (some ⟨lf,0,none⟩)] V λ e w' => ∃ s T,e = .returned (.pointer (some ⟨s,0,none⟩))/\Has V w' s T (M.shAll M.sh0 L.calls)):=λ V L hh hl2=>lg_Shelf hh hl2;have IXS:Hid ((M.crX X keep).S.idx=((M.crX X keep).m:Int)):=ok'.idx;have KLE:Hid (∀ j,j<X.ks.length->X.ks.getD j 0<=(M.crX X keep).m):=λ j hj=>Nat.le_trans (ok.at hj) q1;have LEN:Hid (ss.length=X.ks.length):=h.len
 have CLS:Hid (∀ V Z' s T',FA W V f (M.crX X keep).L (M.crX X keep).S false X.ks (M.crX X keep).L.calls Z' lf va s T' ra rc ss B->FH W V f (M.crX X keep) Z'):=λ V Z' s T' hf=>⟨ok',lf,va,s,T',ra,rc,ss,B,hf⟩
 have mle:(M.crX X keep).m<=100:=l2
 have lcap:ss.length<=rc:=by
  rcases h.ro.2 with ⟨hv,z⟩ | ⟨g',cap,cur,hv,_,_,hc,_⟩
  · rw [z];exact Nat.zero_le _
  · cases hv;exact hc
 have lmx:ss.length<=9223372036854775807:=own_mx h.ro;have L2:=hide l2;clear h ok ok' q1 q2 q3 q4 hl l2;generalize M.crL X.L keep=L1 at *;generalize M.crX X keep=Y at *
 obtain ⟨m,hm⟩ : ∃ x,x=Y.m:=⟨_,rfl⟩
 rw [←hm] at IXS KLE mle;clear hm
 go_enter Tryz.func8, Tryz.ntmps8
 go_upto_region 1 with (go_at_call 28;refine CR.out.mono ?_;rintro e w1 ⟨rfl,hl1,hk1⟩;obtain ⟨Z2,f2,k2,y0,y1⟩:=AF1.out w1 hl1 hk1;have F2:=hide f2;have K2:=hide k2;have c2:=f2.box.cell 0 _ rfl;clear hl1 hk1 f2 k2)
 go_upto_region 2 with fail
 obtain ⟨w2,hw2⟩ : ∃ V,V=w1.setCell ⟨f,3,none⟩ (.bool false):=⟨_,rfl⟩
 rw [←hw2] at F2 K2 c2 ⊢;clear hw2 y0 y1 AF1 CR c0;have SH1:=hide (SHF.out w2 L1 F2.out.hl L2.out)
 go_upto_region 3 with (go_at_call 29;refine SH1.out.mono ?_;rintro e w3 ⟨s,T',rfl,hs⟩;obtain ⟨⟨y0,y1⟩,Z3,f3,k3⟩:=AF2.out w2 Z2 w3 s T' F2.out K2.out hs;have F3:=hide f3;have K3:=hide k3;have c3:=f3.box.cell 2 _ rfl;clear hs f3 k3)
 clear SH1 SHF AF2 F2 K2 c2
 obtain ⟨w4,hw4⟩ : ∃ V,V=w3.setCell ⟨f,1,none⟩ (.pointer (some ⟨s,0,none⟩)):=⟨_,rfl⟩
 rw [←hw4] at F3 K3 c3 ⊢;clear hw4 y0 y1
 obtain ⟨n,hn⟩ : ∃ x,x=ss.length:=⟨_,rfl⟩
 rw [←hn] at c3 LEN lcap lmx;clear hn
 go_wp2
 go_loopw [28,4,5] (λ i _ _ wr => ∃ j:Nat,j<=n/\i = .int .i64 (j:Int)/\Hid (Below w4.heap.size w4 wr)) (λ i _ _ _=>n-(intOf i).toNat)
 case atStart=>exact ⟨0,Nat.zero_le _,rfl,Below.refl _ _⟩
 case round =>
  obtain ⟨j,hj,rfl,HB⟩:=hrel
  by_cases hlt:j<n
  · have hjk:j<X.ks.length:=by rw [←LEN.out];exact hlt
    have FR:=hide (F3.out.up HB.out);obtain ⟨g,era,_,cg⟩:=FR.out.ra_is hjk;subst era;have cr:=FR.out.box.cell 1 _ rfl
    have kz:(j:Int)<(n:Int):=by omega
    have kz0:(0:Int)<=(j:Int):=by omega
    have bd:Below wr.heap.size wr wr.drew:=(Below.refl _ wr).drew
    have IX:Hid (Calls Tryz.prog 31 #[.pointer (some ⟨s,0,none⟩)] wr.drew λ e w'=>e = .returned (.int .i64 (m:Int))/\w'=wr.drew):=by
     have:=sh_Index (FR.out.up bd).hs.sa;rw [IXS.out] at this;exact this
    have IY:=hide (sc_Index ((FR.out.up bd).sc j hjk));have kl:=KLE.out j hjk;have d1:decide ((m:Int)<(X.ks.getD j 0:Int))=false:=decide_eq_false (by omega);have d2:decide (m<X.ks.getD j 0)=false:=decide_eq_false (by omega);have HB2:=hide (below_on HB.out bd);unfold ptS at cg;clear FR bd kl F3 K3 KLE CLS hjk HB;generalize X.ks.getD j 0=ij at *;generalize ss.getD j 0=sj at *
    go_upto_region 6 with fail
    go_region_with (first
     | (go_at_call 31;refine IX.out.mono ?_;rintro e w5 ⟨rfl,ew⟩;have ew2:=ew.symm;subst ew2)
     | (go_at_call 30;refine IY.out.mono ?_;rintro e w5 ⟨rfl,ew⟩;have ew2:=ew.symm;subst ew2))
    all_goals (
     go_wp2
     go_roundw
     case rel=>exact ⟨j+1,by omega,by go_num,HB2⟩
     case measure=>simp [intOf];omega)
  · have ej:j=n:=by omega
    have kz : ¬ ((j:Int)<(n:Int)):=by omega
    have FIN:Hid (∃ Z',FH W wr f Y Z'/\KeptF w Z Z' wr):=⟨Z3,CLS.out _ _ _ _ (F3.out.up HB.out),⟨Nat.le_trans K3.out.1 HB.out.size,λ q hq h0=>⟨(K3.out.2 q hq h0).1,(HB.out.block q (Nat.lt_of_lt_of_le hq K3.out.1)).trans (K3.out.2 q hq h0).2⟩⟩⟩
    clear F3 K3 CLS HB ej
    go_wp2
    refine bodyPost_end (results_none rfl _ _ _) rfl ?_
    exact ⟨rfl,FIN.out⟩
end Go.Proofs.YtaijnacghiloaaaGreatDoor
