/-
  Several texts as one: LgS, FlA.
-/
import Derived.Test.YtaijnacghiloaaaGreatDoorRunT20
import Derived.Test.YtaijnacghiloaaaGreatDoorRunT4
import Derived.Test.YtaijnacghiloaaaGreatDoorRunT28
import Derived.Test.YtaijnacghiloaaaGreatDoorRunT30
namespace Go.Proofs.YtaijnacghiloaaaGreatDoor
open Go.ChangeShapes Go.WideShapes Go.ChangeAt Go.RowKit Go.Lib Go.Maps
set_option linter.unusedVariables false
theorem CaIn.keepG {w w':World} {c:M.Ca} {a:Option Addr} {cap:Nat} (h:CaIn w c a cap) (hk : ∀ p,a=some p->w'.heap[p.block]? = w.heap[p.block]?) (hz:w.heap.size<=w'.heap.size):CaIn w' c a cap:=h.keep hk hz
structure Apart (T:Nat->Nat) (w:World) (a:Option Addr) (l:List CaC):Prop where
 rd:RdC w a l
 ra : ∀ p,a=some p->T p.block=0/\p.block<w.heap.size
 rk : ∀ k∈l, ∀ p,k.2.1=some p->T p.block=0/\p.block<w.heap.size
theorem Apart.keep {T T':Nat->Nat} {w w':World} {a:Option Addr} {l:List CaC} (h:Apart T w a l) (hz:w.heap.size<=w'.heap.size) (hk : ∀ q,q<w.heap.size->T q=0->T' q=0/\w'.heap[q]? = w.heap[q]?):Apart T' w' a l:=by
 refine ⟨⟨h.rd.1,λ k hm=>(h.rd.2.1 k hm).keepG (λ p hp=>(hk _ (h.rk k hm p hp).2 (h.rk k hm p hp).1).2) hz,λ hne => ?_⟩,λ p hp=>⟨(hk _ (h.ra p hp).2 (h.ra p hp).1).1,Nat.lt_of_lt_of_le (h.ra p hp).2 hz⟩,λ k hm p hp=>⟨(hk _ (h.rk k hm p hp).2 (h.rk k hm p hp).1).1,Nat.lt_of_lt_of_le (h.rk k hm p hp).2 hz⟩⟩
 obtain ⟨b,off,e,hl,hc⟩:=h.rd.2.2 hne;have eb:=(hk b hl (h.ra _ e).1).2;have key : ∀ j v,w.cell? ⟨b,j,none⟩=some v->w'.cell? ⟨b,j,none⟩=some v:=λ j v hv=>(World.cell?_of_block (a:=⟨b,j,none⟩) eb).trans hv
 exact ⟨b,off,e,Nat.lt_of_lt_of_le hl hz,λ i hi=>⟨key _ _ (hc i hi).1,key _ _ (hc i hi).2.1,key _ _ (hc i hi).2.2.1,key _ _ (hc i hi).2.2.2.1,key _ _ (hc i hi).2.2.2.2.1,key _ _ (hc i hi).2.2.2.2.2.1,key _ _ (hc i hi).2.2.2.2.2.2⟩⟩
set_option maxHeartbeats 8000000 in
set_option maxRecDepth 10000 in
theorem lg_Shelf {W w:World} {f:Nat} {va:Option Addr} {L:M.Lg} (h:HL W w f va L) (hl:L.calls.length<=100) :
 Calls Tryz.prog 29 #[.pointer (some ⟨f,0,none⟩)] w λ e w' => ∃ s T,e = .returned (.pointer (some ⟨s,0,none⟩))/\Has w w' s T (M.shAll M.sh0 L.calls):=by
 have NW:=hide (sh_New w);have HH:=hide h;have IX:=hide (M.sh0_all);clear h
 go_enter Tryz.func29, Tryz.ntmps29
 go_upto_region 2 with (go_at_call 11;refine NW.out.mono ?_;rintro e w1 ⟨s,T0,rfl,sa,bl,tn⟩;have H1:Hid (Has w w1 s T0 M.sh0):=⟨sa,bl,tn⟩;have G1:=hide (HH.out.up bl);clear sa bl tn)
 clear NW HH;have CL:=hide G1.out.callsG
 go_wp2_with (go_at_call 57;refine CL.out.mono ?_;rintro e w2 ⟨a,c,l,rfl,em,cw,b2⟩;have EM:=hide em;have CW2:=hide cw;have H2:=hide (H1.out.up b2);have B2:=hide b2;clear em cw b2)
 have ll:L.calls.length=l.length:=by rw [←EM.out,List.length_map]
 have LE:=hide ll;rw [ll]
 have hl':l.length<=100:=by omega
 have AP:Hid (Apart T0 w2 a l):=by
  refine ⟨own_rdC rfl (by unfold maxLen;omega) CW2.out.ci CW2.out.own,λ p hp => ?_,λ k hk p hp => ?_⟩
  · have q:=own_spot CW2.out.own p hp
    refine ⟨H1.out.sa.lt ?_,q.2.1⟩
    exact (CW2.out.own.lt _ q.2.2).1
  · have q:=CW2.out.ap k hk p hp
    exact ⟨H1.out.sa.lt q.1,q.2.1⟩
 clear CL H1 G1 CW2 ll hl B2
 go_loopw [5,10] (λ _ i wr => ∃ (k:Nat) (T:Nat->Nat),k<=l.length/\i = .int .i64 k/\Hid (Has w wr s T (M.shAll M.sh0 ((l.take k).map (·.1))))/\Hid (Apart T wr a l)) (λ _ i _=>l.length-(intOf i).toNat)
 case atStart=>exact ⟨0,T0,Nat.zero_le _,rfl,H2,AP⟩
 case round =>
  clear H2 AP;obtain ⟨k,T,hk,rfl,HS,AP⟩:=hrel
  by_cases hlt:k<l.length
  · have kz:(k:Int)<(l.length:Int):=by omega
    obtain ⟨b,off,rfl,hb,sv,ci⟩:=AP.out.rd.at hlt;obtain ⟨c0,c1,c2,c3,c4,c5,c6⟩:=sv
    have mem:l.getD k ca0∈l:=by rw [List.getD,List.getElem?_eq_getElem hlt];exact List.getElem_mem hlt
    have RK:=hide (AP.out.rk _ mem);have CI:=hide ci
    have ES:Hid (M.shAll M.sh0 ((l.take (k+1)).map (·.1))=(M.shDo (M.shAll M.sh0 ((l.take k).map (·.1))) (l.getD k ca0).1).2.2):=by
     unfold Hid;rw [List.take_succ_eq_append_getElem hlt,List.map_append,M.shAll_app]
     have:l.getD k ca0=l[k]:=by simp [List.getD,hlt]
     rw [this];rfl
    have SI:Hid ((M.shAll M.sh0 ((l.take k).map (·.1))).idx<=900000):=by
     have:=IX.out ((l.take k).map (·.1));rw [List.length_map,List.length_take] at this;unfold Hid;omega
    have DO:Hid (∀ o:Obj,Calls Tryz.prog 13 #[.pointer (some ⟨s,0,none⟩),caV (l.getD k ca0).1 (l.getD k ca0).2.1 (l.getD k ca0).2.2] (wr.alloc o) λ e w'=>e = .returned (.tuple #[anV (M.shDo (M.shAll M.sh0 ((l.take k).map (·.1))) (l.getD k ca0).1).1,errV (M.shDo (M.shAll M.sh0 ((l.take k).map (·.1))) (l.getD k ca0).1).2.1]) /\ ∃ T',Has w w' s T' (M.shAll M.sh0 ((l.take (k+1)).map (·.1)))/\Apart T' w' (some ⟨b,off,none⟩) l):=λ o=>by
     have bo:Below wr.heap.size wr (wr.alloc o):=(Below.refl _ _).alloc (Nat.le_refl _) o;have ho:=HS.out.up bo;refine (sh_Do ho.sa (CI.out.below bo) (λ _ p hp=>(RK.out p hp).1) SI.out).mono ?_;rintro e w' ⟨rfl,hl⟩;obtain ⟨T',a1,a2,a3⟩:=ho.left hl
     refine ⟨rfl,T',by rw [ES.out];exact a1, ?_⟩
     have ap1:Apart T (wr.alloc o) (some ⟨b,off,none⟩) l:=AP.out.keep bo.size (λ q hq ht=>⟨ht,bo.block q hq⟩);exact ap1.keep a3 a2
    unfold caV at DO;clear ES SI RK CI ci mem HS AP IX;generalize anV (M.shDo (M.shAll M.sh0 ((l.take k).map (·.1))) (l.getD k ca0).1).1=av at *;generalize errV (M.shDo (M.shAll M.sh0 ((l.take k).map (·.1))) (l.getD k ca0).1).2.1=ev at *;generalize l.getD k ca0=ck at *
    go_wp2_with (go_at_call 13;refine (DO.out _).mono ?_;rintro e w3 ⟨rfl,T3,h3,a3⟩;have H3:=hide h3;have A3:=hide a3;clear h3 a3)
    go_roundw
    case rel=>exact ⟨k+1,T3,by omega,by go_num,H3,A3⟩
    case measure=>simp [intOf];omega
  · have ek:k=l.length:=by omega
    have kz : ¬ ((k:Int)<(l.length:Int)):=by omega
    have HF:Hid (Has w wr s T (M.shAll M.sh0 L.calls)):=by
     have:=HS.out;rw [ek,List.take_length,EM.out] at this;exact this
    clear HS AP
    go_wp2
    go_ret
    exact ⟨s,rfl,T,HF.out⟩
def flL (lf sf:Nat) (ra:Option Addr) (n rc:Nat) (lost:Bool):List Value := [.pointer (some ⟨lf,0,none⟩), .pointer (some ⟨sf,0,none⟩), .slice ra n rc, .bool lost]
def ptS (s:Nat):Value := .pointer (some ⟨s,0,none⟩)
structure FA (W w:World) (f:Nat) (L:M.Lg) (S:M.Sh) (lost:Bool) (ks:List Nat) (C:List M.Ca) (Z:Nat->Nat) (lf:Nat) (va:Option Addr) (sf:Nat) (T:Nat->Nat) (ra:Option Addr) (rc:Nat) (ss:List Nat) (B:Nat->Nat->Prop):Prop where
 len:ss.length=ks.length
 hl:HL W w lf va L
 hs:Has W w sf T S
 sc : ∀ k,k<ks.length->SZ W w (ss.getD k 0) (M.shN C (ks.getD k 0)) (ks.getD k 0) (B k)
 ro:w.ownsRow W.heap.size 75 1 (.slice ra ss.length rc) ss.length (ss.map ptS)
 box:Bx w f (flL lf sf ra ss.length rc lost)
 zf:Z f=1
 zl : ∀ q,LB lf va q->Z q=2
 zs : ∀ q,T q≠0->Z q=3
 zr : ∀ p,ra=some p->Z p.block=4
 zb : ∀ k q,k<ks.length->B k q->Z q=5+k
 tn : ∀ q,Z q≠0->W.heap.size<=q/\q<w.heap.size
theorem FA.bl {W w:World} {f:Nat} {L:M.Lg} {S:M.Sh} {lost:Bool} {ks:List Nat} {C:List M.Ca} {Z:Nat->Nat} {lf:Nat} {va:Option Addr} {sf:Nat} {T:Nat->Nat} {ra:Option Addr} {rc:Nat} {ss:List Nat} {B:Nat->Nat->Prop} (h:FA W w f L S lost ks C Z lf va sf T ra rc ss B):Below W.heap.size W w:=h.hl.bl
theorem FA.stay {W w w':World} {f:Nat} {L:M.Lg} {S:M.Sh} {lost:Bool} {ks:List Nat} {C:List M.Ca} {Z:Nat->Nat} {lf:Nat} {va:Option Addr} {sf:Nat} {T:Nat->Nat} {ra:Option Addr} {rc:Nat} {ss:List Nat} {B:Nat->Nat->Prop} (h:FA W w f L S lost ks C Z lf va sf T ra rc ss B) (hb:Below W.heap.size W w') (hz:w.heap.size<=w'.heap.size) (hk : ∀ q,Z q≠0->w'.heap[q]? = w.heap[q]?):FA W w' f L S lost ks C Z lf va sf T ra rc ss B where
 len:=h.len
 hl:=by
  obtain ⟨vc,h1⟩:=h.hl.la
  exact ⟨⟨vc,h1.up (λ q hq=>hk q (by rw [h.zl q hq];decide))⟩,hb,h.hl.tn⟩
 hs:=⟨h.hs.sa.up (λ q hq=>hk q (by rw [h.zs q hq];decide)) hz,hb,h.hs.tn⟩
 sc:=λ k hk'=>(h.sc k hk').stay hb hz (λ q hq=>hk q (by rw [h.zb k q hk' hq];omega))
 ro:=sp_stay h.ro (λ p hp=>hk _ (by rw [h.zr p hp];decide))
 box:=h.box.keep (hk f (by rw [h.zf];decide))
 zf:=h.zf
 zl:=h.zl
 zs:=h.zs
 zr:=h.zr
 zb:=h.zb
 tn:=λ q hq=>⟨(h.tn q hq).1,Nat.lt_of_lt_of_le (h.tn q hq).2 hz⟩
theorem FA.up {W w w':World} {f:Nat} {L:M.Lg} {S:M.Sh} {lost:Bool} {ks:List Nat} {C:List M.Ca} {Z:Nat->Nat} {lf:Nat} {va:Option Addr} {sf:Nat} {T:Nat->Nat} {ra:Option Addr} {rc:Nat} {ss:List Nat} {B:Nat->Nat->Prop} (h:FA W w f L S lost ks C Z lf va sf T ra rc ss B) (hb:Below w.heap.size w w'):FA W w' f L S lost ks C Z lf va sf T ra rc ss B:=h.stay (below_on h.bl hb) hb.size (λ q hq=>hb.block q (h.tn q hq).2)
theorem FA.calls {W w:World} {f:Nat} {L:M.Lg} {S:M.Sh} {lost:Bool} {ks:List Nat} {C C':List M.Ca} {Z:Nat->Nat} {lf:Nat} {va:Option Addr} {sf:Nat} {T:Nat->Nat} {ra:Option Addr} {rc:Nat} {ss:List Nat} {B:Nat->Nat->Prop} (h:FA W w f L S lost ks C Z lf va sf T ra rc ss B) (hc : ∀ k,k<ks.length->M.shN C' (ks.getD k 0)=M.shN C (ks.getD k 0)):FA W w f L S lost ks C' Z lf va sf T ra rc ss B :=
 ⟨h.len,h.hl,h.hs,λ k hk=>by rw [hc k hk];exact h.sc k hk,h.ro,h.box,h.zf,h.zl,h.zs,h.zr,h.zb,h.tn⟩
def FH (W w:World) (f:Nat) (X:M.Fl) (Z:Nat->Nat):Prop:=M.FlOk X /\ ∃ lf va sf T ra rc ss B,FA W w f X.L X.S X.lost X.ks X.L.calls Z lf va sf T ra rc ss B
def KeptF (w:World) (Z Z':Nat->Nat) (w':World):Prop:=w.heap.size<=w'.heap.size /\ ∀ q,q<w.heap.size->Z q=0->Z' q=0/\w'.heap[q]? = w.heap[q]?
theorem KeptF.refl {w w':World} {Z:Nat->Nat} (hb:Below w.heap.size w w'):KeptF w Z Z w':=⟨hb.size,λ q hq hz=>⟨hz,hb.block q hq⟩⟩
theorem KeptF.trans {a b c:World} {Z Z' Z'':Nat->Nat} (h:KeptF a Z Z' b) (k:KeptF b Z' Z'' c):KeptF a Z Z'' c:=⟨Nat.le_trans h.1 k.1,λ q hq hz=>by
 obtain ⟨h1,h2⟩:=h.2 q hq hz;obtain ⟨k1,k2⟩:=k.2 q (Nat.lt_of_lt_of_le hq h.1) h1
 exact ⟨k1,k2.trans h2⟩⟩
theorem tag_new (Z:Nat->Nat) (n t:Nat) (P:Nat->Prop) : ∃ Z':Nat->Nat,(∀ q,q<n->Z' q=Z q)/\(∀ q,n<=q->P q->Z' q=t)/\(∀ q,n<=q -> ¬ P q->Z' q=0):=by
 classical
 refine ⟨λ q=>if q<n then Z q else if P q then t else 0,λ q hq=>if_pos hq,λ q hq hp => ?_,λ q hq hp => ?_⟩
 · show (if q<n then _ else if P q then t else 0)=_
   rw [if_neg (by omega),if_pos hp]
 · show (if q<n then _ else if P q then t else 0)=_
   rw [if_neg (by omega),if_neg hp]
theorem FA.log {W w w':World} {f:Nat} {L L':M.Lg} {S:M.Sh} {lost:Bool} {ks:List Nat} {C:List M.Ca} {Z:Nat->Nat} {lf:Nat} {va va':Option Addr} {sf:Nat} {T:Nat->Nat} {ra:Option Addr} {rc:Nat} {ss:List Nat} {B:Nat->Nat->Prop} (h:FA W w f L S lost ks C Z lf va sf T ra rc ss B) (hl:HL W w' lf va' L') (hk:KeptL w lf va va' w') : ∃ Z',FA W w' f L' S lost ks C Z' lf va' sf T ra rc ss B/\KeptF w Z Z' w':=by
 obtain ⟨Z',z1,z2,z3⟩:=tag_new Z w.heap.size 2 (LB lf va');have old : ∀ q,Z q≠0->Z' q=Z q:=λ q hq=>z1 q (h.tn q hq).2;have same : ∀ q,Z q≠0->Z q≠2->w'.heap[q]? = w.heap[q]? := λ q hq h2=>(hk.2 q (h.tn q hq).2 (λ y=>h2 (h.zl q y))).2;have hz:=hk.1
 refine ⟨Z',⟨h.len,hl,⟨h.hs.sa.up (λ q hq=>same q (by rw [h.zs q hq];decide) (by rw [h.zs q hq];decide)) hz,hl.bl,h.hs.tn⟩,λ k hk'=>(h.sc k hk').stay hl.bl hz (λ q hq=>same q (by rw [h.zb k q hk' hq];omega) (by rw [h.zb k q hk' hq];omega)),sp_stay h.ro (λ p hp=>same _ (by rw [h.zr p hp];decide) (by rw [h.zr p hp];decide)),h.box.keep (same f (by rw [h.zf];decide) (by rw [h.zf];decide)), ?_,λ q hq => ?_,λ q hq => ?_,λ p hp => ?_,λ k q hk' hq => ?_,λ q hq => ?_⟩,hz,λ q hq h0 => ?_⟩
 · rw [old f (by rw [h.zf];decide)];exact h.zf
 · by_cases y:q<w.heap.size
   · rw [z1 q y]
     by_cases x:LB lf va q
     · exact h.zl q x
     · exact absurd hq (hk.2 q y x).1
   · exact z2 q (by omega) hq
 · rw [old q (by rw [h.zs q hq];decide)];exact h.zs q hq
 · rw [old _ (by rw [h.zr p hp];decide)];exact h.zr p hp
 · rw [old q (by rw [h.zb k q hk' hq];omega)];exact h.zb k q hk' hq
 · by_cases y:q<w.heap.size
   · rw [z1 q y] at hq
     exact ⟨(h.tn q hq).1,by omega⟩
   · by_cases x:LB lf va' q
     · exact ⟨hl.tn q x,hl.lt x⟩
     · exact absurd (z3 q (by omega) x) hq
 · exact ⟨by rw [z1 q hq];exact h0,(hk.2 q hq (λ y=>by rw [h.zl q y] at h0;cases h0)).2⟩
theorem FA.shelf {W w w':World} {f:Nat} {L:M.Lg} {S S':M.Sh} {lost:Bool} {ks:List Nat} {C:List M.Ca} {Z:Nat->Nat} {lf:Nat} {va:Option Addr} {sf:Nat} {T T':Nat->Nat} {ra:Option Addr} {rc:Nat} {ss:List Nat} {B:Nat->Nat->Prop} (h:FA W w f L S lost ks C Z lf va sf T ra rc ss B) (hs:Has W w' sf T' S') (hk : ∀ q,q<w.heap.size->T q=0->T' q=0/\w'.heap[q]? = w.heap[q]?) (hz:w.heap.size<=w'.heap.size) : ∃ Z',FA W w' f L S' lost ks C Z' lf va sf T' ra rc ss B/\KeptF w Z Z' w':=by
 obtain ⟨Z',z1,z2,z3⟩:=tag_new Z w.heap.size 3 (λ q=>T' q≠0);have old : ∀ q,Z q≠0->Z' q=Z q:=λ q hq=>z1 q (h.tn q hq).2
 have t0 : ∀ q,Z q≠3->T q=0:=λ q hq=>by
  by_cases y:T q=0
  · exact y
  · exact absurd (h.zs q y) hq
 have same : ∀ q,Z q≠0->Z q≠3->w'.heap[q]? = w.heap[q]? := λ q hq h2=>(hk q (h.tn q hq).2 (t0 q h2)).2;have hb:=hs.bl
 refine ⟨Z',⟨h.len, ?_,hs,λ k hk'=>(h.sc k hk').stay hb hz (λ q hq=>same q (by rw [h.zb k q hk' hq];omega) (by rw [h.zb k q hk' hq];omega)),sp_stay h.ro (λ p hp=>same _ (by rw [h.zr p hp];decide) (by rw [h.zr p hp];decide)),h.box.keep (same f (by rw [h.zf];decide) (by rw [h.zf];decide)), ?_,λ q hq => ?_,λ q hq => ?_,λ p hp => ?_,λ k q hk' hq => ?_,λ q hq => ?_⟩,hz,λ q hq h0 => ?_⟩
 · obtain ⟨vc,h1⟩:=h.hl.la
   exact ⟨⟨vc,h1.up (λ q hq=>same q (by rw [h.zl q hq];decide) (by rw [h.zl q hq];decide))⟩,hb,h.hl.tn⟩
 · rw [old f (by rw [h.zf];decide)];exact h.zf
 · rw [old q (by rw [h.zl q hq];decide)];exact h.zl q hq
 · by_cases y:q<w.heap.size
   · rw [z1 q y]
     by_cases x:T q=0
     · exact absurd (hk q y x).1 hq
     · exact h.zs q x
   · exact z2 q (by omega) hq
 · rw [old _ (by rw [h.zr p hp];decide)];exact h.zr p hp
 · rw [old q (by rw [h.zb k q hk' hq];omega)];exact h.zb k q hk' hq
 · by_cases y:q<w.heap.size
   · rw [z1 q y] at hq
     exact ⟨(h.tn q hq).1,by omega⟩
   · by_cases x:T' q=0
     · exact absurd (z3 q (by omega) (λ g=>g x)) hq
     · refine ⟨hs.tn q x, ?_⟩
       by_cases g:q<w'.heap.size
       · exact g
       · exact absurd (hs.sa.lt (by omega)) x
 · have g:=hk q hq (t0 q (by rw [h0];decide))
   exact ⟨by rw [z1 q hq];exact h0,g.2⟩
theorem FA.score {W w w':World} {f:Nat} {L:M.Lg} {S:M.Sh} {lost:Bool} {ks:List Nat} {C:List M.Ca} {Z:Nat->Nat} {lf:Nat} {va:Option Addr} {sf:Nat} {T:Nat->Nat} {ra:Option Addr} {rc:Nat} {ss:List Nat} {B:Nat->Nat->Prop} (h:FA W w f L S lost ks C Z lf va sf T ra rc ss B) {k i':Nat} {B':Nat->Prop} (hk1:k<ks.length) (hs:SZ W w' (ss.getD k 0) (M.shN C i') i' B') (hk:KeptS w (B k) B' w') : ∃ Z' B2,FA W w' f L S lost (ks.set k i') C Z' lf va sf T ra rc ss B2/\KeptF w Z Z' w':=by
 obtain ⟨Z',z1,z2,z3⟩:=tag_new Z w.heap.size (5+k) B';have old : ∀ q,Z q≠0->Z' q=Z q:=λ q hq=>z1 q (h.tn q hq).2;have nb : ∀ q,Z q≠5+k -> ¬ B k q:=λ q hq y=>hq (h.zb k q hk1 y);have same : ∀ q,Z q≠0->Z q≠5+k->w'.heap[q]? = w.heap[q]? := λ q hq h2=>(hk.2 q (h.tn q hq).2 (nb q h2)).2;have hb:=hs.bl;have hz:=hk.1
 refine ⟨Z',λ j=>if j=k then B' else B j,⟨by rw [List.length_set];exact h.len, ?_,⟨h.hs.sa.up (λ q hq=>same q (by rw [h.zs q hq];decide) (by rw [h.zs q hq];omega)) hz,hb,h.hs.tn⟩,λ j hj => ?_,sp_stay h.ro (λ p hp=>same _ (by rw [h.zr p hp];decide) (by rw [h.zr p hp];omega)),h.box.keep (same f (by rw [h.zf];decide) (by rw [h.zf];omega)), ?_,λ q hq => ?_,λ q hq => ?_,λ p hp => ?_,λ j q hj hq => ?_,λ q hq => ?_⟩,hz,λ q hq h0 => ?_⟩
 · obtain ⟨vc,h1⟩:=h.hl.la
   exact ⟨⟨vc,h1.up (λ q hq=>same q (by rw [h.zl q hq];decide) (by rw [h.zl q hq];omega))⟩,hb,h.hl.tn⟩
 · rw [List.length_set] at hj
   by_cases e:j=k
   · subst e
     rw [if_pos rfl,show (ks.set j i').getD j 0=i' by simp [List.getD,hj]];exact hs
   · rw [if_neg e,show (ks.set k i').getD j 0=ks.getD j 0 by simp [List.getD,List.getElem?_set_ne (Ne.symm e)]]
     exact (h.sc j hj).stay hb hz (λ q hq=>same q (by rw [h.zb j q hj hq];omega) (by rw [h.zb j q hj hq];omega))
 · rw [old f (by rw [h.zf];decide)];exact h.zf
 · rw [old q (by rw [h.zl q hq];decide)];exact h.zl q hq
 · rw [old q (by rw [h.zs q hq];decide)];exact h.zs q hq
 · rw [old _ (by rw [h.zr p hp];decide)];exact h.zr p hp
 · rw [List.length_set] at hj
   by_cases e:j=k
   · subst e
     rw [if_pos rfl] at hq
     by_cases y:q<w.heap.size
     · rw [z1 q y]
       by_cases x:B j q
       · exact h.zb j q hj x
       · exact absurd hq (hk.2 q y x).1
     · exact z2 q (by omega) hq
   · rw [if_neg e] at hq
     rw [old q (by rw [h.zb j q hj hq];omega)];exact h.zb j q hj hq
 · by_cases y:q<w.heap.size
   · rw [z1 q y] at hq
     exact ⟨(h.tn q hq).1,by omega⟩
   · by_cases x:B' q
     · exact hs.lt x
     · exact absurd (z3 q (by omega) x) hq
 · exact ⟨by rw [z1 q hq];exact h0,(hk.2 q hq (nb q (by rw [h0];omega))).2⟩
theorem FA.put {W w:World} {f:Nat} {L:M.Lg} {S:M.Sh} {lost:Bool} {ks:List Nat} {C:List M.Ca} {Z:Nat->Nat} {lf:Nat} {va:Option Addr} {sf:Nat} {T:Nat->Nat} {ra:Option Addr} {rc:Nat} {ss:List Nat} {B:Nat->Nat->Prop} (h:FA W w f L S lost ks C Z lf va sf T ra rc ss B) (b:Bool):FA W (w.setCell ⟨f,3,none⟩ (.bool b)) f L S b ks C Z lf va sf T ra rc ss B/\KeptF w Z Z (w.setCell ⟨f,3,none⟩ (.bool b)):=by
 have fz:W.heap.size<=f:=(h.tn f (by rw [h.zf];decide)).1;have hb:Below W.heap.size W (w.setCell ⟨f,3,none⟩ (.bool b)):=h.bl.setCell fz _;have z:(w.setCell ⟨f,3,none⟩ (.bool b)).heap.size=w.heap.size:=World.size_setCell ..;have oth : ∀ q,q≠f->(w.setCell ⟨f,3,none⟩ (.bool b)).heap[q]? = w.heap[q]? := λ q hq=>heap_setCell_other _ _ _ _ hq;have nf : ∀ q t,Z q=t->t≠1->q≠f:=λ q t h1 h2 e=>h2 (by rw [←h1,e,h.zf])
 refine ⟨⟨h.len, ?_,⟨h.hs.sa.up (λ q hq=>oth q (nf q 3 (h.zs q hq) (by decide))) (by rw [z];exact Nat.le_refl _),hb,h.hs.tn⟩,λ k hk=>(h.sc k hk).stay hb (by rw [z];exact Nat.le_refl _) (λ q hq=>oth q (nf q _ (h.zb k q hk hq) (by omega))),sp_stay h.ro (λ p hp=>oth _ (nf _ 4 (h.zr p hp) (by decide))),h.box.put (j:=3) (v := .bool b),h.zf,h.zl,h.zs,h.zr,h.zb,λ q hq=>⟨(h.tn q hq).1,by rw [z];exact (h.tn q hq).2⟩⟩,by rw [z];exact Nat.le_refl _,λ q hq h0=>⟨h0,oth q (λ e=>by rw [e,h.zf] at h0;cases h0)⟩⟩
 obtain ⟨vc,h1⟩:=h.hl.la
 exact ⟨⟨vc,h1.up (λ q hq=>oth q (nf q 2 (h.zl q hq) (by decide)))⟩,hb,h.hl.tn⟩
theorem FA.anew {W w:World} {f:Nat} {L:M.Lg} {S S':M.Sh} {lost:Bool} {ks:List Nat} {C:List M.Ca} {Z:Nat->Nat} {lf:Nat} {va:Option Addr} {sf s':Nat} {T T':Nat->Nat} {ra:Option Addr} {rc:Nat} {ss:List Nat} {B:Nat->Nat->Prop} {n:Nat} (h:FA W w f L S lost ks C Z lf va sf T ra rc ss B) (hs:Has W w s' T' S') (hn : ∀ q,T' q≠0->n<=q) (hZ : ∀ q,n<=q->Z q=0) : ∃ Z',FA W (w.setCell ⟨f,1,none⟩ (.pointer (some ⟨s',0,none⟩))) f L S' lost ks C Z' lf va s' T' ra rc ss B/\(∀ q,q<n->Z' q=Z q)/\(w.setCell ⟨f,1,none⟩ (.pointer (some ⟨s',0,none⟩))).heap.size=w.heap.size/\(∀ q,q≠f->(w.setCell ⟨f,1,none⟩ (.pointer (some ⟨s',0,none⟩))).heap[q]? = w.heap[q]?):=by
 obtain ⟨Z',z1,z2,z3⟩:=tag_new Z n 3 (λ q=>T' q≠0);have fz:W.heap.size<=f:=(h.tn f (by rw [h.zf];decide)).1;have hb:Below W.heap.size W (w.setCell ⟨f,1,none⟩ (.pointer (some ⟨s',0,none⟩))):=h.bl.setCell fz _;have z:(w.setCell ⟨f,1,none⟩ (.pointer (some ⟨s',0,none⟩))).heap.size=w.heap.size:=World.size_setCell ..;have oth : ∀ q,q≠f->(w.setCell ⟨f,1,none⟩ (.pointer (some ⟨s',0,none⟩))).heap[q]? = w.heap[q]? := λ q hq=>heap_setCell_other _ _ _ _ hq;have nf : ∀ q t,Z q=t->t≠1->q≠f:=λ q t h1 h2 e=>h2 (by rw [←h1,e,h.zf])
 have ltn : ∀ q,Z q≠0->q<n:=λ q hq=>by
  by_cases y:q<n
  · exact y
  · exact absurd (hZ q (by omega)) hq
 have old : ∀ q,Z q≠0->Z' q=Z q:=λ q hq=>z1 q (ltn q hq);have ftn:f<n:=ltn f (by rw [h.zf];decide)
 refine ⟨Z',⟨h.len, ?_,⟨hs.sa.up (λ q hq=>oth q (λ e=>by have:=hn q hq;omega)) (by rw [z];exact Nat.le_refl _),hb,hs.tn⟩,λ k hk=>(h.sc k hk).stay hb (by rw [z];exact Nat.le_refl _) (λ q hq=>oth q (nf q _ (h.zb k q hk hq) (by omega))),sp_stay h.ro (λ p hp=>oth _ (nf _ 4 (h.zr p hp) (by decide))),h.box.put (j:=1) (v := .pointer (some ⟨s',0,none⟩)), ?_,λ q hq => ?_,λ q hq=>z2 q (hn q hq) hq,λ p hp => ?_,λ k q hk hq => ?_,λ q hq => ?_⟩,z1,z,oth⟩
 · obtain ⟨vc,h1⟩:=h.hl.la
   exact ⟨⟨vc,h1.up (λ q hq=>oth q (nf q 2 (h.zl q hq) (by decide)))⟩,hb,h.hl.tn⟩
 · rw [old f (by rw [h.zf];decide)];exact h.zf
 · rw [old q (by rw [h.zl q hq];decide)];exact h.zl q hq
 · rw [old _ (by rw [h.zr p hp];decide)];exact h.zr p hp
 · rw [old q (by rw [h.zb k q hk hq];omega)];exact h.zb k q hk hq
 · by_cases y:q<n
   · rw [z1 q y] at hq
     exact ⟨(h.tn q hq).1,by rw [z];exact (h.tn q hq).2⟩
   · by_cases x:T' q=0
     · exact absurd (z3 q (by omega) (λ g=>g x)) hq
     · refine ⟨hs.tn q x, ?_⟩
       rw [z]
       by_cases g:q<w.heap.size
       · exact g
       · exact absurd (hs.sa.lt (by omega)) x
end Go.Proofs.YtaijnacghiloaaaGreatDoor
