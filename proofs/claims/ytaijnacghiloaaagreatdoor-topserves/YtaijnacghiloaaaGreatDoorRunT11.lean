/-
  Several texts as one: Groves, CdLay, CdGrv, CdQd, GCheck.
-/
import Derived.Test.YtaijnacghiloaaaGreatDoorRunT4
import Derived.Test.YtaijnacghiloaaaGreatDoorRunT5
import Derived.Lib.SmallJoins
import Derived.Deep.AppendLies
import Derived.RegionTactic
import Derived.Deep.RegionLaw
import Derived.Test.YtaijnacghiloaaaGreatDoorRunT1
import Derived.Test.YtaijnacghiloaaaGreatDoorRunT2
import Derived.Deep.Cut
import Derived.Deep.CutRange
namespace Go.Proofs.YtaijnacghiloaaaGreatDoor
open Go.ChangeShapes Go.WideShapes Go.ChangeAt Go.RowKit Go.Deep
set_option linter.unusedVariables false
abbrev Tc:=Option Addr×List M.Nd×Nat
def tV (k:Tc):Value := .slice k.1 k.2.1.length k.2.2
def RdT (w:World) (a:Option Addr) (ks:List Tc):Prop :=
 ks.length<=maxLen/\(∀ k∈ks,RdN w k.1 k.2.1)/\(ks ≠ [] -> ∃ b off,a=some ⟨b,off,none⟩/\b<w.heap.size /\ ∀ i (h:i<ks.length),w.cell? ⟨b,off+i,none⟩=some (tV ks[i]))
theorem RdT.below {w w':World} {a:Option Addr} {ks:List Tc} (h:RdT w a ks) (hb:Below w.heap.size w w'):RdT w' a ks :=
 ⟨h.1,λ k hk=>(h.2.1 k hk).below hb,λ hn=>by
  obtain ⟨b,off,e,hl,hc⟩:=h.2.2 hn
  exact ⟨b,off,e,Nat.lt_of_lt_of_le hl hb.size,λ i hi=>(hb.cell (p:=⟨b,off+i,none⟩) hl).trans (hc i hi)⟩⟩
def tl (ks:List Tc):List (List M.Nd):=ks.map (·.2.1)
theorem tl_len (ks:List Tc):(tl ks).length=ks.length:=by simp [tl]
theorem tl_at (ks:List Tc) {k:Nat} (h:k<ks.length):(tl ks).getD k []=ks[k].2.1:=by
 rw [M.getD_at (by rw [tl_len];exact h)];simp [tl]
structure Gr where
 f:Int
 w:Int
 wa:Option Addr
 ws:List Int
 wc:Nat
 ta:Option Addr
 ks:List Tc
 tc:Nat
def Gr.v (G:Gr):Value := .agg #[.int .i64 G.f, .int .i64 G.w, .slice G.wa G.ws.length G.wc, .slice G.ta G.ks.length G.tc]
def Gr.m (G:Gr):M.Gv:=(G.f,G.w,G.ws,tl G.ks)
def RdG (w:World) (G:Gr):Prop:=Rd w G.wa G.ws/\RdT w G.ta G.ks
theorem RdG.below {w w':World} {G:Gr} (h:RdG w G) (hb:Below w.heap.size w w'):RdG w' G:=⟨h.1.below hb,h.2.below hb⟩
end Go.Proofs.YtaijnacghiloaaaGreatDoor

namespace Go.Proofs.YtaijnacghiloaaaGreatDoor
open Go.ChangeShapes Go.WideShapes Go.ChangeAt Go.RowKit Go.Lib
set_option linter.unusedVariables false
theorem rdN_same {W W':World} {a:Option Addr} {ts:List M.Nd} (h:RdN W a ts) (hs:W.heap.size<=W'.heap.size) (he : ∀ p,a=some p->W'.heap[p.block]? = W.heap[p.block]?):RdN W' a ts :=
 ⟨h.1,λ hn=>by
  obtain ⟨b,off,e,hl,hc⟩:=h.2 hn;have hb:W'.heap[b]? = W.heap[b]? := he _ e;have k : ∀ j v,W.cell? ⟨b,j,none⟩=some v->W'.cell? ⟨b,j,none⟩=some v:=λ j v hv=>(World.cell?_of_block (a:=⟨b,j,none⟩) hb).trans hv
  exact ⟨b,off,e,Nat.lt_of_lt_of_le hl hs,λ i hi=>⟨k _ _ (hc i hi).1,k _ _ (hc i hi).2.1,k _ _ (hc i hi).2.2.1,k _ _ (hc i hi).2.2.2.1,k _ _ (hc i hi).2.2.2.2.1,k _ _ (hc i hi).2.2.2.2.2⟩⟩⟩
structure GW (w:World) (g rb gb:Nat) (f m:Int) (kw:Nat) (ya:Option Addr) (yc:Nat) (ws:List Int) (kt:Nat) (xa:Option Addr) (xc:Nat) (D:List Tc) (W:World):Prop where
 gr:w.grownBy W (some g)
 r : ∀ j,j<4 -> ∃ v,W.cell? ⟨rb,j,none⟩=some v
 rf : ∀ j,W.frozen? ⟨rb,j,none⟩=false
 c0:W.cell? ⟨gb,0,none⟩=some (.int .i64 f)
 c1:W.cell? ⟨gb,1,none⟩=some (.int .i64 m)
 c2:W.cell? ⟨gb,2,none⟩=some (.slice ya kw yc)
 c3:W.cell? ⟨gb,3,none⟩=some (.slice xa kt xc)
 fr : ∀ j,W.frozen? ⟨gb,j,none⟩=false
 lt:gb<W.heap.size
 ge:rb<gb
 wr:w.heap.size<=rb
 gn:g≠rb/\g<gb
 ow:W.ownsRow (gb+1) 3 1 (.slice ya kw yc) kw (ws.map (Value.int .i64))
 ox:W.ownsRow (gb+1) 27 1 (.slice xa kt xc) kt (D.map tV)
 xy : ∀ q,(Value.slice ya kw yc).ownBlock=some q->(Value.slice xa kt xc).ownBlock≠some q
 tr : ∀ t∈D,RdN W t.1 t.2.1 /\ ∀ p,t.1=some p->gb<p.block/\p.block<W.heap.size/\(Value.slice ya kw yc).ownBlock≠some p.block/\(Value.slice xa kt xc).ownBlock≠some p.block
theorem kept_not {W:World} {e size n B:Nat} {v:Value} {l:List Value} {r:Option Nat} {W':World} (ho:W.ownsRow B e size v n l) (hg:W.grownBy W' r) (hr : ∀ q,v.ownBlock=some q->r≠some q):W'.ownsRow B e size v n l:=by
 refine ho.kept hg ?_
 cases hv:v.ownBlock with
 | none=>exact .inl rfl
 | some q=>exact .inr λ e=>hr q hv e.symm
theorem GW.new {w:World} {g:Nat} {f:Int} {m:Int} {w2:World} (hg:(w.alloc (.cells #[.int .i64 0, .int .i64 0, .slice none 0 0, .slice none 0 0] 35)).grownBy w2 (some g)) (gl:g<w.heap.size):GW w g w.heap.size w2.heap.size f m 0 none 0 [] 0 none 0 [] (w2.alloc (.cells #[.int .i64 f, .int .i64 m, .slice none 0 0, .slice none 0 0] 35)):=by
 have n:=new_grown hg gl
 have z:w.heap.size<w2.heap.size:=by have:=hg.size;simp at this;omega
 have bl:=(Below.refl w2.heap.size w2).alloc (Nat.le_refl _) (.cells #[.int .i64 f, .int .i64 m, .slice none 0 0, .slice none 0 0] 35);have k:=new_kept (w:=w2) (cs:=#[.int .i64 f, .int .i64 m, .slice none 0 0, .slice none 0 0]) (t := 35) rfl (Below.refl _ _)
 refine ⟨grown_trans (grown_new hg) (World.grownBy_alloc w2 _ (some g)) (.inl rfl),λ j hj => ?_,λ j=>(bl.frozen (p:=⟨w.heap.size,j,none⟩) z).trans (n.2 j),k.1 0 _ rfl,k.1 1 _ rfl,k.1 2 _ rfl,k.1 3 _ rfl,k.2,by simp,z,Nat.le_refl _,⟨by omega,by omega⟩,World.ownsRow_nil _ _ _ _,World.ownsRow_nil _ _ _ _,(λ q hq=>by cases hq),(λ t ht=>by cases ht)⟩
 rw [show (w2.alloc (.cells #[.int .i64 f, .int .i64 m, .slice none 0 0, .slice none 0 0] 35)).cell? ⟨w.heap.size,j,none⟩=w2.cell? ⟨w.heap.size,j,none⟩ from bl.cell (p:=⟨w.heap.size,j,none⟩) z]
 match j,hj with
 | 0,_=>exact ⟨_,n.1 0 _ rfl⟩
 | 1,_=>exact ⟨_,n.1 1 _ rfl⟩
 | 2,_=>exact ⟨_,n.1 2 _ rfl⟩
 | 3,_=>exact ⟨_,n.1 3 _ rfl⟩
theorem GW.rdr {w:World} {g:Nat} {rb:Nat} {gb:Nat} {f:Int} {m:Int} {kw:Nat} {ya:Option Addr} {yc:Nat} {ws:List Int} {kt:Nat} {xa:Option Addr} {xc:Nat} {D:List Tc} {W:World} (h:GW w g rb gb f m kw ya yc ws kt xa xc D W) {W':World} (hg:W.grownBy W' (some g)):GW w g rb gb f m kw ya yc ws kt xa xc D W':=by
 have hge:=h.ge;have hlt:=h.lt;have hgn:=h.gn;have b : ∀ q,(q=rb∨gb<=q)->q<W.heap.size->W'.heap[q]? = W.heap[q]? := λ q h1 h2=>hg.block q h2 (λ e=>by cases e;omega);have cc : ∀ q j,(q=rb∨gb<=q)->q<W.heap.size->W'.cell? ⟨q,j,none⟩=W.cell? ⟨q,j,none⟩:=λ q j h1 h2=>World.cell?_of_block (a:=⟨q,j,none⟩) (b q h1 h2);have ff : ∀ q j,(q=rb∨gb<=q)->q<W.heap.size->W'.frozen? ⟨q,j,none⟩=W.frozen? ⟨q,j,none⟩:=λ q j h1 h2=>World.frozen?_of_block (a:=⟨q,j,none⟩) (b q h1 h2)
 refine ⟨grown_trans h.gr hg (.inl rfl),λ j hj => ?_,λ j=>(ff _ j (.inl rfl) (by omega)).trans (h.rf j),(cc _ 0 (.inr (Nat.le_refl _)) hlt).trans h.c0,(cc _ 1 (.inr (Nat.le_refl _)) hlt).trans h.c1,(cc _ 2 (.inr (Nat.le_refl _)) hlt).trans h.c2,(cc _ 3 (.inr (Nat.le_refl _)) hlt).trans h.c3,λ j=>(ff _ j (.inr (Nat.le_refl _)) hlt).trans (h.fr j),Nat.lt_of_lt_of_le hlt hg.size,hge,h.wr,hgn,kept_not h.ow hg (λ q hq e=>by cases e;have:=(h.ow.lt _ hq).1;omega),kept_not h.ox hg (λ q hq e=>by cases e;have:=(h.ox.lt _ hq).1;omega),h.xy,λ t ht => ?_⟩
 · rw [cc _ j (.inl rfl) (by omega)];exact h.r j hj
 · obtain ⟨t1,t2⟩:=h.tr t ht
   exact ⟨rdN_same t1 hg.size (λ p hp=>b _ (.inr (by have:=(t2 p hp).1;omega)) (t2 p hp).2.1),λ p hp=>⟨(t2 p hp).1,Nat.lt_of_lt_of_le (t2 p hp).2.1 hg.size,(t2 p hp).2.2⟩⟩
theorem GW.weight {w:World} {g:Nat} {rb:Nat} {gb:Nat} {f:Int} {m:Int} {kw:Nat} {ya:Option Addr} {yc:Nat} {ws:List Int} {kt:Nat} {xa:Option Addr} {xc:Nat} {D:List Tc} {W:World} (h:GW w g rb gb f m kw ya yc ws kt xa xc D W) {n:Int} {o:Obj} {w5:World} {g2 cap:Nat}
 (hown:w5.ownsRow (gb+1) 3 1 (.slice (some ⟨g2,0,none⟩) (kw+1) cap) (kw+1) (ws.map (Value.int .i64) ++ [.int .i64 n])) (hgrow:(W.alloc o).grownBy w5 (Value.slice ya kw yc).ownBlock) (hat:(Value.slice ya kw yc).ownBlock=some g2∨g2=W.heap.size+1) :
 (w5.cell? ⟨gb,2,none⟩=some (.slice ya kw yc)/\w5.frozen? ⟨gb,2,none⟩=false)/\W.grownBy w5 (Value.slice ya kw yc).ownBlock/\GW w g rb gb f m (kw+1) (some ⟨g2,0,none⟩) cap (ws ++ [n]) kt xa xc D (w5.setCell ⟨gb,2,none⟩ (.slice (some ⟨g2,0,none⟩) (kw+1) cap)):=by
 have hge:=h.ge;have hlt:=h.lt;have hwr:=h.wr;have hgr:W.grownBy w5 (Value.slice ya kw yc).ownBlock:=grown_new hgrow;have yb : ∀ q,(Value.slice ya kw yc).ownBlock=some q->gb+1<=q/\q<W.heap.size:=λ q e=>h.ow.lt q e;have b5 : ∀ q,q<W.heap.size->(Value.slice ya kw yc).ownBlock≠some q->w5.heap[q]? = W.heap[q]? := λ q h1 h2=>hgr.block q h1 (λ e=>h2 e.symm);have cf : ∀ j,w5.cell? ⟨gb,j,none⟩=W.cell? ⟨gb,j,none⟩:=λ j=>World.cell?_of_block (a:=⟨gb,j,none⟩) (b5 gb hlt (λ e=>by have:=(yb _ e).1;omega));have ff : ∀ j,w5.frozen? ⟨gb,j,none⟩=W.frozen? ⟨gb,j,none⟩:=λ j=>World.frozen?_of_block (a:=⟨gb,j,none⟩) (b5 gb hlt (λ e=>by have:=(yb _ e).1;omega));have gs:w5.grownBy (w5.setCell ⟨gb,2,none⟩ (.slice (some ⟨g2,0,none⟩) (kw+1) cap)) (some gb):=grown_set;have b6 : ∀ q,q<W.heap.size->(Value.slice ya kw yc).ownBlock≠some q->q≠gb->(w5.setCell ⟨gb,2,none⟩ (.slice (some ⟨g2,0,none⟩) (kw+1) cap)).heap[q]? = W.heap[q]? := λ q h1 h2 h3=>(gs.block q (Nat.lt_of_lt_of_le h1 hgr.size) (λ e=>h3 (by cases e;rfl))).trans (b5 q h1 h2)
 have rbl:rb<W.heap.size:=by omega
 have rq:(Value.slice ya kw yc).ownBlock≠some rb:=λ e=>by have:=(yb _ e).1;omega
 have ob:(Value.slice (some ⟨g2,0,none⟩) (kw+1) cap).ownBlock=some g2:=rfl
 have gn : ∀ q,q<W.heap.size->(Value.slice ya kw yc).ownBlock≠some q->g2≠q:=λ q h1 h2 e=>by
  rcases hat with z | z
  · exact h2 (by rw [z,e])
  · omega
 refine ⟨⟨(cf 2).trans h.c2,(ff 2).trans (h.fr 2)⟩,hgr,⟨grown_trans (grown_trans h.gr hgr (.inr (λ q hq=>by have:=(yb q hq).1;omega))) gs (.inr (λ q hq=>by cases hq;omega)),λ j hj => ?_,λ j => ?_, ?_, ?_, ?_, ?_,λ j => ?_, ?_,hge,hwr,h.gn, ?_, ?_,λ q hq => ?_,λ t ht => ?_⟩⟩
 · rw [World.cell?_of_block (a:=⟨rb,j,none⟩) (b6 rb rbl rq (by omega))];exact h.r j hj
 · rw [World.frozen?_of_block (a:=⟨rb,j,none⟩) (b6 rb rbl rq (by omega))];exact h.rf j
 · rw [World.cell?_setCell_other _ _ _ _ (by intro e;cases e)];exact (cf 0).trans h.c0
 · rw [World.cell?_setCell_other _ _ _ _ (by intro e;cases e)];exact (cf 1).trans h.c1
 · exact World.cell?_setCell_same (u := .slice ya kw yc) _ _ _ ((cf 2).trans h.c2)
 · rw [World.cell?_setCell_other _ _ _ _ (by intro e;cases e)];exact (cf 3).trans h.c3
 · rw [World.frozen?_setCell];exact (ff j).trans (h.fr j)
 · have:=gs.size;have:=hgr.size;omega
 · rw [List.map_append]
   exact kept_not hown gs (λ q hq e=>by cases e;have:=(hown.lt _ hq).1;omega)
 · exact kept_not (kept_not h.ox hgr (λ q hq e=>h.xy q e hq)) gs (λ q hq e=>by cases e;have:=(h.ox.lt _ hq).1;omega)
 · intro e
   rw [ob] at hq;cases hq;exact gn _ (h.ox.lt _ e).2 (λ z=>h.xy _ z e) rfl
 · obtain ⟨t1,t2⟩:=h.tr t ht
   refine ⟨rdN_same t1 (by have:=gs.size;have:=hgr.size;omega) (λ p hp=>b6 _ (t2 p hp).2.1 (t2 p hp).2.2.1 (by have:=(t2 p hp).1;omega)),λ p hp=>⟨(t2 p hp).1,by have:=gs.size;have:=hgr.size;have:=(t2 p hp).2.1;omega,λ e => ?_,(t2 p hp).2.2.2⟩⟩
   rw [ob] at e;cases e;exact gn _ (t2 p hp).2.1 (t2 p hp).2.2.1 rfl
theorem GW.tree {w:World} {g:Nat} {rb:Nat} {gb:Nat} {f:Int} {m:Int} {kw:Nat} {ya:Option Addr} {yc:Nat} {ws:List Int} {kt:Nat} {xa:Option Addr} {xc:Nat} {D:List Tc} {W:World} (h:GW w g rb gb f m kw ya yc ws kt xa xc D W) {t:Tc} (ht:RdN W t.1 t.2.1) (hp : ∀ p,t.1=some p->gb<p.block/\p.block<W.heap.size/\(Value.slice ya kw yc).ownBlock≠some p.block/\(Value.slice xa kt xc).ownBlock≠some p.block) {o:Obj} {w5:World} {g2 cap:Nat}
 (hown:w5.ownsRow (gb+1) 27 1 (.slice (some ⟨g2,0,none⟩) (kt+1) cap) (kt+1) (D.map tV ++ [tV t])) (hgrow:(W.alloc o).grownBy w5 (Value.slice xa kt xc).ownBlock) (hat:(Value.slice xa kt xc).ownBlock=some g2∨g2=W.heap.size+1) :
 (w5.cell? ⟨gb,3,none⟩=some (.slice xa kt xc)/\w5.frozen? ⟨gb,3,none⟩=false)/\W.grownBy w5 (Value.slice xa kt xc).ownBlock/\GW w g rb gb f m kw ya yc ws (kt+1) (some ⟨g2,0,none⟩) cap (D ++ [t]) (w5.setCell ⟨gb,3,none⟩ (.slice (some ⟨g2,0,none⟩) (kt+1) cap)):=by
 have hge:=h.ge;have hlt:=h.lt;have hwr:=h.wr;have hgr:W.grownBy w5 (Value.slice xa kt xc).ownBlock:=grown_new hgrow;have yb : ∀ q,(Value.slice xa kt xc).ownBlock=some q->gb+1<=q/\q<W.heap.size:=λ q e=>h.ox.lt q e;have b5 : ∀ q,q<W.heap.size->(Value.slice xa kt xc).ownBlock≠some q->w5.heap[q]? = W.heap[q]? := λ q h1 h2=>hgr.block q h1 (λ e=>h2 e.symm);have cf : ∀ j,w5.cell? ⟨gb,j,none⟩=W.cell? ⟨gb,j,none⟩:=λ j=>World.cell?_of_block (a:=⟨gb,j,none⟩) (b5 gb hlt (λ e=>by have:=(yb _ e).1;omega));have ff : ∀ j,w5.frozen? ⟨gb,j,none⟩=W.frozen? ⟨gb,j,none⟩:=λ j=>World.frozen?_of_block (a:=⟨gb,j,none⟩) (b5 gb hlt (λ e=>by have:=(yb _ e).1;omega));have gs:w5.grownBy (w5.setCell ⟨gb,3,none⟩ (.slice (some ⟨g2,0,none⟩) (kt+1) cap)) (some gb):=grown_set;have b6 : ∀ q,q<W.heap.size->(Value.slice xa kt xc).ownBlock≠some q->q≠gb->(w5.setCell ⟨gb,3,none⟩ (.slice (some ⟨g2,0,none⟩) (kt+1) cap)).heap[q]? = W.heap[q]? := λ q h1 h2 h3=>(gs.block q (Nat.lt_of_lt_of_le h1 hgr.size) (λ e=>h3 (by cases e;rfl))).trans (b5 q h1 h2)
 have rbl:rb<W.heap.size:=by omega
 have rq:(Value.slice xa kt xc).ownBlock≠some rb:=λ e=>by have:=(yb _ e).1;omega
 have ob:(Value.slice (some ⟨g2,0,none⟩) (kt+1) cap).ownBlock=some g2:=rfl
 have gn : ∀ q,q<W.heap.size->(Value.slice xa kt xc).ownBlock≠some q->g2≠q:=λ q h1 h2 e=>by
  rcases hat with z | z
  · exact h2 (by rw [z,e])
  · omega
 refine ⟨⟨(cf 3).trans h.c3,(ff 3).trans (h.fr 3)⟩,hgr,⟨grown_trans (grown_trans h.gr hgr (.inr (λ q hq=>by have:=(yb q hq).1;omega))) gs (.inr (λ q hq=>by cases hq;omega)),λ j hj => ?_,λ j => ?_, ?_, ?_, ?_, ?_,λ j => ?_, ?_,hge,hwr,h.gn, ?_, ?_,λ q hq e => ?_,λ t' ht' => ?_⟩⟩
 · rw [World.cell?_of_block (a:=⟨rb,j,none⟩) (b6 rb rbl rq (by omega))];exact h.r j hj
 · rw [World.frozen?_of_block (a:=⟨rb,j,none⟩) (b6 rb rbl rq (by omega))];exact h.rf j
 · rw [World.cell?_setCell_other _ _ _ _ (by intro e;cases e)];exact (cf 0).trans h.c0
 · rw [World.cell?_setCell_other _ _ _ _ (by intro e;cases e)];exact (cf 1).trans h.c1
 · rw [World.cell?_setCell_other _ _ _ _ (by intro e;cases e)];exact (cf 2).trans h.c2
 · exact World.cell?_setCell_same (u := .slice xa kt xc) _ _ _ ((cf 3).trans h.c3)
 · rw [World.frozen?_setCell];exact (ff j).trans (h.fr j)
 · have:=gs.size;have:=hgr.size;omega
 · exact kept_not (kept_not h.ow hgr (λ q hq e=>h.xy q hq e)) gs (λ q hq e=>by cases e;have:=(h.ow.lt _ hq).1;omega)
 · rw [List.map_append]
   exact kept_not hown gs (λ q hq e=>by cases e;have:=(hown.lt _ hq).1;omega)
 · rw [ob] at e
   cases e;exact gn _ (h.ow.lt _ hq).2 (λ z=>h.xy _ hq z) rfl
 · have one : ∀ t:Tc,RdN W t.1 t.2.1->(∀ p,t.1=some p->gb<p.block/\p.block<W.heap.size/\(Value.slice ya kw yc).ownBlock≠some p.block/\(Value.slice xa kt xc).ownBlock≠some p.block)->RdN (w5.setCell ⟨gb,3,none⟩ (.slice (some ⟨g2,0,none⟩) (kt+1) cap)) t.1 t.2.1 /\ ∀ p,t.1=some p->gb<p.block/\p.block<(w5.setCell ⟨gb,3,none⟩ (.slice (some ⟨g2,0,none⟩) (kt+1) cap)).heap.size/\(Value.slice ya kw yc).ownBlock≠some p.block/\(Value.slice (some ⟨g2,0,none⟩) (kt+1) cap).ownBlock≠some p.block:=λ t t1 t2=>by
    refine ⟨rdN_same t1 (by have:=gs.size;have:=hgr.size;omega) (λ p hp=>b6 _ (t2 p hp).2.1 (t2 p hp).2.2.2 (by have:=(t2 p hp).1;omega)),λ p hp=>⟨(t2 p hp).1,by have:=gs.size;have:=hgr.size;have:=(t2 p hp).2.1;omega,(t2 p hp).2.2.1,λ e => ?_⟩⟩
    rw [ob] at e;cases e;exact gn _ (t2 p hp).2.1 (t2 p hp).2.2.2 rfl
   rcases List.mem_append.1 ht' with z | z
   · exact one t' (h.tr t' z).1 (h.tr t' z).2
   · rw [List.mem_singleton] at z
     subst z;exact one _ ht hp
theorem GW.fresh {w:World} {g:Nat} {rb:Nat} {gb:Nat} {f:Int} {m:Int} {kw:Nat} {ya:Option Addr} {yc:Nat} {ws:List Int} {kt:Nat} {xa:Option Addr} {xc:Nat} {D:List Tc} {W:World} (h:GW w g rb gb f m kw ya yc ws kt xa xc D W) {W':World} {va:Option Addr} {vc:Nat} {TS:List M.Nd} (ho:W'.ownsRow W.heap.size 26 6 (.slice va TS.length vc) TS.length (ndCells TS)) (hl:TS.length<=1000):RdN W' va TS /\ ∀ p,va=some p->gb<p.block/\p.block<W'.heap.size/\(Value.slice ya kw yc).ownBlock≠some p.block/\(Value.slice xa kt xc).ownBlock≠some p.block:=by
 obtain ⟨a2,c2,e2,hr,hp⟩:=own_rdN rfl (by unfold maxLen;omega) ho;rw [Value.slice.injEq] at e2;have ea:=e2.1;subst ea
 refine ⟨hr,λ p hp' => ?_⟩
 have b1:=hp p hp';have b2:=h.lt
 refine ⟨by omega, ?_,λ e=>by have:=(h.ow.lt _ e).2;omega,λ e=>by have:=(h.ox.lt _ e).2;omega⟩
 subst hp';exact (ho.lt p.block rfl).2
theorem grown4_at {W:World} {p:Nat} {x0 x1 x2 x3:Value}:W.grownBy ((((W.setCell ⟨p,0,none⟩ x0).setCell ⟨p,1,none⟩ x1).setCell ⟨p,2,none⟩ x2).setCell ⟨p,3,none⟩ x3) (some p) :=
 grown_trans (grown_trans (grown_trans grown_set grown_set (.inl rfl)) grown_set (.inl rfl)) grown_set (.inl rfl)
theorem M.lTree_len (b:List Nat) (s:M.In):(M.lTree b s).1.length<=63:=by
 have:=M.rMany_in (b:=b) (s:=s) (most:=63) (by decide);unfold M.lTree;rw [M.lNodes_len];omega
def NewH (W w':World) (J:Gr):Prop := ∀ W'':World,w'.heap.size<=W''.heap.size->(∀ b,W.heap.size<=b->b<w'.heap.size->W''.heap[b]? = w'.heap[b]?)->RdG W'' J
theorem GW.out_at {w:World} {g:Nat} {rb:Nat} {gb:Nat} {f:Int} {m:Int} {kw:Nat} {ya:Option Addr} {yc:Nat} {ws:List Int} {kt:Nat} {xa:Option Addr} {xc:Nat} {D:List Tc} {W:World} (h:GW w g rb gb f m kw ya yc ws kt xa xc D W) (hw:ws.length=kw) (hD:D.length=kt) (hk:kt<=1000) (W'':World) (hz:W.heap.size<=W''.heap.size) (hb : ∀ q,gb<q->q<W.heap.size->W''.heap[q]? = W.heap[q]?):RdG W'' ⟨f,m,ya,ws,yc,xa,D,xc⟩:=by
 have cc : ∀ q j,gb<q->q<W.heap.size->W''.cell? ⟨q,j,none⟩=W.cell? ⟨q,j,none⟩:=λ q j h1 h2=>World.cell?_of_block (a:=⟨q,j,none⟩) (hb q h1 h2);subst hw;subst hD
 refine ⟨?_,⟨by unfold maxLen;show D.length<=_;omega,λ t ht => ?_,λ hn => ?_⟩⟩
 · obtain ⟨a2,c2,e2,hr,_⟩:=own_rd h.ow
   refine ⟨hr.1,λ hn => ?_⟩
   rcases h.ow.2 with ⟨_,h0⟩ | ⟨q,cap,cur,hv,hbq,hgq,_⟩
   · exact absurd (List.length_eq_zero_iff.1 h0) hn
   · rw [Value.slice.injEq] at hv
     have ql:=(Array.getElem?_eq_some_iff.1 hgq).1
     refine ⟨q,0,hv.1,by omega,λ i hi => ?_⟩
     have hi':i<ws.length:=hi;rw [cc q _ (by omega) ql,Nat.zero_add];have ho:=h.ow;rw [hv.1] at ho;rw [ho.cellAt i (by omega),List.getElem?_map,List.getElem?_eq_getElem hi'];simp [List.getD,hi']
 · obtain ⟨t1,t2⟩:=h.tr t ht
   refine ⟨t1.1,λ hn => ?_⟩
   obtain ⟨b,off,e,hl,hcc⟩:=t1.2 hn;have k : ∀ j v,W.cell? ⟨b,j,none⟩=some v->W''.cell? ⟨b,j,none⟩=some v:=λ j v hv=>(cc b j (t2 _ e).1 hl).trans hv
   exact ⟨b,off,e,by omega,λ i hi=>⟨k _ _ (hcc i hi).1,k _ _ (hcc i hi).2.1,k _ _ (hcc i hi).2.2.1,k _ _ (hcc i hi).2.2.2.1,k _ _ (hcc i hi).2.2.2.2.1,k _ _ (hcc i hi).2.2.2.2.2⟩⟩
 · rcases h.ox.2 with ⟨_,h0⟩ | ⟨q,cap,cur,hv,hbq,hgq,_⟩
   · exact absurd (List.length_eq_zero_iff.1 h0) hn
   · rw [Value.slice.injEq] at hv
     have ql:=(Array.getElem?_eq_some_iff.1 hgq).1
     refine ⟨q,0,hv.1,by omega,λ i hi => ?_⟩
     have hi':i<D.length:=hi;rw [cc q _ (by omega) ql,Nat.zero_add];have ho:=h.ox;rw [hv.1] at ho;rw [ho.cellAt i (by omega),List.getElem?_map,List.getElem?_eq_getElem hi'];rfl
theorem GW.out {w:World} {g:Nat} {rb:Nat} {gb:Nat} {f:Int} {m:Int} {kw:Nat} {ya:Option Addr} {yc:Nat} {ws:List Int} {kt:Nat} {xa:Option Addr} {xc:Nat} {D:List Tc} {W:World} (h:GW w g rb gb f m kw ya yc ws kt xa xc D W) (hw:ws.length=kw) (hD:D.length=kt) (hk:kt<=1000) {W':World} (hs:W'.grownBy W' none->W.heap.size<=W'.heap.size) (hb : ∀ q,gb<q->q<W.heap.size->W'.heap[q]? = W.heap[q]?):NewH w W' ⟨f,m,ya,ws,yc,xa,D,xc⟩:=by
 have hz:=hs (World.grownBy.refl _ _);have hge:=h.ge;have hwr:=h.wr;intro W'' hs'' hc'';exact h.out_at hw hD hk W'' (by omega) (λ q h1 h2=>(hc'' q (by omega) (by omega)).trans (hb q h1 h2))
theorem infoTs:(Tryz.prog.info? 27).map (λ i=>(i.zero,i.size,i.bytes))=some (some (.slice none 0 0),1,24):=by kernel_rfl
def M.lTrees (b:List Nat):Nat->M.In->List (Int×List M.Nd)×M.In
 | 0,s=>([],s)
 | k+1,s=>(((M.rNum b s).1,(M.lTree b (M.rNum b s).2).1) :: (M.lTrees b k (M.lTree b (M.rNum b s).2).2).1,(M.lTrees b k (M.lTree b (M.rNum b s).2).2).2)
def M.lAll (b:List Nat):List (Int×List M.Nd)×M.In:=M.lTrees b (M.rHead b).1.2.2.toNat (M.rHead b).2
def M.lGrove (b:List Nat):M.Gv:=((M.rHead b).1.1,(M.rHead b).1.2.1,(M.lAll b).1.map (·.1),(M.lAll b).1.map (·.2))
theorem M.lTree_bad {b:List Nat} {s:M.In} (h:s.bad≠0):(M.lTree b s).2=s:=by
 unfold M.lTree M.rMany;rw [M.rNum_bad h,if_neg (λ z=>h z.1),if_pos h];exact M.lNodes_bad _ h
theorem M.lTrees_bad {b:List Nat} : ∀ (k:Nat) {s:M.In},s.bad≠0->(M.lTrees b k s).2=s
 | 0,s,h=>rfl
 | k+1,s,h=>by
   show (M.lTrees b k (M.lTree b (M.rNum b s).2).2).2=s;rw [M.rNum_bad h,M.lTree_bad h];exact M.lTrees_bad k h
theorem M.lTree_is (b:List Nat) (s:M.In):(M.lTree b (M.rNum b s).2).2=(M.rTree b s).2/\((M.rTree b s).2.bad=0->((M.rNum b s).1,(M.lTree b (M.rNum b s).2).1)=(M.rTree b s).1):=by
 have:=M.lNodes_is (b:=b) (M.rMany b 63 (M.rNum b s).2).1.toNat (M.rMany b 63 (M.rNum b s).2).2
 exact ⟨this.1,λ h=>by show (_,(M.lNodes b _ _).1)=_;rw [this.2 h];rfl⟩
theorem M.rTrees_bad {b:List Nat} {s:M.In} (h:s.bad≠0) (k:Nat):M.rTrees b k s=([],s):=by
 cases k with
 | zero=>rfl
 | succ k=>show (if _ then _ else _)=_;rw [if_pos h]
theorem M.lTrees_is {b:List Nat} : ∀ (k:Nat) (s:M.In),(M.lTrees b k s).2=(M.rTrees b k s).2/\((M.rTrees b k s).2.bad=0->(M.lTrees b k s).1=(M.rTrees b k s).1)
 | 0,s=>⟨rfl,λ _=>rfl⟩
 | k+1,s=>by
   by_cases q:s.bad=0
   · have e:M.rTrees b (k+1) s=((M.rTree b s).1 :: (M.rTrees b k (M.rTree b s).2).1,(M.rTrees b k (M.rTree b s).2).2):=by
      show (if _ then _ else _)=_;rw [if_neg (by simp [q])]
     have t:=M.lTree_is b s;have ih:=M.lTrees_is (b:=b) k (M.rTree b s).2
     have el:M.lTrees b (k+1) s=(((M.rNum b s).1,(M.lTree b (M.rNum b s).2).1) :: (M.lTrees b k (M.rTree b s).2).1,(M.lTrees b k (M.rTree b s).2).2):=by
      show (_ :: (M.lTrees b k (M.lTree b (M.rNum b s).2).2).1,(M.lTrees b k (M.lTree b (M.rNum b s).2).2).2)=_;rw [t.1]
     rw [e,el]
     refine ⟨ih.1,λ h => ?_⟩
     have hb:(M.rTree b s).2.bad=0:=by
      by_cases z:(M.rTree b s).2.bad=0
      · exact z
      · have h':(M.rTrees b k (M.rTree b s).2).2.bad=0:=h
        rw [M.rTrees_bad z] at h';exact absurd h' z
     show _ :: _=_ :: _;rw [t.2 hb,ih.2 h]
   · rw [M.rTrees_bad q]
     exact ⟨M.lTrees_bad (k+1) q,λ h=>absurd h q⟩
theorem M.lAll_is (b:List Nat):(M.lAll b).2=(M.rAll b).2/\((M.rAll b).2.bad=0->M.lGrove b=M.rGrove b):=by
 have:=M.lTrees_is (b:=b) (M.rHead b).1.2.2.toNat (M.rHead b).2
 refine ⟨this.1,λ h => ?_⟩
 have e:(M.lAll b).1=(M.rAll b).1:=this.2 h;unfold M.lGrove M.rGrove;rw [e]
set_option maxHeartbeats 16000000 in
set_option maxRecDepth 10000 in
theorem groveR {w:World} {g:Nat} {a:Option Addr} {bs:List Nat} {c:Nat} (h:Rdr w g a bs c M.in0):Calls Tryz.prog 136 #[.pointer (some ⟨g,0,none⟩)] w λ e w' => ∃ O:Gr,e = .returned O.v/\O.m=M.lGrove bs/\NewH w w' O/\Rdr w' g a bs c (M.lAll bs).2/\w.grownBy w' (some g):=by
 have GL:=hide h.lt;have H0:=hide h;have HA:=hide (h.alloc (.cells #[.int .i64 0, .int .i64 0, .slice none 0 0, .slice none 0 0] 35))
 obtain ⟨⟨n1,s1⟩,h1⟩ : ∃ R,M.rNum bs M.in0=R:=⟨_,rfl⟩
 obtain ⟨⟨n2,s2⟩,h2⟩ : ∃ R,M.rNum bs s1=R:=⟨_,rfl⟩
 obtain ⟨⟨m3,s3⟩,h3⟩ : ∃ R,M.rMany bs 12 s2=R:=⟨_,rfl⟩
 have N1:=hide (λ (W:World) (h:Rdr W g a bs c M.in0)=>numR h);have N2:=hide (λ (W:World) (h:Rdr W g a bs c s1)=>numR h);have C3:=hide (λ (W:World) (h:Rdr W g a bs c s2)=>cntR 12 h);have mi:=M.rMany_in (b:=bs) (s:=s2) (most:=12) (by decide);rw [h1] at N1;rw [h2] at N2;rw [h3] at C3 mi
 have EH:Hid (M.rHead bs=((n1,n2,m3),s3)):=by
  unfold Hid M.rHead;rw [h1];simp only;rw [h2];simp only;rw [h3]
 obtain ⟨n,rfl⟩ : ∃ n:Nat,m3=(n:Int):=⟨m3.toNat,by simp only at mi;omega⟩
 have n12:n<=12:=by simp only at mi;omega
 have EA:Hid (M.lAll bs=M.lTrees bs n s3):=by
  unfold Hid M.lAll;rw [EH.out];simp only [Int.toNat_natCast]
 have EG:Hid (M.lGrove bs=(n1,n2,(M.lAll bs).1.map (·.1),(M.lAll bs).1.map (·.2))):=by
  unfold Hid M.lGrove;rw [EH.out]
 clear h h1 h2 h3 mi EH;generalize M.lAll bs=Z at *;generalize M.lGrove bs=G at *;simp only at N1 N2 C3
 go_enter Tryz.func136, Tryz.ntmps136
 go_upto_region 2 with (first
  | (go_at_call 153;refine (N2.out _ I1.out).mono ?_;rintro e w2 ⟨rfl,i2,g2⟩;have I2:=hide i2;have G2:=hide (grown_trans G1.out g2 (.inl rfl));clear i2 g2)
  | (go_at_call 153;refine (N1.out _ HA.out).mono ?_;rintro e w1 ⟨rfl,i1,g1⟩;have I1:=hide i1;have G1:=hide g1;clear i1 g1))
 have GW0:Hid (GW w g w.heap.size w2.heap.size n1 n2 0 none 0 [] 0 none 0 [] (w2.alloc (.cells #[.int .i64 n1, .int .i64 n2, .slice none 0 0, .slice none 0 0] 35))):=GW.new G2.out GL.out;have I2a:=hide (I2.out.alloc (.cells #[.int .i64 n1, .int .i64 n2, .slice none 0 0, .slice none 0 0] 35))
 obtain ⟨gb,hgb⟩ : ∃ gb,gb=w2.heap.size:=⟨_,rfl⟩
 rw [←hgb] at GW0;simp only [←hgb];have HGB:=hide hgb;clear hgb G1 G2 I1 I2 N1 N2 HA
 go_wp2_with (go_at_call 154;refine (C3.out _ I2a.out).mono ?_;rintro e w3 ⟨rfl,i3,g3⟩;have I3:=hide i3;have W3:=hide (GW0.out.rdr g3);clear i3 g3)
 clear C3 I2a GW0;obtain ⟨i0,hi0,hz0,hz1,hz2⟩:=info_parts info3;have J0:=hide hi0;obtain ⟨t0,ht0,hy0,hy1,hy2⟩:=info_parts infoTs;have J1:=hide ht0;have NN:=hide (λ (W:World) (s:M.In) (h:Rdr W g a bs c s)=>numR h);have TT:=hide (λ (W:World) (s:M.In) (h:Rdr W g a bs c s)=>treeR h);have NA:Hid (∀ k s,M.lTrees bs (k+1) s=(((M.rNum bs s).1,(M.lTree bs (M.rNum bs s).2).1) :: (M.lTrees bs k (M.lTree bs (M.rNum bs s).2).2).1,(M.lTrees bs k (M.lTree bs (M.rNum bs s).2).2).2)):=λ _ _=>rfl;clear hi0 ht0
 go_loopw [11] (λ i wr => ∃ (k:Nat) (ya:Option Addr) (yc:Nat) (xa:Option Addr) (xc:Nat) (P:List (Int×List M.Nd)) (D:List Tc) (s':M.In),k<=n/\i = .int .i64 k/\Hid (P.length=k/\D.length=k/\tl D=P.map (·.2))/\Hid (Z=(P ++ (M.lTrees bs (n-k) s').1,(M.lTrees bs (n-k) s').2))/\Hid (Rdr wr g a bs c s')/\Hid (GW w g w.heap.size gb n1 n2 k ya yc (P.map (·.1)) k xa xc D wr)) (λ i _=>n-(intOf i).toNat)
 case atStart=>exact ⟨0,none,0,none,0, [], [],s3,Nat.zero_le _,rfl,⟨rfl,rfl,rfl⟩,by rw [Nat.sub_zero];exact EA,I3,W3⟩
 case round =>
  obtain ⟨k,ya,yc,xa,xc,P,D,s',hk,rfl,LK,EZ,RR,GG⟩:=hrel
  by_cases hlt:k<n
  · have kz:(k:Int)<(n:Int):=by omega
    have na:=NA.out (n-(k+1)) s';rw [show n-(k+1)+1=n-k by omega] at na;have ez:=EZ.out;rw [na] at ez;have M1:=hide (NN.out wr.drew s' (RR.out.up (Below.refl _ wr).drew))
    obtain ⟨⟨x1,t1⟩,e1⟩ : ∃ R,M.rNum bs s'=R:=⟨_,rfl⟩
    rw [e1] at M1 ez;have M2:=hide (λ (W:World) (h:Rdr W g a bs c t1)=>TT.out W t1 h);have TL:=hide (M.lTree_len bs t1)
    obtain ⟨⟨TS,t2⟩,e2⟩ : ∃ R,M.lTree bs t1=R:=⟨_,rfl⟩
    rw [e2] at TL;simp only at TL;rw [e2] at M2;simp only at ez M1;rw [e2] at ez;simp only at ez M2;have c2:=GG.out.c2;have gbz:=GG.out.lt;clear na NN TT NA EZ e1 e2
    go_upto_region 4 with fail
    go_region_law (first
     | (refine step_append_lies _ rfl (.tmp 14) (.tmp 17) 24 rfl (gb+1) 3 i0 (.int .i64 0) 1 8 Tryz.underlying24 J0.out hz0 hz1 hz2 rfl (by omega) (.slice ya k yc) k ((P.map (·.1)).map (Value.int .i64)) rfl (by exact G4.out.ow.alloc _) ⟨w4.heap.size,0,none⟩ 1 1 [.int .i64 x1] rfl rfl (World.news_of_block (by first | exact heap_alloc_new _ _ | (simp;done))) (by simp [Value.oneCell']) (by omega) (by unfold maxLen;omega) (by omega) (by simp;omega) (w4.heap.size+1) (by simp) ?_;intro g7 c7 w7 hov7 hgrow7 hat7 hlt7;have K7:=G4.out.weight hov7 hgrow7 hat7;have z2:=K7.1.1;have zf:=K7.1.2;have G7:=hide K7.2.2;have R7:=hide (H0.out.far (H0.out.far I4.out K7.2.1 (λ q hq=>by have:=(G4.out.ow.lt q hq).1;have:=G4.out.ge;omega)) (grown_set (g:=gb) (o:=2) (u := .slice (some ⟨g7,0,none⟩) (k+1) c7)) (λ q hq=>by cases hq;have:=G4.out.ge;omega));clear hov7 hgrow7 hat7 hlt7 K7)
     | (go_simp;go_at_call 153;refine M1.out.mono ?_;rintro e w4 ⟨rfl,i4,g4⟩;have I4:=hide i4;have G4:=hide (GG.out.rdr (grown_undrew g4));have d2:=G4.out.c2;have d2a:=λ o=>(((Below.refl w4.heap.size w4).alloc (Nat.le_refl _) o).cell (p:=⟨gb,2,none⟩) G4.out.lt).trans G4.out.c2;have w4z:=G4.out.lt;clear i4 g4))
    all_goals (
     obtain ⟨w8,hw8⟩ : ∃ X,X=w7.setCell ⟨gb,2,none⟩ (.slice (some ⟨g7,0,none⟩) (k+1) c7):=⟨_,rfl⟩
     rw [←hw8] at G7 R7 ⊢;have M3:=hide (M2.out w8.drew (R7.out.up (Below.refl _ w8).drew));have c3:=G7.out.c3;clear hw8 z2 zf d2 d2a c2 M1 M2 G4 I4 gbz w4z GG RR
     go_upto_region 5 with fail
     go_region_law (first
      | (refine step_append_lies _ rfl (.tmp 21) (.tmp 24) 33 rfl (gb+1) 27 t0 (.slice none 0 0) 1 24 Tryz.underlying33 J1.out hy0 hy1 hy2 rfl (by omega) (.slice xa k xc) k (D.map tV) rfl (by exact G9.out.ox.alloc _) ⟨w9.heap.size,0,none⟩ 1 1 [.slice va TS.length vc] rfl rfl (World.news_of_block (by first | exact heap_alloc_new _ _ | (simp;done))) (by intro u hu;rw [List.mem_singleton] at hu;subst hu;rfl) (by omega) (by unfold maxLen;omega) (by omega) (by simp;omega) (w9.heap.size+1) (by simp) ?_;intro g12 c12 w12 hov hgrow hat hlt12;have K12:=G9.out.tree (t:=(va,TS,vc)) T9.out.1 T9.out.2 hov hgrow hat;have z2:=K12.1.1;have zf:=K12.1.2;have G12:=hide K12.2.2;have R12:=hide (H0.out.far (H0.out.far I9.out K12.2.1 (λ q hq=>by have:=(G9.out.ox.lt q hq).1;have:=G9.out.ge;omega)) (grown_set (g:=gb) (o:=3) (u := .slice (some ⟨g12,0,none⟩) (k+1) c12)) (λ q hq=>by cases hq;have:=G9.out.ge;omega));clear hov hgrow hat hlt12 K12)
      | (go_simp;go_at_call 155;refine M3.out.mono ?_;rintro e w9 ⟨va,vc,rfl,o9,i9,g9⟩;have I9:=hide i9;have G9:=hide (G7.out.rdr (grown_undrew g9));have T9:=hide (G7.out.fresh o9 (by have:=TL.out;omega));have d2:=G9.out.c3;have d2a:=λ o=>(((Below.refl w9.heap.size w9).alloc (Nat.le_refl _) o).cell (p:=⟨gb,3,none⟩) G9.out.lt).trans G9.out.c3;have w9z:=G9.out.lt;clear i9 g9 o9))
     all_goals (
      obtain ⟨w13,hw13⟩ : ∃ X,X=w12.setCell ⟨gb,3,none⟩ (.slice (some ⟨g12,0,none⟩) (k+1) c12):=⟨_,rfl⟩
      rw [←hw13] at G12 R12 ⊢
      have E2:Hid (Z=((P ++ [(x1,TS)]) ++ (M.lTrees bs (n-(k+1)) t2).1,(M.lTrees bs (n-(k+1)) t2).2)):=by
       unfold Hid;rw [ez,List.append_assoc];rfl
      have LK2:Hid ((P ++ [(x1,TS)]).length=k+1/\(D ++ [(va,TS,vc)]).length=k+1/\tl (D ++ [(va,TS,vc)])=(P ++ [(x1,TS)]).map (·.2)):=by
       obtain ⟨l1,l2,l3⟩:=LK.out
       refine ⟨by rw [List.length_append,l1];rfl,by rw [List.length_append,l2];rfl, ?_⟩
       unfold tl at l3 ⊢;rw [List.map_append,List.map_append,l3];rfl
      have G13:Hid (GW w g w.heap.size gb n1 n2 (k+1) (some ⟨g7,0,none⟩) c7 ((P ++ [(x1,TS)]).map (·.1)) (k+1) (some ⟨g12,0,none⟩) c12 (D ++ [(va,TS,vc)]) w13):=by
       unfold Hid;rw [List.map_append];exact G12.out
      clear hw13 z2 zf d2 d2a c3 M3 G7 R7 G9 I9 T9 w9z G12 ez
      go_wp2
      go_roundw
      case rel=>exact ⟨k+1,_,_,_,_,P ++ [(x1,TS)],D ++ [(va,TS,vc)],t2,by omega,by go_num,LK2,E2,R12,G13⟩
      case measure=>simp [intOf];omega))
  · have ek:k=n:=by omega
    have kz : ¬ ((k:Int)<(n:Int)):=by omega
    have EZ2:Hid (Z=(P,s')):=by
     have:=EZ.out;rw [ek,Nat.sub_self] at this;unfold Hid;rw [this];show (P ++ [],_)=_;rw [List.append_nil];rfl
    have y0:=GG.out.c0;have y1:=GG.out.c1;have y2:=GG.out.c2;have y3:=GG.out.c3;obtain ⟨v0,x0⟩:=GG.out.r 0 (by omega);obtain ⟨v1,x1⟩:=GG.out.r 1 (by omega);obtain ⟨v2,x2⟩:=GG.out.r 2 (by omega);obtain ⟨v3,x3⟩:=GG.out.r 3 (by omega);have f0:=GG.out.rf 0;have f1:=GG.out.rf 1;have f2:=GG.out.rf 2;have f3:=GG.out.rf 3;have KN:=hide ek;clear EZ NN TT NA EA ek
    go_wp2
    obtain ⟨e0,e1,e2,e3⟩:=put4_at (x0 := .int .i64 n1) (x1 := .int .i64 n2) (x2 := .slice ya k yc) (x3 := .slice xa k xc) x0 x1 x2 x3;obtain ⟨l1,l2,l3⟩:=LK.out;refine bodyPost_ret (v := .agg #[.int .i64 n1, .int .i64 n2, .slice ya k yc, .slice xa k xc]) (by simp [results, Tryz.results136,go_sem,e0,e1,e2,e3]) rfl ?_;have gg:=GG.out.ge;have gz:=GG.out.lt
    refine ⟨⟨n1,n2,ya,P.map (·.1),yc,xa,D,xc⟩, ?_, ?_, ?_, ?_, ?_⟩
    · unfold Gr.v
      simp only [List.length_map,l1,l2]
    · rw [EG.out,EZ2.out]
      unfold Gr.m;rw [l3]
    · exact GG.out.out (by rw [List.length_map];exact l1) l2 (by omega) (λ _=>grown4_at.size) (λ q h1 h2=>grown4_at.block q h2 (λ e=>by cases e;omega))
    · rw [EZ2.out]
      exact H0.out.far RR.out grown4_at (λ q hq=>by cases hq;exact Nat.le_refl _)
    · exact grown_trans GG.out.gr grown4_at (.inr (λ q hq=>by cases hq;exact Nat.le_refl _))

theorem isway_any (x:Int) (w:World) (iw:Bool) (h:Hid (iw=decide (1<=x/\x<=3))) :
 Calls Tryz.prog 48 #[.int .i64 x] w λ e w'=>e = .returned (.bool iw)/\w'=w:=by
 rcases (show x=1∨x=2∨x=3∨(x≠1/\x≠2/\x≠3) from by omega) with c | c | c | ⟨c1,c2,c3⟩
 · have q1:(x == 1)=true:=by rw [beq_iff_eq];exact c
   have E:Hid (true=iw):=by unfold Hid;rw [h.out,decide_eq_true (by omega)]
   clear c h
   go_enter Tryz.func48, Tryz.ntmps48
   go_wp2
   go_ret
   exact ⟨ret_bool E.out,rfl⟩
 · have q1:(x == 1)=false:=by rw [beq_eq_false_iff_ne];omega
   have q2:(x == 2)=true:=by rw [beq_iff_eq];exact c
   have E:Hid (true=iw):=by unfold Hid;rw [h.out,decide_eq_true (by omega)]
   clear c h
   go_enter Tryz.func48, Tryz.ntmps48
   go_wp2
   go_ret
   exact ⟨ret_bool E.out,rfl⟩
 · have q1:(x == 1)=false:=by rw [beq_eq_false_iff_ne];omega
   have q2:(x == 2)=false:=by rw [beq_eq_false_iff_ne];omega
   have q3:(x == 3)=true:=by rw [beq_iff_eq];exact c
   have E:Hid (true=iw):=by unfold Hid;rw [h.out,decide_eq_true (by omega)]
   clear c h
   go_enter Tryz.func48, Tryz.ntmps48
   go_wp2
   go_ret
   exact ⟨ret_bool E.out,rfl⟩
 · have q1:(x == 1)=false:=by rw [beq_eq_false_iff_ne];omega
   have q2:(x == 2)=false:=by rw [beq_eq_false_iff_ne];omega
   have q3:(x == 3)=false:=by rw [beq_eq_false_iff_ne];omega
   have E:Hid (false=iw):=by unfold Hid;rw [h.out,decide_eq_false (by omega)]
   clear c1 c2 c3 h
   go_enter Tryz.func48, Tryz.ntmps48
   go_wp2
   go_ret
   exact ⟨ret_bool E.out,rfl⟩
theorem kept_box {w W:World} {a0 a1 a2 a3:Value} {t:TypeId} (h:Below (w.alloc (.cells #[a0,a1,a2,a3] t)).heap.size (w.alloc (.cells #[a0,a1,a2,a3] t)) W) :
 W.cell? ⟨w.heap.size,0,none⟩=some a0/\W.cell? ⟨w.heap.size,1,none⟩=some a1/\W.cell? ⟨w.heap.size,2,none⟩=some a2/\W.cell? ⟨w.heap.size,3,none⟩=some a3:=by
 have hs:w.heap.size<(w.alloc (.cells #[a0,a1,a2,a3] t)).heap.size:=by simp
 exact ⟨(h.cell (p:=⟨w.heap.size,0,none⟩) hs).trans (World.cell?_alloc_at _ _ _ 0 rfl),(h.cell (p:=⟨w.heap.size,1,none⟩) hs).trans (World.cell?_alloc_at _ _ _ 1 rfl),(h.cell (p:=⟨w.heap.size,2,none⟩) hs).trans (World.cell?_alloc_at _ _ _ 2 rfl),(h.cell (p:=⟨w.heap.size,3,none⟩) hs).trans (World.cell?_alloc_at _ _ _ 3 rfl)⟩
theorem M.grove_rng {g:M.Gv} (h:M.gf g<0∨8<M.gf g∨M.gw g<1∨3<M.gw g):M.groveF g=1:=by unfold M.groveF;rw [if_pos h]
theorem err_num (c:Int) (h:c≠0):Ending.returned (.iface 69 (.int .i64 c)) = .returned (errV c):=by rw [err_some h]
theorem err_is {c d:Int} (h:c=d) (h0:c≠0):Ending.returned (.iface 69 (.int .i64 c)) = .returned (errV d):=by rw [←h,err_some h0]
theorem err_none {d:Int} (h:d=0):Ending.returned .nilIface = .returned (errV d):=by rw [err_nil h]
def M.wtsF (ws:List Int) (n:Nat):Int:=if n=0 then 5 else if 12<n then 4 else if ws.length≠n then 3 else if ws.any M.wBad=true then 1 else 0
set_option maxHeartbeats 4000000 in
theorem gwts_any (a:Option Addr) (ws:List Int) (ca n:Nat) (w:World) (h:Rd w a ws) :
 Calls Tryz.prog 49 #[.slice a ws.length ca, .int .i64 (n:Nat)] w λ e w'=>e = .returned (errV (M.wtsF ws n))/\w'=w:=by
 have hm2:ws.length<=9223372036854775807:=h.1;have HR:=hide h;clear h;unfold M.wtsF
 by_cases t0:n=0
 · rw [if_pos t0]
   have q4:((n:Int) == 0)=true:=by rw [beq_iff_eq];omega
   clear t0
   go_enter Tryz.func49, Tryz.ntmps49
   go_wp2
   go_ret
   exact ⟨err_num 5 (by decide),rfl⟩
 · rw [if_neg t0]
   have q4:((n:Int) == 0)=false:=by rw [beq_eq_false_iff_ne];omega
   have t0':0<n:=by omega
   by_cases t12:12<n
   · rw [if_pos t12]
     have q5:decide (12<(n:Int))=true:=decide_eq_true (by omega);clear t0 t12 t0'
     go_enter Tryz.func49, Tryz.ntmps49
     go_wp2
     go_ret
     exact ⟨err_num 4 (by decide),rfl⟩
   · rw [if_neg t12]
     have q5:decide (12<(n:Int))=false:=decide_eq_false (by omega)
     by_cases tw:ws.length≠n
     · rw [if_pos tw]
       have q6:((ws.length:Int) != (n:Int))=true:=by rw [bne_iff_ne];omega
       clear t0 t12 t0' tw
       go_enter Tryz.func49, Tryz.ntmps49
       go_wp2
       go_ret
       exact ⟨err_num 3 (by decide),rfl⟩
     · rw [if_neg tw]
       have WB:Hid (∀ k (h:k<ws.length),M.wBad (ws.getD k 0)=true->ws.any M.wBad=true):=λ k h e=>List.any_eq_true.2 ⟨_,by rw [M.getD_at h];exact List.getElem_mem h,e⟩
       have WN:Hid ((∀ k,k<ws.length->M.wBad (ws.getD k 0)=false)->ws.any M.wBad=false):=λ h=>by
        cases e:ws.any M.wBad with
        | false=>rfl
        | true =>
          obtain ⟨x,hx,e2⟩:=List.any_eq_true.1 e;obtain ⟨i,hi,rfl⟩:=List.getElem_of_mem hx;have:=h i hi;rw [M.getD_at hi,e2] at this;cases this
       have q6:((ws.length:Int) != (n:Int))=false:=by rw [bne_eq_false_iff_eq];omega
       obtain ⟨bw,ow,ewa,hbw,hcw0⟩:=HR.out.2 (by intro e;rw [e] at tw;simp at tw;omega);have HCW:=hide hcw0;subst ewa;clear HR t0 t12 tw t0' hcw0;generalize hAB:ws.any M.wBad=AB at *;have HAB:=hide hAB;clear hAB;generalize hRV:(if AB=true then (1:Int) else 0)=RV;have HRV:=hide hRV;clear hRV
       go_enter Tryz.func49, Tryz.ntmps49
       go_wp2
       go_loopw [20] (λ i wr => ∃ k:Nat,k<=ws.length/\i = .int .i64 k/\Hid (∀ j,j<k->M.wBad (ws.getD j 0)=false)/\wr=w) (λ i _=>ws.length-(intOf i).toNat)
       case atStart=>exact ⟨0,Nat.zero_le _,rfl,λ j hj=>by omega,rfl⟩
       case round =>
        obtain ⟨k,hk,rfl,I,ew⟩:=hrel;subst ew
        by_cases hlt:k<ws.length
        · have cw:=HCW.out k hlt
          have kz:(k:Int)<(ws.length:Int):=by omega
          have wb:M.wBad (ws.getD k 0)=(decide (ws.getD k 0<1) || decide (1000<ws.getD k 0)):=rfl
          by_cases b1:ws.getD k 0<1
          · have E:Hid (AB=true):=WB.out k hlt (by rw [wb,decide_eq_true b1];rfl)
            have p1:decide (ws.getD k 0<1)=true:=decide_eq_true b1
            have RE:Hid ((1:Int)=RV):=by unfold Hid;rw [←HRV.out,if_pos E.out]
            clear WB WN wb b1 E HCW I;generalize ws.getD k 0=z at *
            go_wp2
            go_ret
            exact ⟨err_is RE.out (by decide),rfl⟩
          · by_cases b2:1000<ws.getD k 0
            · have E:Hid (AB=true):=WB.out k hlt (by rw [wb,decide_eq_true b2];simp)
              have p1:decide (ws.getD k 0<1)=false:=decide_eq_false b1;have p2:decide (1000<ws.getD k 0)=true:=decide_eq_true b2
              have RE:Hid ((1:Int)=RV):=by unfold Hid;rw [←HRV.out,if_pos E.out]
              clear WB WN wb b1 b2 E HCW I;generalize ws.getD k 0=z at *
              go_wp2
              go_ret
              exact ⟨err_is RE.out (by decide),rfl⟩
            · have p1:decide (ws.getD k 0<1)=false:=decide_eq_false b1
              have p2:decide (1000<ws.getD k 0)=false:=decide_eq_false b2
              have N:Hid (∀ j,j<k+1->M.wBad (ws.getD j 0)=false):=λ j hj=>by
               by_cases e:j=k
               · rw [e,wb,p1,p2];rfl
               · exact I.out j (by omega)
              clear WB WN wb b1 b2 HCW I;generalize ws.getD k 0=z at *
              go_wp2
              go_roundw
              case rel=>exact ⟨k+1,by omega,by go_num,N,trivial⟩
              case measure=>simp [intOf];omega
        · have E:Hid (AB=false):=WN.out (λ j hj=>I.out j (by omega))
          have RE:Hid (RV=0):=by unfold Hid;rw [←HRV.out,E.out];rfl
          clear WB WN I E HAB HCW
          go_wp2
          go_ret
          exact ⟨err_none RE.out,rfl⟩
theorem M.grove_wts {g:M.Gv} (h : ¬ (M.gf g<0∨8<M.gf g∨M.gw g<1∨3<M.gw g)):M.groveF g=if M.wtsF (M.gs g) (M.gt g).length≠0 then M.wtsF (M.gs g) (M.gt g).length else M.treesF (M.gf g) (M.gt g):=by
 unfold M.groveF M.wtsF;rw [if_neg h]
 repeat' split
 all_goals first | rfl | omega | simp_all
set_option maxHeartbeats 16000000 in
set_option maxRecDepth 10000 in
theorem gcheck_any (G:Gr) (w:World) (h:RdG w G) :
 Calls Tryz.prog 21 #[G.v] w λ e w'=>e = .returned (errV (M.groveF G.m))/\Below w.heap.size w w':=by
 have hm1:G.ks.length<=9223372036854775807:=h.2.1;have hm2:G.ws.length<=9223372036854775807:=h.1.1;have HG:=hide h;have tlen:(M.gt G.m).length=G.ks.length:=tl_len G.ks;have B0:Hid (∀ o,Below w.heap.size w (w.alloc o)):=λ o=>(Below.refl _ w).alloc (Nat.le_refl _) o
 obtain ⟨iw,hiw⟩ : ∃ iw:Bool,iw=decide (1<=G.w/\G.w<=3):=⟨_,rfl⟩
 have IW:=hide (λ W=>isway_any G.w W iw hiw);have CW:=hide (λ W (hW:Below w.heap.size w W)=>gwts_any G.wa G.ws G.wc G.ks.length W (HG.out.below hW).1);clear h;unfold Gr.v
 by_cases hR:M.gf G.m<0∨8<M.gf G.m∨M.gw G.m<1∨3<M.gw G.m
 · rw [M.grove_rng hR]
   have hR':G.f<0∨8<G.f∨G.w<1∨3<G.w:=hR;clear hR tlen HG CW
   by_cases c0:G.f<0
   · have q0:decide (G.f<0)=true:=decide_eq_true (by omega)
     clear hR' c0 hiw
     go_enter Tryz.func21, Tryz.ntmps21
     go_wp2
     go_ret
     exact ⟨err_num 1 (by decide),B0.out _⟩
   · by_cases c1:8<G.f
     · have q0:decide (G.f<0)=false:=decide_eq_false (by omega)
       have q1:decide (8<G.f)=true:=decide_eq_true (by omega);clear hR' c0 c1 hiw
       go_enter Tryz.func21, Tryz.ntmps21
       go_wp2
       go_ret
       exact ⟨err_num 1 (by decide),B0.out _⟩
     · have q0:decide (G.f<0)=false:=decide_eq_false (by omega)
       have q1:decide (8<G.f)=false:=decide_eq_false (by omega)
       have e:iw=false:=by rw [hiw,decide_eq_false (by omega)]
       subst e;clear hR' c0 c1 hiw
       go_enter Tryz.func21, Tryz.ntmps21
       go_wp2_with (go_at_call 48;refine (IW.out _).mono ?_;rintro e w1 ⟨rfl,e1⟩;subst w1)
       go_ret
       exact ⟨err_num 1 (by decide),B0.out _⟩
 · have hR' : ¬ (G.f<0∨8<G.f∨G.w<1∨3<G.w):=hR
   have q0:decide (G.f<0)=false:=decide_eq_false (by omega);have q1:decide (8<G.f)=false:=decide_eq_false (by omega)
   have e:iw=true:=by rw [hiw,decide_eq_true (by omega)]
   subst e
   have E0:M.groveF G.m=if M.wtsF G.ws G.ks.length≠0 then M.wtsF G.ws G.ks.length else M.treesF G.f (tl G.ks):=by
    rw [←tlen];exact M.grove_wts hR
   rw [E0];clear hR E0 hiw hR'
   by_cases hw:M.wtsF G.ws G.ks.length≠0
   · rw [if_pos hw]
     have HW:=hide hw;rw [err_some hw] at CW;clear tlen HG hw;generalize M.wtsF G.ws G.ks.length=wf at *
     go_enter Tryz.func21, Tryz.ntmps21
     go_wp2_with (first
      | (go_at_call 48;refine (IW.out _).mono ?_;rintro e w1 ⟨rfl,e1⟩;subst w1)
      | (go_at_call 49;refine (CW.out _ (B0.out _)).mono ?_;rintro e w2 ⟨rfl,e2⟩;subst w2))
     go_ret
     exact ⟨err_num _ HW.out,B0.out _⟩
   · rw [if_neg hw]
     have w0:M.wtsF G.ws G.ks.length=0:=by omega
     rw [w0,err_nil rfl] at CW
     have t0':0<G.ks.length:=by
      rcases Nat.eq_zero_or_pos G.ks.length with q | q
      · unfold M.wtsF at w0;rw [if_pos q] at w0;cases w0
      · exact q
     have n12:G.ks.length<=12:=by
      unfold M.wtsF at w0;rw [if_neg (by omega)] at w0
      by_cases q:12<G.ks.length
      · rw [if_pos q] at w0;cases w0
      · omega
     have TA:Hid (∀ k,k<G.ks.length->(∀ j,j<k->(M.treeF ((tl G.ks).getD j []) G.f).2=0)->(M.treeF ((tl G.ks).getD k []) G.f).2≠0->M.treesF G.f (tl G.ks)=(M.treeF ((tl G.ks).getD k []) G.f).2):=λ k hk h hn=>M.trees_at (by rw [tl_len];exact hk) h hn;have TN:Hid ((∀ j,j<G.ks.length->(M.treeF ((tl G.ks).getD j []) G.f).2=0)->M.treesF G.f (tl G.ks)=0):=λ h=>M.trees_all (λ j hj=>h j (by rw [tl_len] at hj;exact hj));have TL:Hid (∀ k (h:k<G.ks.length),(tl G.ks).getD k []=G.ks[k].2.1):=λ k h=>tl_at G.ks h;have RT:Hid (∀ W,Below w.heap.size w W->RdT W G.ta G.ks):=λ W hW=>(HG.out.below hW).2;obtain ⟨bt,ot,eta,hbt,hct0⟩:=HG.out.2.2.2 (by intro e;rw [e] at t0';simp at t0');have HCT:Hid (∀ W,Below w.heap.size w W -> ∀ i (hi:i<G.ks.length),W.cell? ⟨bt,ot+i,none⟩=some (tV G.ks[i])):=λ W hW i hi=>(hW.cell (p:=⟨bt,ot+i,none⟩) hbt).trans (hct0 i hi);rw [eta];clear tlen HG hw w0 hct0 hbt eta;generalize M.treesF G.f (tl G.ks)=TF at *
     have KG:Hid (∀ W,Below (w.alloc (.cells #[.int .i64 G.f, .int .i64 G.w, .slice G.wa G.ws.length G.wc, .slice (some ⟨bt,ot,none⟩) G.ks.length G.tc] 35)).heap.size (w.alloc (.cells #[.int .i64 G.f, .int .i64 G.w, .slice G.wa G.ws.length G.wc, .slice (some ⟨bt,ot,none⟩) G.ks.length G.tc] 35)) W->Below w.heap.size w W/\W.cell? ⟨w.heap.size,0,none⟩=some (.int .i64 G.f)/\W.cell? ⟨w.heap.size,3,none⟩=some (.slice (some ⟨bt,ot,none⟩) G.ks.length G.tc)):=λ W hW =>
      ⟨below_on ((Below.refl _ w).alloc (Nat.le_refl _) _) hW,(kept_box hW).1,(kept_box hW).2.2.2⟩
     go_enter Tryz.func21, Tryz.ntmps21
     go_wp2_with (first
      | (go_at_call 48;refine (IW.out _).mono ?_;rintro e w1 ⟨rfl,e1⟩;subst w1)
      | (go_at_call 49;refine (CW.out _ (B0.out _)).mono ?_;rintro e w2 ⟨rfl,e2⟩;subst w2))
     go_loopw [35] (λ i wr => ∃ k:Nat,k<=G.ks.length/\i = .int .i64 k/\Hid (∀ j,j<k->(M.treeF ((tl G.ks).getD j []) G.f).2=0)/\Hid (Below (w.alloc (.cells #[.int .i64 G.f, .int .i64 G.w, .slice G.wa G.ws.length G.wc, .slice (some ⟨bt,ot,none⟩) G.ks.length G.tc] 35)).heap.size (w.alloc (.cells #[.int .i64 G.f, .int .i64 G.w, .slice G.wa G.ws.length G.wc, .slice (some ⟨bt,ot,none⟩) G.ks.length G.tc] 35)) wr)) (λ i _=>G.ks.length-(intOf i).toNat)
     case atStart=>exact ⟨0,Nat.zero_le _,rfl,λ j hj=>by omega,Below.refl _ _⟩
     case round =>
      obtain ⟨k,hk,rfl,I,K⟩:=hrel;obtain ⟨kw,c0,c3⟩:=KG.out _ K.out
      by_cases hlt:k<G.ks.length
      · obtain ⟨hk1,hk2,hk3⟩:=RT.out wr kw
        have ct:=HCT.out wr kw k hlt;have rk:=hk2 _ (List.getElem_mem hlt);have TE:=TL.out k hlt;have TR:=hide (tcheck_any G.ks[k].1 G.ks[k].2.1 G.ks[k].2.2 G.f wr rk);have TAK:=hide (TA.out k hlt I.out);rw [TE] at TAK
        have kz:(k:Int)<(G.ks.length:Int):=by omega
        unfold tV at ct
        have N:Hid ((M.treeF G.ks[k].2.1 G.f).2=0 -> ∀ j,j<k+1->(M.treeF ((tl G.ks).getD j []) G.f).2=0):=λ hz j hj=>by
         by_cases e:j=k
         · rw [e,TE];exact hz
         · exact I.out j (by omega)
        clear hk1 hk2 hk3 HCT rk TE TA TN TL RT I;generalize (M.treeF G.ks[k].2.1 G.f).2=te at *;generalize (M.treeF G.ks[k].2.1 G.f).1=tp at *;generalize G.ks[k].2.1.length=tn at *;generalize G.ks[k].2.2=tcc at *;generalize G.ks[k].1=ta at *
        by_cases hz:te=0
        · rw [err_nil hz] at TR
          have NN:=hide (N.out hz);clear hz N TAK
          go_wp2_with (go_at_call 50;refine TR.out.mono ?_;rintro e w5 ⟨rfl,hb5⟩;have K6:=hide (below_on K.out hb5))
          go_roundw
          case rel=>exact ⟨k+1,by omega,by go_num,NN,K6⟩
          case measure=>simp [intOf];omega
        · rw [err_some hz] at TR
          have TE2:=hide (TAK.out hz);have HZ:=hide hz;clear hz N TAK
          go_wp2_with (go_at_call 50;refine TR.out.mono ?_;rintro e w5 ⟨rfl,hb5⟩;have kw6:=below_on kw hb5)
          go_ret
          exact ⟨err_is (by rw [TE2.out]) HZ.out,kw6⟩
      · have TZ:Hid (TF=0):=TN.out (λ j hj=>I.out j (by omega))
        clear TA TN TL RT I HCT
        go_wp2
        go_ret
        exact ⟨err_none TZ.out,kw⟩
end Go.Proofs.YtaijnacghiloaaaGreatDoor
