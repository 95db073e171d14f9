import Derived.Test.YtaijnacghiloaaaGreatDoorRunT13
import Derived.Test.YtaijnacghiloaaaGreatDoorRunT1
import Derived.Deep.Cut
import Derived.Deep.AppendLies
import Derived.BigQuiet
import Derived.Deep.QuietTactic
import Derived.OwnWalk
import Derived.Test.YtaijnacghiloaaaGreatDoorRunT7
import Derived.Test.YtaijnacghiloaaaGreatDoorRunT11
import Derived.Test.YtaijnacghiloaaaGreatDoorRunT9
namespace Go.Proofs.YtaijnacghiloaaaGreatDoor
open Go.ChangeShapes Go.WideShapes Go.ChangeAt Go.RowKit Go.Lib
set_option linter.unusedVariables false
structure MO (w:World) (B:Nat) (x:Value) (D:List Tc) (W:World):Prop where
 own:W.ownsRow B 27 1 x D.length (D.map tV)
 trees:∀ i (h:i<D.length),W.ownsRow B 26 6 (tV D[i]) D[i].2.1.length (ndCells D[i].2.1)
 other:∀ i (h:i<D.length),(tV D[i]).ownBlock≠none/\(tV D[i]).ownBlock≠x.ownBlock
 apart:∀ i j (hi:i<D.length) (hj:j<D.length),i≠j->(tV D[i]).ownBlock≠(tV D[j]).ownBlock
 below:Below w.heap.size w W
 ge:w.heap.size<=B
theorem MO.up {w:World} {B:Nat} {x:Value} {D:List Tc} {W W':World} (h:MO w B x D W) (hb:Below W.heap.size W W'):MO w B x D W' :=
 ⟨own_up h.own hb,λi hi=>own_up (h.trees i hi) hb,h.other,h.apart,below_on h.below hb,h.ge⟩
theorem MO.one {w W:World} {B:Nat} {t:Tc} {q:Nat} (hB:Below w.heap.size w W) (hg:w.heap.size<=B) (hW:B<=W.heap.size) (ht:W.ownsRow B 26 6 (tV t) t.2.1.length (ndCells t.2.1)) (hq:(tV t).ownBlock=some q) (ty:TypeId) (hty:ty=27) :
 MO w B (.slice (some ⟨W.heap.size,0,none⟩) 1 1) [t] (W.alloc (.cells #[tV t] ty)):=by
 subst hty;have lq:=(ht.lt q hq).2
 have e0:∀ i (h:i < [t].length), [t][i]=t:=λi h=>by simp at h;subst h;rfl
 refine ⟨⟨rfl,.inr ⟨W.heap.size,1,#[tV t],rfl,hW,(MapKept.heap_alloc W _).1,Nat.le_refl _,by unfold maxLen;omega,rfl,rfl⟩⟩,λi hi=>?_,λi hi=>?_,λi j hi hj hij=>?_,below_on hB ((Below.refl _ W).alloc (Nat.le_refl _) _),hg⟩
 · rw [e0 i hi];exact own_up ht ((Below.refl _ W).alloc (Nat.le_refl _) _)
 · rw [e0 i hi,hq]
   exact ⟨(λe=>by cases e),(λe=>by simp [Value.ownBlock] at e;omega)⟩
 · simp at hi hj;omega
theorem MO.more {w:World} {B:Nat} {x:Value} {D:List Tc} {W:World} (h:MO w B x D W) {t:Tc} {q:Nat} (ht:W.ownsRow B 26 6 (tV t) t.2.1.length (ndCells t.2.1)) (hq:(tV t).ownBlock=some q) (hx:x.ownBlock≠some q) (ha:∀ i (hi:i<D.length),(tV D[i]).ownBlock≠some q)
 {o:Obj} {w5:World} {g cap:Nat} (hown:w5.ownsRow B 27 1 (.slice (some ⟨g,0,none⟩) (D.length+1) cap) (D.length+1) (D.map tV ++ [tV t])) (hgrow:(W.alloc o).grownBy w5 x.ownBlock) (hat:x.ownBlock=some g∨g=W.heap.size+1) :
 MO w B (.slice (some ⟨g,0,none⟩) (D.length+1) cap) (D ++ [t]) w5:=by
 have hgr:W.grownBy w5 x.ownBlock:=grown_trans (World.grownBy_alloc W o x.ownBlock) hgrow (.inl rfl);have ob:(Value.slice (some ⟨g,0,none⟩) (D.length+1) cap).ownBlock=some g:=rfl
 have fresh:∀ {v:Value} {n:Nat} {l:List Value},W.ownsRow B 26 6 v n l->v.ownBlock≠x.ownBlock->v.ownBlock≠some g:=fun {v n l} hv h1 e=>by
  rcases hat with q1 | q1
  · exact h1 (e.trans q1.symm)
  · have:=(hv.lt g e).2;omega
 have len:(D ++ [t]).length=D.length+1:=by simp
 refine ⟨?_,?_,?_,?_,h.below.grown hgr h.below.size (λk hk=>by have:=(h.own.lt k hk).1;have:=h.ge;omega),h.ge⟩
 · rw [len,List.map_append];exact hown
 · intro i hi
   by_cases c:i<D.length
   · rw [show (D ++ [t])[i]=D[i] from List.getElem_append_left c]
     exact (h.trees i c).kept hgr (.inr (h.other i c).2)
   · have ei:i=D.length:=by rw [len] at hi;omega
     subst ei;rw [show (D ++ [t])[D.length]'hi=t by simp];exact ht.kept hgr (.inr λe=>hx (e.symm.trans hq))
 · intro i hi
   rw [ob]
   by_cases c:i<D.length
   · rw [show (D ++ [t])[i]=D[i] from List.getElem_append_left c]
     exact ⟨(h.other i c).1,fresh (h.trees i c) (h.other i c).2⟩
   · have ei:i=D.length:=by rw [len] at hi;omega
     subst ei;rw [show (D ++ [t])[D.length]'hi=t by simp]
     exact ⟨own_ne_none hq,fresh ht (λe=>hx (e.symm.trans hq))⟩
 · intro i j hi hj hij
   rw [len] at hi hj
   by_cases c:i<D.length
   · by_cases d:j<D.length
     · rw [show (D ++ [t])[i]=D[i] from List.getElem_append_left c,show (D ++ [t])[j]=D[j] from List.getElem_append_left d]
       exact h.apart i j c d hij
     · have ej:j=D.length:=by omega
       subst ej;rw [show (D ++ [t])[i]=D[i] from List.getElem_append_left c,show (D ++ [t])[D.length]'(by rw [len];omega)=t by simp,hq];exact ha i c
   · have ei:i=D.length:=by omega
     subst ei
     have d:j<D.length:=by omega
     rw [show (D ++ [t])[j]=D[j] from List.getElem_append_left d,show (D ++ [t])[D.length]'(by rw [len];omega)=t by simp,hq];exact λe=>ha j d e.symm
theorem MO.tree {w:World} {B:Nat} {x:Value} {D:List Tc} {W:World} (h:MO w B x D W) (i:Nat) (hi:i<D.length):∃ q cap,D[i].1=some ⟨q,0,none⟩/\D[i].2.2=cap/\B<=q/\q<W.heap.size/\(tV D[i]).ownBlock=some q:=by
 have t:=h.trees i hi;have o:=(h.other i hi).1
 rcases t.2 with ⟨h0,_⟩ | ⟨q,cap,cur,hv,hb,hg,_⟩
 · rw [h0] at o;exact absurd rfl o
 · have hv':=hv
   unfold tV at hv';rw [Value.slice.injEq] at hv'
   exact ⟨q,cap,hv'.1,hv'.2.2,hb,(Array.getElem?_eq_some_iff.1 hg).1,by rw [hv];rfl⟩
theorem MO.turn {w:World} {B:Nat} {x:Value} {D:List Tc} {W:World} (h:MO w B x D W) (i:Nat) (hi:i<D.length) {q k:Nat} (hq:(tV D[i]).ownBlock=some q) {v:Int} {ts:List M.Nd} (he:(ndCells D[i].2.1).set (k*6+5) (.int .i64 v)=ndCells ts) (hl:ts.length=D[i].2.1.length) :
 MO w B x (D.set i (D[i].1,ts,D[i].2.2)) (W.setCell ⟨q,k*6+5,none⟩ (.int .i64 v)):=by
 have t:=h.trees i hi;have lq:=t.lt q hq
 have tv:tV (D[i].1,ts,D[i].2.2)=tV D[i]:=by unfold tV;rw [hl]
 refine ⟨?_,?_,?_,?_,h.below.setCell (p:=⟨q,k*6+5,none⟩) (by have:=h.ge;show w.heap.size<=q;omega) _,h.ge⟩
 · have e:(D.set i (D[i].1,ts,D[i].2.2)).map tV=D.map tV:=by
    rw [List.map_set,tv];refine List.ext_getElem (by simp) λj h1 h2=>?_
    by_cases e:i=j
    · subst e;simp
    · rw [List.getElem_set_ne e]
   rw [e,List.length_set];exact keep_row h.own (λe=>(h.other i hi).2 (by rw [hq,e]))
 · intro j hj
   rw [List.length_set] at hj
   by_cases e:i=j
   · subst e
     rw [List.getElem_set_self,tv];obtain ⟨q',cap,e1,e2,_,_,e5⟩:=h.tree i hj
     have eq:q'=q:=by rw [hq] at e5;cases e5;rfl
     subst eq
     have tv2:tV D[i] = .slice (some ⟨q',0,none⟩) D[i].2.1.length D[i].2.2:=by unfold tV;rw [e1]
     rw [tv2] at t ⊢;have st:=(t.stored (k*6+5) (.int .i64 v)).1;rw [he,←hl] at st;rw [←hl];exact st
   · rw [List.getElem_set_ne e]
     exact keep_row (h.trees j hj) (λz=>h.apart i j hi hj e (by rw [hq,z]))
 · intro j hj
   rw [List.length_set] at hj
   by_cases e:i=j
   · subst e;rw [List.getElem_set_self,tv];exact h.other i hj
   · rw [List.getElem_set_ne e];exact h.other j hj
 · intro a b ha hb hab
   rw [List.length_set] at ha hb
   have g:∀ j (hj:j<D.length),tV ((D.set i (D[i].1,ts,D[i].2.2))[j]'(by rw [List.length_set];exact hj))=tV D[j]:=λj hj=>by
    by_cases e:i=j
    · subst e;rw [List.getElem_set_self,tv]
    · rw [List.getElem_set_ne e]
   rw [g a ha,g b hb];exact h.apart a b ha hb hab
theorem MO.keep {w:World} {B:Nat} {x:Value} {D:List Tc} {W W':World} {r:Option Nat} (h:MO w B x D W) (hg:W.grownBy W' r) (hr:∀ q,r=some q->w.heap.size<=q/\x.ownBlock≠some q/\∀ i (hi:i<D.length),(tV D[i]).ownBlock≠some q):MO w B x D W':=by
 have kt:∀ {e size n:Nat} {v:Value} {l:List Value},W.ownsRow B e size v n l->(∀ q,r=some q->v.ownBlock≠some q)->W'.ownsRow B e size v n l:=fun {e size n v l} hv h1=>by
  refine hv.kept hg ?_
  cases hv2:v.ownBlock with
  | none=>exact .inl rfl
  | some b=>exact .inr (λz=>h1 b z.symm hv2)
 exact ⟨kt h.own (λq hq=>(hr q hq).2.1),λi hi=>kt (h.trees i hi) (λq hq=>(hr q hq).2.2 i hi),h.other,h.apart,h.below.grown hg h.below.size (λk hk=>(hr k hk).1),h.ge⟩
structure MW (w:World) (B rb:Nat) (m:Int) (y x:Value) (D:List Tc) (n:Nat) (W:World):Prop where
 mo:MO w B x D W
 c0:W.cell? ⟨rb+1,0,none⟩=some (.int .i64 m)
 c1:W.cell? ⟨rb+1,1,none⟩=some (.int .i64 2)
 c2:W.cell? ⟨rb+1,2,none⟩=some y
 c3:W.cell? ⟨rb+1,3,none⟩=some x
 fr:∀ i,W.frozen? ⟨rb+1,i,none⟩=false
 r0:∃ v,W.cell? ⟨rb,0,none⟩=some v
 r1:∃ v,W.cell? ⟨rb,1,none⟩=some v
 r2:∃ v,W.cell? ⟨rb,2,none⟩=some v
 r3:∃ v,W.cell? ⟨rb,3,none⟩=some v
 rf:∀ i,W.frozen? ⟨rb,i,none⟩=false
 lt:rb+1<W.heap.size
 ge:w.heap.size<=rb
 gx:∀ q,x.ownBlock=some q->q<rb
 gt:∀ i (hi:i<D.length) q,(tV D[i]).ownBlock=some q->q<rb
 wo:W.ownsRow (rb+1+1) 3 1 y n ((List.replicate n (1:Int)).map (Value.int .i64))
theorem MW.up {w:World} {B rb:Nat} {m:Int} {y x:Value} {D:List Tc} {n:Nat} {W W':World} (h:MW w B rb m y x D n W) (hb:Below W.heap.size W W'):MW w B rb m y x D n W':=by
 have l0:rb<W.heap.size:=by have:=h.lt;omega
 have k:∀ i,W'.cell? ⟨rb,i,none⟩=W.cell? ⟨rb,i,none⟩:=λi=>hb.cell (p:=⟨rb,i,none⟩) l0;have k1:∀ i,W'.cell? ⟨rb+1,i,none⟩=W.cell? ⟨rb+1,i,none⟩:=λi=>hb.cell (p:=⟨rb+1,i,none⟩) h.lt
 exact ⟨h.mo.up hb,(k1 0).trans h.c0,(k1 1).trans h.c1,(k1 2).trans h.c2,(k1 3).trans h.c3,λi=>(hb.frozen (p:=⟨rb+1,i,none⟩) h.lt).trans (h.fr i),by rw [k];exact h.r0,by rw [k];exact h.r1,by rw [k];exact h.r2,by rw [k];exact h.r3,λi=>(hb.frozen (p:=⟨rb,i,none⟩) l0).trans (h.rf i),Nat.lt_of_lt_of_le h.lt hb.size,h.ge,h.gx,h.gt,own_up h.wo hb⟩
theorem MW.turn {w:World} {B rb:Nat} {m:Int} {y x:Value} {D:List Tc} {n:Nat} {W:World} (h:MW w B rb m y x D n W) (i:Nat) (hi:i<D.length) {q k:Nat} (hq:(tV D[i]).ownBlock=some q) {v:Int} {ts:List M.Nd} (he:(ndCells D[i].2.1).set (k*6+5) (.int .i64 v)=ndCells ts) (hl:ts.length=D[i].2.1.length) :
 MW w B rb m y x (D.set i (D[i].1,ts,D[i].2.2)) n (W.setCell ⟨q,k*6+5,none⟩ (.int .i64 v)):=by
 have lq:=h.gt i hi q hq
 have tv:tV (D[i].1,ts,D[i].2.2)=tV D[i]:=by unfold tV;rw [hl]
 have o:∀ (b j:Nat),b≠q->(W.setCell ⟨q,k*6+5,none⟩ (.int .i64 v)).cell? ⟨b,j,none⟩=W.cell? ⟨b,j,none⟩:=λb j hb=>World.cell?_setCell_other _ _ _ _ (by intro e;cases e;exact hb rfl)
 have f:∀ (b j:Nat),(W.setCell ⟨q,k*6+5,none⟩ (.int .i64 v)).frozen? ⟨b,j,none⟩=W.frozen? ⟨b,j,none⟩:=λb j=>by simp
 have n1:rb+1≠q:=by omega
 have n0:rb≠q:=by omega
 refine ⟨h.mo.turn i hi hq he hl,(o _ 0 n1).trans h.c0,(o _ 1 n1).trans h.c1,(o _ 2 n1).trans h.c2,(o _ 3 n1).trans h.c3,λj=>(f _ j).trans (h.fr j),by rw [o _ _ n0];exact h.r0,by rw [o _ _ n0];exact h.r1,by rw [o _ _ n0];exact h.r2,by rw [o _ _ n0];exact h.r3,λj=>(f _ j).trans (h.rf j),by simpa using h.lt,h.ge,h.gx,λj hj p hp=>?_,keep_row h.wo (λe=>by have:=(h.wo.lt q e).1;omega)⟩
 rw [List.length_set] at hj
 by_cases e:i=j
 · subst e;rw [List.getElem_set_self,tv] at hp;exact h.gt i hj p hp
 · rw [List.getElem_set_ne e] at hp;exact h.gt j hj p hp
theorem MW.more {w:World} {B rb:Nat} {m:Int} {y x:Value} {D:List Tc} {n:Nat} {W:World} (h:MW w B rb m y x D n W) {o:Obj} {w5:World} {g cap:Nat}
 (hown:w5.ownsRow (rb+1+1) 3 1 (.slice (some ⟨g,0,none⟩) (n+1) cap) (n+1) ((List.replicate n (1:Int)).map (Value.int .i64) ++ [.int .i64 1])) (hgrow:(W.alloc o).grownBy w5 y.ownBlock) :
 (w5.cell? ⟨rb+1,2,none⟩=some y/\w5.frozen? ⟨rb+1,2,none⟩=false)/\MW w B rb m (.slice (some ⟨g,0,none⟩) (n+1) cap) x D (n+1) (w5.setCell ⟨rb+1,2,none⟩ (.slice (some ⟨g,0,none⟩) (n+1) cap)):=by
 have hgr:W.grownBy w5 y.ownBlock:=grown_trans (World.grownBy_alloc W o y.ownBlock) hgrow (.inl rfl);have yb:∀ q,y.ownBlock=some q->rb+1+1<=q:=λq e=>(h.wo.lt q e).1
 have l0:rb<W.heap.size:=by have:=h.lt;omega
 have cf:∀ i,w5.cell? ⟨rb+1,i,none⟩=W.cell? ⟨rb+1,i,none⟩:=λi=>hgr.cell_far ⟨rb+1,i,none⟩ h.lt (λe=>by have:=yb _ e.symm;simp at this;omega);have ff:∀ i,w5.frozen? ⟨rb+1,i,none⟩=W.frozen? ⟨rb+1,i,none⟩:=λi=>hgr.frozen_far ⟨rb+1,i,none⟩ h.lt (λe=>by have:=yb _ e.symm;simp at this;omega);have cr:∀ i,w5.cell? ⟨rb,i,none⟩=W.cell? ⟨rb,i,none⟩:=λi=>hgr.cell_far ⟨rb,i,none⟩ l0 (λe=>by have:=yb _ e.symm;simp at this;omega);have fr:∀ i,w5.frozen? ⟨rb,i,none⟩=W.frozen? ⟨rb,i,none⟩:=λi=>hgr.frozen_far ⟨rb,i,none⟩ l0 (λe=>by have:=yb _ e.symm;simp at this;omega);have gp:rb+1+1<=g:=(hown.lt g rfl).1;have ob:(Value.slice (some ⟨g,0,none⟩) (n+1) cap).ownBlock=some g:=rfl
 have m5:MO w B x D w5:=h.mo.keep hgr (λq hq=>by
  have:=yb q hq;have:=h.ge
  exact ⟨by omega,λe=>by have:=h.gx q e;omega,λi hi e=>by have:=h.gt i hi q e;omega⟩)
 have m6:MO w B x D (w5.setCell ⟨rb+1,2,none⟩ (.slice (some ⟨g,0,none⟩) (n+1) cap)):=m5.keep grown_set (λq hq=>by
  cases hq;have:=h.ge
  exact ⟨by omega,λe=>by have:=h.gx _ e;omega,λi hi e=>by have:=h.gt i hi _ e;omega⟩)
 have s:∀ (j:Nat),(w5.setCell ⟨rb+1,2,none⟩ (.slice (some ⟨g,0,none⟩) (n+1) cap)).cell? ⟨rb,j,none⟩=W.cell? ⟨rb,j,none⟩:=λj=>(World.cell?_setCell_other _ _ _ _ (by intro e;cases e)).trans (cr j)
 refine ⟨⟨(cf 2).trans h.c2,(ff 2).trans (h.fr 2)⟩,⟨m6,?_,?_,?_,?_,?_,by rw [s];exact h.r0,by rw [s];exact h.r1,by rw [s];exact h.r2,by rw [s];exact h.r3,?_,?_,h.ge,h.gx,h.gt,?_⟩⟩
 · rw [World.cell?_setCell_other _ _ _ _ (by intro e;cases e)];exact (cf 0).trans h.c0
 · rw [World.cell?_setCell_other _ _ _ _ (by intro e;cases e)];exact (cf 1).trans h.c1
 · exact World.cell?_setCell_same (u:=y) _ _ _ ((cf 2).trans h.c2)
 · rw [World.cell?_setCell_other _ _ _ _ (by intro e;cases e)];exact (cf 3).trans h.c3
 · intro i;simpa using (ff i).trans (h.fr i)
 · intro i;simpa using (fr i).trans (h.rf i)
 · have:=hgr.size;have:=h.lt;simp;omega
 · rw [List.replicate_succ',List.map_append]
   exact keep_row hown (λe=>by rw [ob] at e;cases e;omega)
theorem MW.put {w:World} {B rb:Nat} {m:Int} {y x:Value} {D:List Tc} {n:Nat} {W:World} (h:MW w B rb m y x D n W) (j:Nat) (v:Value):MO w B x D (W.setCell ⟨rb,j,none⟩ v)/\(W.setCell ⟨rb,j,none⟩ v).ownsRow (rb+1+1) 3 1 y n ((List.replicate n (1:Int)).map (Value.int .i64)) :=
 ⟨h.mo.keep grown_set (λq hq=>by
  cases hq;have:=h.ge
  exact ⟨by omega,λe=>by have:=h.gx _ e;omega,λi hi e=>by have:=h.gt i hi _ e;omega⟩),keep_row h.wo (λe=>by have:=(h.wo.lt _ e).1;omega)⟩
theorem MW.puts {w:World} {B rb:Nat} {m:Int} {y x:Value} {D:List Tc} {n:Nat} {W:World} (h:MW w B rb m y x D n W) (v0 v1 v2 v3:Value):MO w B x D ((((W.setCell ⟨rb,0,none⟩ v0).setCell ⟨rb,1,none⟩ v1).setCell ⟨rb,2,none⟩ v2).setCell ⟨rb,3,none⟩ v3)/\((((W.setCell ⟨rb,0,none⟩ v0).setCell ⟨rb,1,none⟩ v1).setCell ⟨rb,2,none⟩ v2).setCell ⟨rb,3,none⟩ v3).ownsRow (rb+1+1) 3 1 y n ((List.replicate n (1:Int)).map (Value.int .i64)):=by
 have st:∀ (V:World) (j:Nat) (v:Value),MO w B x D V/\V.ownsRow (rb+1+1) 3 1 y n ((List.replicate n (1:Int)).map (Value.int .i64))->MO w B x D (V.setCell ⟨rb,j,none⟩ v)/\(V.setCell ⟨rb,j,none⟩ v).ownsRow (rb+1+1) 3 1 y n ((List.replicate n (1:Int)).map (Value.int .i64)):=λV j v hV =>
  ⟨hV.1.keep grown_set (λq hq=>by
   cases hq;have:=h.ge
   exact ⟨by omega,λe=>by have:=h.gx _ e;omega,λi hi e=>by have:=h.gt i hi _ e;omega⟩),keep_row hV.2 (λe=>by have:=(h.wo.lt _ e).1;omega)⟩
 exact st _ _ _ (st _ _ _ (st _ _ _ (st _ _ _ ⟨h.mo,h.wo⟩)))
theorem mo_new {w w':World} {B rb:Nat} {m:Int} {y x:Value} {D:List Tc} {n:Nat} (h:MO w B x D w') (ho:w'.ownsRow (rb+1+1) 3 1 y n ((List.replicate n (1:Int)).map (Value.int .i64))) (hg:w.heap.size<=rb) (hn:n<=1000) (hD:D.length<=1000) (hT:∀ t∈D,t.2.1.length<=1000):∃ wa wc ta tc,y = .slice wa n wc/\x = .slice ta D.length tc/\NewG w w' ⟨m,2,wa,List.replicate n 1,wc,ta,D,tc⟩:=by
 obtain ⟨wa,wc,ey⟩:=own_any ho;obtain ⟨ta,tc,ex⟩:=own_any h.own;have hB:=h.ge
 refine ⟨wa,wc,ta,tc,ey,ex,λW'' hs hc=>⟨⟨by rw [List.length_replicate];unfold maxLen;omega,λhne=>?_⟩,⟨by unfold maxLen;show D.length<=_;omega,λt ht=>?_,λhne=>?_⟩⟩⟩
 · rcases own_beyond ho (by omega) hs hc with ⟨_,h0⟩ | ⟨g,cap,ev,hl,hc2⟩
   · subst h0;exact absurd rfl hne
   · rw [ey,Value.slice.injEq] at ev
     refine ⟨g,0,ev.1,hl,λi hi=>?_⟩
     rw [List.length_replicate] at hi;rw [Nat.zero_add,hc2 i (by omega)];simp [hi]
 · obtain ⟨j,hj,rfl⟩:=List.getElem_of_mem ht
   have tl:=hT _ ht
   refine ⟨by unfold maxLen;omega,λhne=>?_⟩
   rcases own_beyond (h.trees j hj) hB hs hc with ⟨_,h0⟩ | ⟨g,cap,ev,hl,hc2⟩
   · exact absurd (List.length_eq_zero_iff.1 h0) hne
   · unfold tV at ev
     rw [Value.slice.injEq] at ev
     refine ⟨g,0,ev.1,hl,λi hi=>?_⟩
     have hi':i<D[j].2.1.length:=hi;obtain ⟨q0,q1,q2,q3,q4,q5⟩:=ndCells_at _ i hi';rw [Nat.zero_add]
     exact ⟨(hc2 _ (by omega)).trans q0,(hc2 _ (by omega)).trans q1,(hc2 _ (by omega)).trans q2,(hc2 _ (by omega)).trans q3,(hc2 _ (by omega)).trans q4,(hc2 _ (by omega)).trans q5⟩
 · rcases own_beyond h.own hB hs hc with ⟨_,h0⟩ | ⟨g,cap,ev,hl,hc2⟩
   · exact absurd (List.length_eq_zero_iff.1 h0) hne
   · rw [ex,Value.slice.injEq] at ev
     refine ⟨g,0,ev.1,hl,λi hi=>?_⟩
     have hi':i<D.length:=hi;rw [Nat.zero_add,hc2 i (by omega),List.getElem?_map,List.getElem?_eq_getElem hi'];rfl
theorem mw_start {w W:World} {B:Nat} {m:Int} {x:Value} {C:List Tc} (h:MO w B x C W) (a0 a1 a2 a3:Value) (t0 t1:TypeId) (W2:World) (hW:W2=(W.alloc (.cells #[a0,a1,a2,a3] t0)).alloc (.cells #[.int .i64 m,.int .i64 2,.slice none 0 0,x] t1)):MW w B W.heap.size m (.slice none 0 0) x C 0 W2:=by
 obtain ⟨W1,hW1⟩:∃ V,V=W.alloc (.cells #[a0,a1,a2,a3] t0):=⟨_,rfl⟩
 rw [←hW1] at hW
 have z1:W1.heap.size=W.heap.size+1:=by rw [hW1];simp
 have b1:Below W.heap.size W W1:=by rw [hW1];exact (Below.refl _ W).alloc (Nat.le_refl _) _
 have b2:Below W1.heap.size W1 W2:=by rw [hW];exact (Below.refl _ W1).alloc (Nat.le_refl _) _
 have N1:=new_kept hW1 b2;have N2:=new_kept hW (Below.refl _ _);rw [z1] at N2
 refine ⟨h.up (b1.trans (b2.mono b1.size)),N2.1 0 _ rfl,N2.1 1 _ rfl,N2.1 2 _ rfl,N2.1 3 _ rfl,N2.2,⟨_,N1.1 0 _ rfl⟩,⟨_,N1.1 1 _ rfl⟩,⟨_,N1.1 2 _ rfl⟩,⟨_,N1.1 3 _ rfl⟩,N1.2,by rw [hW];simp [z1],h.below.size,λq hq=>(h.own.lt q hq).2,λi hi q hq=>((h.trees i hi).lt q hq).2,World.ownsRow_nil _ _ _ _⟩
theorem wrap_in7 (x:Int) (h1 : -9007199254740992<=x) (h2:x<=9007199254740992):IntKind.i64.wrap x=x:=by
 first
  | exact wrap_in5 x (by omega) (by omega)
  | (unfold IntKind.wrap;simp [IntKind.bits,IntKind.signed];omega)
set_option maxHeartbeats 16000000 in
set_option maxRecDepth 10000 in
theorem bmean_any (w:World) (B bx tc:Nat) (C:List Tc) (m:Int) (W:World) (h:MO w B (.slice (some ⟨bx,0,none⟩) C.length tc) C W) (n9:C.length<=9) (hT:∀ k (hk:k<C.length),C[k].2.1.length<=63) (hv:∀ k (hk:k<C.length) t,t<C[k].2.1.length -> -1000<=M.nv (M.nAt C[k].2.1 t)/\M.nv (M.nAt C[k].2.1 t)<=1000) :
 Calls Tryz.prog 45 #[.slice (some ⟨bx,0,none⟩) C.length tc,.int .i64 m] W λe w'=>∃ J:Gr,e = .returned J.v/\J.m=(m,2,List.replicate C.length 1,(tl C).map (λt=>t.map (M.scN (M.tmN C.length))))/\NewG w w' J/\Below w.heap.size w w':=by
 have HM:=hide h;have VV:=hide hv;have TLn:=hide hT;have FINM:Hid (∀ D,Mix (M.tmN C.length) C D C.length 0->tl D=(tl C).map λt=>t.map (M.scN (M.tmN C.length))):=λD hD=>hD.fin;obtain ⟨i0,hi,hz0,hz1,hz2⟩:=info_parts info3;have I0:=hide hi;have ST:=hide (λa0 a1 a2 a3 t0 t1 W2 hW=>mw_start (m:=m) h a0 a1 a2 a3 t0 t1 W2 hW);clear h hv hT hi
 go_enter Tryz.func45,Tryz.ntmps45
 go_upto_region 2 with fail
 obtain ⟨w2,hw2⟩:∃ V,V=(W.alloc (.cells #[.int .i64 0,.int .i64 0,.slice none 0 0,.slice none 0 0] 35)).alloc (.cells #[.int .i64 m,.int .i64 2,.slice none 0 0,.slice (some ⟨bx,0,none⟩) C.length tc] 35):=⟨_,rfl⟩
 rw [←hw2];have S2:=hide (ST.out _ _ _ _ _ _ _ hw2);clear hw2 ST HM
 go_wp2
 go_loopw [14] (λi wq=>∃ (k:Nat) (y:Value) (D:List Tc),k<=C.length/\i = .int .i64 k/\Hid (Mix (M.tmN C.length) C D k 0)/\Hid (MW w B W.heap.size m y (.slice (some ⟨bx,0,none⟩) C.length tc) D k wq)) (λi _=>C.length-(intOf i).toNat)
 case atStart=>exact ⟨0,_,C,Nat.zero_le _,rfl,Mix.start _ _,S2⟩
 case round =>
  obtain ⟨k,y,D,hk,rfl,MX,S⟩:=hrel;clear S2;have DL:Hid (D.length=C.length):=MX.out.len
  by_cases hlt:k<C.length
  · have c2:=S.out.c2
    have hdk:k<D.length:=by rw [DL.out];exact hlt
    obtain ⟨q,cap,q1,q2,q3,q4,q5⟩:=S.out.mo.tree k hdk;have TR0:=(MX.out.tree hlt hdk).2.2;rw [scK_zero] at TR0
    have el:D[k].2.1.length=C[k].2.1.length:=by rw [TR0]
    have cx:wr.cell? ⟨bx,k,none⟩=some (.slice (some ⟨q,0,none⟩) C[k].2.1.length cap):=by
     have own:=S.out.mo.own;rw [DL.out] at own;rw [own.cellAt k (by omega),List.getElem?_map,List.getElem?_eq_getElem hdk];show some (tV D[k])=_;unfold tV;rw [q1,q2,el]
    have Q5:Hid (∀ E:List Tc,∀ t,Mix (M.tmN C.length) C E k t->∀ hd:k<E.length,(tV E[k]).ownBlock=some q/\E[k].2.1=scK (M.tmN C.length) C[k].2.1 t/\tV E[k] = .slice (some ⟨q,0,none⟩) C[k].2.1.length cap):=λE t hE hd=>by
     obtain ⟨e1,e2,e3⟩:=hE.tree hlt hd;obtain ⟨d1,d2,_⟩:=MX.out.tree hlt hdk
     have ev:tV E[k] = .slice (some ⟨q,0,none⟩) C[k].2.1.length cap:=by
      unfold tV;rw [e1,e2,e3,scK_len,←d1,←d2,q1,q2]
     exact ⟨by rw [ev];rfl,e3,ev⟩
    obtain ⟨ya,yc,rfl⟩:=own_any S.out.wo
    have kz:(k:Int)<(C.length:Int):=by omega
    have k9:k<=9:=by omega
    have MO:=hide (λ(o:Obj) (w5:World) (g cap:Nat) h1 h2=>S.out.more (o:=o) (w5:=w5) (g:=g) (cap:=cap) h1 h2);have WO:=hide S.out.wo;have wsz:=S.out.lt;clear q1 q2 q3 q4 q5 TR0 el hdk
    go_upto_region 6 with (at_builtin;refine wpList_append_lies _ rfl (.tmp 19) (.tmp 20) 24 rfl (W.heap.size+1+1) 3 i0 (.int .i64 0) 1 8 Tryz.underlying24 I0.out hz0 hz1 hz2 rfl (by omega) (.slice ya k yc) k ((List.replicate k (1:Int)).map (Value.int .i64)) rfl (WO.out.alloc _) ⟨wr.heap.size,0,none⟩ 1 1 [.int .i64 1] rfl rfl (World.news_of_block (heap_alloc_new _ _)) (by simp [Value.oneCell']) (by omega) (by unfold maxLen;omega) (by omega) (by simp;omega) (wr.heap.size+1) (by simp) ?_;intro g7 c7 w7 hov7 hgrow7 hat7 hlt7;have F7:=MO.out _ w7 g7 c7 hov7 hgrow7;have f0:=F7.1.1;have f1:=F7.1.2;have B7:=hide F7.2;clear hov7 hgrow7 hat7 F7)
    obtain ⟨w8,hw8⟩:∃ V,V=w7.setCell ⟨W.heap.size+1,2,none⟩ (.slice (some ⟨g7,0,none⟩) (k+1) c7):=⟨_,rfl⟩
    rw [←hw8] at B7 ⊢;clear hw8 f0 f1 MO WO c2 S cx;have VK:=hide (VV.out k hlt);have TK:=TLn.out k hlt;have TN:=hide (λD t (h:Mix (M.tmN C.length) C D k t) (hd:k<D.length)=>h.turn hlt hd);have NX:=hide (λD t (h:Mix (M.tmN C.length) C D k t)=>h.next hlt);have SC:=hide (λt => @scK_cells (M.tmN C.length) C[k].2.1 t);have SLn:=hide (scK_len (M.tmN C.length) C[k].2.1);have SA:=hide (λt => @scK_at (M.tmN C.length) C[k].2.1 t);generalize C[k].2.1=N at *
    go_wp2
    go_loopw [25] (λj wq=>∃ (t:Nat) (E:List Tc),t<=N.length/\j = .int .i64 t/\Hid (Mix (M.tmN C.length) C E k t)/\Hid (MW w B W.heap.size m (.slice (some ⟨g7,0,none⟩) (k+1) c7) (.slice (some ⟨bx,0,none⟩) C.length tc) E (k+1) wq)) (λj _=>N.length-(intOf j).toNat)
    case atStart=>exact ⟨0,D,Nat.zero_le _,rfl,MX,B7⟩
    case round =>
     clear MX B7 DL;obtain ⟨t,E,ht,rfl,MX,S⟩:=hrel
     have hd:k<E.length:=by rw [MX.out.len];exact hlt
     obtain ⟨q5,e3,tv2⟩:=Q5.out E t MX.out hd
     have el:E[k].2.1.length=N.length:=by rw [e3];exact SLn.out t
     by_cases tl:t<N.length
     · have tz:(t:Int)<(N.length:Int):=by omega
       obtain ⟨v0,v1⟩:=VK.out t tl;have tow:=S.out.mo.trees k hd;have hs:=SC.out t tl;rw [tv2,el] at tow
       have cv:wr.cell? ⟨q,t*6+5,none⟩=some (.int .i64 (M.nv (M.nAt N t))):=by
        have z5:=(ndCells_at E[k].2.1 t (by rw [el];exact tl)).2.2.2.2.2;rw [tow.cellAt (t*6+5) (by omega),z5,e3,SA.out t tl]
       have fv:wr.frozen? ⟨q,t*6+5,none⟩=false:=tow.frozenAt _
       have BT:Hid (MW w B W.heap.size m (.slice (some ⟨g7,0,none⟩) (k+1) c7) (.slice (some ⟨bx,0,none⟩) C.length tc) (E.set k (E[k].1,scK (M.tmN C.length) N (t+1),E[k].2.2)) (k+1) (wr.setCell ⟨q,t*6+5,none⟩ (.int .i64 (M.tmN C.length (M.nv (M.nAt N t)))))) :=
        S.out.turn k hd q5 (by rw [e3];exact hs) (by rw [SLn.out,el])
       have MT:Hid (Mix (M.tmN C.length) C (E.set k (E[k].1,scK (M.tmN C.length) N (t+1),E[k].2.2)) k (t+1)):=TN.out E t MX.out hd;have tm:M.tmN C.length (M.nv (M.nAt N t))=M.nv (M.nAt N t)*(C.length:Int):=rfl;have tb:=M.tm_in n9 (M.nv (M.nAt N t)) v0 v1;rw [tm] at tb BT;have w1:IntKind.i64.wrap (M.nv (M.nAt N t)*(C.length:Int))=M.nv (M.nAt N t)*(C.length:Int):=wrap_in7 _ (by omega) (by omega);have FT:=hide (λw=>fitto_in (M.nv (M.nAt N t)*(C.length:Int)) w (by omega) (by omega));clear tow tv2 hs e3 el tm tb VV TLn FINM SC SLn SA TN NX VK MX S Q5 q5 I0;generalize M.nv (M.nAt N t)=v at *;generalize hvn:v*(C.length:Int)=vn at *
       go_wp2_with (go_at_call 76;refine (FT.out _).mono ?_;rintro e w9 ⟨rfl,e9⟩;have e10:=e9.symm;subst e10)
       go_roundw
       case rel=>exact ⟨t+1,_,by omega,by go_num,MT,BT⟩
       case measure=>simp [intOf];omega
     · have te:t=N.length:=by omega
       have tz:¬ ((t:Int)<(N.length:Int)):=by omega
       have MN:=hide (NX.out E t MX.out te);clear VV TLn FINM SC SLn SA TN NX VK MX e3 tv2 te el Q5 q5
       go_wp2
       go_roundw
       case rel=>exact ⟨k+1,_,E,by omega,by go_num,MN,S⟩
       case measure=>simp [intOf];omega
  · have ke:k=C.length:=by omega
    have knz:¬ ((k:Int)<(C.length:Int)):=by omega
    have mx:=MX.out;rw [ke] at mx;have FM:=hide (FINM.out D mx);have b:=S.out;rw [ke] at b;obtain ⟨z0,y0⟩:=b.r0;obtain ⟨z1,y1⟩:=b.r1;obtain ⟨z2,y2⟩:=b.r2;obtain ⟨z3,y3⟩:=b.r3;have f0:=b.rf 0;have f1:=b.rf 1;have f2:=b.rf 2;have f3:=b.rf 3;have c0':=b.c0;have c1':=b.c1;have c2':=b.c2;have c3':=b.c3;obtain ⟨wa,wc,ey⟩:=own_any b.wo;subst ey
    have NP:Hid (∃ J:Gr,J.v = .agg #[.int .i64 m,.int .i64 2,.slice wa C.length wc,.slice (some ⟨bx,0,none⟩) C.length tc]/\J.m=(m,2,List.replicate C.length 1,(tl C).map (λt=>t.map (M.scN (M.tmN C.length))))/\NewG w ((((wr.setCell ⟨W.heap.size,0,none⟩ (.int .i64 m)).setCell ⟨W.heap.size,1,none⟩ (.int .i64 2)).setCell ⟨W.heap.size,2,none⟩ (.slice wa C.length wc)).setCell ⟨W.heap.size,3,none⟩ (.slice (some ⟨bx,0,none⟩) C.length tc)) J):=by
     obtain ⟨p1,p2⟩:=b.puts (.int .i64 m) (.int .i64 2) (.slice wa C.length wc) (.slice (some ⟨bx,0,none⟩) C.length tc)
     obtain ⟨wa',wc',ta',tc',e1,e2,NG⟩:=mo_new (m:=m) p1 p2 b.ge (by omega) (by rw [DL.out];omega) (λt ht=>by
      obtain ⟨j,hj,rfl⟩:=List.getElem_of_mem ht
      have hj':j<C.length:=by rw [←DL.out];exact hj
      obtain ⟨_,_,e3⟩:=mx.at' j hj' hj;rw [e3,if_pos hj',List.length_map];have:=TLn.out j hj'
      omega)
     refine ⟨_,?_,?_,NG⟩
     · unfold Gr.v
       rw [List.length_replicate,←e1,←e2]
     · unfold Gr.m
       rw [FM.out]
    have KB:=hide (b.mo.below);have rg:Hid (w.heap.size<=W.heap.size):=b.ge;clear mx b MX S FINM VV TLn FM DL ke I0
    go_wp2
    obtain ⟨e0,e1,e2,e3⟩:=put4_at (x0 := .int .i64 m) (x1 := .int .i64 2) (x2 := .slice wa C.length wc) (x3 := .slice (some ⟨bx,0,none⟩) C.length tc) y0 y1 y2 y3;refine bodyPost_ret (v := .agg #[.int .i64 m,.int .i64 2,.slice wa C.length wc,.slice (some ⟨bx,0,none⟩) C.length tc]) (by simp [results,Tryz.results45,go_sem,e0,e1,e2,e3]) rfl ?_;obtain ⟨J,j1,j2,j3⟩:=NP.out
    exact ⟨J,by rw [j1],j2,j3,lay4 KB.out rg.out⟩
def BooFitGives:Prop:=∀ (a:Option Addr) (xs:List Sx) (ca:Nat) (m r d s:Int) (W:World),RdL W a xs->Calls Tryz.prog 19 #[.slice a xs.length ca,.int .i64 m,.int .i64 r,.int .i64 d,.int .i64 s] W λe w'=>∃ J:Gr,e = .returned (.tuple #[J.v,errV (M.booF (sms xs) m r d s)])/\J.m=M.booG (sms xs) m r d s/\RdG w' J/\Below W.heap.size W w'
abbrev grB (G:Gr):Obj := .cells #[.int .i64 G.f,.int .i64 G.w,.slice G.wa G.ws.length G.wc,.slice G.ta G.ks.length G.tc] 35
theorem gr_box (W:World) (G:Gr):Below W.heap.size W (W.alloc (grB G))/\(W.alloc (grB G)).cell? ⟨W.heap.size,0,none⟩=some (.int .i64 G.f)/\(W.alloc (grB G)).cell? ⟨W.heap.size,1,none⟩=some (.int .i64 G.w)/\(W.alloc (grB G)).cell? ⟨W.heap.size,2,none⟩=some (.slice G.wa G.ws.length G.wc)/\(W.alloc (grB G)).cell? ⟨W.heap.size,3,none⟩=some (.slice G.ta G.ks.length G.tc)/\W.heap.size<(W.alloc (grB G)).heap.size :=
 ⟨(Below.refl W.heap.size W).alloc (Nat.le_refl _) _,World.cell?_alloc_at _ _ _ 0 rfl,World.cell?_alloc_at _ _ _ 1 rfl,World.cell?_alloc_at _ _ _ 2 rfl,World.cell?_alloc_at _ _ _ 3 rfl,by simp⟩
structure Bx4 (W:World) (b:Nat) (G:Gr):Prop where
 c0:W.cell? ⟨b,0,none⟩=some (.int .i64 G.f)
 c1:W.cell? ⟨b,1,none⟩=some (.int .i64 G.w)
 c2:W.cell? ⟨b,2,none⟩=some (.slice G.wa G.ws.length G.wc)
 c3:W.cell? ⟨b,3,none⟩=some (.slice G.ta G.ks.length G.tc)
 lt:b<W.heap.size
 rd:RdG W G
theorem Bx4.up {W W':World} {b:Nat} {G:Gr} (h:Bx4 W b G) (hb:Below W.heap.size W W'):Bx4 W' b G :=
 ⟨(hb.cell (p:=⟨b,0,none⟩) h.lt).trans h.c0,(hb.cell (p:=⟨b,1,none⟩) h.lt).trans h.c1,(hb.cell (p:=⟨b,2,none⟩) h.lt).trans h.c2,(hb.cell (p:=⟨b,3,none⟩) h.lt).trans h.c3,Nat.lt_of_lt_of_le h.lt hb.size,h.rd.below hb⟩
theorem Bx4.new (W:World) (G:Gr) (h:RdG W G):Bx4 (W.alloc (grB G)) W.heap.size G/\Below W.heap.size W (W.alloc (grB G)):=by
 obtain ⟨b,c0,c1,c2,c3,l⟩:=gr_box W G
 exact ⟨⟨c0,c1,c2,c3,l,h.below b⟩,b⟩
end Go.Proofs.YtaijnacghiloaaaGreatDoor
