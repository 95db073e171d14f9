/-
  Several texts as one: ShA, ShStep, ShTurn, ShCh, ShPick, ShAdd.
-/
import Derived.Test.YtaijnacghiloaaaGreatDoorRunT10
import Derived.Test.YtaijnacghiloaaaGreatDoorRunT3
import Derived.Test.YtaijnacghiloaaaGreatDoorRunT4
import Derived.Test.YtaijnacghiloaaaGreatDoorRunT11
import Derived.StringKeys
import Derived.Test.YtaijnacghiloaaaGreatDoorRunT1
import Derived.Test.YtaijnacghiloaaaGreatDoorRunT5
namespace Go.Proofs.YtaijnacghiloaaaGreatDoor
open Go.ChangeShapes Go.WideShapes Go.ChangeAt Go.RowKit Go.Lib Go.Maps
set_option linter.unusedVariables false
theorem keyI:Keyed Tryz.prog 3:=int_keyed Tryz.underlying3
theorem keyS:Keyed Tryz.prog 9 := string_keyed Tryz.underlying9
def nmK (n:List Nat):Lit := .string (n.map UInt8.ofNat)
theorem nmK_inj {a b:List Nat} (ha:isB a) (hb:isB b) (h:nmK a=nmK b):a=b:=by
 unfold nmK at h
 injection h with h
 exact ofs_inj a b ha hb h
theorem keyOfS {n:List Nat} (h:n.length<=140737488351232):keyOf Tryz.prog 9 (.string (byStr n))=some (nmK n):=by
 have e:=Go.WideMaps.keyOf_string_mk (P := Tryz.prog) (k := 9) Tryz.underlying9 (s:=byStr n) (by
  have:(byStr n).size=n.length:=by
   have:=congrArg List.length (byStr_list n)
   simpa using this
  rw [this];unfold maxLen;omega)
 rw [e,byStr_list];rfl
theorem isKeyS (n:List Nat):WideAt.IsKeyLit (nmK n):=by
 unfold nmK
 trivial
def anV (a:M.An):Value := .agg #[.int .i64 a.num, .int .i64 a.idx]
def lastV (d:M.Dn):Value := .agg #[.int .i64 d.seq, .int .i64 d.ans.num, .int .i64 d.ans.idx,errV d.bad]
def GIn (P:Nat->Prop) (W:World) (G:Gr):Prop := ∀ W':World,W.heap.size<=W'.heap.size->(∀ q,P q->W'.heap[q]? = W.heap[q]?)->RdG W' G
theorem GIn.up {P Q:Nat->Prop} {W W':World} {G:Gr} (h:GIn P W G) (hz:W.heap.size<=W'.heap.size) (hk : ∀ q,P q->W'.heap[q]? = W.heap[q]?) (hq : ∀ q,P q->Q q):GIn Q W' G:=λ W'' h1 h2=>h W'' (Nat.le_trans hz h1) (λ q hp=>(h2 q (hq q hp)).trans (hk q hp))
theorem GIn.rd {P:Nat->Prop} {W:World} {G:Gr} (h:GIn P W G):RdG W G:=h W (Nat.le_refl _) (λ _ _=>rfl)
def kpL (v:M.Vn) (G:Gr):List Value := [.string (byStr v.name), .int .i64 v.num, .int .i64 v.stage, .int .i64 v.share, .int .i64 G.f, .int .i64 G.w, .slice G.wa G.ws.length G.wc, .slice G.ta G.ks.length G.tc]
abbrev vAt (S:M.Sh) (k:Nat):M.Vn:=(S.l.getD k M.vg0).1
structure Inv (S:M.Sh):Prop where
 ok:M.ShOk S
 zr:M.zerL S.l
 nu:M.numY (M.kyL S.l)
 ll:(S.l.length:Int)<=S.idx
 dl:(S.done.length:Int)<=S.idx
 nb : ∀ k,k<S.l.length->isB (vAt S k).name
structure SV (W:World) (f:Nat) (T:Nat->Nat) (S:M.Sh) (mm ml:Nat) (D E:DataW Value) (kb:Nat->Nat) (mb:List Nat->Nat) (va:List Nat->Option Addr) (vc:List Nat->Nat) (G:Nat->Gr):Prop where
 inv:Inv S
 tlt : ∀ q,T q≠0->q<W.heap.size
 box:Bx W f [.map (some mm), .map (some ml), .int .i64 S.idx]
 tf:T f=1
 tm:T mm=2
 tl:T ml=3
 lo : ∃ m:Nat,W.ownsMap Tryz.prog 3 selfE ml m E
 lz:Maps.size E=S.done.length
 la : ∀ ses k,M.lastN S ses=some k -> ∀ z,E.atKey (.int .i64 ses) z = .held (lastV (S.done.getD k dn0))
 ln : ∀ ses,M.lastN S ses=none->Maps.has E (.int .i64 ses)=false
 mo:W.ownsMap Tryz.prog 9 selfE mm (M.names S) D
 mz:Maps.size D=M.names S
 mn : ∀ n,isB n->M.posL S.l n = []->Maps.has D (nmK n)=false
 ms : ∀ n,M.posL S.l n ≠ [] -> ∀ z,D.atKey (nmK n) z = .held (ptB (some (mb n)))
 tb : ∀ n,M.posL S.l n ≠ []->T (mb n)=4
 mi : ∀ n n',M.posL S.l n ≠ []->M.posL S.l n' ≠ []->mb n=mb n'->n=n'
 mc : ∀ n,M.posL S.l n ≠ []->Bx W (mb n) [.slice (va n) (M.posL S.l n).length (vc n),ptB ((M.atN S n 2).map kb),ptB ((M.atN S n 3).map kb)]
 ro : ∀ n,M.posL S.l n ≠ []->W.ownsRow 0 157 1 (.slice (va n) (M.posL S.l n).length (vc n)) (M.posL S.l n).length ((M.posL S.l n).map λ k=>ptB (some (kb k)))
 rt : ∀ n p,M.posL S.l n ≠ []->va n=some p->T p.block=5
 ri : ∀ n n' p p',M.posL S.l n ≠ []->M.posL S.l n' ≠ []->va n=some p->va n'=some p'->p.block=p'.block->n=n'
 tk : ∀ k,k<S.l.length->T (kb k)=6
 ki : ∀ k j,k<S.l.length->j<S.l.length->kb k=kb j->k=j
 kc : ∀ k,k<S.l.length->Bx W (kb k) (kpL (vAt S k) (G k))
 kg : ∀ k,k<S.l.length->(vAt S k).stage≠4->(G k).m=(S.l.getD k M.vg0).2/\GIn (λ q=>T q=7) W (G k)
def SA (W:World) (f:Nat) (T:Nat->Nat) (S:M.Sh):Prop := ∃ mm ml D E kb mb va vc G,SV W f T S mm ml D E kb mb va vc G
theorem ownsMap_tight {W:World} {P:Program} {k:TypeId} {R:Value->Option (DataW Value×List MemPlace)} {b n:Nat} {D:DataW Value} (h:W.ownsMap P k R b n D):W.ownsMap P k R b (Maps.size D) D:=by
 obtain ⟨es,clock,hb,F,hs,e⟩:=h
 refine ⟨es,clock,hb,F, ?_,e⟩
 rw [e];simp [Maps.size,length_sorted]
theorem own_keep_at {W W':World} {B:Nat} {e:TypeId} {size n:Nat} {v:Value} {l:List Value} (h:W.ownsRow B e size v n l) (hk : ∀ q,v.ownBlock=some q->W'.heap[q]? = W.heap[q]?):W'.ownsRow B e size v n l:=by
 refine ⟨h.1, ?_⟩
 rcases h.2 with z | ⟨g,cap,cur,hv,hb,hg,r⟩
 · exact .inl z
 · refine .inr ⟨g,cap,cur,hv,hb, ?_,r⟩
   rw [hk g (by rw [hv];rfl)];exact hg
theorem SV.up {W W':World} {f:Nat} {T:Nat->Nat} {S:M.Sh} {mm ml:Nat} {D E:DataW Value} {kb:Nat->Nat} {mb:List Nat->Nat} {va:List Nat->Option Addr} {vc:List Nat->Nat} {G:Nat->Gr} (h:SV W f T S mm ml D E kb mb va vc G) (hk : ∀ q,T q≠0->W'.heap[q]? = W.heap[q]?) (hz:W.heap.size<=W'.heap.size):SV W' f T S mm ml D E kb mb va vc G where
 inv:=h.inv
 tlt:=λ q hq=>Nat.lt_of_lt_of_le (h.tlt q hq) hz
 box:=h.box.keep (hk f (by rw [h.tf];decide))
 tf:=h.tf
 tm:=h.tm
 tl:=h.tl
 lo:=by
  obtain ⟨m,h1⟩:=h.lo
  exact ⟨m,ownsMap_keep h1 (hk ml (by rw [h.tl];decide))⟩
 lz:=h.lz
 la:=h.la
 ln:=h.ln
 mo:=ownsMap_keep h.mo (hk mm (by rw [h.tm];decide))
 mz:=h.mz
 mn:=h.mn
 ms:=h.ms
 tb:=h.tb
 mi:=h.mi
 mc:=λ n hn=>(h.mc n hn).keep (hk _ (by rw [h.tb n hn];decide))
 ro:=λ n hn=>own_keep_at (h.ro n hn) (λ q hq=>hk q (by
  cases e:va n with
  | none=>rw [e] at hq;cases hq
  | some p =>
    rw [e] at hq
    have hq':p.block=q:=by cases hq;rfl
    rw [←hq',h.rt n p hn e]
    decide))
 rt:=h.rt
 ri:=h.ri
 tk:=h.tk
 ki:=h.ki
 kc:=λ k hk'=>(h.kc k hk').keep (hk _ (by rw [h.tk k hk'];decide))
 kg:=λ k hk' hs=>⟨(h.kg k hk' hs).1,(h.kg k hk' hs).2.up hz (λ q hq=>hk q (by rw [hq];decide)) (λ q hq=>hq)⟩
theorem SA.up {W W':World} {f:Nat} {T:Nat->Nat} {S:M.Sh} (h:SA W f T S) (hk : ∀ q,T q≠0->W'.heap[q]? = W.heap[q]?) (hz:W.heap.size<=W'.heap.size):SA W' f T S:=by
 obtain ⟨mm,ml,D,E,kb,mb,va,vc,G,h⟩:=h
 exact ⟨mm,ml,D,E,kb,mb,va,vc,G,h.up hk hz⟩
theorem SV.below {W W':World} {f:Nat} {T:Nat->Nat} {S:M.Sh} {mm ml:Nat} {D E:DataW Value} {kb:Nat->Nat} {mb:List Nat->Nat} {va:List Nat->Option Addr} {vc:List Nat->Nat} {G:Nat->Gr} (h:SV W f T S mm ml D E kb mb va vc G) (hb:Below W.heap.size W W'):SV W' f T S mm ml D E kb mb va vc G:=h.up (λ q hq=>hb.block q (h.tlt q hq)) hb.size
theorem SV.lt {W:World} {f:Nat} {T:Nat->Nat} {S:M.Sh} {mm ml:Nat} {D E:DataW Value} {kb:Nat->Nat} {mb:List Nat->Nat} {va:List Nat->Option Addr} {vc:List Nat->Nat} {G:Nat->Gr} (h:SV W f T S mm ml D E kb mb va vc G):f<W.heap.size:=h.tlt f (by rw [h.tf];decide)
def Gr.nil:Gr:=⟨0,0,none, [],0,none, [],0⟩
theorem M.names_setV (s:M.Sh) (k:Nat) (st sh:Int) (i:Int) (ds:List M.Dn):M.names ⟨i,M.setV s.l k st sh,ds⟩=M.names s:=by
 have e : ∀ l:List (M.Vn×M.Gv),(l.filter λ v=>decide (v.1.num=1)).length=((M.kyL l).filter λ x=>decide (x.2=1)).length:=λ l=>by
  unfold M.kyL;rw [List.filter_map,List.length_map];rfl
 unfold M.names;rw [e,e,M.ky_setV]
theorem Inv.set {S:M.Sh} (h:Inv S) {k:Nat} {st sh:Int} (hk:k<S.l.length) (ho:M.oneL (M.setV S.l k st sh)) (h1:0<sh↔st=2) (h2:st≠2->sh=0):Inv ⟨S.idx,M.setV S.l k st sh,S.done⟩ where
 ok:=⟨ho,M.shr_set h.ok.shr h1,h.ok.i0,h.ok.ans⟩
 zr:=M.zer_set h.zr h2
 nu:=by
  show M.numY (M.kyL (M.setV S.l k st sh))
  rw [M.ky_setV];exact h.nu
 ll:=by
  show ((M.setV S.l k st sh).length:Int)<=S.idx
  rw [M.len_setV];exact h.ll
 dl:=h.dl
 nb:=λ j hj=>by
  have hj':j<S.l.length:=by rw [←M.len_setV S.l k st sh];exact hj
  show isB ((M.setV S.l k st sh).getD j M.vg0).1.name;rw [M.getD_setV S.l k st sh hj']
  by_cases q:k=j
  · rw [if_pos q];exact h.nb j hj'
  · rw [if_neg q];exact h.nb j hj'
theorem mvC_map {kb:Nat->Nat} {n:Nat} (hi : ∀ k j,k<n->j<n->kb k=kb j->k=j) {o:Option Nat} (ho : ∀ c,o=some c->c<n) {k:Nat} (hk:k<n) (st st':Int):mvC (o.map kb) (kb k) st st'=(mvC o k st st').map kb:=by
 unfold mvC
 by_cases q:st=st'
 · rw [if_pos q,if_pos q];rfl
 · rw [if_neg q,if_neg q]
   cases o with
   | none=>rfl
   | some c =>
     by_cases e:c=k
     · subst e;simp
     · rw [if_neg (by intro z;rw [Option.map_some,Option.some.injEq] at z;exact e (hi c k (ho c rfl) hk z)),if_neg (by intro z;cases z;exact e rfl)]
theorem at_set_mv {S:M.Sh} (h:M.oneL S.l) {k:Nat} {st sh:Int} (hk:k<S.l.length) (h':M.oneL (M.setV S.l k st sh)) {st':Int} (hs:st'=3∨st'=2):M.atN ⟨S.idx,M.setV S.l k st sh,S.done⟩ (vAt S k).name st'=mvC (M.atN S (vAt S k).name st') k st st':=by
 rw [M.at_set h hk 0 S.idx S.done h' hs,if_pos rfl];rfl
theorem at_set_no {S:M.Sh} (h:M.oneL S.l) {k:Nat} {st sh:Int} (hk:k<S.l.length) (h':M.oneL (M.setV S.l k st sh)) {n:List Nat} (hn:(vAt S k).name≠n) {st':Int} (hs:st'=3∨st'=2):M.atN ⟨S.idx,M.setV S.l k st sh,S.done⟩ n st'=M.atN S n st':=by
 rw [M.at_set h hk 0 S.idx S.done h' hs,if_neg hn]
theorem SV.posNe {W:World} {f:Nat} {T:Nat->Nat} {S:M.Sh} {mm ml:Nat} {D E:DataW Value} {kb:Nat->Nat} {mb:List Nat->Nat} {va:List Nat->Option Addr} {vc:List Nat->Nat} {G:Nat->Gr} (h:SV W f T S mm ml D E kb mb va vc G) {k:Nat} (hk:k<S.l.length):M.posL S.l (vAt S k).name ≠ []:=λ e=>by
 have:=M.pos_mem.2 ⟨hk,rfl⟩;rw [show (S.l.getD k M.vg0).1.name=(vAt S k).name from rfl,e] at this;cases this
theorem SV.moved {W W':World} {f:Nat} {T:Nat->Nat} {S:M.Sh} {mm ml:Nat} {D E:DataW Value} {kb:Nat->Nat} {mb:List Nat->Nat} {va:List Nat->Option Addr} {vc:List Nat->Nat} {G:Nat->Gr} (h:SV W f T S mm ml D E kb mb va vc G) {k:Nat} {st sh:Int} (hk:k<S.l.length) (hp:(vAt S k).stage≠4)
 (hw:StayBut (λ q=>q=mb (vAt S k).name∨q=kb k) W W')
 (hm:Bx W' (mb (vAt S k).name) [.slice (va (vAt S k).name) (M.posL S.l (vAt S k).name).length (vc (vAt S k).name),ptB (mvC ((M.atN S (vAt S k).name 2).map kb) (kb k) st 2),ptB (mvC ((M.atN S (vAt S k).name 3).map kb) (kb k) st 3)])
 (hb:Bx W' (kb k) ([.string (byStr (vAt S k).name), .int .i64 (vAt S k).num, .int .i64 st, .int .i64 sh] ++ mvG st (.int .i64 (G k).f) (.int .i64 (G k).w) (.slice (G k).wa (G k).ws.length (G k).wc) (.slice (G k).ta (G k).ks.length (G k).tc)))
 (ho:M.oneL (M.setV S.l k st sh)) (h1:0<sh↔st=2) (h2:st≠2->sh=0) :
 SV W' f T ⟨S.idx,M.setV S.l k st sh,S.done⟩ mm ml D E kb mb va vc (λ j=>if j=k/\st=4 then Gr.nil else G j):=by
 have ne:=h.posNe hk
 have keep : ∀ q,T q≠0->T q≠4->T q≠6->W'.heap[q]? = W.heap[q]? := λ q h0 h4 h6=>hw.block q (h.tlt q h0) (λ e=>by
  rcases e with rfl | rfl
  · exact h4 (h.tb _ ne)
  · exact h6 (h.tk k hk))
 have pl : ∀ n,M.posL (M.setV S.l k st sh) n=M.posL S.l n:=λ n=>M.pos_setV S.l k st sh n;have ln:(M.setV S.l k st sh).length=S.l.length:=M.len_setV S.l k st sh;have gd : ∀ j,j<S.l.length->(M.setV S.l k st sh).getD j M.vg0=if k=j then (⟨(S.l.getD j M.vg0).1.name,(S.l.getD j M.vg0).1.num,st,sh⟩,(S.l.getD j M.vg0).2) else S.l.getD j M.vg0:=λ j hj=>M.getD_setV S.l k st sh hj
 have mbk : ∀ n,M.posL S.l n ≠ []->n≠(vAt S k).name->W'.heap[mb n]? = W.heap[mb n]? := λ n hn hne=>hw.block _ (h.tlt _ (by rw [h.tb n hn];decide)) (λ e=>by
  rcases e with e | e
  · exact hne (h.mi n _ hn ne e)
  · have a:=h.tb n hn
    rw [e,h.tk k hk] at a
    cases a)
 have kbk : ∀ j,j<S.l.length->j≠k->W'.heap[kb j]? = W.heap[kb j]? := λ j hj hne=>hw.block _ (h.tlt _ (by rw [h.tk j hj];decide)) (λ e=>by
  rcases e with e | e
  · have a:=h.tb _ ne
    rw [←e,h.tk j hj] at a;cases a
  · exact hne (h.ki j k hj hk e))
 exact {
  inv:=h.inv.set hk ho h1 h2
  tlt:=λ q hq=>Nat.lt_of_lt_of_le (h.tlt q hq) hw.size
  box:=h.box.keep (keep f (by rw [h.tf];decide) (by rw [h.tf];decide) (by rw [h.tf];decide))
  tf:=h.tf
  tm:=h.tm
  tl:=h.tl
  lo:=by
   obtain ⟨m,h1⟩:=h.lo
   exact ⟨m,ownsMap_keep h1 (keep ml (by rw [h.tl];decide) (by rw [h.tl];decide) (by rw [h.tl];decide))⟩
  lz:=h.lz
  la:=h.la
  ln:=h.ln
  mo:=by rw [M.names_setV];exact ownsMap_keep h.mo (keep mm (by rw [h.tm];decide) (by rw [h.tm];decide) (by rw [h.tm];decide))
  mz:=by rw [M.names_setV];exact h.mz
  mn:=λ n hb hn=>h.mn n hb ((pl n).symm.trans hn)
  ms:=λ n hn=>h.ms n (λ e=>hn ((pl n).trans e))
  tb:=λ n hn=>h.tb n (λ e=>hn ((pl n).trans e))
  mi:=λ n n' hn hn'=>h.mi n n' (λ e=>hn ((pl n).trans e)) (λ e=>hn' ((pl n').trans e))
  mc:=λ n hn=>by
   have hn0:M.posL S.l n ≠ []:=λ e=>hn ((pl n).trans e);show Bx W' (mb n) [.slice (va n) (M.posL (M.setV S.l k st sh) n).length (vc n),ptB ((M.atN ⟨S.idx,M.setV S.l k st sh,S.done⟩ n 2).map kb),ptB ((M.atN ⟨S.idx,M.setV S.l k st sh,S.done⟩ n 3).map kb)];rw [pl n]
   by_cases q:n=(vAt S k).name
   · subst q
     rw [at_set_mv h.inv.ok.one hk ho (.inr rfl),at_set_mv h.inv.ok.one hk ho (.inl rfl),←mvC_map h.ki (λ c hc=>(M.at_is hc).1) hk,←mvC_map h.ki (λ c hc=>(M.at_is hc).1) hk];exact hm
   · rw [at_set_no h.inv.ok.one hk ho (Ne.symm q) (.inr rfl),at_set_no h.inv.ok.one hk ho (Ne.symm q) (.inl rfl)]
     exact (h.mc n hn0).keep (mbk n hn0 q)
  ro:=λ n hn=>by
   have hn0:M.posL S.l n ≠ []:=λ e=>hn ((pl n).trans e);show W'.ownsRow 0 157 1 (.slice (va n) (M.posL (M.setV S.l k st sh) n).length (vc n)) (M.posL (M.setV S.l k st sh) n).length ((M.posL (M.setV S.l k st sh) n).map λ k=>ptB (some (kb k)));rw [pl n]
   exact own_keep_at (h.ro n hn0) (λ q hq=>by
    cases e:va n with
    | none=>rw [e] at hq;cases hq
    | some p =>
      rw [e] at hq
      have hq':p.block=q:=by cases hq;rfl
      have t5:=h.rt n p hn0 e;rw [hq'] at t5
      exact keep q (by rw [t5];decide) (by rw [t5];decide) (by rw [t5];decide))
  rt:=λ n p hn=>h.rt n p (λ e=>hn ((pl n).trans e))
  ri:=λ n n' p p' hn hn'=>h.ri n n' p p' (λ e=>hn ((pl n).trans e)) (λ e=>hn' ((pl n').trans e))
  tk:=λ j hj=>h.tk j (by rw [←ln];exact hj)
  ki:=λ i j hi hj=>h.ki i j (by rw [←ln];exact hi) (by rw [←ln];exact hj)
  kc:=λ j hj=>by
   have hj':j<S.l.length:=by rw [←ln];exact hj
   show Bx W' (kb j) (kpL ((M.setV S.l k st sh).getD j M.vg0).1 (if j=k/\st=4 then Gr.nil else G j));rw [gd j hj']
   by_cases q:k=j
   · subst q
     rw [if_pos rfl]
     by_cases s4:st=4
     · rw [if_pos ⟨rfl,s4⟩]
       unfold mvG at hb;rw [if_pos s4] at hb;exact hb
     · rw [if_neg (λ z=>s4 z.2)]
       unfold mvG at hb;rw [if_neg s4] at hb;exact hb
   · rw [if_neg q,if_neg (λ z=>q z.1.symm)]
     exact (h.kc j hj').keep (kbk j hj' (Ne.symm q))
  kg:=λ j hj hs=>by
   have hj':j<S.l.length:=by rw [←ln];exact hj
   have hs':((M.setV S.l k st sh).getD j M.vg0).1.stage≠4:=hs;show (if j=k/\st=4 then Gr.nil else G j).m=((M.setV S.l k st sh).getD j M.vg0).2/\GIn (λ q=>T q=7) W' (if j=k/\st=4 then Gr.nil else G j);have up : ∀ {g:Gr},GIn (λ q=>T q=7) W g->GIn (λ q=>T q=7) W' g:=λ hg=>hg.up hw.size (λ q hq=>keep q (by rw [hq];decide) (by rw [hq];decide) (by rw [hq];decide)) (λ q hq=>hq);rw [gd j hj'] at hs' ⊢
   by_cases q:k=j
   · subst q
     rw [if_pos rfl] at hs' ⊢;rw [if_neg (λ z=>hs' z.2)]
     exact ⟨(h.kg k hk hp).1,up (h.kg k hk hp).2⟩
   · rw [if_neg q] at hs' ⊢
     rw [if_neg (λ z=>q z.1.symm)]
     exact ⟨(h.kg j hj' hs').1,up (h.kg j hj' hs').2⟩ }
def M.tryF (s:M.Sh) (k:Nat) (share:Int):Int×List (M.Vn×M.Gv) :=
 if share<1∨99<share then (1,s.l) else if (vAt s k).stage≠1 then (6,s.l) else if (M.atN s (vAt s k).name 2).isSome then (7,s.l) else (0,M.setV s.l k 2 share)
def M.proF (s:M.Sh) (k:Nat):Int×List (M.Vn×M.Gv) :=
 if (vAt s k).stage≠1/\(vAt s k).stage≠2 then (6,s.l) else match M.atN s (vAt s k).name 3 with
  | none=>(0,M.setV s.l k 3 0)
  | some o=>(0,M.setV (M.setV s.l o 4 0) k 3 0)
def M.retF (s:M.Sh) (k:Nat):Int×List (M.Vn×M.Gv):=if (vAt s k).stage=4 then (6,s.l) else (0,M.setV s.l k 4 0)
def TurnGives (W:World) (f:Nat) (T:Nat->Nat) (S:M.Sh) (mm ml:Nat) (D E:DataW Value) (kb:Nat->Nat) (mb:List Nat->Nat) (va:List Nat->Option Addr) (vc:List Nat->Nat) (r:Int×List (M.Vn×M.Gv)) (e:Ending) (w':World):Prop :=
 ∃ G',e = .returned (errV r.1)/\SV w' f T ⟨S.idx,r.2,S.done⟩ mm ml D E kb mb va vc G'/\StayBut (λ q=>T q≠0) W w'
theorem SV.stayMK {W w':World} {f:Nat} {T:Nat->Nat} {S:M.Sh} {mm ml:Nat} {D E:DataW Value} {kb:Nat->Nat} {mb:List Nat->Nat} {va:List Nat->Option Addr} {vc:List Nat->Nat} {G:Nat->Gr} (h:SV W f T S mm ml D E kb mb va vc G) {k:Nat} (hk:k<S.l.length) (hw:StayBut (λ q=>q=mb (vAt S k).name∨q=kb k) W w'):StayBut (λ q=>T q≠0) W w' :=
 hw.mono (λ q _ e=>by
  rcases e with rfl | rfl
  · rw [h.tb _ (h.posNe hk)];decide
  · rw [h.tk k hk];decide)
theorem SV.mkNe {W:World} {f:Nat} {T:Nat->Nat} {S:M.Sh} {mm ml:Nat} {D E:DataW Value} {kb:Nat->Nat} {mb:List Nat->Nat} {va:List Nat->Option Addr} {vc:List Nat->Nat} {G:Nat->Gr} (h:SV W f T S mm ml D E kb mb va vc G) {k:Nat} (hk:k<S.l.length):mb (vAt S k).name≠kb k:=λ e=>by
 have a:=h.tb _ (h.posNe hk);rw [e,h.tk k hk] at a;cases a
theorem SV.move {W:World} {f:Nat} {T:Nat->Nat} {S:M.Sh} {mm ml:Nat} {D E:DataW Value} {kb:Nat->Nat} {mb:List Nat->Nat} {va:List Nat->Option Addr} {vc:List Nat->Nat} {G:Nat->Gr} (h:SV W f T S mm ml D E kb mb va vc G) {k:Nat} (hk:k<S.l.length) (st:Int) (hs:st=2∨st=3∨st=4) :
 Calls Tryz.prog 139 #[.pointer (some ⟨mb (vAt S k).name,0,none⟩), .pointer (some ⟨kb k,0,none⟩), .int .i64 st] W λ e w'=>e = .returned (.tuple #[])/\MvGives W (mb (vAt S k).name) (kb k) (.slice (va (vAt S k).name) (M.posL S.l (vAt S k).name).length (vc (vAt S k).name)) (.string (byStr (vAt S k).name)) (.int .i64 (vAt S k).num) (.int .i64 (G k).f) (.int .i64 (G k).w) (.slice (G k).wa (G k).ws.length (G k).wc) (.slice (G k).ta (G k).ks.length (G k).tc) ((M.atN S (vAt S k).name 2).map kb) ((M.atN S (vAt S k).name 3).map kb) st w':=by
 have at' : ∀ st' c,(M.atN S (vAt S k).name st').map kb=some c -> ∃ l,Bx W c l:=λ st' c hc=>by
  cases e:M.atN S (vAt S k).name st' with
  | none=>rw [e] at hc;cases hc
  | some o =>
    rw [e] at hc;cases hc
    exact ⟨_,h.kc o (M.at_is e).1⟩
 exact mv_any st (h.mc _ (h.posNe hk)) (h.kc k hk) (h.mkNe hk) (at' 2) (at' 3) hs
theorem MvGives.sv {W w':World} {f:Nat} {T:Nat->Nat} {S:M.Sh} {mm ml:Nat} {D E:DataW Value} {kb:Nat->Nat} {mb:List Nat->Nat} {va:List Nat->Option Addr} {vc:List Nat->Nat} {G:Nat->Gr} (h:SV W f T S mm ml D E kb mb va vc G) {k:Nat} (hk:k<S.l.length) {st:Int} (hp:(vAt S k).stage≠4) (hs:st≠2) (ho:M.oneL (M.setV S.l k st 0))
 (hm:MvGives W (mb (vAt S k).name) (kb k) (.slice (va (vAt S k).name) (M.posL S.l (vAt S k).name).length (vc (vAt S k).name)) (.string (byStr (vAt S k).name)) (.int .i64 (vAt S k).num) (.int .i64 (G k).f) (.int .i64 (G k).w) (.slice (G k).wa (G k).ws.length (G k).wc) (.slice (G k).ta (G k).ks.length (G k).tc) ((M.atN S (vAt S k).name 2).map kb) ((M.atN S (vAt S k).name 3).map kb) st w') :
 SV w' f T ⟨S.idx,M.setV S.l k st 0,S.done⟩ mm ml D E kb mb va vc (λ j=>if j=k/\st=4 then Gr.nil else G j) :=
 h.moved hk hp hm.2.2 hm.1 hm.2.1 ho (by constructor;intro z;cases z;intro z;exact absurd z hs) (λ _=>rfl)
theorem one_four {S:M.Sh} (h:M.oneL S.l) {k:Nat} (hk:k<S.l.length):M.oneL (M.setV S.l k 4 0):=M.one_set h hk (λ z=>by omega)
theorem one_new {S:M.Sh} (h:M.oneL S.l) {k:Nat} {st sh:Int} (hk:k<S.l.length) (hst:st=3∨st=2) (hn:M.atN S (vAt S k).name st=none):M.oneL (M.setV S.l k st sh):=M.one_set h hk (λ _ i d hi hne z=>by
 have e1:S.l.getD i d=S.l.getD i M.vg0:=by simp [List.getD,hi]
 have e2:S.l.getD k d=S.l.getD k M.vg0:=by simp [List.getD,hk]
 rw [e1,e2] at z
 exact M.at_not hn hi z)
set_option maxHeartbeats 4000000 in
theorem sh_retire {W:World} {f:Nat} {T:Nat->Nat} {S:M.Sh} {mm ml:Nat} {D E:DataW Value} {kb:Nat->Nat} {mb:List Nat->Nat} {va:List Nat->Option Addr} {vc:List Nat->Nat} {G:Nat->Gr} (h:SV W f T S mm ml D E kb mb va vc G) {k:Nat} (hk:k<S.l.length) :
 Calls Tryz.prog 113 #[.pointer (some ⟨mb (vAt S k).name,0,none⟩), .pointer (some ⟨kb k,0,none⟩)] W (TurnGives W f T S mm ml D E kb mb va vc (M.retF S k)):=by
 have c2:=(h.kc k hk).cell 2 _ rfl;have H:=hide h
 by_cases q:(vAt S k).stage=4
 · have e:Hid (M.retF S k=(6,S.l)):=by unfold Hid M.retF;rw [if_pos q]
   have g:((vAt S k).stage == 4)=true:=by rw [q];rfl
   unfold TurnGives;rw [e.out];clear e h;generalize (vAt S k).stage=s at *;generalize mb (vAt S k).name=m at *;clear q
   go_enter Tryz.func113, Tryz.ntmps113
   go_wp2
   go_ret
   exact ⟨G,by rw [err_some (by decide)];rfl,H.out,StayBut.refl _ _⟩
 · have e:Hid (M.retF S k=(0,M.setV S.l k 4 0)):=by unfold Hid M.retF;rw [if_neg q]
   have g:((vAt S k).stage == 4)=false:=by rw [beq_eq_false_iff_ne];exact q
   have MV:=hide (h.move hk 4 (.inr (.inr rfl)))
   have FIN:Hid (∀ w',MvGives W (mb (vAt S k).name) (kb k) (.slice (va (vAt S k).name) (M.posL S.l (vAt S k).name).length (vc (vAt S k).name)) (.string (byStr (vAt S k).name)) (.int .i64 (vAt S k).num) (.int .i64 (G k).f) (.int .i64 (G k).w) (.slice (G k).wa (G k).ws.length (G k).wc) (.slice (G k).ta (G k).ks.length (G k).tc) ((M.atN S (vAt S k).name 2).map kb) ((M.atN S (vAt S k).name 3).map kb) 4 w'->TurnGives W f T S mm ml D E kb mb va vc (M.retF S k) (.returned .nilIface) w'):=λ w' hm=>by
    unfold TurnGives;rw [e.out]
    exact ⟨_,rfl,hm.sv h hk q (by decide) (one_four h.inv.ok.one hk),h.stayMK hk hm.2.2⟩
   clear e h H q;generalize (vAt S k).stage=s at *;generalize hmb:mb (vAt S k).name=m at *;clear hmb
   go_enter Tryz.func113, Tryz.ntmps113
   go_wp2_with (go_at_call 139;refine MV.out.mono ?_;rintro e w1 ⟨rfl,h1⟩;have H1:=hide h1;clear h1)
   go_ret
   exact FIN.out _ H1.out
set_option maxHeartbeats 4000000 in
theorem sh_try {W:World} {f:Nat} {T:Nat->Nat} {S:M.Sh} {mm ml:Nat} {D E:DataW Value} {kb:Nat->Nat} {mb:List Nat->Nat} {va:List Nat->Option Addr} {vc:List Nat->Nat} {G:Nat->Gr} (h:SV W f T S mm ml D E kb mb va vc G) {k:Nat} (hk:k<S.l.length) (share:Int) (s1 : -9223372036854775808<=share) (s2:share<=9223372036854775807) :
 Calls Tryz.prog 111 #[.pointer (some ⟨mb (vAt S k).name,0,none⟩), .pointer (some ⟨kb k,0,none⟩), .int .i64 share] W (TurnGives W f T S mm ml D E kb mb va vc (M.tryF S k share)):=by
 have c2:=(h.kc k hk).cell 2 _ rfl;have m1:=(h.mc _ (h.posNe hk)).cell 1 _ rfl;have H:=hide h
 have BAD:Hid (∀ e,e≠0->M.tryF S k share=(e,S.l)->TurnGives W f T S mm ml D E kb mb va vc (M.tryF S k share) (.returned (.iface 69 (.int .i64 e))) W):=λ e he hr=>by
  unfold TurnGives;rw [hr]
  exact ⟨G,by rw [err_some he],h,StayBut.refl _ _⟩
 by_cases q1:share<1∨99<share
 · have e:Hid (M.tryF S k share=(1,S.l)):=by unfold Hid M.tryF;rw [if_pos q1]
   have ways:decide (share<1)=true∨(decide (share<1)=false/\decide (100<=share)=true):=by
    simp only [decide_eq_true_iff,decide_eq_false_iff_not];omega
   clear h H q1;generalize (vAt S k).stage=s at *;generalize hmb:mb (vAt S k).name=m at *;clear hmb
   rcases ways with g1 | ⟨g1,g2⟩
   all_goals (
    go_enter Tryz.func111, Tryz.ntmps111
    go_wp2
    go_ret
    exact BAD.out 1 (by decide) e.out)
 have g1:decide (share<1)=false:=decide_eq_false (by omega);have g2:decide (100<=share)=false:=decide_eq_false (by omega)
 by_cases q2:(vAt S k).stage=1
 case neg =>
  have e:Hid (M.tryF S k share=(6,S.l)):=by unfold Hid M.tryF;rw [if_neg q1,if_pos q2]
  have g3:((vAt S k).stage != 1)=true:=by rw [bne_iff_ne];exact q2
  clear h H q1 q2;generalize (vAt S k).stage=s at *;generalize hmb:mb (vAt S k).name=m at *;clear hmb
  go_enter Tryz.func111, Tryz.ntmps111
  go_wp2
  go_ret
  exact BAD.out 6 (by decide) e.out
 have g3:((vAt S k).stage != 1)=false:=by rw [q2];rfl
 cases q3:M.atN S (vAt S k).name 2 with
 | some o =>
   have e:Hid (M.tryF S k share=(7,S.l)):=by unfold Hid M.tryF;rw [if_neg q1,if_neg (by simp [q2]),q3];rfl
   rw [q3] at m1;replace m1:W.cell? ⟨mb (vAt S k).name,1,none⟩=some (.pointer (some ⟨kb o,0,none⟩)):=m1;clear h H q1 q2 q3;generalize (vAt S k).stage=s at *;generalize hmb:mb (vAt S k).name=m at *;clear hmb
   go_enter Tryz.func111, Tryz.ntmps111
   go_wp2
   go_ret
   exact BAD.out 7 (by decide) e.out
 | none =>
   have e:Hid (M.tryF S k share=(0,M.setV S.l k 2 share)):=by unfold Hid M.tryF;rw [if_neg q1,if_neg (by simp [q2]),q3];rfl
   rw [q3] at m1;replace m1:W.cell? ⟨mb (vAt S k).name,1,none⟩=some (.pointer none):=m1;have MV:=hide (h.move hk 2 (.inl rfl))
   have FIN:Hid (∀ w',MvGives W (mb (vAt S k).name) (kb k) (.slice (va (vAt S k).name) (M.posL S.l (vAt S k).name).length (vc (vAt S k).name)) (.string (byStr (vAt S k).name)) (.int .i64 (vAt S k).num) (.int .i64 (G k).f) (.int .i64 (G k).w) (.slice (G k).wa (G k).ws.length (G k).wc) (.slice (G k).ta (G k).ks.length (G k).tc) ((M.atN S (vAt S k).name 2).map kb) ((M.atN S (vAt S k).name 3).map kb) 2 w'->((w'.cell? ⟨kb k,3,none⟩=some (.int .i64 0))/\w'.frozen? ⟨kb k,3,none⟩=false)/\TurnGives W f T S mm ml D E kb mb va vc (M.tryF S k share) (.returned .nilIface) (w'.setCell ⟨kb k,3,none⟩ (.int .i64 share))):=λ w' hm=>by
    refine ⟨⟨hm.2.1.cell 3 _ rfl,hm.2.1.free 3⟩, ?_⟩
    unfold TurnGives;rw [e.out];have st:=hm.2.2.trans (stay_set (K:=λ q=>q=mb (vAt S k).name∨q=kb k) (p:=kb k) (j:=3) (v := .int .i64 share) (.inr rfl))
    exact ⟨_,rfl,h.moved hk (by rw [q2];decide) st (hm.1.else (h.mkNe hk)) (hm.2.1.put (j:=3)) (one_new h.inv.ok.one hk (.inr rfl) q3) (by constructor;intro _;rfl;intro _;omega) (λ z=>absurd rfl z),h.stayMK hk st⟩
   clear e h H q1 q2 q3 BAD;generalize (vAt S k).stage=s at *;generalize hmb:mb (vAt S k).name=m at *;clear hmb
   go_enter Tryz.func111, Tryz.ntmps111
   go_wp2_with (go_at_call 139;refine MV.out.mono ?_;rintro e w1 ⟨rfl,h1⟩;obtain ⟨⟨d3,e3⟩,h2⟩:=FIN.out _ h1;have H2:=hide h2;clear h1 h2)
   go_ret
   exact H2.out
set_option maxHeartbeats 4000000 in
theorem sh_promote {W:World} {f:Nat} {T:Nat->Nat} {S:M.Sh} {mm ml:Nat} {D E:DataW Value} {kb:Nat->Nat} {mb:List Nat->Nat} {va:List Nat->Option Addr} {vc:List Nat->Nat} {G:Nat->Gr} (h:SV W f T S mm ml D E kb mb va vc G) {k:Nat} (hk:k<S.l.length) :
 Calls Tryz.prog 112 #[.pointer (some ⟨mb (vAt S k).name,0,none⟩), .pointer (some ⟨kb k,0,none⟩)] W (TurnGives W f T S mm ml D E kb mb va vc (M.proF S k)):=by
 have c2:=(h.kc k hk).cell 2 _ rfl;have m2:=(h.mc _ (h.posNe hk)).cell 2 _ rfl
 by_cases q1:(vAt S k).stage≠1/\(vAt S k).stage≠2
 · have e:Hid (M.proF S k=(6,S.l)):=by unfold Hid M.proF;rw [if_pos q1]
   have g1:((vAt S k).stage != 1)=true:=by rw [bne_iff_ne];exact q1.1
   have g2:((vAt S k).stage != 2)=true:=by rw [bne_iff_ne];exact q1.2
   have BAD:Hid (TurnGives W f T S mm ml D E kb mb va vc (M.proF S k) (.returned (.iface 69 (.int .i64 6))) W):=by
    unfold Hid TurnGives;rw [e.out]
    exact ⟨G,by rw [err_some (show (6:Int)≠0 by decide)],h,StayBut.refl _ _⟩
   clear h q1 e;generalize (vAt S k).stage=s at *;generalize hmb:mb (vAt S k).name=m at *;clear hmb
   go_enter Tryz.func112, Tryz.ntmps112
   go_wp2
   go_ret
   exact BAD.out
 have hp:(vAt S k).stage≠4:=λ z=>q1 ⟨by rw [z];decide,by rw [z];decide⟩
 have ways:((vAt S k).stage != 1)=false∨(((vAt S k).stage != 1)=true/\((vAt S k).stage != 2)=false):=by
  by_cases z:(vAt S k).stage=1
  · exact .inl (by rw [z];rfl)
  · refine .inr ⟨by rw [bne_iff_ne];exact z, ?_⟩
    have:(vAt S k).stage=2:=by
     by_cases y:(vAt S k).stage=2
     · exact y
     · exact absurd ⟨z,y⟩ q1
    rw [this];rfl
 cases q3:M.atN S (vAt S k).name 3 with
 | none =>
   have e:Hid (M.proF S k=(0,M.setV S.l k 3 0)):=by unfold Hid M.proF;rw [if_neg q1,q3]
   rw [q3] at m2;replace m2:W.cell? ⟨mb (vAt S k).name,2,none⟩=some (.pointer none):=m2;have MV:=hide (h.move hk 3 (.inr (.inl rfl)))
   have FIN:Hid (∀ w',MvGives W (mb (vAt S k).name) (kb k) (.slice (va (vAt S k).name) (M.posL S.l (vAt S k).name).length (vc (vAt S k).name)) (.string (byStr (vAt S k).name)) (.int .i64 (vAt S k).num) (.int .i64 (G k).f) (.int .i64 (G k).w) (.slice (G k).wa (G k).ws.length (G k).wc) (.slice (G k).ta (G k).ks.length (G k).tc) ((M.atN S (vAt S k).name 2).map kb) ((M.atN S (vAt S k).name 3).map kb) 3 w'->TurnGives W f T S mm ml D E kb mb va vc (M.proF S k) (.returned .nilIface) w'):=λ w' hm=>by
    unfold TurnGives;rw [e.out]
    exact ⟨_,rfl,hm.sv h hk hp (by decide) (one_new h.inv.ok.one hk (.inl rfl) q3),h.stayMK hk hm.2.2⟩
   clear e h q1 q3 hp;generalize (vAt S k).stage=s at *;generalize hmb:mb (vAt S k).name=m at *;clear hmb
   rcases ways with g1 | ⟨g1,g2⟩
   all_goals (
    go_enter Tryz.func112, Tryz.ntmps112
    go_wp2_with (go_at_call 139;refine MV.out.mono ?_;rintro e w1 ⟨rfl,h1⟩;have H1:=hide h1;clear h1)
    go_ret
    exact FIN.out _ H1.out)
 | some o =>
   obtain ⟨o1,o2,o3⟩:=M.at_is q3
   have e:Hid (M.proF S k=(0,M.setV (M.setV S.l o 4 0) k 3 0)):=by unfold Hid M.proF;rw [if_neg q1,q3]
   rw [q3] at m2;replace m2:W.cell? ⟨mb (vAt S k).name,2,none⟩=some (.pointer (some ⟨kb o,0,none⟩)):=m2;have on:(vAt S o).name=(vAt S k).name:=o2
   have ok:o≠k:=λ z=>by
    subst z;exact q1 ⟨by show (vAt S o).stage≠1;rw [show (vAt S o).stage=3 from o3];decide,by show (vAt S o).stage≠2;rw [show (vAt S o).stage=3 from o3];decide⟩
   have MV:=hide (h.move o1 4 (.inr (.inr rfl)));rw [on] at MV
   have STEP:Hid (∀ w1,MvGives W (mb (vAt S k).name) (kb o) (.slice (va (vAt S k).name) (M.posL S.l (vAt S k).name).length (vc (vAt S k).name)) (.string (byStr (vAt S k).name)) (.int .i64 (vAt S o).num) (.int .i64 (G o).f) (.int .i64 (G o).w) (.slice (G o).wa (G o).ws.length (G o).wc) (.slice (G o).ta (G o).ks.length (G o).tc) ((M.atN S (vAt S k).name 2).map kb) ((M.atN S (vAt S k).name 3).map kb) 4 w1->Calls Tryz.prog 139 #[.pointer (some ⟨mb (vAt S k).name,0,none⟩), .pointer (some ⟨kb k,0,none⟩), .int .i64 3] w1 λ e w'=>e = .returned (.tuple #[])/\TurnGives W f T S mm ml D E kb mb va vc (M.proF S k) (.returned .nilIface) w'):=λ w1 hm=>by
    have s4:(vAt S o).stage≠4:=by rw [show (vAt S o).stage=3 from o3];decide
    have sv1:=MvGives.sv h o1 s4 (st:=4) (by decide) (one_four h.inv.ok.one o1) (by rw [on];exact hm)
    have hk1:k<(M.setV S.l o 4 0).length:=by rw [M.len_setV];exact hk
    have vk:vAt ⟨S.idx,M.setV S.l o 4 0,S.done⟩ k=vAt S k:=by
     show ((M.setV S.l o 4 0).getD k M.vg0).1=(S.l.getD k M.vg0).1;rw [M.getD_setV S.l o 4 0 hk,if_neg ok]
    have no3:M.atN ⟨S.idx,M.setV S.l o 4 0,S.done⟩ (vAt S k).name 3=none:=by
     rw [←on,at_set_mv h.inv.ok.one o1 (one_four h.inv.ok.one o1) (.inl rfl),on,q3];unfold mvC;rw [if_neg (show ¬ ((4:Int)=3) by decide),if_pos rfl]
    have mv:=sv1.move hk1 3 (.inr (.inl rfl));rw [vk] at mv;refine mv.mono ?_;rintro e2 w2 ⟨rfl,h2⟩
    refine ⟨rfl, ?_⟩
    unfold TurnGives;rw [e.out];have st1:StayBut (λ q=>T q≠0) W w1:=h.stayMK o1 (by rw [on];exact hm.2.2);have st2:StayBut (λ q=>T q≠0) w1 w2:=sv1.stayMK hk1 (by rw [vk];exact h2.2.2)
    refine ⟨_,rfl,MvGives.sv sv1 hk1 (by rw [vk];exact hp) (by decide) (one_new sv1.inv.ok.one hk1 (.inl rfl) (by rw [vk];exact no3)) (by rw [vk];exact h2),st1.trans st2⟩
   clear e h q1 q3 hp o1 o2 o3 on ok;generalize (vAt S k).stage=s at *;generalize hmb:mb (vAt S k).name=m at *;clear hmb
   rcases ways with g1 | ⟨g1,g2⟩
   all_goals (
    go_enter Tryz.func112, Tryz.ntmps112
    go_wp2_with (first
     | (go_at_call 139;refine (STEP.out _ H1.out).mono ?_;rintro e w2 ⟨rfl,h2⟩;have H2:=hide h2;clear h2)
     | (go_at_call 139;refine MV.out.mono ?_;rintro e w1 ⟨rfl,h1⟩;have H1:=hide h1;clear h1))
    go_ret
    exact H2.out)
theorem zeroM (w:World):(zeroValue 136).run Tryz.prog w = .ok (.pointer none) w:=by kernel_rfl
theorem SV.look {W:World} {f:Nat} {T:Nat->Nat} {S:M.Sh} {mm ml:Nat} {D E:DataW Value} {kb:Nat->Nat} {mb:List Nat->Nat} {va:List Nat->Option Addr} {vc:List Nat->Nat} {G:Nat->Gr} (h:SV W f T S mm ml D E kb mb va vc G) {n:List Nat} (hl:n.length<=140737488351232) (hn:M.posL S.l n ≠ []):(Instr.lookup 86 (.map (some mm)) (.string (byStr n)) false).run Tryz.prog W = .ok (.pointer (some ⟨mb n,0,none⟩)) W:=by
 obtain ⟨v,ps,hrun,hv⟩:=h.mo.lookup keyS Tryz.underlying86 (zeroM W) (zd := .held (.pointer none)) rfl (keyOfS hl);rw [h.ms n hn] at hv;unfold selfE at hv;simp only [Option.some.injEq,Prod.mk.injEq,DataW.held.injEq] at hv;rw [hrun,hv.1];rfl
theorem SV.look0 {W:World} {f:Nat} {T:Nat->Nat} {S:M.Sh} {mm ml:Nat} {D E:DataW Value} {kb:Nat->Nat} {mb:List Nat->Nat} {va:List Nat->Option Addr} {vc:List Nat->Nat} {G:Nat->Gr} (h:SV W f T S mm ml D E kb mb va vc G) {n:List Nat} (hb:isB n) (hl:n.length<=140737488351232) (hn:M.posL S.l n = []):(Instr.lookup 86 (.map (some mm)) (.string (byStr n)) false).run Tryz.prog W = .ok (.pointer none) W:=by
 obtain ⟨v,ps,hrun,hv⟩:=h.mo.lookup keyS Tryz.underlying86 (zeroM W) (zd := .held (.pointer none)) rfl (keyOfS hl);rw [atKey_of_not_has (h.mn n hb hn)] at hv;unfold selfE at hv;simp only [Option.some.injEq,Prod.mk.injEq,DataW.held.injEq] at hv;rw [hrun,hv.1]
set_option maxHeartbeats 4000000 in
theorem sh_model {W:World} {f:Nat} {T:Nat->Nat} {S:M.Sh} {mm ml:Nat} {D E:DataW Value} {kb:Nat->Nat} {mb:List Nat->Nat} {va:List Nat->Option Addr} {vc:List Nat->Nat} {G:Nat->Gr} (h:SV W f T S mm ml D E kb mb va vc G) {n:List Nat} (hl:n.length<=140737488351232) (hn:M.posL S.l n ≠ []) :
 Calls Tryz.prog 66 #[.pointer (some ⟨f,0,none⟩), .string (byStr n)] W λ e w'=>e = .returned (.pointer (some ⟨mb n,0,none⟩))/\w'=W:=by
 have hrun:=h.look hl hn;have c0:=h.box.cell 0 _ rfl;clear h hl hn;generalize byStr n=s at *;generalize mb n=b at *
 go_enter Tryz.func66, Tryz.ntmps66
 go_wp2
 go_ret
 exact ⟨rfl,rfl⟩
set_option maxHeartbeats 4000000 in
theorem sh_model0 {W:World} {f:Nat} {T:Nat->Nat} {S:M.Sh} {mm ml:Nat} {D E:DataW Value} {kb:Nat->Nat} {mb:List Nat->Nat} {va:List Nat->Option Addr} {vc:List Nat->Nat} {G:Nat->Gr} (h:SV W f T S mm ml D E kb mb va vc G) {n:List Nat} (hb:isB n) (hl:n.length<=140737488351232) (hn:M.posL S.l n = []) :
 Calls Tryz.prog 66 #[.pointer (some ⟨f,0,none⟩), .string (byStr n)] W λ e w'=>e = .returned (.pointer (some ⟨W.heap.size,0,none⟩))/\w'=W.alloc (.cells #[.slice none 0 0, .pointer none, .pointer none] 159):=by
 have hrun:=h.look0 hb hl hn;have c0:=h.box.cell 0 _ rfl;clear h hl hn hb;generalize byStr n=s at *
 go_enter Tryz.func66, Tryz.ntmps66
 go_wp2
 go_ret
 exact ⟨rfl,rfl⟩
set_option maxHeartbeats 4000000 in
theorem sh_version0 {W:World} {m:Nat} {pc pl:Value} (hm:Bx W m [.slice none 0 0,pc,pl]) (num:Int) :
 Calls Tryz.prog 110 #[.pointer (some ⟨m,0,none⟩), .int .i64 num] W λ e w'=>e = .returned (.pointer none)/\w'=W:=by
 have m0:=hm.cell 0 _ rfl
 have ways:decide (num<1)=true∨(decide (num<1)=false/\decide (0<num)=true):=by
  simp only [decide_eq_true_iff,decide_eq_false_iff_not];omega
 clear hm
 rcases ways with g1 | ⟨g1,g2⟩
 all_goals (
  go_enter Tryz.func110, Tryz.ntmps110
  go_wp2
  go_ret
  exact ⟨rfl,rfl⟩)
set_option maxHeartbeats 4000000 in
theorem sh_version {W:World} {f:Nat} {T:Nat->Nat} {S:M.Sh} {mm ml:Nat} {D E:DataW Value} {kb:Nat->Nat} {mb:List Nat->Nat} {va:List Nat->Option Addr} {vc:List Nat->Nat} {G:Nat->Gr} (h:SV W f T S mm ml D E kb mb va vc G) {n:List Nat} (hn:M.posL S.l n ≠ []) {num:Int} (hi:I64 num) :
 Calls Tryz.prog 110 #[.pointer (some ⟨mb n,0,none⟩), .int .i64 num] W λ e w'=>e = .returned (ptB ((M.verN S n num).map kb))/\w'=W:=by
 have m0:=(h.mc n hn).cell 0 _ rfl;have ro:=h.ro n hn;rw [M.ver_pos h.inv.nu]
 have lm:(M.posL S.l n).length<=9223372036854775807:=by
  rcases ro.2 with ⟨_,z⟩ | ⟨g,cap,cur,_,_,_,z1,z2,_⟩
  · omega
  · unfold maxLen at z2;omega
 obtain ⟨i1,i2⟩:=hi
 by_cases q:1<=num/\num<=(M.posL S.l n).length
 · rw [if_pos q]
   obtain ⟨i,rfl⟩ : ∃ i:Nat,num=(i:Int)+1:=⟨(num-1).toNat,by omega⟩
   have il:i<(M.posL S.l n).length:=by omega
   rw [show ((i:Int)+1-1).toNat=i by omega]
   rcases ro.2 with ⟨_,z⟩ | ⟨g,cap,cur,hv,_,_,_,_,_⟩
   · omega
   · rw [Value.slice.injEq] at hv
     obtain ⟨ea,_,ec⟩:=hv;have ro':=ro;rw [ea,ec] at ro';rw [ea,ec] at m0
     have ce:W.cell? ⟨g,i,none⟩=some (.pointer (some ⟨kb ((M.posL S.l n).getD i 0),0,none⟩)):=by
      rw [ro'.cellAt i (by omega),List.getElem?_map,List.getElem?_eq_getElem il];simp [List.getD,il,ptB]
     have P:Hid (ptB (Option.map kb (some ((M.posL S.l n).getD i 0))) = .pointer (some ⟨kb ((M.posL S.l n).getD i 0),0,none⟩)):=rfl;rw [P.out];clear h ro ro' ea ec q P hn;generalize kb ((M.posL S.l n).getD i 0)=b at *;generalize hL:(M.posL S.l n).length=L at *;clear hL;generalize mb n=m at *;have g1:decide ((i:Int)+1<1)=false:=decide_eq_false (by omega);have g2:decide ((L:Int)<(i:Int)+1)=false:=decide_eq_false (by omega)
     have g3:(i:Int)<(L:Int):=by omega
     have w1:IntKind.i64.wrap ((i:Int)+1-1)=(i:Int):=by
      rw [show (i:Int)+1-1=(i:Int) by omega];exact wrap_i64n (by omega) (by omega)
     go_enter Tryz.func110, Tryz.ntmps110
     go_wp2
     go_ret
     exact ⟨rfl,rfl⟩
 · rw [if_neg q]
   have ways:decide (num<1)=true∨(decide (num<1)=false/\decide (((M.posL S.l n).length:Int)<num)=true):=by
    simp only [decide_eq_true_iff,decide_eq_false_iff_not];omega
   clear h ro q hn;generalize hL:(M.posL S.l n).length=L at *;clear hL;generalize mb n=m at *;generalize va n=a at *;generalize vc n=c at *
   rcases ways with g1 | ⟨g1,g2⟩
   all_goals (
    go_enter Tryz.func110, Tryz.ntmps110
    go_wp2
    go_ret
    exact ⟨rfl,rfl⟩)
def vnV (v:M.Vn):Value := .agg #[.string (byStr v.name), .int .i64 v.num, .int .i64 v.stage, .int .i64 v.share]
def M.told (S:M.Sh) (o:Option Nat):M.Vn:=match o with
 | none=>M.vn0
 | some k=>vAt S k
def M.toldF (o:Option Nat):Int:=match o with
 | none=>5
 | some _=>0
theorem four_box {W w:World} {x0 x1 x2 x3:Value} {t:TypeId} (hb:Below (W.alloc (.cells #[x0,x1,x2,x3] t)).heap.size (W.alloc (.cells #[x0,x1,x2,x3] t)) w):Bx w W.heap.size [x0,x1,x2,x3]:=(bx_new W [x0,x1,x2,x3] t).keep (hb.block _ (by simp))
theorem four_put {w:World} {p:Nat} {x0 x1 x2 x3 y0 y1 y2 y3:Value} (h:Bx w p [x0,x1,x2,x3]):Bx ((((w.setCell ⟨p,0,none⟩ y0).setCell ⟨p,1,none⟩ y1).setCell ⟨p,2,none⟩ y2).setCell ⟨p,3,none⟩ y3) p [y0,y1,y2,y3]:=(((h.put (j:=0)).put (j:=1)).put (j:=2)).put (j:=3)
set_option maxHeartbeats 4000000 in
theorem sh_versionOf0 (W:World):Calls Tryz.prog 92 #[.pointer none] W λ e w'=>e = .returned (.tuple #[vnV M.vn0,errV 5])/\Below W.heap.size W w':=by
 have E5:Hid (errV 5 = .iface 69 (.int .i64 5)):=err_some (by decide);have EV:Hid (vnV M.vn0 = .agg #[.string ⟨#[]⟩, .int .i64 0, .int .i64 0, .int .i64 0]):=rfl;rw [E5.out,EV.out]
 go_enter Tryz.func92, Tryz.ntmps92
 go_wp2
 refine bodyPost_ret (v := .tuple #[.agg #[.string ⟨#[]⟩, .int .i64 0, .int .i64 0, .int .i64 0], .iface 69 (.int .i64 5)]) (by simp [results, Tryz.results92,go_sem]) rfl ?_
 refine ⟨rfl, ?_⟩
 repeat (first | exact Below.refl _ _ | refine Below.alloc ?_ (by simp) _ | refine Below.setCell ?_ (by simp) _)
set_option maxHeartbeats 4000000 in
theorem sh_versionOf {W:World} {f:Nat} {T:Nat->Nat} {S:M.Sh} {mm ml:Nat} {D E:DataW Value} {kb:Nat->Nat} {mb:List Nat->Nat} {va:List Nat->Option Addr} {vc:List Nat->Nat} {G:Nat->Gr} (h:SV W f T S mm ml D E kb mb va vc G) {k:Nat} (hk:k<S.l.length):Calls Tryz.prog 92 #[.pointer (some ⟨kb k,0,none⟩)] W λ e w'=>e = .returned (.tuple #[vnV (vAt S k),errV 0])/\Below W.heap.size W w':=by
 have bk:=h.kc k hk;have c0:=bk.cell 0 _ rfl;have c1:=bk.cell 1 _ rfl;have c2:=bk.cell 2 _ rfl;have c3:=bk.cell 3 _ rfl;have l1:kb k<W.heap.size:=bk.lt
 have l2 : ¬ kb k=W.heap.size:=by omega
 have l3 : ¬ W.heap.size=kb k:=by omega
 have E0:Hid (errV 0 = .nilIface):=err_nil rfl;unfold vnV;rw [E0.out];clear h bk;generalize byStr (vAt S k).name=x0 at *;generalize (vAt S k).num=x1 at *;generalize (vAt S k).stage=x2 at *;generalize (vAt S k).share=x3 at *;generalize kb k=q at *
 go_enter Tryz.func92, Tryz.ntmps92
 go_wp2
 refine bodyPost_ret (v := .tuple #[.agg #[.string x0, .int .i64 x1, .int .i64 x2, .int .i64 x3], .nilIface]) (by simp [results, Tryz.results92,go_sem]) rfl ?_
 refine ⟨rfl, ?_⟩
 repeat (first | exact Below.refl _ _ | refine Below.alloc ?_ (by simp) _ | refine Below.setCell ?_ (by simp) _)
theorem sh_told {W:World} {f:Nat} {T:Nat->Nat} {S:M.Sh} {mm ml:Nat} {D E:DataW Value} {kb:Nat->Nat} {mb:List Nat->Nat} {va:List Nat->Option Addr} {vc:List Nat->Nat} {G:Nat->Gr} (h:SV W f T S mm ml D E kb mb va vc G) {o:Option Nat} (ho : ∀ k,o=some k->k<S.l.length):Calls Tryz.prog 92 #[ptB (o.map kb)] W λ e w'=>e = .returned (.tuple #[vnV (M.told S o),errV (M.toldF o)])/\Below W.heap.size W w':=by
 cases o with
 | none=>exact sh_versionOf0 W
 | some k=>exact sh_versionOf h (ho k rfl)
theorem at_no {S:M.Sh} {n:List Nat} (hn:M.posL S.l n = []) (st:Int):M.atN S n st=none:=M.at_none (λ k hk z=>by
 have:=M.pos_mem.2 ⟨hk,z.1⟩;rw [hn] at this
 cases this)
theorem box_out {W w:World} {y0 y1 y2 y3:Value} (hb:Below (W.alloc (.cells #[.string ⟨#[]⟩, .int .i64 0, .int .i64 0, .int .i64 0] 122)).heap.size (W.alloc (.cells #[.string ⟨#[]⟩, .int .i64 0, .int .i64 0, .int .i64 0] 122)) w):(Bx w W.heap.size [.string ⟨#[]⟩, .int .i64 0, .int .i64 0, .int .i64 0]/\Bx ((((w.setCell ⟨W.heap.size,0,none⟩ y0).setCell ⟨W.heap.size,1,none⟩ y1).setCell ⟨W.heap.size,2,none⟩ y2).setCell ⟨W.heap.size,3,none⟩ y3) W.heap.size [y0,y1,y2,y3])/\Below W.heap.size W ((((w.setCell ⟨W.heap.size,0,none⟩ y0).setCell ⟨W.heap.size,1,none⟩ y1).setCell ⟨W.heap.size,2,none⟩ y2).setCell ⟨W.heap.size,3,none⟩ y3):=by
 have b:=four_box hb
 exact ⟨⟨b,four_put b⟩,((((below_on ((Below.refl _ W).alloc (Nat.le_refl _) _) hb).setCell (Nat.le_refl _) _).setCell (Nat.le_refl _) _).setCell (Nat.le_refl _) _).setCell (Nat.le_refl _) _⟩
def M.pickO (S:M.Sh) (n:List Nat) (key:Int):Option Nat:=match M.atN S n 2 with
 | none=>M.atN S n 3
 | some k=>if key*37 % 100<(vAt S k).share then some k else M.atN S n 3
def M.pickF (S:M.Sh) (n:List Nat) (key:Int):Int:=if M.timeB key=false then 1 else M.toldF (M.pickO S n key)
def M.pickV (S:M.Sh) (n:List Nat) (key:Int):M.Vn:=if M.timeB key=false then M.vn0 else M.told S (M.pickO S n key)
def M.newV (S:M.Sh) (n:List Nat) (g:M.Gv):M.Vn×M.Gv:=(⟨n,(M.many S n:Int)+1,1,0⟩,g)
def M.addS (S:M.Sh) (n:List Nat) (g:M.Gv):M.Sh:=⟨S.idx,S.l ++ [M.newV S n g],S.done⟩
theorem M.names_add (S:M.Sh) (n:List Nat) (g:M.Gv):M.names (M.addS S n g)=if M.posL S.l n = [] then M.names S+1 else M.names S:=by
 have pl:=M.pos_len S n;show ((S.l ++ [M.newV S n g]).filter λ v=>decide (v.1.num=1)).length=_;rw [List.filter_append,List.length_append]
 by_cases q:M.posL S.l n = []
 · rw [if_pos q]
   rw [q] at pl;have m0:M.many S n=0:=pl.symm
   have:List.filter (λ v:M.Vn×M.Gv=>decide (v.1.num=1)) [M.newV S n g] = [M.newV S n g]:=by
    rw [List.filter_cons_of_pos (by show decide ((M.many S n:Int)+1=1)=true;rw [m0];rfl)];rfl
   rw [this];rfl
 · rw [if_neg q]
   have:0<(M.posL S.l n).length:=by
    cases e:M.posL S.l n with
    | nil=>exact absurd e q
    | cons _ _=>simp
   have m1:M.many S n≠0:=by omega
   have:List.filter (λ v:M.Vn×M.Gv=>decide (v.1.num=1)) [M.newV S n g] = []:=by
    rw [List.filter_cons_of_neg (by
     rw [decide_eq_true_iff];show ¬ ((M.many S n:Int)+1=1)
     omega)];rfl
   rw [this];rfl
theorem Inv.add {S:M.Sh} (h:Inv S) {n:List Nat} (hb:isB n) (g:M.Gv) (hl:(S.l.length:Int)+1<=S.idx):Inv (M.addS S n g) where
 ok:=⟨M.one_app h.ok.one rfl,M.shr_app h.ok.shr (by show (0:Int)<0↔(1:Int)=2;decide),h.ok.i0,h.ok.ans⟩
 zr:=M.zer_app h.zr (λ _=>rfl)
 nu:=by
  show M.numY (M.kyL (S.l ++ [M.newV S n g]))
  have e:M.kyL (S.l ++ [M.newV S n g])=M.kyL S.l ++ [(n,(M.cntY (M.kyL S.l) n:Int)+1)]:=by
   unfold M.kyL;rw [List.map_append];show _ ++ [(n,(M.many S n:Int)+1)]=_;rw [M.many_is];rfl
  rw [e];exact M.num_app h.nu n
 ll:=by
  show ((S.l ++ [M.newV S n g]).length:Int)<=S.idx;rw [List.length_append,List.length_singleton];omega
 dl:=h.dl
 nb:=λ j hj=>by
  have hj':j<S.l.length+1:=by
   have:j<(S.l ++ [M.newV S n g]).length:=hj
   simpa using this
  show isB ((S.l ++ [M.newV S n g]).getD j M.vg0).1.name
  by_cases q:j<S.l.length
  · rw [show (S.l ++ [M.newV S n g]).getD j M.vg0=S.l.getD j M.vg0 by simp [List.getD,List.getElem?_append_left q]]
    exact h.nb j q
  · rw [show j=S.l.length by omega]
    simp [List.getD];exact hb
def addT (T:Nat->Nat) (a b kq mq pq:Nat) (q:Nat):Nat:=if q<a then T q else if q=kq then 6 else if q=mq then 4 else if q=pq then 5 else if q<b then 7 else 0
theorem SV.added {W W':World} {f:Nat} {T:Nat->Nat} {S:M.Sh} {mm ml:Nat} {D E:DataW Value} {kb:Nat->Nat} {mb:List Nat->Nat} {va:List Nat->Option Addr} {vc:List Nat->Nat} {G:Nat->Gr} (h:SV W f T S mm ml D E kb mb va vc G) {n:List Nat} (hb:isB n) {O:Gr} {kq mq pq cq:Nat} {D':DataW Value} (hl:(S.l.length:Int)+1<=S.idx)
 (c1 : ∀ q,q<W.heap.size->T q≠0->q≠mm->q≠mq->(∀ p,M.posL S.l n ≠ []->va n=some p->q≠p.block)->W'.heap[q]? = W.heap[q]?)
 (c2:(M.posL S.l n ≠ []->mq=mb n)/\(M.posL S.l n = []->W.heap.size<=mq))
 (c3:Bx W' mq [.slice (some ⟨pq,0,none⟩) ((M.posL S.l n).length+1) cq,ptB ((M.atN S n 2).map kb),ptB ((M.atN S n 3).map kb)])
 (c4:W'.ownsRow 0 157 1 (.slice (some ⟨pq,0,none⟩) ((M.posL S.l n).length+1) cq) ((M.posL S.l n).length+1) (((M.posL S.l n).map λ k=>ptB (some (kb k))) ++ [ptB (some kq)]))
 (c5:(W.heap.size<=pq/\pq≠kq/\pq≠mq)∨(M.posL S.l n ≠ [] /\ ∃ p,va n=some p/\p.block=pq))
 (c6:Bx W' kq (kpL ⟨n,(M.many S n:Int)+1,1,0⟩ O)) (c7:W.heap.size<=kq) (c8:kq≠mq)
 (c9:W'.ownsMap Tryz.prog 9 selfE mm (M.names (M.addS S n O.m)) D') (cm:Maps.size D'=M.names (M.addS S n O.m)) (cd:(M.posL S.l n ≠ []->D'=D)/\(M.posL S.l n = []->D'=D.put (nmK n) (.held (ptB (some mq)))))
 (cg:GIn (λ q=>W.heap.size<=q/\q<W'.heap.size/\q≠kq/\q≠mq/\q≠pq) W' O) (cz:W.heap.size<=W'.heap.size) :
 SV W' f (addT T W.heap.size W'.heap.size kq mq pq) (M.addS S n O.m) mm ml D' E (λ j=>if j=S.l.length then kq else kb j) (λ x=>if x=n then mq else mb x) (λ x=>if x=n then some ⟨pq,0,none⟩ else va x) (λ x=>if x=n then cq else vc x) (λ j=>if j=S.l.length then O else G j):=by
 have old : ∀ q,q<W.heap.size->addT T W.heap.size W'.heap.size kq mq pq q=T q:=λ q hq=>by unfold addT;rw [if_pos hq]
 have kbl : ∀ j,j<S.l.length->kb j<W.heap.size:=λ j hj=>h.tlt _ (by rw [h.tk j hj];decide);have mbl : ∀ x,M.posL S.l x ≠ []->mb x<W.heap.size:=λ x hx=>h.tlt _ (by rw [h.tb x hx];decide);have val : ∀ x p,M.posL S.l x ≠ []->va x=some p->p.block<W.heap.size:=λ x p hx hp=>h.tlt _ (by rw [h.rt x p hx hp];decide)
 have mq4:M.posL S.l n ≠ []->T mq=4:=λ hn=>by rw [c2.1 hn];exact h.tb n hn
 have mql:M.posL S.l n ≠ []->mq<W.heap.size:=λ hn=>by rw [c2.1 hn];exact mbl n hn
 have keep : ∀ q,T q≠0->T q≠2->T q≠4->T q≠5->W'.heap[q]? = W.heap[q]? := λ q h0 h2 h4 h5=>by
  have ql:=h.tlt q h0;refine c1 q ql h0 (λ e=>h2 (by rw [e];exact h.tm)) (λ e => ?_) (λ p hn hp e=>h5 (by rw [e];exact h.rt n p hn hp))
  by_cases hn:M.posL S.l n = []
  · have:=c2.2 hn;omega
  · exact h4 (by rw [e];exact mq4 hn)
 have pl : ∀ x,M.posL (M.addS S n O.m).l x=M.posL S.l x ++ (if n=x then [S.l.length] else []):=λ x=>M.pos_app S.l _ x
 have pne : ∀ x,x≠n->M.posL (M.addS S n O.m).l x=M.posL S.l x:=λ x hx=>by rw [pl x,if_neg (Ne.symm hx),List.append_nil]
 have pn:M.posL (M.addS S n O.m).l n=M.posL S.l n ++ [S.l.length]:=by rw [pl n,if_pos rfl]
 have ln:(M.addS S n O.m).l.length=S.l.length+1:=by show (S.l ++ [_]).length=_;rw [List.length_append];rfl
 have vo : ∀ j,j<S.l.length->vAt (M.addS S n O.m) j=vAt S j:=λ j hj=>by
  show ((S.l ++ [_]).getD j M.vg0).1=(S.l.getD j M.vg0).1;simp [List.getD,List.getElem?_append_left hj]
 have vn:vAt (M.addS S n O.m) S.l.length=⟨n,(M.many S n:Int)+1,1,0⟩:=by
  show ((S.l ++ [_]).getD S.l.length M.vg0).1=_;simp [List.getD,M.newV]
 have ats : ∀ x st',(st'=3∨st'=2)->M.atN (M.addS S n O.m) x st'=M.atN S x st':=λ x st' hs=>M.at_app h.inv.ok.one rfl S.idx S.done x hs
 have atk : ∀ x st',(M.atN S x st').map (λ j=>if j=S.l.length then kq else kb j)=(M.atN S x st').map kb:=λ x st'=>by
  cases e:M.atN S x st' with
  | none=>rfl
  | some o =>
    have:=(M.at_is e).1;show some (if o=S.l.length then kq else kb o)=some (kb o);rw [if_neg (by omega)]
 have rowk : ∀ x,(M.posL S.l x).map (λ k=>ptB (some (if k=S.l.length then kq else kb k)))=(M.posL S.l x).map (λ k=>ptB (some (kb k))):=λ x=>List.map_congr_left (λ k hk=>by
  have:=(M.pos_mem.1 hk).1
  rw [if_neg (by omega)])
 have ky : ∀ x,isB x->x≠n->nmK x≠nmK n:=λ x hx hne e=>hne (nmK_inj hx hb e)
 have isBx : ∀ x,M.posL S.l x ≠ []->isB x:=λ x hx=>by
  cases e:M.posL S.l x with
  | nil=>exact absurd e hx
  | cons k r =>
    have:=M.pos_mem.1 (show k∈M.posL S.l x by rw [e];exact List.mem_cons_self ..);rw [←this.2];exact h.inv.nb k this.1
 have tkq:addT T W.heap.size W'.heap.size kq mq pq kq=6:=by unfold addT;rw [if_neg (by omega),if_pos rfl]
 have tmq:addT T W.heap.size W'.heap.size kq mq pq mq=4:=by
  unfold addT
  by_cases hn:M.posL S.l n = []
  · have:=c2.2 hn
    rw [if_neg (by omega),if_neg (Ne.symm c8),if_pos rfl]
  · rw [if_pos (mql hn)];exact mq4 hn
 have tpq:addT T W.heap.size W'.heap.size kq mq pq pq=5:=by
  rcases c5 with ⟨z1,z2,z3⟩ | ⟨hn,p,hp,e⟩
  · unfold addT
    rw [if_neg (by omega),if_neg z2,if_neg z3,if_pos rfl]
  · subst e
    rw [old _ (val n p hn hp)];exact h.rt n p hn hp
 exact {
  inv:=h.inv.add hb O.m hl
  tlt:=λ q hq=>by
   unfold addT at hq
   by_cases q1:q<W.heap.size
   · omega
   · rw [if_neg q1] at hq
     by_cases q2:q=kq
     · rw [q2];exact c6.lt
     · rw [if_neg q2] at hq
       by_cases q3:q=mq
       · rw [q3];exact c3.lt
       · rw [if_neg q3] at hq
         by_cases q4:q=pq
         · rw [q4];exact (c4.lt pq rfl).2
         · rw [if_neg q4] at hq
           by_cases q5:q<W'.heap.size
           · exact q5
           · rw [if_neg q5] at hq;exact absurd rfl hq
  box:=h.box.keep (keep f (by rw [h.tf];decide) (by rw [h.tf];decide) (by rw [h.tf];decide) (by rw [h.tf];decide))
  tf:=by rw [old f h.lt];exact h.tf
  tm:=by rw [old mm (h.tlt mm (by rw [h.tm];decide))];exact h.tm
  tl:=by rw [old ml (h.tlt ml (by rw [h.tl];decide))];exact h.tl
  lo:=by
   obtain ⟨m,h1⟩:=h.lo
   exact ⟨m,ownsMap_keep h1 (keep ml (by rw [h.tl];decide) (by rw [h.tl];decide) (by rw [h.tl];decide) (by rw [h.tl];decide))⟩
  lz:=h.lz
  la:=h.la
  ln:=h.ln
  mo:=c9
  mz:=cm
  mn:=λ x hx hpx=>by
   have xn:x≠n:=λ e=>by rw [e,pn] at hpx;simp at hpx
   rw [pne x xn] at hpx
   by_cases hn:M.posL S.l n = []
   · rw [cd.2 hn,has_put_other (ky x hx xn)]
     exact h.mn x hx hpx
   · rw [cd.1 hn]
     exact h.mn x hx hpx
  ms:=λ x hpx z=>by
   by_cases xn:x=n
   · subst xn
     rw [if_pos rfl]
     by_cases hn:M.posL S.l x = []
     · rw [cd.2 hn]
       exact atKey_put_same h.mo.isMap (isKeyS x) _ z
     · rw [cd.1 hn,c2.1 hn]
       exact h.ms x hn z
   · rw [pne x xn] at hpx
     rw [if_neg xn]
     by_cases hn:M.posL S.l n = []
     · rw [cd.2 hn,atKey_put_other (ky x (isBx x hpx) xn)]
       exact h.ms x hpx z
     · rw [cd.1 hn]
       exact h.ms x hpx z
  tb:=λ x hpx=>by
   by_cases xn:x=n
   · rw [if_pos xn];exact tmq
   · rw [pne x xn] at hpx
     rw [if_neg xn,old _ (mbl x hpx)];exact h.tb x hpx
  mi:=λ x y hx hy e=>by
   by_cases xn:x=n
   · by_cases yn:y=n
     · rw [xn,yn]
     · rw [pne y yn] at hy
       rw [if_pos xn,if_neg yn] at e
       by_cases hn:M.posL S.l n = []
       · have:=c2.2 hn;have:=mbl y hy;omega
       · rw [c2.1 hn] at e
         rw [xn];exact h.mi n y hn hy e
   · rw [pne x xn] at hx
     by_cases yn:y=n
     · rw [if_neg xn,if_pos yn] at e
       by_cases hn:M.posL S.l n = []
       · have:=c2.2 hn;have:=mbl x hx;omega
       · rw [c2.1 hn] at e
         rw [yn];exact h.mi x n hx hn e
     · rw [pne y yn] at hy
       rw [if_neg xn,if_neg yn] at e;exact h.mi x y hx hy e
  mc:=λ x hpx=>by
   rw [ats x 2 (.inr rfl),ats x 3 (.inl rfl),atk x 2,atk x 3]
   by_cases xn:x=n
   · subst xn
     rw [if_pos rfl,if_pos rfl,if_pos rfl,pn,List.length_append];exact c3
   · rw [pne x xn] at hpx ⊢
     rw [if_neg xn,if_neg xn,if_neg xn];refine (h.mc x hpx).keep (c1 _ (mbl x hpx) (by rw [h.tb x hpx];decide) (λ e => ?_) (λ e => ?_) (λ p hn hp e => ?_))
     · have a:=h.tb x hpx
       rw [e,h.tm] at a;cases a
     · by_cases hn:M.posL S.l n = []
       · have:=c2.2 hn;have:=mbl x hpx;omega
       · rw [c2.1 hn] at e
         exact xn (h.mi x n hpx hn e)
     · have a:=h.tb x hpx
       rw [e,h.rt n p hn hp] at a;cases a
  ro:=λ x hpx=>by
   by_cases xn:x=n
   · subst xn
     rw [if_pos rfl,if_pos rfl,pn,List.length_append,List.map_append,rowk x];show W'.ownsRow 0 157 1 (.slice (some ⟨pq,0,none⟩) ((M.posL S.l x).length+1) cq) ((M.posL S.l x).length+1) (((M.posL S.l x).map λ k=>ptB (some (kb k))) ++ [ptB (some (if S.l.length=S.l.length then kq else kb S.l.length))]);rw [if_pos rfl];exact c4
   · rw [pne x xn] at hpx ⊢
     rw [if_neg xn,if_neg xn,rowk x]
     exact own_keep_at (h.ro x hpx) (λ q hq=>by
      cases e:va x with
      | none=>rw [e] at hq;cases hq
      | some p =>
        rw [e] at hq
        have hq':p.block=q:=by cases hq;rfl
        subst hq';have t5:=h.rt x p hpx e;refine c1 _ (val x p hpx e) (by rw [t5];decide) (λ z => ?_) (λ z => ?_) (λ p' hn hp' z => ?_)
        · rw [z,h.tm] at t5;cases t5
        · by_cases hn:M.posL S.l n = []
          · have:=c2.2 hn;have:=val x p hpx e;omega
          · rw [z,mq4 hn] at t5;cases t5
        · exact xn (h.ri x n p p' hpx hn e hp' z))
  rt:=λ x p hpx hp=>by
   by_cases xn:x=n
   · rw [if_pos xn] at hp
     cases hp;exact tpq
   · rw [pne x xn] at hpx
     rw [if_neg xn] at hp;rw [old _ (val x p hpx hp)];exact h.rt x p hpx hp
  ri:=λ x y p p' hx hy hp hp' e=>by
   have one : ∀ z pz,z≠n->M.posL S.l z ≠ []->va z=some pz->pz.block=pq->False:=λ z pz zn hz hpz ez=>by
    rcases c5 with ⟨a,_⟩ | ⟨hn,p0,hp0,e0⟩
    · have:=val z pz hz hpz;omega
    · exact zn (h.ri z n pz p0 hz hn hpz hp0 (ez.trans e0.symm))
   by_cases xn:x=n
   · by_cases yn:y=n
     · rw [xn,yn]
     · rw [pne y yn] at hy
       rw [if_pos xn] at hp;rw [if_neg yn] at hp';cases hp;exact absurd (one y p' yn hy hp' e.symm) id
   · rw [pne x xn] at hx
     rw [if_neg xn] at hp
     by_cases yn:y=n
     · rw [if_pos yn] at hp'
       cases hp';exact absurd (one x p xn hx hp e) id
     · rw [pne y yn] at hy
       rw [if_neg yn] at hp';exact h.ri x y p p' hx hy hp hp' e
  tk:=λ j hj=>by
   rw [ln] at hj
   by_cases q:j=S.l.length
   · rw [if_pos q];exact tkq
   · rw [if_neg q,old _ (kbl j (by omega))]
     exact h.tk j (by omega)
  ki:=λ i j hi hj e=>by
   rw [ln] at hi hj
   by_cases q1:i=S.l.length
   · by_cases q2:j=S.l.length
     · rw [q1,q2]
     · rw [if_pos q1,if_neg q2] at e
       have:=kbl j (by omega);omega
   · by_cases q2:j=S.l.length
     · rw [if_neg q1,if_pos q2] at e
       have:=kbl i (by omega);omega
     · rw [if_neg q1,if_neg q2] at e
       exact h.ki i j (by omega) (by omega) e
  kc:=λ j hj=>by
   rw [ln] at hj
   by_cases q:j=S.l.length
   · subst q
     rw [if_pos rfl,if_pos rfl,vn];exact c6
   · have hj':j<S.l.length:=by omega
     rw [if_neg q,if_neg q,vo j hj'];have t6:=h.tk j hj';exact (h.kc j hj').keep (keep _ (by rw [t6];decide) (by rw [t6];decide) (by rw [t6];decide) (by rw [t6];decide))
  kg:=λ j hj hs=>by
   rw [ln] at hj
   by_cases q:j=S.l.length
   · subst q
     rw [if_pos rfl]
     refine ⟨?_,cg.up (Nat.le_refl _) (λ _ _=>rfl) (λ q hq => ?_)⟩
     · show O.m=((S.l ++ [_]).getD S.l.length M.vg0).2
       simp [List.getD,M.newV]
     · obtain ⟨z1,z2,z3,z4,z5⟩:=hq
       unfold addT;rw [if_neg (by omega),if_neg z3,if_neg z4,if_neg z5,if_pos z2]
   · have hj':j<S.l.length:=by omega
     rw [vo j hj'] at hs;rw [if_neg q];obtain ⟨g1,g2⟩:=h.kg j hj' hs
     refine ⟨?_,g2.up cz (λ q hq=>keep q (by rw [hq];decide) (by rw [hq];decide) (by rw [hq];decide) (by rw [hq];decide)) (λ q hq => ?_)⟩
     · rw [g1]
       show (S.l.getD j M.vg0).2=((S.l ++ [_]).getD j M.vg0).2;simp [List.getD,List.getElem?_append_left hj']
     · rw [old q (h.tlt q (by rw [hq];decide))]
       exact hq }
end Go.Proofs.YtaijnacghiloaaaGreatDoor
