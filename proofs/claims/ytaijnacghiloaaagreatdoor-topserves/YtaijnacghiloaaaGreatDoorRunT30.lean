/-
  Several texts as one: ScA, ScM.
-/
import Derived.Test.YtaijnacghiloaaaGreatDoorRunT28
import Derived.Test.YtaijnacghiloaaaGreatDoorRunT19
import Derived.Deep.Cut
import Derived.Deep.RegionHeld3
import Derived.RegionTactic
import Derived.Test.YtaijnacghiloaaaGreatDoorRunT1
namespace Go.Proofs.YtaijnacghiloaaaGreatDoor
open Go.ChangeShapes Go.WideShapes Go.ChangeAt Go.RowKit Go.Lib Go.Maps
set_option linter.unusedVariables false
theorem sp_in {W:World} {B n:Nat} {e:TypeId} {size:Nat} {a:Option Addr} {c:Nat} {l:List Value} (h:W.ownsRow B e size (.slice a n c) n l) : ∀ p,a=some p->B<=p.block/\p.block<W.heap.size:=by
 intro p hp;subst hp;exact h.lt p.block rfl
theorem sp_stay {W W':World} {B n:Nat} {e:TypeId} {size:Nat} {a:Option Addr} {c:Nat} {l:List Value} (h:W.ownsRow B e size (.slice a n c) n l) (hk : ∀ p,a=some p->W'.heap[p.block]? = W.heap[p.block]?):W'.ownsRow B e size (.slice a n c) n l:=by
 refine ⟨h.1, ?_⟩
 rcases h.2 with z | ⟨g,cap,cur,hv,hb,hg,r⟩
 · exact .inl z
 · refine .inr ⟨g,cap,cur,hv,hb, ?_,r⟩
   cases hv;rw [hk _ rfl];exact hg
abbrev Ld:=List Nat×Int×Nat
def ld3 (x:Ld):List Value := [.string (byStr x.1), .int .i64 x.2.1, .pointer (some ⟨x.2.2,0,none⟩)]
def ldV (x:Ld):Value := .agg #[.string (byStr x.1), .int .i64 x.2.1, .pointer (some ⟨x.2.2,0,none⟩)]
def ldCs (l:List Ld):List Value:=l.flatMap ld3
def ld0:Ld:=([],0,0)
theorem ldCs_app (a b:List Ld):ldCs (a ++ b)=ldCs a ++ ldCs b:=by unfold ldCs;rw [List.flatMap_append]
theorem ldCs_one (k:Ld):ldCs [k]=ld3 k:=by unfold ldCs;simp
theorem ldCs_len : ∀ l:List Ld,(ldCs l).length=l.length*3
 | []=>rfl
 | k :: l=>by
   have:=ldCs_len l;show (ld3 k ++ ldCs l).length=_;rw [List.length_append,this,List.length_cons];show 3+_=_;omega
theorem ldCs_at : ∀ (l:List Ld) (i j:Nat),i<l.length->j<3->(ldCs l)[i*3+j]? = (ld3 (l.getD i ld0))[j]?
 | [],i,j,h,_=>by cases h
 | k :: l,0,j,_,hj=>by
   show (ld3 k ++ ldCs l)[0*3+j]? = _;rw [List.getElem?_append_left (by show 0*3+j<3;omega),Nat.zero_mul,Nat.zero_add];rfl
 | k :: l,i+1,j,h,hj=>by
   show (ld3 k ++ ldCs l)[(i+1)*3+j]? = _;rw [List.getElem?_append_right (by show 3<=(i+1)*3+j;omega)]
   have e:(i+1)*3+j-(ld3 k).length=i*3+j:=by show (i+1)*3+j-3=_;omega
   rw [e,ldCs_at l i j (by simpa using h) hj];rfl
def FoIn (F:Nat->Prop) (w:World) (p:Nat) (g:M.Gv):Prop := ∀ W:World,w.heap.size<=W.heap.size->(∀ q,F q->W.heap[q]? = w.heap[q]?)->FO W p g
theorem FoIn.up {F E:Nat->Prop} {w w':World} {p:Nat} {g:M.Gv} (h:FoIn F w p g) (hz:w.heap.size<=w'.heap.size) (hk : ∀ q,F q->w'.heap[q]? = w.heap[q]?) (hq : ∀ q,F q->E q):FoIn E w' p g:=λ W h1 h2=>h W (Nat.le_trans hz h1) (λ q hp=>(h2 q (hq q hp)).trans (hk q hp))
theorem FoIn.fo {F:Nat->Prop} {w:World} {p:Nat} {g:M.Gv} (h:FoIn F w p g):FO w p g:=h w (Nat.le_refl _) (λ _ _=>rfl)
def scL (f:Nat) (i:Nat) (ka:Option Addr) (kn kc:Nat):List Value := [.pointer (some ⟨f,0,none⟩), .int .i64 (i:Int), .slice ka kn kc]
def KV (S:M.Sh) (F:Nat->Prop) (w:World) (K:List Ld):Prop := ∀ x∈K,isB x.1 /\ ∃ k,k<S.l.length/\(vAt S k).name=x.1/\(vAt S k).num=x.2.1/\FoIn F w x.2.2 (S.l.getD k M.vg0).2
theorem KV.up {S:M.Sh} {F E:Nat->Prop} {w w':World} {K:List Ld} (h:KV S F w K) (hz:w.heap.size<=w'.heap.size) (hk : ∀ q,F q->w'.heap[q]? = w.heap[q]?) (hq : ∀ q,F q->E q):KV S E w' K:=λ x hx=>by
 obtain ⟨a,k,b,c,d,e⟩:=h x hx
 exact ⟨a,k,b,c,d,e.up hz hk hq⟩
theorem KV.turn {S S':M.Sh} {F:Nat->Prop} {w:World} {K:List Ld} (h:KV S F w K) (hs:M.keepV S.l S'.l):KV S' F w K:=λ x hx=>by
 obtain ⟨a,k,b,c,d,e⟩:=h x hx;obtain ⟨h1,h2,h3,h4⟩:=hs k b
 exact ⟨a,k,h1,h2.trans c,h3.trans d,by rw [h4];exact e⟩
structure SC (W w:World) (s f:Nat) (T:Nat->Nat) (S:M.Sh) (i:Nat) (ka:Option Addr) (kc:Nat) (K:List Ld) (F:Nat->Prop):Prop where
 has:Has W w f T S
 gg:M.GG S
 ix:S.idx<=(i:Int)
 box:Bx w s (scL f i ka K.length kc)
 ko:w.ownsRow W.heap.size 165 3 (.slice ka K.length kc) K.length (ldCs K)
 kl:K.length<=4
 kv:KV S F w K
 fn : ∀ q,F q->W.heap.size<=q/\q<w.heap.size/\T q=0/\q≠s /\ ∀ p,ka=some p->q≠p.block
 sn:W.heap.size<=s/\T s=0 /\ ∀ p,ka=some p->p.block≠s
 kn : ∀ p,ka=some p->T p.block=0
def SB (s:Nat) (T:Nat->Nat) (ka:Option Addr) (F:Nat->Prop) (q:Nat):Prop:=q=s∨T q≠0∨(∃ p,ka=some p/\p.block=q)∨F q
theorem SC.lt {W w:World} {s f:Nat} {T:Nat->Nat} {S:M.Sh} {i:Nat} {ka:Option Addr} {kc:Nat} {K:List Ld} {F:Nat->Prop} (h:SC W w s f T S i ka kc K F) {q:Nat} (hq:SB s T ka F q):W.heap.size<=q/\q<w.heap.size:=by
 rcases hq with e | e | ⟨p,e,e2⟩ | e
 · rw [e];exact ⟨h.sn.1,h.box.lt⟩
 · refine ⟨h.has.tn q e, ?_⟩
   by_cases z:q<w.heap.size
   · exact z
   · exact absurd (h.has.sa.lt (by omega)) e
 · have:=sp_in h.ko p e
   rw [←e2];exact this
 · exact ⟨(h.fn q e).1,(h.fn q e).2.1⟩
theorem SC.stay {W w w':World} {s f:Nat} {T:Nat->Nat} {S:M.Sh} {i:Nat} {ka:Option Addr} {kc:Nat} {K:List Ld} {F:Nat->Prop} (h:SC W w s f T S i ka kc K F) (hb:Below W.heap.size W w') (hz:w.heap.size<=w'.heap.size) (hk : ∀ q,SB s T ka F q->w'.heap[q]? = w.heap[q]?):SC W w' s f T S i ka kc K F where
 has:=⟨h.has.sa.up (λ q hq=>hk q (.inr (.inl hq))) hz,hb,h.has.tn⟩
 gg:=h.gg
 ix:=h.ix
 box:=h.box.keep (hk s (.inl rfl))
 ko:=sp_stay h.ko (λ p hp=>hk _ (.inr (.inr (.inl ⟨p,hp,rfl⟩))))
 kl:=h.kl
 kv:=h.kv.up hz (λ q hq=>hk q (.inr (.inr (.inr hq)))) (λ q hq=>hq)
 fn:=λ q hq=>⟨(h.fn q hq).1,Nat.lt_of_lt_of_le (h.fn q hq).2.1 hz,(h.fn q hq).2.2⟩
 sn:=h.sn
 kn:=h.kn
theorem SC.up {W w w':World} {s f:Nat} {T:Nat->Nat} {S:M.Sh} {i:Nat} {ka:Option Addr} {kc:Nat} {K:List Ld} {F:Nat->Prop} (h:SC W w s f T S i ka kc K F) (hb:Below w.heap.size w w'):SC W w' s f T S i ka kc K F :=
 h.stay (below_on h.has.bl hb) hb.size (λ q hq=>hb.block q (h.lt hq).2)
theorem SC.heard {W w w1 w':World} {s f:Nat} {T T':Nat->Nat} {S S':M.Sh} {i:Nat} {ka:Option Addr} {kc:Nat} {K:List Ld} {F:Nat->Prop} (h:SC W w s f T S i ka kc K F) (h1:w1=w.setCell ⟨s,1,none⟩ (.int .i64 ((i+1:Nat):Int))) (hh:Has W w' f T' S') (hk : ∀ q,q<w1.heap.size->T q=0->T' q=0/\w'.heap[q]? = w1.heap[q]?) (hz:w1.heap.size<=w'.heap.size) (gg:M.GG S') (kp:M.keepV S.l S'.l) (ix:S'.idx<=S.idx+1):SC W w' s f T' S' (i+1) ka kc K F:=by
 have z1:w1.heap.size=w.heap.size:=by rw [h1];simp
 have eq1 : ∀ q,q≠s->w1.heap[q]? = w.heap[q]? := λ q hq=>by rw [h1];exact heap_setCell_other _ _ _ _ hq
 have b1:Bx w1 s (scL f (i+1) ka K.length kc):=by
  have:=h.box.put (j:=1) (v := .int .i64 ((i+1:Nat):Int))
  rw [h1];exact this
 have hx:=h.ix
 refine ⟨hh,gg,by push_cast;omega,b1.keep (hk s (by have:=h.box.lt;omega) h.sn.2.1).2,sp_stay h.ko (λ p hp => ?_),h.kl,(h.kv.up (by omega) (λ q hq => ?_) (λ q hq=>hq)).turn kp,λ q hq => ?_,⟨h.sn.1,(hk s (by have:=h.box.lt;omega) h.sn.2.1).1,h.sn.2.2⟩,λ p hp => ?_⟩
 · have:=sp_in h.ko p hp
   rw [(hk p.block (by omega) (h.kn p hp)).2];exact eq1 _ (h.sn.2.2 p hp)
 · have:=h.fn q hq
   rw [(hk q (by omega) this.2.2.1).2];exact eq1 _ this.2.2.2.1
 · have:=h.fn q hq
   exact ⟨this.1,by omega,(hk q (by omega) this.2.2.1).1,this.2.2.2⟩
 · have:=sp_in h.ko p hp
   exact (hk p.block (by omega) (h.kn p hp)).1
theorem SC.turned {W w w':World} {s f:Nat} {T:Nat->Nat} {S:M.Sh} {i:Nat} {ka kb:Option Addr} {kc kd:Nat} {K L:List Ld} {F E:Nat->Prop} (h:SC W w s f T S i ka kc K F) (hb:Below W.heap.size W w') (hz:w.heap.size<=w'.heap.size) (hbx:Bx w' s (scL f i kb L.length kd)) (ho:w'.ownsRow W.heap.size 165 3 (.slice kb L.length kd) L.length (ldCs L)) (hl:L.length<=4) (hv:KV S E w' L) (ht : ∀ q,T q≠0->w'.heap[q]? = w.heap[q]?)
 (hE : ∀ q,E q->W.heap.size<=q/\q<w'.heap.size/\T q=0/\q≠s /\ ∀ p,kb=some p->q≠p.block) (hs : ∀ p,kb=some p->p.block≠s) (hn : ∀ p,kb=some p->T p.block=0):SC W w' s f T S i kb kd L E where
 has:=⟨h.has.sa.up ht hz,hb,h.has.tn⟩
 gg:=h.gg
 ix:=h.ix
 box:=hbx
 ko:=ho
 kl:=hl
 kv:=hv
 fn:=hE
 sn:=⟨h.sn.1,h.sn.2.1,hs⟩
 kn:=hn
def SZ (W w:World) (s:Nat) (S:M.Sh) (i:Nat) (B:Nat->Prop):Prop := ∃ f T ka kc K F,SC W w s f T S i ka kc K F /\ ∀ q,B q↔SB s T ka F q
def KeptS (w:World) (B B':Nat->Prop) (w':World):Prop:=w.heap.size<=w'.heap.size /\ ∀ q,q<w.heap.size -> ¬ B q -> ¬ B' q/\w'.heap[q]? = w.heap[q]?
theorem SZ.bl {W w:World} {s:Nat} {S:M.Sh} {i:Nat} {B:Nat->Prop} (h:SZ W w s S i B):Below W.heap.size W w:=by
 obtain ⟨f,T,ka,kc,K,F,h,_⟩:=h;exact h.has.bl
theorem SZ.lt {W w:World} {s:Nat} {S:M.Sh} {i:Nat} {B:Nat->Prop} (h:SZ W w s S i B) {q:Nat} (hq:B q):W.heap.size<=q/\q<w.heap.size:=by
 obtain ⟨f,T,ka,kc,K,F,h,e⟩:=h;exact h.lt ((e q).1 hq)
theorem SZ.up {W w w':World} {s:Nat} {S:M.Sh} {i:Nat} {B:Nat->Prop} (h:SZ W w s S i B) (hb:Below w.heap.size w w'):SZ W w' s S i B:=by
 obtain ⟨f,T,ka,kc,K,F,h,e⟩:=h
 exact ⟨f,T,ka,kc,K,F,h.up hb,e⟩
theorem SZ.stay {W w w':World} {s:Nat} {S:M.Sh} {i:Nat} {B:Nat->Prop} (h:SZ W w s S i B) (hb:Below W.heap.size W w') (hz:w.heap.size<=w'.heap.size) (hk : ∀ q,B q->w'.heap[q]? = w.heap[q]?):SZ W w' s S i B:=by
 obtain ⟨f,T,ka,kc,K,F,h,e⟩:=h
 exact ⟨f,T,ka,kc,K,F,h.stay hb hz (λ q hq=>hk q ((e q).2 hq)),e⟩
theorem KeptS.refl {w w':World} {B:Nat->Prop} (hb:Below w.heap.size w w'):KeptS w B B w':=⟨hb.size,λ q hq hn=>⟨hn,hb.block q hq⟩⟩
set_option maxHeartbeats 4000000 in
theorem sc_Index {W w:World} {s:Nat} {S:M.Sh} {i:Nat} {B:Nat->Prop} (h:SZ W w s S i B) :
 Calls Tryz.prog 30 #[.pointer (some ⟨s,0,none⟩)] w λ e w'=>e = .returned (.int .i64 (i:Int))/\w'=w:=by
 obtain ⟨f,T,ka,kc,K,F,h,e⟩:=h;have c1:=h.box.cell 1 _ rfl;clear h e
 go_enter Tryz.func30, Tryz.ntmps30
 go_wp2
 go_ret
 exact ⟨rfl,rfl⟩
set_option maxHeartbeats 4000000 in
theorem sc_New {W w:World} (hb:Below W.heap.size W w) :
 Calls Tryz.prog 25 #[] w λ e w' => ∃ s B,e = .returned (.pointer (some ⟨s,0,none⟩))/\SZ W w' s M.sh0 0 B/\Below w.heap.size w w' /\ ∀ q,B q->w.heap.size<=q:=by
 have NW:=hide (sh_New w)
 have AFT:Hid (∀ f T w1,SA w1 f T M.sh0->Below w.heap.size w w1->(∀ q,T q≠0->w.heap.size<=q)->SZ W (w1.alloc (.cells #[.pointer (some ⟨f,0,none⟩), .int .i64 0, .slice none 0 0] 117)) w1.heap.size M.sh0 0 (SB w1.heap.size T none (λ _=>False))/\Below w.heap.size w (w1.alloc (.cells #[.pointer (some ⟨f,0,none⟩), .int .i64 0, .slice none 0 0] 117)) /\ ∀ q,SB w1.heap.size T none (λ _=>False) q->w.heap.size<=q):=λ f T w1 sa b1 tn=>by
  have ba:Below w1.heap.size w1 (w1.alloc (.cells #[.pointer (some ⟨f,0,none⟩), .int .i64 0, .slice none 0 0] 117)):=(Below.refl _ _).alloc (Nat.le_refl _) _;have hz:=hb.size;have z1:=b1.size
  have hs:Has W w1 f T M.sh0:=⟨sa,below_on hb b1,λ q hq=>Nat.le_trans hz (tn q hq)⟩
  refine ⟨⟨f,T,none,0, [],λ _=>False,⟨hs.up ba,M.gg_zero,by show (0:Int)<=((0:Nat):Int);omega,bx_new w1 (scL f 0 none 0 0) _,World.ownsRow_nil _ _ _ _,by show 0<=4;omega,(λ x hx=>by cases hx),(λ q hq=>by cases hq),⟨by omega,sa.lt (Nat.le_refl _),λ p hp=>by cases hp⟩,λ p hp=>by cases hp⟩,λ q=>Iff.rfl⟩,below_on b1 ba,λ q hq => ?_⟩
  rcases hq with e | e | ⟨p,e,_⟩ | e
  · omega
  · exact tn q e
  · cases e
  · cases e
 clear hb
 go_enter Tryz.func25, Tryz.ntmps25
 go_wp2_with (go_at_call 11;refine NW.out.mono ?_;rintro e w1 ⟨f,T,rfl,sa,b1,tn⟩;have F1:=hide (AFT.out f T w1 sa b1 tn);clear sa b1 tn)
 go_ret
 exact ⟨_,_,rfl,F1.out⟩
set_option maxHeartbeats 8000000 in
theorem sc_HearG {W w:World} {s:Nat} {S:M.Sh} {i:Nat} {B:Nat->Prop} (h:SZ W w s S i B) {k:CaC} (hc:CaIn w k.1 k.2.1 k.2.2) (ha:k.1.bys ≠ [] -> ∀ p,k.2.1=some p -> ¬ B p.block) (hi:i<=900) :
 Calls Tryz.prog 35 #[.pointer (some ⟨s,0,none⟩),caV k.1 k.2.1 k.2.2, .int .i64 ((i:Int)+1)] w λ e w'=>e = .returned .nilIface /\ ∃ B',SZ W w' s (M.shDo S k.1).2.2 (i+1) B'/\KeptS w B B' w':=by
 obtain ⟨f,T,ka,kc,K,F,h,eB⟩:=h;have ix:=h.ix
 obtain ⟨w0,hw0⟩ : ∃ X,X=w.alloc (.cells #[.int .i64 k.1.what, .int .i64 k.1.ses, .int .i64 k.1.seq, .string (byStr k.1.name), .int .i64 k.1.num, .int .i64 k.1.share, .slice k.2.1 k.1.bys.length k.2.2] 44):=⟨_,rfl⟩
 have ba:Below w.heap.size w w0:=by rw [hw0];exact (Below.refl _ _).alloc (Nat.le_refl _) _
 obtain ⟨cq,hcq⟩ : ∃ x,x=w.heap.size:=⟨_,rfl⟩
 have bq:Bx w0 cq [.int .i64 k.1.what, .int .i64 k.1.ses, .int .i64 k.1.seq, .string (byStr k.1.name), .int .i64 k.1.num, .int .i64 k.1.share, .slice k.2.1 k.1.bys.length k.2.2]:=by rw [hw0,hcq];exact bx_new w _ _
 have h0:=h.up ba;have sl:=h.box.lt
 have io:M.ShOk S:=by
  obtain ⟨mm,ml,D,E,kb,mb,va,vc,G,hv⟩:=h.has.sa;exact hv.inv.ok
 obtain ⟨w1,hw1⟩ : ∃ X,X=w0.setCell ⟨s,1,none⟩ (.int .i64 ((i:Int)+1)):=⟨_,rfl⟩
 have z1:w1.heap.size=w0.heap.size:=by rw [hw1];simp
 have eq1 : ∀ q,q≠s->w1.heap[q]? = w0.heap[q]? := λ q hq=>by rw [hw1];exact heap_setCell_other _ _ _ _ hq
 have h1:Has W w1 f T S:=⟨h0.has.sa.up (λ q hq=>eq1 q (λ e=>hq (by rw [e];exact h.sn.2.1))) (by omega),by rw [hw1];exact h0.has.bl.setCell h.sn.1 _,h.has.tn⟩
 have bq1:Bx w1 cq [.int .i64 k.1.what, .int .i64 k.1.ses, .int .i64 k.1.seq, .string (byStr k.1.name), .int .i64 k.1.num, .int .i64 k.1.share, .slice k.2.1 k.1.bys.length k.2.2]:=bq.keep (eq1 cq (by omega));have b0:=h0.box
 have b1:Bx w1 s (scL f (i+1) ka K.length kc):=by
  have:=b0.put (j:=1) (v := .int .i64 ((i:Int)+1))
  rw [hw1];exact this
 have hpl:k.1.bys ≠ [] -> ∀ p,k.2.1=some p->p.block<w.heap.size:=λ hne p hp=>by
  obtain ⟨b,off,e,hl,_⟩:=hc.rd.2.2 hne
  rw [e] at hp;cases hp;exact hl
 have hns:k.1.bys ≠ [] -> ∀ p,k.2.1=some p->p.block≠s/\T p.block=0:=λ hne p hp=>by
  have nb:=ha hne p hp
  refine ⟨λ e=>nb ((eB _).2 (.inl e)), ?_⟩
  by_cases z:T p.block=0
  · exact z
  · exact absurd ((eB _).2 (.inr (.inl z))) nb
 have hc1:CaIn w1.drew k.1 k.2.1 k.2.2:=⟨hc.nb,hc.nl,rdB_keep hc.rd (λ hne p hp=>by
  show w1.heap[p.block]? = _;rw [eq1 _ (hns hne p hp).1]
  exact ba.block _ (hpl hne p hp)) (by show w.heap.size<=w1.heap.size;rw [z1];exact ba.size),hc.le,hc.cp,hc.num,hc.shr,hc.nil⟩
 have hd:Has W w1.drew f T S:=h1.up (Below.refl _ w1).drew
 have DO:Hid (Calls Tryz.prog 13 #[.pointer (some ⟨f,0,none⟩),caV k.1 k.2.1 k.2.2] w1.drew λ e w'=>e = .returned (.tuple #[anV (M.shDo S k.1).1,errV (M.shDo S k.1).2.1]) /\ ∃ T',Has W w' f T' (M.shDo S k.1).2.2/\(∀ q,q<w1.drew.heap.size->T q=0->T' q=0/\w'.heap[q]? = w1.drew.heap[q]?)/\w1.drew.heap.size<=w'.heap.size):=by
  refine (sh_Do hd.sa hc1 (λ hne p hp=>(hns hne p hp).2) (by omega)).mono ?_;rintro e w' ⟨rfl,hl⟩
  exact ⟨rfl,hd.left hl⟩
 have AFT:Hid (∀ T' w',Has W w' f T' (M.shDo S k.1).2.2->(∀ q,q<w1.heap.size->T q=0->T' q=0/\w'.heap[q]? = w1.heap[q]?)->w1.heap.size<=w'.heap.size -> ∃ B',SZ W w' s (M.shDo S k.1).2.2 (i+1) B'/\KeptS w B B' w'):=λ T' w' hh hk hz=>by
  have e1:w1=w0.setCell ⟨s,1,none⟩ (.int .i64 ((i+1:Nat):Int)):=by rw [hw1];rfl
  have sc:=h0.heard e1 hh hk hz (M.gg_do h.gg k.1) (M.do_keep S k.1) (M.do_ok io k.1).2.2.2
  refine ⟨SB s T' ka F,⟨f,T',ka,kc,K,F,sc,λ q=>Iff.rfl⟩,by have:=ba.size;omega,λ q hq hn => ?_⟩
  have hn' : ¬ SB s T ka F q:=λ z=>hn ((eB q).2 z);have ns:q≠s:=λ e=>hn' (.inl e)
  have nt:T q=0:=by
   by_cases z:T q=0
   · exact z
   · exact absurd (.inr (.inl z)) hn'
  have kq:=hk q (by have:=ba.size;omega) nt
  refine ⟨λ z => ?_, ?_⟩
  · rcases z with e | e | e | e
    · exact ns e
    · exact e kq.1
    · exact hn' (.inr (.inr (.inl e)))
    · exact hn' (.inr (.inr (.inr e)))
  · rw [kq.2,eq1 q ns]
    exact ba.block q hq
 have t1:decide ((i:Int)+1<1)=false:=decide_eq_false (by omega);have t2:decide (1000000<(i:Int)+1)=false:=decide_eq_false (by omega);have i1:IntKind.i64.wrap ((i:Int)+1)=(i:Int)+1:=i64_in (by omega) (by omega);have c1:=b0.cell 1 _ rfl;have f1:=b0.free 1;have d0:=b1.cell 0 _ rfl;have q0:=bq1.cell 0 _ rfl;have q1:=bq1.cell 1 _ rfl;have q2:=bq1.cell 2 _ rfl;have q3:=bq1.cell 3 _ rfl;have q4:=bq1.cell 4 _ rfl;have q5:=bq1.cell 5 _ rfl;have q6:=bq1.cell 6 _ rfl;unfold caV at DO ⊢;clear h h0 h1 hc b0 b1 bq bq1 ba eq1 z1 eB hpl hns hc1 hd ha;generalize (M.shDo S k.1).2.2=S9 at *;generalize errV (M.shDo S k.1).2.1=e9 at *;generalize anV (M.shDo S k.1).1=a9 at *
 go_enter Tryz.func35, Tryz.ntmps35
 go_upto_region 1 with fail
 rw [←hw0];simp only [←hcq];clear hw0 hcq
 go_upto_region 6 with fail
 rw [←hw1];clear hw1
 go_region_with (go_at_call 13;refine DO.out.mono ?_;rintro e w2 ⟨rfl,T',hh,hk,hz⟩;have A2:=hide (AFT.out T' w2 hh hk hz);clear hh hk hz)
 all_goals (
  go_wp2
  go_ret
  exact ⟨rfl,A2.out⟩)
end Go.Proofs.YtaijnacghiloaaaGreatDoor
