/-
  Several texts as one: MathA, MathI, MathSa, MathSb, MathBa, MathBb, FixAny, MathSc, Sams.
-/
import Derived.Test.YtaijnacghiloaaaGreatDoorRunT6
import Derived.Test.YtaijnacghiloaaaGreatDoorRunT2
import Derived.Test.YtaijnacghiloaaaGreatDoorRunT4
namespace Go.Proofs.YtaijnacghiloaaaGreatDoor.M
set_option linter.unusedVariables false
def turnN (n:Nd) (at' tw:Nat):Nd:=if nl n=(at':Int) then (nf n,nc n,(tw:Int),nr n,ns n,nv n) else (nf n,nc n,nl n,(tw:Int),ns n,nv n)
theorem set_at {t:List Nd} {i:Nat} {n:Nd} (h:i<t.length):nAt (t.set i n) i=n:=by
 unfold nAt;simp [List.getD,h]
theorem set_ne {t:List Nd} {i j:Nat} {n:Nd} (h:j≠i):nAt (t.set i n) j=nAt t j:=by
 unfold nAt;simp only [List.getD];rw [List.getElem?_set_ne (λ q=>h q.symm)]
structure Below2 (t:List Nd) (m:Nat) (up at' tw:Nat):Prop where
 fair:Fair t (m:Int)
 hup:up<t.length
 hat:at'<t.length
 hto:tw<t.length
 c1:chL (nAt t up) (at':Nat)
 c2:chL (nAt t at') (tw:Nat)
theorem ch_lt {t:List Nd} {m:Int} (h:Right t m) {i j:Nat} (hi:i<t.length) (c:chL (nAt t i) (j:Nat)):i<j/\j<t.length:=by
 obtain ⟨a,b,ea,eb,h1,h2,h3,h4,_⟩:=ask_at h hi c.1
 rcases c.2 with q | q <;> omega
theorem Below2.right {t:List Nd} {m up at' tw:Nat} (B:Below2 t m up at' tw):Right (t.set up (turnN (nAt t up) at' tw)) (m:Int):=by
 have hR:=B.fair.2.2.2.2.1;have l1:=ch_lt hR B.hup B.c1;have l2:=ch_lt hR B.hat B.c2;intro q hq;rw [List.length_set] at hq ⊢
 by_cases e:q=up
 · subst e
   rw [set_at B.hup];have hn:=hR q B.hup;have hf:nf (nAt t q) ≠ -1:=B.c1.1;obtain ⟨a,b,ea,eb,h1,h2,h3,h4,h5⟩:=ask_at hR B.hup hf;obtain ⟨g0,g1,g2,_,_,_,_,g7,_⟩:=node_ask hn hf
   have apart : ∀ o:Nat,chL (nAt t q) (o:Nat)->o≠at'->o≠tw:=λ o co no eo=>by
    subst eo;have lo:=ch_lt hR B.hup co;have:=up_one (B.fair.2.2.2.2.2 o (by omega) lo.2) B.hup B.hat co B.c2;omega
   have hf2:nf (turnN (nAt t q) at' tw)=nf (nAt t q):=by unfold turnN;split <;> rfl
   have hc2:nc (turnN (nAt t q) at' tw)=nc (nAt t q):=by unfold turnN;split <;> rfl
   have hv2:nv (turnN (nAt t q) at' tw)=nv (nAt t q):=by unfold turnN;split <;> rfl
   have hlr : ∃ x y:Nat,nl (turnN (nAt t q) at' tw)=x/\nr (turnN (nAt t q) at' tw)=y/\q<x/\x<t.length/\q<y/\y<t.length/\x≠y:=by
    unfold turnN
    by_cases c:nl (nAt t q)=(at':Int)
    · rw [if_pos c]
      refine ⟨tw,b,rfl,eb,by omega,by omega,by omega,by omega, ?_⟩
      exact λ e=>apart b ⟨hf, .inr eb⟩ (by omega) e.symm
    · rw [if_neg c]
      refine ⟨a,tw,ea,rfl,by omega,by omega,by omega,by omega, ?_⟩
      exact λ e=>apart a ⟨hf, .inl ea⟩ (by omega) e
   obtain ⟨x,y,ex,ey,x1,x2,y1,y2,xy⟩:=hlr;unfold nodeF;rw [hf2,if_neg hf];unfold asF;rw [hf2,hc2,hv2,ex,ey]
   have b1:inB (x:Int) q t.length=true:=by unfold inB;rw [decide_eq_true (by omega),decide_eq_true (by omega)];rfl
   have b2:inB (y:Int) q t.length=true:=by unfold inB;rw [decide_eq_true (by omega),decide_eq_true (by omega)];rfl
   rw [b1,b2,g2,g7];rw [if_neg (by simp;omega),if_neg (by simp;omega)]
 · rw [set_ne e];exact hR q hq
theorem Below2.turned {t:List Nd} {m up at' tw:Nat} (B:Below2 t m up at' tw):(nl (nAt t up)=at'/\nAt (t.set up (turnN (nAt t up) at' tw)) up=(nf (nAt t up),nc (nAt t up),(tw:Int),nr (nAt t up),ns (nAt t up),nv (nAt t up)))∨(nr (nAt t up)=at'/\nAt (t.set up (turnN (nAt t up) at' tw)) up=(nf (nAt t up),nc (nAt t up),nl (nAt t up),(tw:Int),ns (nAt t up),nv (nAt t up))):=by
 rw [set_at B.hup];unfold turnN
 by_cases c:nl (nAt t up)=(at':Int)
 · rw [if_pos c];exact .inl ⟨c,rfl⟩
 · rw [if_neg c]
   rcases B.c1.2 with q | q
   · exact absurd q c
   · exact .inr ⟨q,rfl⟩
theorem side_lt {t:List Nd} {m:Int} (h:Right t m) {i j:Nat} (hi:i<t.length) (c:chL (nAt t i) (j:Nat)):(bt t j).size<(bt t i).size/\(bt t j).deep<=(bt t i).deep:=by
 obtain ⟨a,b,ea,eb,h1,h2,h3,h4,_⟩:=ask_at h hi c.1;rw [bt_ask h hi c.1 ea eb];show _<1+_+_/\_<=1+max _ _
 rcases c.2 with q | q
 · have:a=j:=by omega
   subst this;omega
 · have:b=j:=by omega
   subst this;omega
theorem Below2.le {t:List Nd} {m up at' tw:Nat} (B:Below2 t m up at' tw) : ∀ (k i:Nat),i<t.length->t.length<=k+i->(bt (t.set up (turnN (nAt t up) at' tw)) i).size<=(bt t i).size/\(bt (t.set up (turnN (nAt t up) at' tw)) i).deep<=(bt t i).deep/\(i=up->(bt (t.set up (turnN (nAt t up) at' tw)) i).size<(bt t i).size)
 | 0,i,hi,hk=>by omega
 | k+1,i,hi,hk=>by
   have hR:=B.fair.2.2.2.2.1;have hu:=B.right;have l1:=ch_lt hR B.hup B.c1;have l2:=ch_lt hR B.hat B.c2;have hl:(t.set up (turnN (nAt t up) at' tw)).length=t.length:=List.length_set
   have hi':i<(t.set up (turnN (nAt t up) at' tw)).length:=by omega
   by_cases e:i=up
   · subst e
     obtain ⟨a,b,ea,eb,h1,h2,h3,h4,_⟩:=ask_at hR hi B.c1.1;have ag : ∀ j,i<j->j<t.length->bt (t.set i (turnN (nAt t i) at' tw)) j=bt t j:=λ j hj hj2=>bt_agree hR hu hl (j:=i+1) (λ q q1 q2=>set_ne (by omega)) t.length j (by omega) hj2 (by omega);have sl:=side_lt hR B.hat B.c2
     rcases B.turned with ⟨n1,n2⟩ | ⟨n1,n2⟩
     · have ea':a=at':=by omega
       subst ea';rw [bt_ask hR hi B.c1.1 ea eb,bt_ask hu hi' (a:=tw) (b:=b) (by rw [n2];exact B.c1.1) (by rw [n2];rfl) (by rw [n2];exact eb),ag tw (by omega) B.hto,ag b (by omega) h4];show 1+_+_<=1+_+_/\1+max _ _<=1+max _ _/\(_->1+_+_<1+_+_);omega
     · have eb':b=at':=by omega
       subst eb';rw [bt_ask hR hi B.c1.1 ea eb,bt_ask hu hi' (a:=a) (b:=tw) (by rw [n2];exact B.c1.1) (by rw [n2];exact ea) (by rw [n2];rfl),ag tw (by omega) B.hto,ag a (by omega) h2];show 1+_+_<=1+_+_/\1+max _ _<=1+max _ _/\(_->1+_+_<1+_+_);omega
   · have en:nAt (t.set up (turnN (nAt t up) at' tw)) i=nAt t i:=set_ne e
     by_cases hf:nf (nAt t i) = -1
     · rw [bt_leaf hi hf,bt_leaf hi' (by rw [en];exact hf)]
       exact ⟨Nat.le_refl _,Nat.le_refl _,λ q=>absurd q e⟩
     · obtain ⟨a,b,ea,eb,h1,h2,h3,h4,_⟩:=ask_at hR hi hf
       rw [bt_ask hR hi hf ea eb,bt_ask hu hi' (by rw [en];exact hf) (by rw [en];exact ea) (by rw [en];exact eb)];have ra:=B.le k a h2 (by omega);have rb:=B.le k b h4 (by omega);show 1+_+_<=1+_+_/\1+max _ _<=1+max _ _/\(_->1+_+_<1+_+_);omega
theorem Below2.up {t:List Nd} {m up at' tw:Nat} (B:Below2 t m up at' tw) : ∀ (k j:Nat),j<k->j<t.length->(bt (t.set up (turnN (nAt t up) at' tw)) j).size<(bt t j).size->(bt (t.set up (turnN (nAt t up) at' tw)) 0).size<(bt t 0).size
 | 0,j,hk,hj,h=>by omega
 | k+1,j,hk,hj,h=>by
   have hR:=B.fair.2.2.2.2.1;have hu:=B.right;have hl:(t.set up (turnN (nAt t up) at' tw)).length=t.length:=List.length_set
   rcases Nat.eq_zero_or_pos j with h0 | h0
   · subst h0;exact h
   · obtain ⟨p,hp,c⟩:=up_some (B.fair.2.2.2.2.2 j h0 hj)
     have lp:=ch_lt hR hp c;refine B.up k p (by omega) hp ?_
     by_cases e:p=up
     · exact (B.le t.length p hp (by omega)).2.2 e
     · have en:nAt (t.set up (turnN (nAt t up) at' tw)) p=nAt t p:=set_ne e
       obtain ⟨a,b,ea,eb,h1,h2,h3,h4,_⟩:=ask_at hR hp c.1;rw [bt_ask hR hp c.1 ea eb,bt_ask hu (by omega) (by rw [en];exact c.1) (by rw [en];exact ea) (by rw [en];exact eb)];have ra:=(B.le t.length a h2 (by omega)).1;have rb:=(B.le t.length b h4 (by omega)).1;show 1+_+_<1+_+_
       rcases c.2 with q | q
       · have:a=j:=by omega
         subst this;omega
       · have:b=j:=by omega
         subst this;omega
theorem lay_eval {T:BT} {r:List Int} (ok:okB (r.length:Int) T) (hz:(treeF (lay T 0) (r.length:Int)).2=0) (hr:rowF r=0):readyF (lay T 0) r=0/\evalV (lay T 0) r=evB T r:=by
 have hy:readyF (lay T 0) r=0:=by rw [ready_tree hr];exact hz
 refine ⟨hy, ?_⟩
 have F:=(tree_ok hz).1;have:=bt_ev F.2.2.2.2.1 r (lay T 0).length 0 F.2.1 (by omega);rw [bt_of_lay ok] at this;rw [this];unfold evalV;rw [if_pos hy]
abbrev Sa:=List Int×Int
def colA (s:Sa) (f:Nat):Int:=s.1.getD f 0
def sAt (l:List Sa) (i:Nat):Sa:=l.getD i ([],0)
def sa1F (m:Int) (s:Sa):Int:=if rowF s.1≠0 then rowF s.1 else if s.2 < -1000∨1000<s.2 then 1 else if (s.1.length:Int)≠m then 3 else if nilI∈s.1 then 5 else 0
def samF (l:List Sa) (m:Int):Nat×Int:=if 60<l.length then (0,4) else if l.length=0 then (0,5) else if m<0∨8<m then (0,1) else match firstN (λ i => !decide (sa1F m (sAt l i)=0)) l.length with
 | some i=>(i,sa1F m (sAt l i))
 | none=>(0,0)
def sideB (f:Nat) (c:Int) (s:Sa):Bool:=decide (colA s f<c)
def partS (l:List Sa) (f:Nat) (c:Int) (b:Bool):List Sa:=l.filter λ s=>sideB f c s == b
def sumT:List Sa->Int
 | []=>0
 | s :: l=>s.2+sumT l
theorem sumT_app (a b:List Sa):sumT (a ++ b)=sumT a+sumT b:=by
 induction a with
 | nil=>simp [sumT]
 | cons s a ih=>show s.2+sumT (a ++ b)=s.2+sumT a+sumT b;rw [ih];omega
def nB (l:List Sa) (f:Nat) (c:Int) (b:Bool):Int:=((partS l f c b).length:Nat)
def tB (l:List Sa) (f:Nat) (c:Int) (b:Bool):Int:=sumT (partS l f c b)
def spU (l:List Sa) (f:Nat) (c:Int):Int:=tB l f c true*tB l f c true*nB l f c false+tB l f c false*tB l f c false*nB l f c true
def spD (l:List Sa) (f:Nat) (c:Int):Int:=nB l f c true*nB l f c false
def okC (l:List Sa) (least:Int) (f:Nat) (c:Int):Bool := !(decide (nB l f c true<least) || decide (nB l f c false<least) || decide (nB l f c true=0))
abbrev SpS:=Int×Int×Nat×Int×Bool
def sp0 (l:List Sa):SpS:=(sumT l*sumT l,(l.length:Nat),0,0,false)
def spGt (l:List Sa) (st:SpS) (f:Nat) (c:Int):Bool:=decide (st.1*spD l f c<spU l f c*st.2.1) || (st.2.2.2.2 && decide (spU l f c*st.2.1=st.1*spD l f c) && decide (f=st.2.2.1) && decide (c<st.2.2.2.1))
def spN (l:List Sa) (least:Int) (st:SpS) (f:Nat) (c:Int):SpS:=if okC l least f c=true then (if spGt l st f c=true then (spU l f c,spD l f c,f,c,true) else st) else st
def spI (l:List Sa) (least:Int) (f:Nat) (st:SpS):Nat->SpS
 | 0=>st
 | k+1=>spN l least (spI l least f st k) f (colA (sAt l k) f)
def spA (l:List Sa) (least:Int):Nat->SpS
 | 0=>sp0 l
 | f+1=>spI l least f (spA l least f) l.length
def spV (l:List Sa) (m:Nat) (least:Int):SpS:=spA l least m
theorem fr_gt {a b c d e f:Int} (hb:0<b) (hd:0<d) (hf:0<f) (h1:c*b<a*d) (h2:e*d<=c*f):e*b<a*f:=by
 have h3:c*b*f<a*d*f:=Int.mul_lt_mul_of_pos_right h1 hf;have h4:e*d*b<=c*f*b:=Int.mul_le_mul_of_nonneg_right h2 (by omega)
 have h5:(e*b)*d<(a*f)*d:=by grind
 exact Int.lt_of_mul_lt_mul_right h5 (by omega)
theorem fr_ge {a b c d e f:Int} (hb:0<b) (hd:0<d) (hf:0<f) (h1:c*b<=a*d) (h2:e*d<c*f):e*b<a*f:=by
 have h3:c*b*f<=a*d*f:=Int.mul_le_mul_of_nonneg_right h1 (by omega);have h4:e*d*b<c*f*b:=Int.mul_lt_mul_of_pos_right h2 hb
 have h5:(e*b)*d<(a*f)*d:=by grind
 exact Int.lt_of_mul_lt_mul_right h5 (by omega)
theorem fr_eq {a b c d e f:Int} (hb:0<b) (hd:0<d) (hf:0<f) (h1:c*b=a*d) (h2:e*d=c*f):e*b=a*f:=by
 have h5:(e*b)*d=(a*f)*d:=by grind
 exact Int.eq_of_mul_eq_mul_right (by omega) h5
theorem spD_pos {l:List Sa} {least:Int} {f:Nat} {c:Int} (h1:1<=least) (h:okC l least f c=true):0<spD l f c/\least<=nB l f c true/\least<=nB l f c false:=by
 unfold okC at h;simp only [Bool.not_eq_true',Bool.or_eq_false_iff,decide_eq_false_iff_not] at h
 refine ⟨?_,by omega,by omega⟩
 unfold spD;exact Int.mul_pos (by omega) (by omega)
def Cand (l:List Sa) (m:Nat) (least:Int) (f:Nat) (c:Int):Prop:=f<m/\(∃ i,i<l.length/\colA (sAt l i) f=c)/\okC l least f c=true
def Beats (l:List Sa) (f:Nat) (c:Int) (f':Nat) (c':Int):Prop:=spU l f' c'*spD l f c<spU l f c*spD l f' c'∨(spU l f c*spD l f' c'=spU l f' c'*spD l f c/\(f<f'∨(f=f'/\c<c')))
def More (l:List Sa) (f:Nat) (c:Int):Prop:=sumT l*sumT l*spD l f c<spU l f c*(l.length:Nat)
structure SpInv (l:List Sa) (least:Int) (F:Nat) (P:Nat->Int->Prop) (st:SpS):Prop where
 no:st.2.2.2.2=false->st=sp0 l /\ ∀ f c,P f c->okC l least f c=true -> ¬ More l f c
 yes:st.2.2.2.2=true->P st.2.2.1 st.2.2.2.1/\okC l least st.2.2.1 st.2.2.2.1=true/\st.1=spU l st.2.2.1 st.2.2.2.1/\st.2.1=spD l st.2.2.1 st.2.2.2.1/\More l st.2.2.1 st.2.2.2.1 /\ ∀ f c,P f c->okC l least f c=true->(f=st.2.2.1/\c=st.2.2.2.1)∨Beats l st.2.2.1 st.2.2.2.1 f c
 upto : ∀ f c,P f c->f<=F
theorem SpInv.same {l:List Sa} {least:Int} {F:Nat} {P Q:Nat->Int->Prop} {st:SpS} (h:SpInv l least F P st) (e : ∀ f c,P f c↔Q f c):SpInv l least F Q st :=
 ⟨λ q=>⟨(h.no q).1,λ f c hp=>(h.no q).2 f c ((e f c).2 hp)⟩,λ q=>⟨(e _ _).1 (h.yes q).1,(h.yes q).2.1,(h.yes q).2.2.1,(h.yes q).2.2.2.1,(h.yes q).2.2.2.2.1,λ f c hp=>(h.yes q).2.2.2.2.2 f c ((e f c).2 hp)⟩,λ f c hp=>h.upto f c ((e f c).2 hp)⟩
theorem beats_trans {l:List Sa} {least:Int} {f g h:Nat} {c d e:Int} (h1:1<=least) (of:okC l least f c=true) (og:okC l least g d=true) (oh:okC l least h e=true) (a:Beats l f c g d) (b:Beats l g d h e):Beats l f c h e:=by
 have df:=(spD_pos h1 of).1;have dg:=(spD_pos h1 og).1;have dh:=(spD_pos h1 oh).1;unfold Beats at *
 rcases a with a | ⟨a,a2⟩
 · rcases b with b | ⟨b,b2⟩
   · exact .inl (fr_gt (c:=spU l g d) (d:=spD l g d) df dg dh a (Int.le_of_lt b))
   · exact .inl (fr_gt (c:=spU l g d) (d:=spD l g d) df dg dh a (by omega))
 · rcases b with b | ⟨b,b2⟩
   · exact .inl (fr_ge (c:=spU l g d) (d:=spD l g d) df dg dh (by omega) b)
   · refine .inr ⟨(fr_eq (c:=spU l g d) (d:=spD l g d) df dg dh a.symm b.symm).symm, ?_⟩
     rcases a2 with a2 | a2 <;> rcases b2 with b2 | b2 <;> omega
theorem SpInv.more {l:List Sa} {least:Int} {F:Nat} {P:Nat->Int->Prop} {st:SpS} (h1:1<=least) (hl:0<l.length) (h:SpInv l least F P st) (c:Int):SpInv l least F (λ f d=>P f d∨(f=F/\d=c)) (spN l least st F c):=by
 have up' : ∀ f d,(P f d∨(f=F/\d=c))->f<=F:=λ f d q=>q.elim (h.upto f d) (λ q=>by omega)
 have hN:(0:Int)<(l.length:Nat):=by omega
 unfold spN
 by_cases ok:okC l least F c=true
 · rw [if_pos ok]
   have dp:=(spD_pos h1 ok).1
   cases hf:st.2.2.2.2 with
   | false =>
     obtain ⟨e0,n0⟩:=h.no hf
     by_cases g:spGt l st F c=true
     · rw [if_pos g]
       have mo:More l F c:=by
        unfold spGt at g;rw [hf,Bool.false_and,Bool.false_and,Bool.false_and,Bool.or_false] at g;have g':=of_decide_eq_true g;rw [e0] at g';exact g'
       refine ⟨λ q=>(by cases q),λ _=>⟨.inr ⟨rfl,rfl⟩,ok,rfl,rfl,mo,λ f d hp oc => ?_⟩,up'⟩
       rcases hp with hp | ⟨rfl,rfl⟩
       · have nm:=n0 f d hp oc
         unfold More at nm mo;refine .inr (.inl ?_);have dd:=(spD_pos h1 oc).1;exact fr_gt (c:=sumT l*sumT l) (d:=(l.length:Nat)) dp hN dd mo (by omega)
       · exact .inl ⟨rfl,rfl⟩
     · rw [if_neg g]
       refine ⟨λ _=>⟨e0,λ f d hp oc mo => ?_⟩,λ q=>(by rw [hf] at q;cases q),up'⟩
       rcases hp with hp | ⟨rfl,rfl⟩
       · exact n0 f d hp oc mo
       · refine g ?_
         unfold spGt;rw [Bool.or_eq_true];left;rw [e0];exact decide_eq_true mo
   | true =>
     obtain ⟨y1,y2,y3,y4,y5,y6⟩:=h.yes hf;have db:=(spD_pos h1 y2).1;have lef:=h.upto _ _ y1
     by_cases g:spGt l st F c=true
     · rw [if_pos g]
       have bt:Beats l F c st.2.2.1 st.2.2.2.1:=by
        unfold spGt at g;rw [hf,y3,y4] at g;simp only [Bool.or_eq_true,Bool.and_eq_true,decide_eq_true_eq] at g
        rcases g with g | ⟨⟨⟨_,g1⟩,g2⟩,g3⟩
        · exact .inl g
        · exact .inr ⟨g1, .inr ⟨g2,g3⟩⟩
       have mo:More l F c:=by
        unfold More at y5 ⊢
        rcases bt with b | ⟨b,_⟩
        · exact fr_gt (c:=spU l st.2.2.1 st.2.2.2.1) (d:=spD l st.2.2.1 st.2.2.2.1) dp db hN b (Int.le_of_lt y5)
        · exact fr_ge (c:=spU l st.2.2.1 st.2.2.2.1) (d:=spD l st.2.2.1 st.2.2.2.1) dp db hN (by omega) y5
       refine ⟨λ q=>(by cases q),λ _=>⟨.inr ⟨rfl,rfl⟩,ok,rfl,rfl,mo,λ f d hp oc => ?_⟩,up'⟩
       rcases hp with hp | ⟨rfl,rfl⟩
       · rcases y6 f d hp oc with ⟨rfl,rfl⟩ | b
         · exact .inr bt
         · exact .inr (beats_trans h1 ok y2 oc bt b)
       · exact .inl ⟨rfl,rfl⟩
     · rw [if_neg g]
       refine ⟨λ q=>(by rw [hf] at q;cases q),λ _=>⟨.inl y1,y2,y3,y4,y5,λ f d hp oc => ?_⟩,up'⟩
       rcases hp with hp | ⟨rfl,rfl⟩
       · exact y6 f d hp oc
       · unfold spGt at g
         rw [hf,y3,y4] at g;simp only [Bool.or_eq_true,Bool.and_eq_true,decide_eq_true_eq,not_or,not_and] at g;obtain ⟨g1,g2⟩:=g
         by_cases e:spU l f d*spD l st.2.2.1 st.2.2.2.1=spU l st.2.2.1 st.2.2.2.1*spD l f d
         · by_cases ef:f=st.2.2.1
           · have:=g2 ⟨⟨trivial,e⟩,ef⟩
             by_cases ec:d=st.2.2.2.1
             · exact .inl ⟨ef,ec⟩
             · exact .inr (.inr ⟨e.symm, .inr ⟨ef.symm,by omega⟩⟩)
           · exact .inr (.inr ⟨e.symm, .inl (by omega)⟩)
         · exact .inr (.inl (by omega))
 · rw [if_neg ok]
   refine ⟨λ q=>⟨(h.no q).1,λ f d hp oc => ?_⟩,λ q=>⟨.inl (h.yes q).1,(h.yes q).2.1,(h.yes q).2.2.1,(h.yes q).2.2.2.1,(h.yes q).2.2.2.2.1,λ f d hp oc => ?_⟩,up'⟩
   · rcases hp with hp | ⟨rfl,rfl⟩
     · exact (h.no q).2 f d hp oc
     · exact absurd oc ok
   · rcases hp with hp | ⟨rfl,rfl⟩
     · exact (h.yes q).2.2.2.2.2 f d hp oc
     · exact absurd oc ok
theorem spI_inv {l:List Sa} {least:Int} {F:Nat} {P:Nat->Int->Prop} {st:SpS} (h1:1<=least) (hl:0<l.length) (h:SpInv l least F P st) : ∀ k,SpInv l least F (λ f d=>P f d∨(f=F /\ ∃ i,i<k/\colA (sAt l i) F=d)) (spI l least F st k)
 | 0=>h.same λ f c=>⟨.inl,λ q=>q.elim id (λ ⟨_,i,hi,_⟩=>by omega)⟩
 | k+1=>((spI_inv h1 hl h k).more h1 hl (colA (sAt l k) F)).same λ f c=>by
   constructor
   · rintro ((q | ⟨rfl,i,hi,e⟩) | ⟨rfl,rfl⟩)
     · exact .inl q
     · exact .inr ⟨rfl,i,by omega,e⟩
     · exact .inr ⟨rfl,k,by omega,rfl⟩
   · rintro (q | ⟨rfl,i,hi,e⟩)
     · exact .inl (.inl q)
     · by_cases ik:i=k
       · subst ik;exact .inr ⟨rfl,e.symm⟩
       · exact .inl (.inr ⟨rfl,i,by omega,e⟩)
theorem SpInv.wide {l:List Sa} {least:Int} {F G:Nat} {P:Nat->Int->Prop} {st:SpS} (h:SpInv l least F P st) (hg:F<=G):SpInv l least G P st:=⟨h.no,h.yes,λ f c hp=>Nat.le_trans (h.upto f c hp) hg⟩
theorem spA_inv {l:List Sa} {least:Int} (h1:1<=least) (hl:0<l.length) : ∀ m,SpInv l least m (λ f d=>f<m /\ ∃ i,i<l.length/\colA (sAt l i) f=d) (spA l least m)
 | 0=>⟨λ _=>⟨rfl,λ f c hp=>by omega⟩,λ q=>(by cases q),λ f c hp=>by omega⟩
 | m+1=>((spI_inv h1 hl (spA_inv h1 hl m) l.length).wide (Nat.le_succ m)).same λ f c=>by
   constructor
   · rintro (⟨h,q⟩ | ⟨rfl,q⟩)
     · exact ⟨by omega,q⟩
     · exact ⟨by omega,q⟩
   · rintro ⟨h,q⟩
     by_cases e:f=m
     · subst e;exact .inr ⟨rfl,q⟩
     · exact .inl ⟨by omega,q⟩
theorem split_spec {l:List Sa} {m:Nat} {least:Int} (h1:1<=least) (hl:0<l.length) :
 ((spV l m least).2.2.2.2=false->(spV l m least).2.2.1=0/\(spV l m least).2.2.2.1=0 /\ ∀ f c,Cand l m least f c -> ¬ More l f c) /\
 ((spV l m least).2.2.2.2=true->Cand l m least (spV l m least).2.2.1 (spV l m least).2.2.2.1/\More l (spV l m least).2.2.1 (spV l m least).2.2.2.1 /\ ∀ f c,Cand l m least f c->(f=(spV l m least).2.2.1/\c=(spV l m least).2.2.2.1)∨Beats l (spV l m least).2.2.1 (spV l m least).2.2.2.1 f c):=by
 have I:=spA_inv h1 hl m
 refine ⟨λ q => ?_,λ q => ?_⟩
 · obtain ⟨e,n⟩:=I.no q
   refine ⟨?_, ?_,λ f c hc=>n f c ⟨hc.1,hc.2.1⟩ hc.2.2⟩
   · show (spA l least m).2.2.1=0;rw [e];rfl
   · show (spA l least m).2.2.2.1=0;rw [e];rfl
 · obtain ⟨y1,y2,y3,y4,y5,y6⟩:=I.yes q
   exact ⟨⟨y1.1,y1.2,y2⟩,y5,λ f c hc=>y6 f c ⟨hc.1,hc.2.1⟩ hc.2.2⟩
theorem beats_not {l:List Sa} {f g:Nat} {c d:Int} (a:Beats l f c g d) (b:Beats l g d f c):False:=by
 unfold Beats at a b
 rcases a with a | ⟨a,a2⟩
 · rcases b with b | ⟨b,b2⟩
   · omega
   · omega
 · rcases b with b | ⟨b,b2⟩
   · omega
   · omega
theorem split_only {l:List Sa} {m:Nat} {least:Int} (h1:1<=least) (hl:0<l.length) {f:Nat} {c:Int} (hc:Cand l m least f c) (hm:More l f c) (hb : ∀ g d,Cand l m least g d->(g=f/\d=c)∨Beats l f c g d):(spV l m least).2.2.2.2=true/\(spV l m least).2.2.1=f/\(spV l m least).2.2.2.1=c:=by
 obtain ⟨s1,s2⟩:=split_spec (m:=m) h1 hl
 cases q:(spV l m least).2.2.2.2 with
 | false=>exact absurd hm ((s1 q).2.2 f c hc)
 | true =>
   obtain ⟨t1,t2,t3⟩:=s2 q
   rcases t3 f c hc with ⟨e1,e2⟩ | b
   · exact ⟨rfl,e1.symm,e2.symm⟩
   · rcases hb _ _ t1 with ⟨e1,e2⟩ | b2
     · exact ⟨rfl,e1,e2⟩
     · exact absurd b2 (λ b2=>beats_not b b2)
structure GoodS (l:List Sa) (m:Nat):Prop where
 le:l.length<=60
 m8:m<=8
 each : ∀ s∈l,rowF s.1=0/\s.1.length=m/\(-1000<=s.2/\s.2<=1000)/\nilI ∉ s.1
theorem sa1_zero {m:Int} {s:Sa} (h:sa1F m s=0):rowF s.1=0/\(s.1.length:Int)=m/\(-1000<=s.2/\s.2<=1000)/\nilI ∉ s.1:=by
 unfold sa1F at h
 by_cases c1:rowF s.1=0
 · rw [if_neg (by simp [c1])] at h
   by_cases c2:s.2 < -1000∨1000<s.2
   · rw [if_pos c2] at h;cases h
   · rw [if_neg c2] at h
     by_cases c3:(s.1.length:Int)=m
     · rw [if_neg (by simp [c3])] at h
       by_cases c4:nilI∈s.1
       · rw [if_pos c4] at h;cases h
       · exact ⟨c1,c3,by omega,c4⟩
     · rw [if_pos c3] at h;cases h
 · rw [if_pos c1] at h;exact absurd h c1
theorem sam_ok {l:List Sa} {m:Int} (h:(samF l m).2=0):GoodS l m.toNat/\0<l.length/\((m.toNat:Nat):Int)=m/\(samF l m).1=0:=by
 unfold samF at h ⊢
 by_cases c1:60<l.length
 · rw [if_pos c1] at h;cases h
 · rw [if_neg c1] at h ⊢
   by_cases c2:l.length=0
   · rw [if_pos c2] at h;cases h
   · rw [if_neg c2] at h ⊢
     by_cases c3:m<0∨8<m
     · rw [if_pos c3] at h;cases h
     · rw [if_neg c3] at h ⊢
       split at h
       · rename_i k e
         have q:=(first_some e).2;rw [decide_eq_true h] at q;cases q
       · rename_i e
         refine ⟨⟨by omega,by omega,λ s hs => ?_⟩,by omega,by omega,rfl⟩
         obtain ⟨i,hi,rfl⟩:=List.getElem_of_mem hs;have q:=first_none e i hi
         have q':sa1F m (sAt l i)=0:=by simpa using q
         have e2:sAt l i=l[i]:=by unfold sAt;rw [getD_at hi]
         rw [e2] at q';obtain ⟨z1,z2,z3,z4⟩:=sa1_zero q'
         exact ⟨z1,by omega,z3,z4⟩
theorem GoodS.part {l:List Sa} {m:Nat} (h:GoodS l m) (f:Nat) (c:Int) (b:Bool):GoodS (partS l f c b) m :=
 ⟨Nat.le_trans (List.length_filter_le _ _) h.le,h.m8,λ s hs=>h.each s (List.mem_filter.1 hs).1⟩
theorem sum_in : ∀ {l:List Sa},(∀ s∈l, -1000<=s.2/\s.2<=1000) -> -1000*(l.length:Nat)<=sumT l/\sumT l<=1000*(l.length:Nat)
 | [],_=>by simp [sumT]
 | s :: l,h=>by
   have ih:=sum_in (l:=l) λ x hx=>h x (List.mem_cons_of_mem _ hx);have:=h s (List.mem_cons_self ..);show _<=s.2+sumT l/\s.2+sumT l<=_;rw [List.length_cons];omega
def meanS (l:List Sa):Int:=sumT l / (l.length:Nat)
def growT (m:Nat) (least:Int):Nat->List Sa->BT
 | 0,l => .lf (meanS l)
 | d+1,l=>if (spV l m least).2.2.2.2=true then .nd ((spV l m least).2.2.1:Nat) (spV l m least).2.2.2.1 (decide (nB l (spV l m least).2.2.1 (spV l m least).2.2.2.1 false<nB l (spV l m least).2.2.1 (spV l m least).2.2.2.1 true)) (growT m least d (partS l (spV l m least).2.2.1 (spV l m least).2.2.2.1 true)) (growT m least d (partS l (spV l m least).2.2.1 (spV l m least).2.2.2.1 false)) else .lf (meanS l)
theorem grow_deep (m:Nat) (least:Int) : ∀ (d:Nat) (l:List Sa),(growT m least d l).deep<=d/\(growT m least d l).size+1<=2 ^ (d+1)
 | 0,l=>⟨Nat.le_refl _,Nat.le_refl _⟩
 | d+1,l=>by
   unfold growT
   split
   · obtain ⟨a1,a2⟩:=grow_deep m least d (partS l (spV l m least).2.2.1 (spV l m least).2.2.2.1 true)
     obtain ⟨b1,b2⟩:=grow_deep m least d (partS l (spV l m least).2.2.1 (spV l m least).2.2.2.1 false)
     refine ⟨?_, ?_⟩
     · show 1+max _ _<=d+1
       omega
     · show 1+_+_+1<=2 ^ (d+1+1)
       rw [Nat.pow_succ];omega
   · refine ⟨Nat.zero_le _, ?_⟩
     show 1+1<=2 ^ (d+1+1);have:1<=2 ^ (d+1):=Nat.one_le_two_pow
     rw [Nat.pow_succ];omega
theorem grow_sides {l:List Sa} {m:Nat} {least:Int} (h1:1<=least) (hl:0<l.length) (q:(spV l m least).2.2.2.2=true) :
 (spV l m least).2.2.1<m/\(∃ i,i<l.length/\colA (sAt l i) (spV l m least).2.2.1=(spV l m least).2.2.2.1)/\least<=nB l (spV l m least).2.2.1 (spV l m least).2.2.2.1 true/\least<=nB l (spV l m least).2.2.1 (spV l m least).2.2.2.1 false/\More l (spV l m least).2.2.1 (spV l m least).2.2.2.1:=by
 obtain ⟨t1,t2,_⟩:=(split_spec (m:=m) h1 hl).2 q
 exact ⟨t1.1,t1.2.1,(spD_pos h1 t1.2.2).2.1,(spD_pos h1 t1.2.2).2.2,t2⟩
theorem mean_in {l:List Sa} {m:Nat} (h:GoodS l m) (hl:0<l.length) : -1000<=meanS l/\meanS l<=1000:=by
 have hs:=sum_in λ s hs=>(h.each s hs).2.2.1;unfold meanS
 have hp:(0:Int)<(l.length:Nat):=by omega
 constructor
 · exact (Int.le_ediv_iff_mul_le hp).2 hs.1
 · exact Int.le_of_lt_add_one (Int.ediv_lt_of_lt_mul hp (by omega))
theorem cell_in {l:List Sa} {m:Nat} (h:GoodS l m) {i f:Nat} (hi:i<l.length) (hf:f<m):outI (colA (sAt l i) f)=false:=by
 have e:sAt l i=l[i]:=by unfold sAt;rw [getD_at hi]
 obtain ⟨z1,z2,z3,z4⟩:=h.each l[i] (List.getElem_mem hi)
 have hm:l[i].1.getD f 0∈l[i].1:=by rw [getD_at (by omega)];exact List.getElem_mem _
 unfold colA;rw [e];have:=((row_ok _).1 z1).2 _ hm;unfold badCell at this
 by_cases c:l[i].1.getD f 0=nilI
 · exact absurd (c ▸ hm) z4
 · rw [decide_eq_false c] at this
   exact this
theorem grow_ok {m:Nat} {least:Int} (h1:1<=least) : ∀ (d:Nat) {l:List Sa},GoodS l m->0<l.length->okB (m:Int) (growT m least d l)
 | 0,l,h,hl=>by
   have:=mean_in h hl;exact out_in (by omega) (by omega)
 | d+1,l,h,hl=>by
   unfold growT
   split
   · rename_i q
     obtain ⟨s1,⟨i,hi,e⟩,s3,s4,_⟩:=grow_sides h1 hl q
     have n1:0<(partS l (spV l m least).2.2.1 (spV l m least).2.2.2.1 true).length:=by unfold nB at s3;omega
     have n2:0<(partS l (spV l m least).2.2.1 (spV l m least).2.2.2.1 false).length:=by unfold nB at s4;omega
     refine ⟨by omega,by omega, ?_,grow_ok h1 d (h.part _ _ _) n1,grow_ok h1 d (h.part _ _ _) n2⟩
     rw [←e];exact cell_in h hi s1
   · have:=mean_in h hl
     exact out_in (by omega) (by omega)
def grwF (l:List Sa) (m depth least:Int):Int:=if (samF l m).2≠0 then (samF l m).2 else if depth<0∨5<depth∨least<1∨60<least then 1 else 0
def grwT (l:List Sa) (m depth least:Int):List Nd:=if grwF l m depth least=0 then lay (growT m.toNat least depth.toNat l) 0 else []
def scB (f:Int->Int):BT->BT
 | .lf v => .lf (f v)
 | .nd a c s l r => .nd a c s (scB f l) (scB f r)
theorem sc_size (f:Int->Int) : ∀ T:BT,(scB f T).size=T.size
 | .lf _=>rfl
 | .nd _ _ _ l r=>by unfold scB BT.size;rw [sc_size f l,sc_size f r]
theorem sc_deep (f:Int->Int) : ∀ T:BT,(scB f T).deep=T.deep
 | .lf _=>rfl
 | .nd _ _ _ l r=>by unfold scB BT.deep;rw [sc_deep f l,sc_deep f r]
theorem sc_ev (f:Int->Int) (x:List Int) : ∀ T:BT,evB (scB f T) x=f (evB T x)
 | .lf _=>rfl
 | .nd a c s l r=>by
   have h1:=sc_ev f x l;have h2:=sc_ev f x r;show (if goes a c s x=true then evB (scB f l) x else evB (scB f r) x)=f (if goes a c s x=true then evB l x else evB r x)
   split
   · exact h1
   · exact h2
def inV (B:Int):BT->Prop
 | .lf v => -B<=v/\v<=B
 | .nd _ _ _ l r=>inV B l/\inV B r
theorem sc_ok {f:Int->Int} {B m:Int} (hf : ∀ v, -B<=v->v<=B->outI (f v)=false) : ∀ T:BT,okB m T->inV B T->okB m (scB f T)
 | .lf v,_,h=>hf v h.1 h.2
 | .nd a c s l r,h,k=>⟨h.1,h.2.1,h.2.2.1,sc_ok hf l h.2.2.2.1 k.1,sc_ok hf r h.2.2.2.2 k.2⟩
theorem sc_in {f:Int->Int} {B C:Int} (hf : ∀ v, -B<=v->v<=B -> -C<=f v/\f v<=C) : ∀ T:BT,inV B T->inV C (scB f T)
 | .lf v,h=>hf v h.1 h.2
 | .nd a c s l r,k=>⟨sc_in hf l k.1,sc_in hf r k.2⟩
theorem in_ev {B:Int} (x:List Int) : ∀ T:BT,inV B T -> -B<=evB T x/\evB T x<=B
 | .lf v,h=>h
 | .nd a c s l r,h=>by
   have h1:=in_ev x l h.1;have h2:=in_ev x r h.2;show -B<=(if goes a c s x=true then evB l x else evB r x)/\(if goes a c s x=true then evB l x else evB r x)<=B
   split
   · exact h1
   · exact h2
theorem grow_in {m:Nat} {least:Int} (h1:1<=least) : ∀ (d:Nat) {l:List Sa},GoodS l m->0<l.length->inV 1000 (growT m least d l)
 | 0,l,h,hl=>mean_in h hl
 | d+1,l,h,hl=>by
   unfold growT
   split
   · rename_i q
     obtain ⟨s1,⟨i,hi,e⟩,s3,s4,_⟩:=grow_sides h1 hl q
     have n1:0<(partS l (spV l m least).2.2.1 (spV l m least).2.2.2.1 true).length:=by unfold nB at s3;omega
     have n2:0<(partS l (spV l m least).2.2.1 (spV l m least).2.2.2.1 false).length:=by unfold nB at s4;omega
     exact ⟨grow_in h1 d (h.part _ _ _) n1,grow_in h1 d (h.part _ _ _) n2⟩
   · exact mean_in h hl
def scN (f:Int->Int) (n:Nd):Nd:=(nf n,nc n,nl n,nr n,ns n,f (nv n))
theorem sc_lay {f:Int->Int} (h0:f 0=0) : ∀ (T:BT) (k:Nat),lay (scB f T) k=(lay T k).map (scN f)
 | .lf v,k=>rfl
 | .nd a c s l r,k=>by
   show (a,c,((k+1:Nat):Int),((k+1+(scB f l).size:Nat):Int),s,0) :: (lay (scB f l) (k+1) ++ lay (scB f r) (k+1+(scB f l).size))=((a,c,((k+1:Nat):Int),((k+1+l.size:Nat):Int),s,0) :: (lay l (k+1) ++ lay r (k+1+l.size))).map (scN f);rw [sc_size,sc_lay h0 l,sc_lay h0 r,List.map_cons,List.map_append]
   congr 1
   show _=(a,c,((k+1:Nat):Int),((k+1+l.size:Nat):Int),s,f 0)
   rw [h0]
def fitT (x:Int):Int:=if 1000<x then 1000 else if x < -1000 then -1000 else x
theorem fit_in (x:Int) : -1000<=fitT x/\fitT x<=1000:=by unfold fitT;split <;> (try split) <;> omega
def lesS:List Sa->List Int->List Sa
 | s :: l,x :: r=>(s.1,fitT x) :: lesS l r
 | _,_ => []
theorem les_len : ∀ (l:List Sa) (r:List Int),r.length=l.length->(lesS l r).length=l.length
 | [], [],_=>rfl
 | s :: l,x :: r,h=>by
   show (lesS l r).length+1=l.length+1;rw [les_len l r (by simpa using h)]
 | [],_ :: _,h=>by simp at h
 | _ :: _, [],h=>by simp at h
theorem les_mem : ∀ (l:List Sa) (r:List Int) (s:Sa),s∈lesS l r -> -1000<=s.2/\s.2<=1000 /\ ∃ u∈l,s.1=u.1
 | [],r,s,h=>by unfold lesS at h;cases h
 | u :: l, [],s,h=>by unfold lesS at h;cases h
 | u :: l,x :: r,s,h=>by
   rcases List.mem_cons.1 h with rfl | h
   · exact ⟨(fit_in x).1,(fit_in x).2,u,List.mem_cons_self ..,rfl⟩
   · obtain ⟨h1,h2,v,hv,e⟩:=les_mem l r s h
     exact ⟨h1,h2,v,List.mem_cons_of_mem _ hv,e⟩
theorem les_good {l:List Sa} {m:Nat} {r:List Int} (h:GoodS l m) (hr:r.length=l.length):GoodS (lesS l r) m :=
 ⟨by rw [les_len l r hr];exact h.le,h.m8,λ s hs=>by
  obtain ⟨h1,h2,u,hu,e⟩:=les_mem l r s hs;obtain ⟨z1,z2,z3,z4⟩:=h.each u hu;rw [e]
  exact ⟨z1,z2,⟨h1,h2⟩,z4⟩⟩
def shrI (share v:Int):Int:=(v*share).tdiv 100
theorem shr_zero (share:Int):shrI share 0=0:=by unfold shrI;simp
theorem shr_in {share:Int} (h1:1<=share) (h2:share<=100) (v:Int) (a : -1000<=v) (b:v<=1000) : -1000<=shrI share v/\shrI share v<=1000:=by
 unfold shrI;have e1:v*share<=1000*share:=Int.mul_le_mul_of_nonneg_right b (by omega);have e2 : -1000*share<=v*share:=Int.mul_le_mul_of_nonneg_right a (by omega)
 have c1:v*share<=100000:=by omega
 have c2 : -100000<=v*share:=by omega
 generalize v*share=x at *
 by_cases hx:0<=x
 · rw [Int.tdiv_eq_ediv_of_nonneg hx];omega
 · have:x.tdiv 100 = -((-x) / 100):=by
    rw [←Int.tdiv_eq_ediv_of_nonneg (a := -x) (by omega),Int.neg_tdiv,Int.neg_neg]
   rw [this];omega
def lessL (T:BT):List Sa->List Int->List Int
 | s :: l,x :: r=>(x-evB T s.1) :: lessL T l r
 | _,_ => []
theorem less_len (T:BT) : ∀ (l:List Sa) (r:List Int),r.length=l.length->(lessL T l r).length=l.length
 | [], [],_=>rfl
 | s :: l,x :: r,h=>by
   show (lessL T l r).length+1=l.length+1;rw [less_len T l r (by simpa using h)]
 | [],_ :: _,h=>by simp at h
 | _ :: _, [],h=>by simp at h
theorem less_at (T:BT) : ∀ (l:List Sa) (r:List Int),r.length=l.length -> ∀ i,i<l.length->(lessL T l r).getD i 0=r.getD i 0-evB T (sAt l i).1
 | [], [],_,i,hi=>by simp at hi
 | s :: l,x :: r,h,0,hi=>rfl
 | s :: l,x :: r,h,i+1,hi=>less_at T l r (by simpa using h) i (by simpa using hi)
 | [],_ :: _,h,i,hi=>by simp at h
 | _ :: _, [],h,i,hi=>by simp at h
def sqs:List Int->Int
 | []=>0
 | x :: r=>x*x+sqs r
abbrev BoS:=List BT×List Int×Bool
def boT (m dp:Nat) (share:Int) (l:List Sa) (r:List Int):BT:=scB (shrI share) (growT m 1 dp (lesS l r))
def boN (m dp:Nat) (share:Int) (l:List Sa) (st:BoS):BoS :=
 if st.2.2=true then st else if sqs st.2.1<=sqs (lessL (boT m dp share l st.2.1) l st.2.1) then (st.1,st.2.1,true) else (st.1 ++ [boT m dp share l st.2.1],lessL (boT m dp share l st.2.1) l st.2.1,false)
def bo0 (l:List Sa):BoS:=([.lf (meanS l)],l.map (λ s=>s.2-meanS l),false)
def boR (m dp:Nat) (share:Int) (l:List Sa):Nat->BoS
 | 0=>bo0 l
 | k+1=>boN m dp share l (boR m dp share l k)
def allB:List BT->List Int->Int
 | [],_=>0
 | T :: L,x=>evB T x+allB L x
theorem allB_app : ∀ (A B:List BT) (x:List Int),allB (A ++ B) x=allB A x+allB B x
 | [],B,x=>by show allB B x=0+allB B x;omega
 | T :: A,B,x=>by
   show evB T x+allB (A ++ B) x=evB T x+allB A x+allB B x
   rw [allB_app A B x];omega
structure BoI (m dp:Nat) (l:List Sa) (k:Nat) (st:BoS):Prop where
 t0:0<st.1.length
 tk:st.1.length<=k+1
 each : ∀ T∈st.1,okB (m:Int) T/\inV 1000 T/\T.deep<=dp/\T.size+1<=2 ^ (dp+1)
 len:st.2.1.length=l.length
 rest : ∀ i,i<l.length->st.2.1.getD i 0=(sAt l i).2-allB st.1 (sAt l i).1
theorem pow_one (dp:Nat):2<=2 ^ (dp+1):=by
 have:=Nat.one_le_two_pow (n:=dp)
 rw [Nat.pow_succ];omega
theorem bo_first {m dp:Nat} {l:List Sa} (h:GoodS l m) (hl:0<l.length):BoI m dp l 0 (bo0 l):=by
 have mi:=mean_in h hl
 refine ⟨Nat.one_pos,Nat.le_refl _,λ T hT => ?_,by unfold bo0;simp,λ i hi => ?_⟩
 · have:T = .lf (meanS l):=by unfold bo0 at hT;simpa using hT
   subst this
   exact ⟨out_in (by omega) (by omega),mi,Nat.zero_le _,pow_one dp⟩
 · show (l.map (λ s=>s.2-meanS l)).getD i 0=(sAt l i).2-(meanS l+0)
   unfold sAt
   rw [getD_at (by simpa using hi),getD_at hi,List.getElem_map];omega
theorem bo_next {m dp k:Nat} {share:Int} {l:List Sa} {st:BoS} (h:GoodS l m) (hl:0<l.length) (s1:1<=share) (s2:share<=100) (I:BoI m dp l k st):BoI m dp l (k+1) (boN m dp share l st):=by
 unfold boN
 have up:BoI m dp l (k+1) st:=⟨I.t0,by have:=I.tk;omega,I.each,I.len,I.rest⟩
 split
 · exact up
 · split
   · exact ⟨up.t0,up.tk,up.each,up.len,up.rest⟩
   · have G:=les_good h I.len
     have ll:0<(lesS l st.2.1).length:=by rw [les_len l _ I.len];exact hl
     have gi:=grow_in (m:=m) (least:=1) (Int.le_refl _) dp G ll;have go:=grow_ok (m:=m) (least:=1) (Int.le_refl _) dp G ll;have gd:=grow_deep m 1 dp (lesS l st.2.1);have bi:inV 1000 (boT m dp share l st.2.1):=sc_in (λ v a b=>shr_in s1 s2 v a b) _ gi
     refine ⟨by simp,by simp;have:=I.tk;omega,λ T hT => ?_,less_len _ l _ I.len,λ i hi => ?_⟩
     · rcases List.mem_append.1 hT with q | q
       · exact I.each T q
       · have:T=boT m dp share l st.2.1:=by simpa using q
         subst this
         refine ⟨sc_ok (λ v a b => ?_) _ go gi,bi, ?_, ?_⟩
         · have:=shr_in s1 s2 v a b
           exact out_in (by omega) (by omega)
         · unfold boT;rw [sc_deep];exact gd.1
         · unfold boT;rw [sc_size];exact gd.2
     · rw [less_at _ l _ I.len i hi,I.rest i hi,allB_app]
       show _=_-(allB st.1 _+(evB (boT m dp share l st.2.1) _+0));omega
theorem bo_all {m dp:Nat} {share:Int} {l:List Sa} (h:GoodS l m) (hl:0<l.length) (s1:1<=share) (s2:share<=100) : ∀ k,BoI m dp l k (boR m dp share l k)
 | 0=>bo_first h hl
 | k+1=>bo_next h hl s1 s2 (bo_all h hl s1 s2 k)
def tmN (n:Nat) (v:Int):Int:=v*(n:Int)
theorem tm_zero (n:Nat):tmN n 0=0:=by unfold tmN;simp
theorem tm_in {n:Nat} (hn:n<=9) (v:Int) (a : -1000<=v) (b:v<=1000) : -9000<=tmN n v/\tmN n v<=9000:=by
 unfold tmN;have e1:v*(n:Int)<=1000*(n:Int):=Int.mul_le_mul_of_nonneg_right b (Int.natCast_nonneg n);have e2 : -1000*(n:Int)<=v*(n:Int):=Int.mul_le_mul_of_nonneg_right a (Int.natCast_nonneg n);omega
def boL (n:Nat) (T:BT):List Nd:=lay (scB (tmN n) T) 0
def boG (m:Int) (L:List BT):Gv:=(m,2,List.replicate L.length 1,L.map (boL L.length))
structure BoL (m:Int) (L:List BT):Prop where
 m0:0<=m
 m8:m<=8
 t0:0<L.length
 t9:L.length<=9
 each : ∀ T∈L,okB m T/\inV 1000 T/\T.deep<=4/\T.size<=31
theorem boL_tree {m:Int} {L:List BT} (h:BoL m L) {T:BT} (hT:T∈L):(treeF (boL L.length T) m).2=0/\okB m (scB (tmN L.length) T):=by
 obtain ⟨h1,h2,h3,h4⟩:=h.each T hT;have ok:okB m (scB (tmN L.length) T):=sc_ok (λ v a b=>by have:=tm_in h.t9 v a b;exact out_in (by omega) (by omega)) T h1 h2
 exact ⟨lay_tree ok h.m0 h.m8 (by rw [sc_size];omega) (by rw [sc_deep];omega),ok⟩
theorem boG_good {m:Int} {L:List BT} (h:BoL m L):Good (boG m L):=by
 refine ⟨h.m0,h.m8,by show (1:Int)<=2;decide,by show (2:Int)<=3;decide, ?_, ?_, ?_, ?_, ?_⟩
 · show 0<(L.map _).length;rw [List.length_map];exact h.t0
 · show (L.map _).length<=12;rw [List.length_map];have:=h.t9;omega
 · show (List.replicate L.length (1:Int)).length=(L.map _).length;rw [List.length_map,List.length_replicate]
 · intro w hw
   have:w=1:=(List.mem_replicate.1 (show w∈List.replicate L.length (1:Int) from hw)).2;omega
 · intro t ht
   obtain ⟨T,hT,rfl⟩:=List.mem_map.1 (show t∈L.map (boL L.length) from ht);exact (boL_tree h hT).1
theorem sumK_ones {l:List Int} {n:Nat} : ∀ k,k<=l.length->k<=n->sumK l (List.replicate n 1) k=(l.take k).sum
 | 0,_,_=>by simp [sumK]
 | k+1,h,hn=>by
   have ih:=sumK_ones (l:=l) (n:=n) k (by omega) (by omega);unfold sumK;rw [ih,getD_at (show k<(List.replicate n (1:Int)).length by rw [List.length_replicate];omega),List.getElem_replicate,getD_at (by omega),List.take_succ_eq_append_getElem (by omega),List.sum_append];simp
theorem allK_ones {n:Nat} : ∀ k,k<=n->allK (List.replicate n 1) k=(k:Nat)
 | 0,_=>rfl
 | k+1,hn=>by
   have ih:=allK_ones (n:=n) k (by omega);unfold allK;rw [ih,getD_at (show k<(List.replicate n (1:Int)).length by rw [List.length_replicate];omega),List.getElem_replicate];omega
theorem sum_tm (n:Nat) (x:List Int) : ∀ L:List BT,(L.map (λ T=>tmN n (evB T x))).sum=allB L x*(n:Int)
 | []=>by show (0:Int)=0*_;simp
 | T :: L=>by
   have ih:=sum_tm n x L;show tmN n (evB T x)+(L.map _).sum=(evB T x+allB L x)*(n:Int)
   rw [ih,Int.add_mul];rfl
theorem boG_eval {m:Int} {L:List BT} (h:BoL m L) {x:List Int} (hx:rowF x=0) (hm:(x.length:Int)=m):evalG (boG m L) x=allB L x:=by
 have hs:standF (boG m L) x=0:=stand_of (boG_good h) hx hm
 have he:eachL (boG m L) x=L.map (λ T=>tmN L.length (evB T x)):=by
  show (L.map (boL L.length)).map (λ t=>evalV t x)=_;rw [List.map_map];refine List.map_congr_left (λ T hT => ?_);obtain ⟨t1,t2⟩:=boL_tree h hT;rw [←hm] at t1 t2;have:=(lay_eval t2 t1 hx).2;show evalV (lay (scB (tmN L.length) T) 0) x=_;rw [this,sc_ev]
 unfold evalG;rw [if_pos hs,he];show together 2 (List.replicate L.length 1) _=_;unfold together;rw [if_neg (by decide),if_pos rfl,List.length_map,sumK_ones _ (by rw [List.length_map];exact Nat.le_refl _) (Nat.le_refl _),allK_ones _ (Nat.le_refl _),List.take_of_length_le (by rw [List.length_map];exact Nat.le_refl _),sum_tm];have:=h.t0;exact Int.mul_ediv_cancel _ (by omega)
def sqF (r:List Int):Int:=totalI (r.map λ x=>mulI x x)
theorem mulI_sq {x:Int} (h1 : -1000000<=x) (h2:x<=1000000):mulI x x=x*x/\0<=x*x/\x*x<=1000000000000:=by
 have e:=Int.natAbs_mul_self' x
 have b:x.natAbs<=1000000:=by omega
 have:=Nat.mul_le_mul b b
 have e2:((x.natAbs*x.natAbs:Nat):Int)=x*x:=by simp
 have q:0<=x*x/\x*x<=1000000000000:=by omega
 refine ⟨?_,q⟩
 unfold mulI;rw [show fitI x=x from fit_id ⟨by omega,by omega⟩];exact fit_id ⟨by omega,by omega⟩
theorem sq_from : ∀ (r:List Int) (s:Int),(∀ x∈r, -100000<=x/\x<=100000)->0<=s->s+10000000000*(r.length:Int)<=1099511627776->(r.map λ x=>mulI x x).foldl addI s=s+sqs r/\0<=sqs r
 | [],s,_,_,_=>⟨by show s=s+0;omega,Int.le_refl _⟩
 | x :: r,s,h,h0,hb=>by
   obtain ⟨x1,x2⟩:=h x (List.mem_cons_self ..);obtain ⟨m1,m2,m3⟩:=mulI_sq (x:=x) (by omega) (by omega)
   have m4:x*x<=10000000000:=by
    have e:=Int.natAbs_mul_self' x
    have b:x.natAbs<=100000:=by omega
    have:=Nat.mul_le_mul b b
    have e2:((x.natAbs*x.natAbs:Nat):Int)=x*x:=by simp
    omega
   rw [List.length_cons] at hb;have hp:(0:Int)<=(r.length:Int):=Int.natCast_nonneg _
   have hb':s+10000000000*(r.length:Int)+10000000000<=1099511627776:=by
    have:(((r.length+1:Nat):Int))=(r.length:Int)+1:=by simp
    omega
   have a1:addI s (mulI x x)=s+x*x:=by
    rw [m1];unfold addI;rw [show fitI s=s from fit_id ⟨by omega,by omega⟩,show fitI (x*x)=x*x from fit_id ⟨by omega,by omega⟩];exact fit_id ⟨by omega,by omega⟩
   obtain ⟨i1,i2⟩:=sq_from r (s+x*x) (λ y hy=>h y (List.mem_cons_of_mem _ hy)) (by omega) (by omega);show ((r.map λ x=>mulI x x).foldl addI (addI s (mulI x x)))=s+(x*x+sqs r)/\0<=x*x+sqs r;rw [a1,i1];omega
theorem sqF_in {r:List Int} (h : ∀ x∈r, -100000<=x/\x<=100000) (hl:r.length<=60):sqF r=sqs r:=by
 have:=(sq_from r 0 h (Int.le_refl _) (by omega)).1;unfold sqF totalI
 rw [this];omega
def restF (g:Gv) (l:List Sa):Int:=if groveF g≠0 then groveF g else (samF l (gf g)).2
def restV (g:Gv) (l:List Sa):List Int:=if restF g l=0 then l.map (λ s=>s.2-evalG g s.1) else []
def wrgG (g:Gv) (l:List Sa):Int:=if restF g l=0 then sqF (restV g l) else 0
def booF (l:List Sa) (m r d s:Int):Int:=if (samF l m).2≠0 then (samF l m).2 else if r<0∨8<r∨d<1∨4<d∨s<1∨100<s then 1 else 0
def booS (l:List Sa) (m r d s:Int):BoS:=boR m.toNat d.toNat s l r.toNat
def booG (l:List Sa) (m r d s:Int):Gv:=if booF l m r d s=0 then boG m (booS l m r d s).1 else (0,0, [], [])
theorem boo_ok {l:List Sa} {m r d s:Int} (h:booF l m r d s=0):(samF l m).2=0/\0<=r/\r<=8/\1<=d/\d<=4/\1<=s/\s<=100:=by
 unfold booF at h
 by_cases c:(samF l m).2=0
 · rw [if_neg (by simp [c])] at h
   by_cases k:r<0∨8<r∨d<1∨4<d∨s<1∨100<s
   · rw [if_pos k] at h;cases h
   · exact ⟨c,by omega,by omega,by omega,by omega,by omega,by omega⟩
 · rw [if_pos c] at h;exact absurd h c
theorem boo_inv {l:List Sa} {m r d s:Int} (h:booF l m r d s=0):BoI m.toNat d.toNat l r.toNat (booS l m r d s)/\BoL m (booS l m r d s).1:=by
 obtain ⟨h1,r0,r8,d1,d4,s1,s2⟩:=boo_ok h;obtain ⟨G,hl,hm,_⟩:=sam_ok h1;have I:=bo_all (m:=m.toNat) (dp:=d.toNat) (share:=s) G hl s1 s2 r.toNat
 refine ⟨I,⟨by omega,by have:=G.m8;omega,I.t0,by have:=I.tk;unfold booS;omega,λ T hT => ?_⟩⟩
 obtain ⟨e1,e2,e3,e4⟩:=I.each T hT;rw [hm] at e1
 have d4':d.toNat<=4:=by omega
 have p:2 ^ (d.toNat+1)<=2 ^ (4+1):=Nat.pow_le_pow_right (by omega) (by omega)
 exact ⟨e1,e2,by omega,by omega⟩
theorem allB_in {x:List Int} : ∀ {L:List BT},(∀ T∈L,inV 1000 T) -> -1000*(L.length:Int)<=allB L x/\allB L x<=1000*(L.length:Int)
 | [],_=>by show _<=(0:Int)/\(0:Int)<=_;simp
 | T :: L,h=>by
   have ih:=allB_in (x:=x) (L:=L) λ U hU=>h U (List.mem_cons_of_mem _ hU);have:=in_ev x T (h T (List.mem_cons_self ..));show _<=evB T x+allB L x/\evB T x+allB L x<=_;rw [List.length_cons];omega
theorem boo_rest {l:List Sa} {m r d s:Int} (h:booF l m r d s=0):restF (booG l m r d s) l=0/\restV (booG l m r d s) l=(booS l m r d s).2.1/\wrgG (booG l m r d s) l=sqs (booS l m r d s).2.1/\groveF (booG l m r d s)=0:=by
 obtain ⟨h1,r0,r8,d1,d4,s1,s2⟩:=boo_ok h;obtain ⟨G,hl,hm,_⟩:=sam_ok h1;obtain ⟨I,B⟩:=boo_inv h
 have eg:booG l m r d s=boG m (booS l m r d s).1:=by unfold booG;rw [if_pos h]
 have gz:groveF (booG l m r d s)=0:=by rw [eg];exact (good_iff _).2 (boG_good B)
 have f0:restF (booG l m r d s) l=0:=by
  unfold restF;rw [if_neg (by simp [gz]),eg];exact h1
 have rv:restV (booG l m r d s) l=(booS l m r d s).2.1:=by
  unfold restV;rw [if_pos f0];refine List.ext_getElem (by rw [List.length_map];exact I.len.symm) λ i q1 q2 => ?_
  have hi:i<l.length:=by rw [List.length_map] at q1;exact q1
  have e:=I.rest i hi;rw [getD_at q2] at e
  have es:sAt l i=l[i]:=by unfold sAt;rw [getD_at hi]
  rw [es] at e;obtain ⟨z1,z2,z3,z4⟩:=G.each l[i] (List.getElem_mem hi);have ev:=boG_eval B z1 (by omega);rw [←eg] at ev;rw [List.getElem_map,e,ev]
 refine ⟨f0,rv, ?_,gz⟩
 unfold wrgG;rw [if_pos f0,rv];refine sqF_in (λ x hx => ?_) (by rw [I.len];exact G.le);obtain ⟨i,hi,rfl⟩:=List.getElem_of_mem hx
 have hi':i<l.length:=by rw [←I.len];exact hi
 have e:=I.rest i hi';rw [getD_at hi] at e
 have es:sAt l i=l[i]:=by unfold sAt;rw [getD_at hi']
 rw [es] at e;have z3:=(G.each l[i] (List.getElem_mem hi')).2.2.1;have q:=allB_in (x:=l[i].1) (L:=(booS l m r d s).1) λ T hT=>(B.each T hT).2.1;have t9:=B.t9;omega
end Go.Proofs.YtaijnacghiloaaaGreatDoor.M

namespace Go.Proofs.YtaijnacghiloaaaGreatDoor
open Go.ChangeShapes Go.WideShapes Go.ChangeAt Go.RowKit Go.Lib
set_option linter.unusedVariables false
theorem xfit_any (n:Int) (w:World) :
 Calls Tryz.prog 146 #[.int .i64 n] w λ e w'=>e = .returned (.int .i64 (M.fitI n))/\w'=w:=by
 rcases (show 1099511627776<n∨n < -1099511627776∨(-1099511627776<=n/\n<=1099511627776) from by omega) with h | h | ⟨h1,h2⟩
 · have E:Hid (1099511627776=M.fitI n):=by unfold M.fitI;rw [if_pos h];exact rfl
   go_enter Tryz.func146, Tryz.ntmps146
   go_wp2
   go_ret
   exact ⟨ret_int E.out,rfl⟩
 · have E:Hid (-1099511627776=M.fitI n):=by unfold M.fitI;rw [if_neg (by omega),if_pos h];exact rfl
   go_enter Tryz.func146, Tryz.ntmps146
   go_wp2
   go_ret
   exact ⟨ret_int E.out,rfl⟩
 · have E:Hid (n=M.fitI n):=(M.fit_id ⟨h1,h2⟩).symm
   go_enter Tryz.func146, Tryz.ntmps146
   go_wp2
   go_ret
   exact ⟨ret_int E.out,rfl⟩
theorem xadd_any (a b:Int) (w:World) :
 Calls Tryz.prog 121 #[.int .i64 a, .int .i64 b] w λ e w'=>e = .returned (.int .i64 (M.addI a b))/\w'=w:=by
 obtain ⟨a1,a2⟩:=M.fit_le a;obtain ⟨b1,b2⟩:=M.fit_le b
 go_enter Tryz.func121, Tryz.ntmps121
 go_wp2_with (go_at_call 146;refine (xfit_any _ _).mono ?_;rintro e w' ⟨rfl,rfl⟩)
 go_ret
 exact ⟨rfl,rfl⟩
set_option maxHeartbeats 1000000 in
theorem xsq_any (a:Int) (w:World) :
 Calls Tryz.prog 120 #[.int .i64 a, .int .i64 a] w λ e w'=>e = .returned (.int .i64 (M.mulI a a))/\w'=w:=by
 obtain ⟨a1,a2⟩:=M.fit_le a
 rcases (show M.fitI a=0∨0<M.fitI a∨M.fitI a<0 from by omega) with h0 | h0 | h0
 · have Z:=hide (M.mul_zl (b:=a) h0)
   go_enter Tryz.func120, Tryz.ntmps120
   go_wp2_with (go_at_call 146;refine (xfit_any _ _).mono ?_;rintro e w' ⟨rfl,rfl⟩)
   go_ret
   exact ⟨ret_int (by simpa using Z.out),rfl⟩
 · have hz:(M.fitI a == 0)=false:=by simp;omega
   have hsa:decide (M.fitI a<0)=false:=by simp;omega
   have hs:=M.sg_pp (x:=M.fitI a) (y:=M.fitI a) (by omega) (by omega);have Q:=hide (M.quo_pp (y:=M.fitI a) h0)
   by_cases ht:M.fitI a<=1099511627776 / M.fitI a
   · have hm:M.fitI a*M.fitI a<=1099511627776:=Q.out ▸ ht
     go_enter Tryz.func120, Tryz.ntmps120
     go_wp2_with (first | (go_at_call 146;refine (xfit_any _ _).mono ?_;rintro e w' ⟨rfl,rfl⟩) | (go_at_call 147;refine (size_pos _ _ (by omega) (by omega)).mono ?_;rintro e w' ⟨rfl,rfl⟩))
     go_ret
     exact ⟨ret_int (M.mul_in (by omega) (by omega)),rfl⟩
   · have hm : ¬ M.fitI a*M.fitI a<=1099511627776:=Q.out ▸ ht
     have hd:decide (M.fitI a<=1099511627776 / M.fitI a)=false:=by simpa using ht
     go_enter Tryz.func120, Tryz.ntmps120
     go_wp2_with (first | (go_at_call 146;refine (xfit_any _ _).mono ?_;rintro e w' ⟨rfl,rfl⟩) | (go_at_call 147;refine (size_pos _ _ (by omega) (by omega)).mono ?_;rintro e w' ⟨rfl,rfl⟩))
     go_ret
     exact ⟨ret_int (M.mul_hi (by omega)),rfl⟩
 · have hz:(M.fitI a == 0)=false:=by simp;omega
   have hsa:decide (M.fitI a<0)=true:=by simp;omega
   obtain ⟨X,hX⟩ : ∃ X, -M.fitI a=X:=⟨_,rfl⟩
   have x1:0<X:=by omega
   have x2:X<=1099511627776:=by omega
   have hs:=M.sg_nn (x:=M.fitI a) (y:=M.fitI a) (by omega) (by omega);have Q:=hide (M.quo_nn (y:=M.fitI a) h0);rw [hX] at Q;have HX:=hide hX;clear hX
   by_cases ht:X<=1099511627776 / X
   · have hm:M.fitI a*M.fitI a<=1099511627776:=Q.out ▸ ht
     go_enter Tryz.func120, Tryz.ntmps120
     go_wp2_with (first | (go_at_call 146;refine (xfit_any _ _).mono ?_;rintro e w' ⟨rfl,rfl⟩) | (go_at_call 147;refine (size_neg _ X _ HX (by omega) (by omega)).mono ?_;rintro e w' ⟨rfl,rfl⟩))
     go_ret
     exact ⟨ret_int (M.mul_in (by omega) (by omega)),rfl⟩
   · have hm : ¬ M.fitI a*M.fitI a<=1099511627776:=Q.out ▸ ht
     have hd:decide (X<=1099511627776 / X)=false:=by simpa using ht
     go_enter Tryz.func120, Tryz.ntmps120
     go_wp2_with (first | (go_at_call 146;refine (xfit_any _ _).mono ?_;rintro e w' ⟨rfl,rfl⟩) | (go_at_call 147;refine (size_neg _ X _ HX (by omega) (by omega)).mono ?_;rintro e w' ⟨rfl,rfl⟩))
     go_ret
     exact ⟨ret_int (M.mul_hi (by omega)),rfl⟩
theorem M.tot_step {L:List Int} {k:Nat} (hk:k<L.length):M.totalI (L.take (k+1))=M.addI (M.totalI (L.take k)) (L.getD k 0):=by
 unfold M.totalI;rw [List.take_succ_eq_append_getElem hk,List.foldl_append,M.getD_at hk];rfl
set_option maxHeartbeats 2000000 in
theorem xtotal_any (a:Option Addr) (xs:List Int) (ca:Nat) (w:World) (h:Rd w a xs) :
 Calls Tryz.prog 80 #[.slice a xs.length ca] w λ e w'=>e = .returned (.int .i64 (M.totalI xs))/\w'=w:=by
 have hm:xs.length<=9223372036854775807:=h.1;have HR:=hide h;have TM:Hid (∀ k,k<xs.length->M.totalI (xs.take (k+1))=M.addI (M.totalI (xs.take k)) (xs.getD k 0)):=λ k hk=>M.tot_step hk;clear h
 go_enter Tryz.func80, Tryz.ntmps80
 go_wp2
 go_loopw [3,8] (λ u i wr => ∃ k:Nat,k<=xs.length/\i = .int .i64 k/\u = .int .i64 (M.totalI (xs.take k))/\Hid (wr=w)) (λ _ i _=>xs.length-(intOf i).toNat)
 case atStart=>exact ⟨0,Nat.zero_le _,rfl,rfl,rfl⟩
 case round =>
  obtain ⟨k,hk,rfl,rfl,E⟩:=hrel;have e:=E.out;subst e
  by_cases hlt:k<xs.length
  · obtain ⟨b,off,rfl,hb,hc⟩:=HR.out.2 (by intro e;rw [e] at hlt;simp at hlt)
    have hx:=hc k hlt
    have kz:(k:Int)<(xs.length:Int):=by omega
    have N:=hide (TM.out k hlt);clear hc TM;generalize M.totalI (xs.take k)=t at *;generalize xs.getD k 0=x at *
    go_wp2_with (go_at_call 121;refine (xadd_any t x _).mono ?_;rintro e w1 ⟨rfl,e1⟩;have e2:=e1.symm;subst e2)
    go_roundw
    case rel=>exact ⟨k+1,by omega,by go_num,by rw [N.out],(by first | rfl | trivial)⟩
    case measure=>simp [intOf];omega
  · have tk:xs.take k=xs:=List.take_of_length_le (by omega)
    have kz : ¬ ((k:Int)<(xs.length:Int)):=by omega
    rw [tk];clear TM tk
    go_wp2
    go_ret
    exact ⟨rfl,(by first | rfl | trivial)⟩
end Go.Proofs.YtaijnacghiloaaaGreatDoor

namespace Go.Proofs.YtaijnacghiloaaaGreatDoor.M
set_option linter.unusedVariables false

end Go.Proofs.YtaijnacghiloaaaGreatDoor.M

namespace Go.Proofs.YtaijnacghiloaaaGreatDoor
open Go.ChangeShapes Go.WideShapes Go.ChangeAt Go.RowKit Go.Deep
set_option linter.unusedVariables false
abbrev Sx:=Option Addr×List Int×Nat×Int
def sxV (x:Sx):Value := .slice x.1 x.2.1.length x.2.2.1
def sm (x:Sx):M.Sa:=(x.2.1,x.2.2.2)
def sms (xs:List Sx):List M.Sa:=xs.map sm
theorem sms_len (xs:List Sx):(sms xs).length=xs.length:=by simp [sms]
theorem sms_at (xs:List Sx) {k:Nat} (h:k<xs.length):M.sAt (sms xs) k=sm xs[k]:=by
 unfold M.sAt;rw [M.getD_at (by rw [sms_len];exact h)];simp [sms]
def RdL (w:World) (a:Option Addr) (xs:List Sx):Prop :=
 xs.length<=maxLen/\(∀ x∈xs,Rd w x.1 x.2.1)/\(xs ≠ [] -> ∃ b off,a=some ⟨b,off,none⟩/\b<w.heap.size /\ ∀ i (h:i<xs.length),w.cell? ⟨b,off+i*2,none⟩=some (sxV xs[i])/\w.cell? ⟨b,off+i*2+1,none⟩=some (.int .i64 xs[i].2.2.2))
theorem RdL.below {w w':World} {a:Option Addr} {xs:List Sx} (h:RdL w a xs) (hb:Below w.heap.size w w'):RdL w' a xs :=
 ⟨h.1,λ x hx=>(h.2.1 x hx).below hb,λ hn=>by
  obtain ⟨b,off,e,hl,hc⟩:=h.2.2 hn
  exact ⟨b,off,e,Nat.lt_of_lt_of_le hl hb.size,λ i hi=>⟨(hb.cell (p:=⟨b,off+i*2,none⟩) hl).trans (hc i hi).1,(hb.cell (p:=⟨b,off+i*2+1,none⟩) hl).trans (hc i hi).2⟩⟩⟩
theorem cellsSam : Tryz.prog.cellsOf 97 = 2:=by kernel_rfl
theorem cellsInts : Tryz.prog.cellsOf 24 = 1:=by kernel_rfl
theorem struct2 {H:Type} {enc:TypeId×Value->H} {P:Program} {w:World} {base:Nat} {spare:Nat->Bool} {held:Bool} {t:TypeId} {f0 f1:Field} {fuel:Nat} {cs:List Value} {x:DataW H×List MemPlace} (ht:P.underlying t=some (.struct #[f0,f1]))
 (h:DataW.trod enc P w base spare held fuel t cs=some x) :
 ∃ y0 y1 n,DataW.trod enc P w base spare held n f0.type ((cs.drop f0.offset).take (P.cellsOf f0.type))=some y0/\DataW.trod enc P w base spare held n f1.type ((cs.drop f1.offset).take (P.cellsOf f1.type))=some y1:=by
 obtain ⟨xs,n,_,rfl,hl,hlen,hf⟩:=DataW.trod_struct ht h
 match xs,hlen with
 | [y0,y1],_=>exact ⟨y0,y1,n,by simpa using hf 0 f0 rfl,by simpa using hf 1 f1 rfl⟩
set_option maxRecDepth 10000 in
theorem open_samples {H:Type} {enc:TypeId×Value->H} {W:World} {base:Nat} {held:Bool} {fuel:Nat} {a:Option Addr} {len cap:Nat} {x:DataW H×List MemPlace}
 (h:DataW.trod enc Tryz.prog W base (λ _=>true) held fuel 60 [.slice a len cap]=some x) : ∃ xs:List Sx,xs.length=len/\RdL W a xs:=by
 rcases open_slice Tryz.underlying60 h with ⟨hcs,_⟩ | ⟨a',len',cap',m,n,D,Pl,hcs,_,hl,hm,hmm,_,hx⟩
 · cases hcs
   exact ⟨[],rfl,⟨Nat.zero_le _,(λ k hk=>by cases hk),λ h=>absurd rfl h⟩⟩
 · cases hcs
   have hlm:len<=m:=by rw [hmm];split <;> omega
   have each : ∀ i,i<len -> ∃ k:Sx,(W.cell? (a'.add (i*2))=some (sxV k)/\W.cell? (a'.add (i*2+1))=some (.int .i64 k.2.2.2))/\Rd W k.1 k.2.1:=by
    intro i hi;obtain ⟨cs,h1,h2⟩:=hx i (by omega);rw [cellsSam] at h1;obtain ⟨_,hlen,hcell⟩:=World.cells?_some h1;obtain ⟨y0,y1,k,g0,g1⟩:=struct2 Tryz.underlying97 h2;rw [cellsInts] at g0;rw [cellsInt] at g1
    match cs,hlen with
    | [c0,c1],_ =>
      obtain ⟨n1,e1,_⟩:=DataW.trod_int Tryz.underlying3 g1;simp at e1 g0;have d0:=hcell 0 (by omega);have d1:=hcell 1 (by omega);rw [add_add] at d0 d1
      obtain ⟨wa,ws,wc,rfl,hw⟩ : ∃ wa ws wc,c0 = .slice wa (List.length (α:=Int) ws) wc/\Rd W wa ws:=by
       rcases open_ints Tryz.underlying24 Tryz.underlying3 (by kernel_rfl) g0 with ⟨hcs,_⟩ | ⟨x,l,c,zs,hcs,_,hl,hm,hz,_,hcl,hwz⟩
       · cases hcs
         exact ⟨none, [],0,rfl,⟨Nat.zero_le _,λ h=>absurd rfl h⟩⟩
       · cases hcs
         have y:IsRow .i64 W (some x) l c zs := .inr ⟨_,rfl,hl,hm,by simpa using hz,hcl,hwz⟩
         exact ⟨some x,zs.take l,c,by rw [(rd_of y).2],(rd_of y).1⟩
      exact ⟨(wa,ws,wc,n1),⟨by simpa [sxV] using d0,by simpa [e1] using d1⟩,hw⟩
   obtain ⟨f,hf⟩:=choose_lt each
   refine ⟨(List.range len).map f,by simp,⟨by simp;omega, ?_,λ hne => ?_⟩⟩
   · intro k hk
     rw [List.mem_map] at hk;obtain ⟨i,hi,rfl⟩:=hk;exact (hf i (by simpa using hi)).2
   · have hp:0<len:=by
      rcases Nat.eq_zero_or_pos len with h0 | h0
      · subst h0;exact absurd rfl hne
      · exact h0
     obtain ⟨b,off,spot⟩:=a'
     have hspot:spot=none:=by
      have:=World.cell?_spot (hf 0 hp).1.1
      simpa [Addr.add] using this
     subst hspot
     refine ⟨b,off,rfl, ?_,λ i hi => ?_⟩
     · have:=(hf 0 hp).1.1
       rw [add_flat] at this;exact block_lt_of_cell this
     · have hi':i<len:=by simpa using hi
       obtain ⟨q0,q1⟩:=(hf i hi').1;rw [add_flat] at q0 q1
       refine ⟨?_, ?_⟩
       · rw [q0];simp
       · rw [Nat.add_assoc,q1];simp
end Go.Proofs.YtaijnacghiloaaaGreatDoor
