/-
  Several texts as one: MathR, MathQ, MathF, MathP, MathX, MathG, MathCb, MathHa.
-/
import Derived.Test.YtaijnacghiloaaaGreatDoorRunT1
import Derived.Lib.ItoaNum
import Derived.Lib.AtoiTie
import Derived.Lib.Join
import Derived.Lib.Bytealg
import Derived.Test.YtaijnacghiloaaaGreatDoorRunT0
namespace Go.Proofs.YtaijnacghiloaaaGreatDoor.M
set_option linter.unusedVariables false
def nilI:Int := -1125899906842624
def badCell (x:Int):Bool := !decide (x=nilI) && outI x
def rowF (l:List Int):Int:=if 8<l.length then 4 else if l.any badCell then 1 else 0
theorem good_nil:badCell nilI=false:=by unfold badCell;simp
theorem row_ok (l:List Int):rowF l=0↔l.length<=8 /\ ∀ x∈l,badCell x=false:=by
 unfold rowF
 by_cases h:8<l.length
 · rw [if_pos h];constructor
   · intro e;cases e
   · intro e;omega
 · rw [if_neg h]
   by_cases h2:l.any badCell=true
   · rw [if_pos h2]
     constructor
     · intro e;cases e
     · rintro ⟨_,e⟩;rw [List.any_eq_true] at h2;obtain ⟨x,hx,hb⟩:=h2;rw [e x hx] at hb;cases hb
   · rw [if_neg h2]
     have h2':l.any badCell=false:=Bool.eq_false_iff.2 h2;rw [List.any_eq_false] at h2'
     exact ⟨λ _=>⟨by omega,λ x hx=>Bool.eq_false_iff.2 (h2' x hx)⟩,λ _=>rfl⟩
abbrev Nd:=Int×Int×Int×Int×Bool×Int
def nf (n:Nd):Int:=n.1
def nc (n:Nd):Int:=n.2.1
def nl (n:Nd):Int:=n.2.2.1
def nr (n:Nd):Int:=n.2.2.2.1
def ns (n:Nd):Bool:=n.2.2.2.2.1
def nv (n:Nd):Int:=n.2.2.2.2.2
def nz:Nd:=(0,0,0,0,false,0)
def nAt (t:List Nd) (i:Nat):Nd:=t.getD i nz
theorem nAt_eq {t:List Nd} {i:Nat} (h:i<t.length):nAt t i=t[i]:=by unfold nAt;simp [List.getD,List.getElem?_eq_getElem h]
def lfF (n:Nd):Int:=if outI (nv n)=true then 1 else if nc n≠0∨nl n≠0∨nr n≠0∨ns n=true then 3 else 0
def inB (x:Int) (i len:Nat):Bool:=decide ((i:Int)<x) && decide (x<(len:Int))
def asF (n:Nd) (i len:Nat) (m:Int):Int :=
 if nf n<0∨m<=nf n∨outI (nc n)=true∨inB (nl n) i len=false∨inB (nr n) i len=false then 1 else if nv n≠0∨nl n=nr n then 3 else 0
def nodeF (n:Nd) (i len:Nat) (m:Int):Int:=if nf n = -1 then lfF n else asF n i len m
def firstN (p:Nat->Bool):Nat->Option Nat
 | 0=>none
 | n+1=>match firstN p n with
   | some k=>some k
   | none=>if p n=true then some n else none
theorem first_miss {p:Nat->Bool} : ∀ {n:Nat},(∀ j,j<n->p j=false)->firstN p n=none
 | 0,_=>rfl
 | n+1,h=>by
   have:=first_miss (n:=n) λ j hj=>h j (by omega);unfold firstN
   rw [this,h n (by omega)];rfl
theorem first_hit {p:Nat->Bool} {k:Nat} (hp:p k=true) (h : ∀ j,j<k->p j=false) : ∀ {n:Nat},k<n->firstN p n=some k
 | 0,hk=>by omega
 | n+1,hk=>by
   unfold firstN
   by_cases e:k=n
   · subst e;rw [first_miss h];simp [hp]
   · rw [first_hit hp h (n:=n) (by omega)]
theorem first_none {p:Nat->Bool} : ∀ {n:Nat},firstN p n=none -> ∀ j,j<n->p j=false
 | 0,_,j,hj=>by omega
 | n+1,h,j,hj=>by
   unfold firstN at h
   cases e:firstN p n with
   | some k=>rw [e] at h;cases h
   | none =>
     rw [e] at h
     by_cases ej:j=n
     · subst ej;cases hp:p j with
       | false=>rfl
       | true=>simp [hp] at h
     · exact first_none e j (by omega)
theorem first_some {p:Nat->Bool} : ∀ {n k:Nat},firstN p n=some k->k<n/\p k=true
 | 0,k,h=>by cases h
 | n+1,k,h=>by
   unfold firstN at h
   cases e:firstN p n with
   | some j =>
     rw [e] at h;cases h;obtain ⟨h1,h2⟩:=first_some e
     exact ⟨by omega,h2⟩
   | none =>
     rw [e] at h
     by_cases hp:p n=true
     · simp [hp] at h;subst h;exact ⟨by omega,hp⟩
     · simp [hp] at h
def edge (i:Int) (n:Nd):Nat:=if nf n = -1 then 0 else (if nl n=i then 1 else 0)+(if nr n=i then 1 else 0)
def ups (t:List Nd) (i:Int):Nat:=(t.map (edge i)).sum
theorem ups_take {t:List Nd} {k:Nat} (h:k<t.length) (i:Int):ups (t.take (k+1)) i=ups (t.take k) i+edge i t[k]:=by
 unfold ups
 rw [List.take_succ_eq_append_getElem h,List.map_append,List.sum_append];simp
theorem edge_le (i:Int) (n:Nd):edge i n<=2:=by unfold edge;split <;> (try split) <;> (try split) <;> omega
theorem ups_le (t:List Nd) (i:Int):ups t i<=2*t.length:=by
 unfold ups
 induction t with
 | nil=>simp
 | cons n t ih=>have:=edge_le i n;simp;omega
def dep (t:List Nd):Nat->Nat->Nat
 | 0,_=>0
 | f+1,at'=>if nf (nAt t at') = -1 then 0 else max (dep t f (nl (nAt t at')).toNat) (dep t f (nr (nAt t at')).toNat)+1
def depth (t:List Nd) (at':Nat):Nat:=dep t t.length at'
def badP (t:List Nd) (m:Int) (i:Nat):Bool := !decide (nodeF (nAt t i) i t.length m=0)
def strayP (t:List Nd) (i:Nat):Bool := !decide (i=0) && !decide (ups t i=1)
def treeF (t:List Nd) (m:Int):Nat×Int :=
 if 63<t.length then (0,4) else if t.length=0 then (0,5) else if m<0∨8<m then (0,1) else
  match firstN (badP t m) t.length with
  | some i=>(i,nodeF (nAt t i) i t.length m)
  | none=>match firstN (strayP t) t.length with
    | some i=>(i,7)
    | none=>if 10<depth t 0 then (0,4) else (0,0)
theorem tree_full {t:List Nd} {m:Int} (h:63<t.length):treeF t m=(0,4):=by unfold treeF;rw [if_pos h]
theorem tree_none {t:List Nd} {m:Int} (h:t.length=0):treeF t m=(0,5):=by unfold treeF;rw [if_neg (by omega),if_pos h]
theorem tree_range {t:List Nd} {m:Int} (h : ¬ 63<t.length) (h0:t.length≠0) (hm:m<0∨8<m):treeF t m=(0,1):=by unfold treeF;rw [if_neg h,if_neg h0,if_pos hm]
theorem tree_node {t:List Nd} {m:Int} {i:Nat} (h : ¬ 63<t.length) (h0:t.length≠0) (hm : ¬ (m<0∨8<m)) (hi:i<t.length) (hb:nodeF (nAt t i) i t.length m≠0) (hj : ∀ j,j<i->nodeF (nAt t j) j t.length m=0) :
 treeF t m=(i,nodeF (nAt t i) i t.length m):=by
 unfold treeF;rw [if_neg h,if_neg h0,if_neg hm,first_hit (p:=badP t m) (k:=i) (by unfold badP;simp [hb]) (λ j h=>by unfold badP;simp [hj j h]) hi]
theorem tree_stray {t:List Nd} {m:Int} {i:Nat} (h : ¬ 63<t.length) (h0:t.length≠0) (hm : ¬ (m<0∨8<m)) (hb : ∀ j,j<t.length->nodeF (nAt t j) j t.length m=0) (hi:i<t.length) (hp:0<i) (hu:ups t i≠1)
 (hj : ∀ j,0<j->j<i->ups t j=1):treeF t m=(i,7):=by
 unfold treeF;rw [if_neg h,if_neg h0,if_neg hm,first_miss (p:=badP t m) (λ j h=>by unfold badP;simp [hb j h])]
 simp only
 rw [first_hit (p:=strayP t) (k:=i) (by unfold strayP;simp [hu];omega) (λ j h=>by
  unfold strayP
  by_cases e:j=0
  · simp [e]
  · simp [hj j (by omega) h]) hi]
def Fair (t:List Nd) (m:Int):Prop:=t.length<=63/\0<t.length/\0<=m/\m<=8/\(∀ j,j<t.length->nodeF (nAt t j) j t.length m=0) /\ ∀ j,0<j->j<t.length->ups t j=1
theorem tree_fair {t:List Nd} {m:Int} (h:Fair t m):treeF t m=if 10<depth t 0 then (0,4) else (0,0):=by
 obtain ⟨h1,h2,h3,h4,h5,h6⟩:=h
 unfold treeF;rw [if_neg (by omega),if_neg (by omega),if_neg (by omega),first_miss (p:=badP t m) (λ j h=>by unfold badP;simp [h5 j h])]
 simp only
 rw [first_miss (p:=strayP t) (λ j h=>by
  unfold strayP
  by_cases e:j=0
  · simp [e]
  · simp [h6 j (by omega) h])]
theorem tree_ok {t:List Nd} {m:Int} (h:(treeF t m).2=0):Fair t m/\treeF t m=(0,0):=by
 unfold treeF at h
 by_cases h1:63<t.length
 · rw [if_pos h1] at h;cases h
 rw [if_neg h1] at h
 by_cases h2:t.length=0
 · rw [if_pos h2] at h;cases h
 rw [if_neg h2] at h
 by_cases h3:m<0∨8<m
 · rw [if_pos h3] at h;cases h
 rw [if_neg h3] at h
 cases e:firstN (badP t m) t.length with
 | some i =>
   rw [e] at h;obtain ⟨_,hb⟩:=first_some e;unfold badP at hb;simp at hb;exact absurd h hb
 | none =>
   rw [e] at h;simp only at h;have e':=first_none e
   cases g:firstN (strayP t) t.length with
   | some i=>rw [g] at h;cases h
   | none =>
     rw [g] at h;simp only at h;have g':=first_none g
     have F:Fair t m:=⟨by omega,by omega,by omega,by omega,(λ j hj=>by
      have:=e' j hj;unfold badP at this
      simpa using this),(λ j h0 hj=>by
      have:=g' j hj;unfold strayP at this;simp at this
      exact this (by omega))⟩
     refine ⟨F, ?_⟩
     rw [tree_fair F]
     by_cases hd:10<depth t 0
     · rw [if_pos hd] at h;cases h
     · rw [if_neg hd]
theorem node_ask {n:Nd} {i len:Nat} {m:Int} (h:nodeF n i len m=0) (hf:nf n ≠ -1):0<=nf n/\nf n<m/\outI (nc n)=false/\(i:Int)<nl n/\nl n<(len:Int)/\(i:Int)<nr n/\nr n<(len:Int)/\nv n=0/\nl n≠nr n:=by
 unfold nodeF at h;rw [if_neg hf] at h;unfold asF at h
 by_cases h1:nf n<0∨m<=nf n∨outI (nc n)=true∨inB (nl n) i len=false∨inB (nr n) i len=false
 · rw [if_pos h1] at h;cases h
 · rw [if_neg h1] at h
   by_cases h2:nv n≠0∨nl n=nr n
   · rw [if_pos h2] at h;cases h
   · simp only [not_or] at h1 h2
     obtain ⟨a,b,c,d,e⟩:=h1
     have c':outI (nc n)=false:=by simpa using c
     have d':inB (nl n) i len=true:=by simpa using d
     have e':inB (nr n) i len=true:=by simpa using e
     unfold inB at d' e';simp at d' e'
     exact ⟨by omega,by omega,c',d'.1,d'.2,e'.1,e'.2,by simpa using h2.1,h2.2⟩
theorem ask_at {t:List Nd} {m:Int} (h : ∀ j,j<t.length->nodeF (nAt t j) j t.length m=0) {i:Nat} (hi:i<t.length) (hf:nf (nAt t i) ≠ -1) :
 ∃ a b:Nat,nl (nAt t i)=a/\nr (nAt t i)=b/\i<a/\a<t.length/\i<b/\b<t.length/\a≠b:=by
 obtain ⟨_,_,_,h1,h2,h3,h4,_,h5⟩:=node_ask (h i hi) hf
 exact ⟨(nl (nAt t i)).toNat,(nr (nAt t i)).toNat,by omega,by omega,by omega,by omega,by omega,by omega,by omega⟩
theorem dep_enough {t:List Nd} {m:Int} (h : ∀ j,j<t.length->nodeF (nAt t j) j t.length m=0) : ∀ (f g i:Nat),i<t.length->t.length<=f+i->t.length<=g+i->dep t f i=dep t g i
 | 0,g,i,hi,hf,hg=>by omega
 | f+1,0,i,hi,hf,hg=>by omega
 | f+1,g+1,i,hi,hf,hg=>by
   unfold dep
   by_cases hl:nf (nAt t i) = -1
   · rw [if_pos hl,if_pos hl]
   · rw [if_neg hl,if_neg hl]
     obtain ⟨a,b,ea,eb,h1,h2,h3,h4,_⟩:=ask_at h hi hl;rw [ea,eb,Int.toNat_natCast,Int.toNat_natCast,dep_enough h f g a h2 (by omega) (by omega),dep_enough h f g b h4 (by omega) (by omega)]
theorem depth_leaf {t:List Nd} {i:Nat} (hi:i<t.length) (hl:nf (nAt t i) = -1):depth t i=0:=by
 unfold depth
 obtain ⟨f,e⟩ : ∃ f,t.length=f+1:=⟨t.length-1,by omega⟩
 rw [e];unfold dep;rw [if_pos hl]
theorem depth_ask {t:List Nd} {m:Int} (h : ∀ j,j<t.length->nodeF (nAt t j) j t.length m=0) {i a b:Nat} (hi:i<t.length) (hl:nf (nAt t i) ≠ -1) (ea:nl (nAt t i)=a) (eb:nr (nAt t i)=b) :
 depth t i=max (depth t a) (depth t b)+1:=by
 obtain ⟨a',b',ea',eb',h1,h2,h3,h4,_⟩:=ask_at h hi hl
 have qa:a'=a:=by omega
 have qb:b'=b:=by omega
 subst qa;subst qb
 unfold depth
 obtain ⟨f,e⟩ : ∃ f,t.length=f+1:=⟨t.length-1,by omega⟩
 rw [show dep t t.length i=max (dep t f (nl (nAt t i)).toNat) (dep t f (nr (nAt t i)).toNat)+1 by rw [e];conv=>lhs;unfold dep;rw [if_neg hl]];rw [ea,eb,Int.toNat_natCast,Int.toNat_natCast,dep_enough h f t.length a' h2 (by omega) (by omega),dep_enough h f t.length b' h4 (by omega) (by omega)]
theorem depth_le {t:List Nd} {m:Int} (h : ∀ j,j<t.length->nodeF (nAt t j) j t.length m=0) : ∀ (k i:Nat),i<t.length->t.length<=k+i->depth t i<=k
 | 0,i,hi,hk=>by omega
 | k+1,i,hi,hk=>by
   by_cases hl:nf (nAt t i) = -1
   · rw [depth_leaf hi hl];omega
   · obtain ⟨a,b,ea,eb,h1,h2,h3,h4,_⟩:=ask_at h hi hl
     rw [depth_ask h hi hl ea eb];have:=depth_le h k a h2 (by omega);have:=depth_le h k b h4 (by omega);omega
theorem sum_split {α:Type} (g:α->Nat) : ∀ (l:List α) (k:Nat) (h:k<l.length),g l[k]<=(l.map g).sum
 | x :: l,0,h=>by simp
 | x :: l,k+1,h=>by
   have:=sum_split g l k (by simpa using h)
   simp;omega
theorem sum_two {α:Type} (g:α->Nat) : ∀ (l:List α) (j k:Nat) (hj:j<l.length) (hk:k<l.length),j<k->g l[j]+g l[k]<=(l.map g).sum
 | x :: l,0,k+1,hj,hk,h=>by
   have:=sum_split g l k (by simpa using hk)
   simp;omega
 | x :: l,j+1,k+1,hj,hk,h=>by
   have:=sum_two g l j k (by simpa using hj) (by simpa using hk) (by omega)
   simp;omega
theorem sum_pos {α:Type} (g:α->Nat) : ∀ (l:List α),0<(l.map g).sum -> ∃ k, ∃ h:k<l.length,0<g l[k]
 | [],h=>by simp at h
 | x :: l,h=>by
   by_cases hx:0<g x
   · exact ⟨0,by simp,hx⟩
   · obtain ⟨k,hk,hg⟩:=sum_pos g l (by simp at h;omega)
     exact ⟨k+1,by simp;exact hk,by simpa using hg⟩
def chL (n:Nd) (i:Int):Prop:=nf n ≠ -1/\(nl n=i∨nr n=i)
theorem edge_pos {i:Int} {n:Nd}:0<edge i n↔chL n i:=by
 unfold edge chL
 by_cases h:nf n = -1
 · simp [h]
 · simp only [ne_eq,h,not_false_eq_true,true_and]
   by_cases h1:nl n=i
   · simp [h1]
     try omega
   · by_cases h2:nr n=i
     · simp [h1,h2]
     · simp [h1,h2]
theorem up_one {t:List Nd} {i:Int} (hu:ups t i=1) {j k:Nat} (hj:j<t.length) (hk:k<t.length) (cj:chL (nAt t j) i) (ck:chL (nAt t k) i):j=k:=by
 rw [nAt_eq hj] at cj;rw [nAt_eq hk] at ck;have pj:=edge_pos.2 cj;have pk:=edge_pos.2 ck;unfold ups at hu
 rcases Nat.lt_trichotomy j k with h | h | h
 · have:=sum_two (edge i) t j k hj hk h;omega
 · exact h
 · have:=sum_two (edge i) t k j hk hj h;omega
theorem up_some {t:List Nd} {i:Int} (hu:ups t i=1) : ∃ j,j<t.length/\chL (nAt t j) i:=by
 obtain ⟨j,hj,hp⟩:=sum_pos (edge i) t (by unfold ups at hu;omega)
 exact ⟨j,hj,by rw [nAt_eq hj];exact edge_pos.1 hp⟩
def lev (t:List Nd):Nat->Nat->Nat
 | 0,_=>0
 | k+1,i=>if nf (nAt t k) ≠ -1/\(nl (nAt t k)=i∨nr (nAt t k)=i) then lev t k k+1 else lev t k i
def deepest (t:List Nd):Nat->Nat
 | 0=>0
 | k+1=>max (deepest t k) (lev t k k)
theorem lev_le (t:List Nd) : ∀ k i,lev t k i<=k
 | 0,i=>by unfold lev;omega
 | k+1,i=>by
   unfold lev
   split
   · have:=lev_le t k k;omega
   · have:=lev_le t k i;omega
theorem deep_le (t:List Nd) : ∀ k,deepest t k<=k
 | 0=>by unfold deepest;omega
 | k+1=>by unfold deepest;have:=deep_le t k;have:=lev_le t k k;omega
theorem lev_child {t:List Nd} {m:Int} (F:Fair t m) {p i:Nat} (hp:p<t.length) (hi:i<t.length) (hc:chL (nAt t p) i):lev t i i=lev t p p+1:=by
 obtain ⟨g1,g2,g3,g4,h,hu⟩:=F
 have hpi:p<i:=by
  obtain ⟨a,b,ea,eb,h1,h2,h3,h4,_⟩:=ask_at h hp hc.1;have:=hc.2;omega
 have step : ∀ k,p<k->k<=i->lev t k i=lev t p p+1:=by
  intro k
  induction k with
  | zero=>intro h;omega
  | succ k ih =>
    intro h1 h2
    by_cases e:k=p
    · subst e
      show (if nf (nAt t k) ≠ -1/\(nl (nAt t k)=i∨nr (nAt t k)=i) then lev t k k+1 else lev t k i)=lev t k k+1;exact if_pos hc
    · have:=ih (by omega) (by omega)
      show (if nf (nAt t k) ≠ -1/\(nl (nAt t k)=i∨nr (nAt t k)=i) then lev t k k+1 else lev t k i)=lev t p p+1;rw [if_neg,this];intro ck;have:=up_one (hu i (by omega) hi) (show k<t.length by omega) hp ck hc;omega
 exact step i hpi (Nat.le_refl _)
theorem lev_sum {t:List Nd} {m:Int} (F:Fair t m) : ∀ (f i:Nat),i<f->i<t.length->lev t i i+depth t i<=depth t 0
 | 0,i,hf,hi=>by omega
 | f+1,i,hf,hi=>by
   by_cases e:i=0
   · subst e;unfold lev;omega
   · obtain ⟨p,hp,hc⟩:=up_some (F.2.2.2.2.2 i (by omega) hi)
     obtain ⟨a,b,ea,eb,h1,h2,h3,h4,_⟩:=ask_at F.2.2.2.2.1 hp hc.1
     have hpi:p<i:=by have:=hc.2;omega
     have ih:=lev_sum F f p (by omega) hp;rw [lev_child F hp hi hc];rw [depth_ask F.2.2.2.2.1 hp hc.1 ea eb] at ih
     have:depth t i<=max (depth t a) (depth t b):=by
      rcases hc.2 with q | q
      · have:a=i:=by omega
        subst this;omega
      · have:b=i:=by omega
        subst this;omega
     omega
theorem lev_reach {t:List Nd} {m:Int} (F:Fair t m) : ∀ (f i:Nat),i<t.length->t.length<=f+i -> ∃ j,j<t.length/\lev t j j=lev t i i+depth t i
 | 0,i,hi,hf=>by omega
 | f+1,i,hi,hf=>by
   by_cases hl:nf (nAt t i) = -1
   · exact ⟨i,hi,by rw [depth_leaf hi hl];omega⟩
   · obtain ⟨a,b,ea,eb,h1,h2,h3,h4,_⟩:=ask_at F.2.2.2.2.1 hi hl
     have q:=depth_ask F.2.2.2.2.1 hi hl ea eb
     by_cases hm:depth t b<=depth t a
     · obtain ⟨j,hj,e⟩:=lev_reach F f a h2 (by omega)
       exact ⟨j,hj,by rw [e,lev_child F hi h2 ⟨hl, .inl ea⟩,q];omega⟩
     · obtain ⟨j,hj,e⟩:=lev_reach F f b h4 (by omega)
       exact ⟨j,hj,by rw [e,lev_child F hi h4 ⟨hl, .inr eb⟩,q];omega⟩
theorem deepest_ge (t:List Nd) : ∀ k j,j<k->lev t j j<=deepest t k
 | 0,j,h=>by omega
 | k+1,j,h=>by
   unfold deepest
   by_cases e:j=k
   · subst e;omega
   · have:=deepest_ge t k j (by omega);omega
theorem deepest_le {t:List Nd} {B:Nat} : ∀ k,(∀ j,j<k->lev t j j<=B)->deepest t k<=B
 | 0,h=>by unfold deepest;omega
 | k+1,h=>by
   unfold deepest;have:=deepest_le k λ j hj=>h j (by omega);have:=h k (by omega);omega
theorem deepest_eq {t:List Nd} {m:Int} (F:Fair t m):deepest t t.length=depth t 0:=by
 have h1:deepest t t.length<=depth t 0:=deepest_le _ λ j hj=>by have:=lev_sum F (j+1) j (by omega) hj;omega
 obtain ⟨j,hj,e⟩:=lev_reach F t.length 0 F.2.1 (by omega);have h2:=deepest_ge t t.length j hj;have h3:lev t 0 0=0:=rfl;omega
def lessC (n:Nd) (c:Int):Bool:=if c=nilI then ns n else decide (c<nc n)
def nextI (n:Nd) (r:List Int):Int:=if lessC n (r.getD (nf n).toNat 0)=true then nl n else nr n
def goD (t:List Nd) (r:List Int):Nat->Nat->Nat
 | 0,i=>i
 | f+1,i=>if nf (nAt t i) = -1 then i else goD t r f (nextI (nAt t i) r).toNat
theorem next_in {t:List Nd} {m:Int} (h : ∀ j,j<t.length->nodeF (nAt t j) j t.length m=0) (r:List Int) {i:Nat} (hi:i<t.length) (hf:nf (nAt t i) ≠ -1) : ∃ k:Nat,nextI (nAt t i) r=k/\i<k/\k<t.length:=by
 obtain ⟨a,b,ea,eb,h1,h2,h3,h4,_⟩:=ask_at h hi hf;unfold nextI
 split
 · exact ⟨a,ea,h1,h2⟩
 · exact ⟨b,eb,h3,h4⟩
theorem go_enough {t:List Nd} {m:Int} (h : ∀ j,j<t.length->nodeF (nAt t j) j t.length m=0) (r:List Int) : ∀ (f g i:Nat),i<t.length->t.length<=f+i->t.length<=g+i->goD t r f i=goD t r g i
 | 0,g,i,hi,hf,hg=>by omega
 | f+1,0,i,hi,hf,hg=>by omega
 | f+1,g+1,i,hi,hf,hg=>by
   unfold goD
   by_cases hl:nf (nAt t i) = -1
   · rw [if_pos hl,if_pos hl]
   · rw [if_neg hl,if_neg hl]
     obtain ⟨k,e,h1,h2⟩:=next_in h r hi hl;rw [e,Int.toNat_natCast,go_enough h r f g k h2 (by omega) (by omega)]
def toD (t:List Nd) (r:List Int) (i:Nat):Nat:=goD t r t.length i
theorem to_leaf {t:List Nd} {r:List Int} {i:Nat} (hi:i<t.length) (hl:nf (nAt t i) = -1):toD t r i=i:=by
 unfold toD
 obtain ⟨f,e⟩ : ∃ f,t.length=f+1:=⟨t.length-1,by omega⟩
 rw [e];unfold goD;rw [if_pos hl]
theorem to_next {t:List Nd} {m:Int} (h : ∀ j,j<t.length->nodeF (nAt t j) j t.length m=0) {r:List Int} {i k:Nat} (hi:i<t.length) (hl:nf (nAt t i) ≠ -1) (e:nextI (nAt t i) r=k):toD t r i=toD t r k:=by
 obtain ⟨k',e',h1,h2⟩:=next_in h r hi hl
 have:k'=k:=by omega
 subst this;unfold toD
 obtain ⟨f,q⟩ : ∃ f,t.length=f+1:=⟨t.length-1,by omega⟩
 rw [show goD t r t.length i=goD t r f k' by rw [q];conv=>lhs;unfold goD;rw [if_neg hl,e,Int.toNat_natCast]]
 exact go_enough h r f t.length k' h2 (by omega) (by omega)
theorem to_end {t:List Nd} {m:Int} (h : ∀ j,j<t.length->nodeF (nAt t j) j t.length m=0) (r:List Int) : ∀ (f i:Nat),i<t.length->t.length<=f+i->toD t r i<t.length/\nf (nAt t (toD t r i)) = -1
 | 0,i,hi,hf=>by omega
 | f+1,i,hi,hf=>by
   by_cases hl:nf (nAt t i) = -1
   · rw [to_leaf hi hl];exact ⟨hi,hl⟩
   · obtain ⟨k,e,h1,h2⟩:=next_in h r hi hl
     rw [to_next h hi hl e];exact to_end h r f k h2 (by omega)
def leafB (n:Nd):Bool:=decide (nf n = -1)
def readyF (t:List Nd) (r:List Int):Int:=if rowF r≠0 then rowF r else (treeF t (r.length:Int)).2
def leafV (t:List Nd) (r:List Int):Nat:=if readyF t r=0 then toD t r 0 else 0
def evalV (t:List Nd) (r:List Int):Int:=if readyF t r=0 then nv (nAt t (toD t r 0)) else 0
theorem ready_ok {t:List Nd} {r:List Int} (h:readyF t r=0):rowF r=0/\(treeF t (r.length:Int)).2=0:=by
 unfold readyF at h
 by_cases e:rowF r=0
 · rw [if_neg (by simp [e])] at h;exact ⟨e,h⟩
 · rw [if_pos e] at h;exact absurd h e
theorem ready_row {t:List Nd} {r:List Int} (h:rowF r≠0):readyF t r=rowF r:=by unfold readyF;rw [if_pos h]
theorem ready_tree {t:List Nd} {r:List Int} (h:rowF r=0):readyF t r=(treeF t (r.length:Int)).2:=by unfold readyF;rw [if_neg (by simp [h])]
def upsL (t:List Nd) (k:Nat):List Int:=(List.range 63).map λ i:Nat=>((ups (t.take k) (i:Int):Nat):Int)
def levL (t:List Nd) (k:Nat):List Int:=(List.range 63).map λ i:Nat=>((lev t k i:Nat):Int)
theorem range_set {f g:Nat->Int} {n a:Nat} {x:Int} (h : ∀ i,i<n->g i=if i=a then x else f i):((List.range n).map f).set a x=(List.range n).map g:=by
 apply List.ext_getElem
 · simp
 · intro i h1 h2
   have hi:i<n:=by simpa using h2
   rw [List.getElem_set,List.getElem_map,List.getElem_range];simp only [List.getElem_map,List.getElem_range];rw [h i hi]
   by_cases e:a=i
   · subst e;simp
   · rw [if_neg e,if_neg (λ q=>e q.symm)]
theorem upsL_zero (t:List Nd):upsL t 0=List.replicate 63 0:=by
 apply List.ext_getElem
 · simp [upsL]
 · intro i h1 h2;rw [List.getElem_replicate];simp [upsL,ups]
theorem levL_zero (t:List Nd):levL t 0=List.replicate 63 0:=by
 apply List.ext_getElem
 · simp [levL]
 · intro i h1 h2;rw [List.getElem_replicate];simp [levL,lev]
theorem upsL_at (t:List Nd) (k:Nat) {i:Nat} (h:i<63):(upsL t k).getD i 0=((ups (t.take k) (i:Int):Nat):Int):=by unfold upsL;simp [List.getD,h]
theorem levL_at (t:List Nd) (k:Nat) {i:Nat} (h:i<63):(levL t k).getD i 0=((lev t k i:Nat):Int):=by unfold levL;simp [List.getD,h]
theorem upsL_leaf {t:List Nd} {k:Nat} (h:k<t.length) (hl:nf (nAt t k) = -1):upsL t (k+1)=upsL t k:=by
 unfold upsL;apply List.map_congr_left;intro i _;rw [ups_take h,←nAt_eq h]
 unfold edge;rw [if_pos hl];rfl
theorem levL_leaf {t:List Nd} {k:Nat} (hl:nf (nAt t k) = -1):levL t (k+1)=levL t k:=by
 unfold levL;apply List.map_congr_left;intro i _;show (((if nf (nAt t k) ≠ -1/\(nl (nAt t k)=(i:Int)∨nr (nAt t k)=(i:Int)) then lev t k k+1 else lev t k i:Nat)):Int)=_;rw [if_neg (λ q=>q.1 hl)]
theorem upsL_ask {t:List Nd} {k a b:Nat} (h:k<t.length) (hl:nf (nAt t k) ≠ -1) (ea:nl (nAt t k)=a) (eb:nr (nAt t k)=b) (ha:a<63) (hb:b<63) (hab:a≠b) :
 ((upsL t k).set a ((upsL t k).getD a 0+1)).set b ((upsL t k).getD b 0+1)=upsL t (k+1):=by
 rw [upsL_at t k ha,upsL_at t k hb];unfold upsL;rw [range_set (g:=λ i=>if i=a then ((ups (t.take k) (a:Int):Nat):Int)+1 else ((ups (t.take k) (i:Int):Nat):Int)) (λ i _=>rfl)];apply range_set;intro i _;rw [ups_take h,←nAt_eq h];unfold edge;rw [if_neg hl,ea,eb]
 by_cases e1:i=b
 · subst e1
   rw [if_pos rfl,if_neg (by omega),if_pos rfl];omega
 · rw [if_neg e1]
   by_cases e2:i=a
   · subst e2
     rw [if_pos rfl,if_pos rfl,if_neg (by omega)];omega
   · rw [if_neg e2,if_neg (by omega),if_neg (by omega)];rfl
theorem levL_ask {t:List Nd} {k a b:Nat} (hl:nf (nAt t k) ≠ -1) (ea:nl (nAt t k)=a) (eb:nr (nAt t k)=b) (hk:k<63) :
 ((levL t k).set a ((levL t k).getD k 0+1)).set b ((levL t k).getD k 0+1)=levL t (k+1):=by
 rw [levL_at t k hk];unfold levL;rw [range_set (g:=λ i=>if i=a then ((lev t k k:Nat):Int)+1 else ((lev t k i:Nat):Int)) (λ i _=>rfl)];apply range_set;intro i _;show (((if nf (nAt t k) ≠ -1/\(nl (nAt t k)=(i:Int)∨nr (nAt t k)=(i:Int)) then lev t k k+1 else lev t k i:Nat)):Int)=_;rw [ea,eb]
 by_cases e1:i=b
 · subst e1
   rw [if_pos rfl,if_pos ⟨hl, .inr rfl⟩];omega
 · rw [if_neg e1]
   by_cases e2:i=a
   · subst e2
     rw [if_pos rfl,if_pos ⟨hl, .inl rfl⟩];omega
   · rw [if_neg e2,if_neg (λ q=>by have:=q.2;omega)]
def strayV (t:List Nd):Nat:=(firstN (strayP t) t.length).getD 0
theorem stray_hit {t:List Nd} {i:Nat} (hi:i<t.length) (hp:0<i) (hu:ups t i≠1) (hj : ∀ j,0<j->j<i->ups t j=1):strayV t=i:=by
 unfold strayV
 rw [first_hit (p:=strayP t) (k:=i) (by unfold strayP;simp [hu];omega) (λ j h=>by
  unfold strayP
  by_cases e:j=0
  · simp [e]
  · simp [hj j (by omega) h]) hi];rfl
theorem stray_miss {t:List Nd} (hj : ∀ j,0<j->j<t.length->ups t j=1):strayV t=0:=by
 unfold strayV
 rw [first_miss (p:=strayP t) (λ j h=>by
  unfold strayP
  by_cases e:j=0
  · simp [e]
  · simp [hj j (by omega) h])];rfl
theorem stray_zero {t:List Nd} (h:strayV t=0) : ∀ j,0<j->j<t.length->ups t j=1:=by
 unfold strayV at h
 cases e:firstN (strayP t) t.length with
 | none =>
   intro j h0 hj;have:=first_none e j hj;unfold strayP at this;simp at this;exact this (by omega)
 | some k =>
   rw [e] at h;have h0:k=0:=h;have:=(first_some e).2;unfold strayP at this;simp [h0] at this
theorem stray_tree {t:List Nd} {m:Int} (h : ¬ 63<t.length) (h0:t.length≠0) (hm : ¬ (m<0∨8<m)) (hb : ∀ j,j<t.length->nodeF (nAt t j) j t.length m=0) (hs:0<strayV t):treeF t m=(strayV t,7):=by
 unfold strayV at hs
 unfold treeF;rw [if_neg h,if_neg h0,if_neg hm,first_miss (p:=badP t m) (λ j h=>by unfold badP;simp [hb j h])]
 unfold strayV
 cases e:firstN (strayP t) t.length with
 | none=>rw [e] at hs;exact absurd hs (by decide)
 | some k=>rfl

abbrev Right (t:List Nd) (m:Int):Prop := ∀ j,j<t.length->nodeF (nAt t j) j t.length m=0
theorem getD_at {α:Type} {l:List α} {i:Nat} {d:α} (h:i<l.length):l.getD i d=l[i]:=by rw [List.getD,List.getElem?_eq_getElem h];rfl
theorem out_in {x:Int} (h1 : -1000000<=x) (h2:x<=1000000):outI x=false:=by
 unfold outI
 rw [decide_eq_false (show ¬ x < -1000000 by omega),decide_eq_false (show ¬ 1000000<x by omega)];rfl
def lfD (t:List Nd):Nat->Nat->Nat
 | 0,_=>0
 | f+1,i=>if nf (nAt t i) = -1 then 1 else lfD t f (nl (nAt t i)).toNat+lfD t f (nr (nAt t i)).toNat
def lfs (t:List Nd) (i:Nat):Nat:=lfD t t.length i
def rest (t:List Nd) (k j:Nat):Nat:=if k<=j/\(j=0∨ups (t.take k) j=1) then lfs t j else 0
abbrev Gv:=Int×Int×List Int×List (List Nd)
abbrev gf (g:Gv):Int:=g.1
abbrev gw (g:Gv):Int:=g.2.1
abbrev gs (g:Gv):List Int:=g.2.2.1
abbrev gt (g:Gv):List (List Nd):=g.2.2.2
def wBad (w:Int):Bool:=decide (w<1) || decide (1000<w)
theorem wbad_false {w:Int} (h:wBad w=false):1<=w/\w<=1000:=by
 unfold wBad at h;rw [Bool.or_eq_false_iff] at h;have h1:=of_decide_eq_false h.1;have h2:=of_decide_eq_false h.2;omega
theorem wbad_ok {w:Int} (h1:1<=w) (h2:w<=1000):wBad w=false:=by
 unfold wBad
 rw [decide_eq_false (by omega),decide_eq_false (by omega)];rfl
def treesF (f:Int) (ts:List (List Nd)):Int:=match firstN (λ i => !decide ((treeF (ts.getD i []) f).2=0)) ts.length with
 | some i=>(treeF (ts.getD i []) f).2
 | none=>0
theorem trees_at {f:Int} {ts:List (List Nd)} {k:Nat} (hk:k<ts.length) (h : ∀ j,j<k->(treeF (ts.getD j []) f).2=0) (hn:(treeF (ts.getD k []) f).2≠0):treesF f ts=(treeF (ts.getD k []) f).2:=by
 unfold treesF;rw [first_hit (k:=k) (by show (!decide ((treeF (ts.getD k []) f).2=0))=true;rw [decide_eq_false hn];rfl) (λ j hj=>by show (!decide ((treeF (ts.getD j []) f).2=0))=false;rw [decide_eq_true (h j hj)];rfl) hk]
theorem trees_all {f:Int} {ts:List (List Nd)} (h : ∀ j,j<ts.length->(treeF (ts.getD j []) f).2=0):treesF f ts=0:=by
 unfold treesF;rw [first_miss (λ j hj=>by show (!decide ((treeF (ts.getD j []) f).2=0))=false;rw [decide_eq_true (h j hj)];rfl)]
theorem trees_zero {f:Int} {ts:List (List Nd)} (h:treesF f ts=0) : ∀ j,j<ts.length->(treeF (ts.getD j []) f).2=0:=by
 unfold treesF at h
 split at h
 · rename_i i e
   have q:=(first_some e).2;rw [decide_eq_true h] at q;cases q
 · rename_i e
   intro j hj;have:=first_none e j hj
   simpa using this
def groveF (g:Gv):Int :=
 if gf g<0∨8<gf g∨gw g<1∨3<gw g then 1
 else if (gt g).length=0 then 5
 else if 12<(gt g).length then 4
 else if (gs g).length≠(gt g).length then 3
 else if (gs g).any wBad=true then 1
 else treesF (gf g) (gt g)
structure Good (g:Gv):Prop where
 f0:0<=gf g
 f8:gf g<=8
 w1:1<=gw g
 w3:gw g<=3
 t0:0<(gt g).length
 t12:(gt g).length<=12
 len:(gs g).length=(gt g).length
 wts : ∀ w∈gs g,1<=w/\w<=1000
 trees : ∀ t∈gt g,(treeF t (gf g)).2=0
theorem good_iff (g:Gv):groveF g=0↔Good g:=by
 constructor
 · intro h
   unfold groveF at h
   split at h
   · cases h
   · rename_i h1
     split at h
     · cases h
     · rename_i h2
       split at h
       · cases h
       · rename_i h3
         split at h
         · cases h
         · rename_i h4
           split at h
           · cases h
           · rename_i h5
             refine ⟨by omega,by omega,by omega,by omega,by omega,by omega,by omega, ?_, ?_⟩
             · intro w hw
               apply wbad_false
               cases e:wBad w with
               | false=>rfl
               | true=>exact absurd (List.any_eq_true.2 ⟨w,hw,e⟩) h5
             · intro t ht
               obtain ⟨i,hi,rfl⟩:=List.getElem_of_mem ht;have:=trees_zero h i hi
               rwa [getD_at hi] at this
 · intro h
   unfold groveF;rw [if_neg (by have:=h.f0;have:=h.f8;have:=h.w1;have:=h.w3;omega),if_neg (by have:=h.t0;omega),if_neg (by have:=h.t12;omega),if_neg (by have:=h.len;omega),if_neg,trees_all]
   · intro j hj
     rw [getD_at hj];exact h.trees _ (List.getElem_mem hj)
   · intro hc
     obtain ⟨w,hw,e⟩:=List.any_eq_true.1 hc;have:=h.wts w hw;rw [wbad_ok this.1 this.2] at e;cases e
def standF (g:Gv) (r:List Int):Int:=if groveF g≠0 then groveF g else if rowF r≠0 then rowF r else if (r.length:Int)≠gf g then 3 else 0
theorem stand_ok {g:Gv} {r:List Int} (h:standF g r=0):Good g/\rowF r=0/\(r.length:Int)=gf g:=by
 unfold standF at h
 split at h
 · rename_i h1;exact absurd h h1
 · rename_i h1
   split at h
   · rename_i h2;exact absurd h h2
   · rename_i h2
     split at h
     · cases h
     · rename_i h3
       exact ⟨(good_iff g).1 (by simpa using h1),by simpa using h2,by simpa using h3⟩
theorem stand_of {g:Gv} {r:List Int} (h1:Good g) (h2:rowF r=0) (h3:(r.length:Int)=gf g):standF g r=0:=by
 unfold standF;rw [if_neg (by simp [(good_iff g).2 h1]),if_neg (by simp [h2]),if_neg (by simp [h3])]
theorem stand_ready {g:Gv} {r:List Int} (h:standF g r=0) {t:List Nd} (ht:t∈gt g):readyF t r=0:=by
 obtain ⟨h1,h2,h3⟩:=stand_ok h;rw [ready_tree h2,h3];exact h1.trees t ht
def eachL (g:Gv) (r:List Int):List Int:=(gt g).map λ t=>evalV t r
def eachV (g:Gv) (r:List Int):List Int:=if standF g r=0 then eachL g r else []
theorem each_len (g:Gv) (r:List Int):(eachL g r).length=(gt g).length:=by unfold eachL;simp
theorem each_at (g:Gv) (r:List Int) {i:Nat} (hi:i<(gt g).length):(eachL g r).getD i 0=evalV ((gt g).getD i []) r:=by
 rw [getD_at (by rw [each_len];exact hi),getD_at hi];simp [eachL]
def sumK (l ws:List Int):Nat->Int
 | 0=>0
 | k+1=>sumK l ws k+l.getD k 0*ws.getD k 0
def allK (ws:List Int):Nat->Int
 | 0=>0
 | k+1=>allK ws k+ws.getD k 0
def votK (l ws:List Int) (v:Int):Nat->Int
 | 0=>0
 | k+1=>votK l ws v k+if l.getD k 0=v then ws.getD k 0 else 0
def bestK (l ws:List Int):Nat->Int×Int
 | 0=>(0,0)
 | k+1=>if (bestK l ws k).1<votK l ws (l.getD k 0) l.length∨(votK l ws (l.getD k 0) l.length=(bestK l ws k).1/\l.getD k 0<(bestK l ws k).2) then (votK l ws (l.getD k 0) l.length,l.getD k 0) else bestK l ws k
def together (w:Int) (ws l:List Int):Int:=if w=1 then sumK l ws l.length else if w=2 then sumK l ws l.length / allK ws l.length else (bestK l ws l.length).2
def evalG (g:Gv) (r:List Int):Int:=if standF g r=0 then together (gw g) (gs g) (eachL g r) else 0
theorem vot_pos {l ws:List Int} (hw : ∀ i,i<l.length->1<=ws.getD i 0) (v:Int) : ∀ k,k<=l.length->0<=votK l ws v k /\ ∀ j,j<k->l.getD j 0=v->1<=votK l ws v k
 | 0,_=>⟨Int.le_refl _,λ j h=>by omega⟩
 | k+1,hk=>by
   obtain ⟨h1,h2⟩:=vot_pos hw v k (by omega);have hwk:=hw k (by omega);unfold votK
   refine ⟨by split <;> omega,λ j hj e => ?_⟩
   by_cases q:j=k
   · subst q;rw [if_pos e];omega
   · have:=h2 j (by omega) e
     split <;> omega
theorem best_spec {l ws:List Int} (hw : ∀ i,i<l.length->1<=ws.getD i 0) : ∀ k,0<k->k<=l.length->(∃ j,j<k/\(bestK l ws k).2=l.getD j 0)/\(bestK l ws k).1=votK l ws (bestK l ws k).2 l.length /\ ∀ i,i<k->votK l ws (l.getD i 0) l.length<(bestK l ws k).1∨(votK l ws (l.getD i 0) l.length=(bestK l ws k).1/\(bestK l ws k).2<=l.getD i 0)
 | 0,h,_=>by omega
 | k+1,_,hk=>by
   by_cases hc:(bestK l ws k).1<votK l ws (l.getD k 0) l.length∨(votK l ws (l.getD k 0) l.length=(bestK l ws k).1/\l.getD k 0<(bestK l ws k).2)
   · have e:bestK l ws (k+1)=(votK l ws (l.getD k 0) l.length,l.getD k 0):=by rw [bestK,if_pos hc]
     rw [e]
     refine ⟨⟨k,by omega,rfl⟩,rfl,λ i hi => ?_⟩
     by_cases q:i=k
     · subst q;exact .inr ⟨rfl,Int.le_refl _⟩
     · by_cases k0:k=0
       · omega
       · have:=(best_spec hw k (by omega) (by omega)).2.2 i (by omega)
         show votK l ws (l.getD i 0) l.length<votK l ws (l.getD k 0) l.length∨(votK l ws (l.getD i 0) l.length=votK l ws (l.getD k 0) l.length/\l.getD k 0<=l.getD i 0);omega
   · have e:bestK l ws (k+1)=bestK l ws k:=by rw [bestK,if_neg hc]
     rw [e]
     by_cases k0:k=0
     · subst k0
       have:=(vot_pos hw (l.getD 0 0) l.length (Nat.le_refl _)).2 0 (by omega) rfl;exact absurd (.inl (show (bestK l ws 0).1<_ by show (0:Int)<_;omega)) hc
     · obtain ⟨⟨j,h1,h2⟩,h3,h4⟩:=best_spec hw k (by omega) (by omega)
       refine ⟨⟨j,by omega,h2⟩,h3,λ i hi => ?_⟩
       by_cases q:i=k
       · subst q;omega
       · exact h4 i (by omega)
theorem best_unique {l ws:List Int} (hw : ∀ i,i<l.length->1<=ws.getD i 0) (h0:0<l.length) {b:Int} (hb : ∃ j,j<l.length/\b=l.getD j 0) (hm : ∀ i,i<l.length->votK l ws (l.getD i 0) l.length<votK l ws b l.length∨(votK l ws (l.getD i 0) l.length=votK l ws b l.length/\b<=l.getD i 0)):(bestK l ws l.length).2=b:=by
 obtain ⟨⟨j,h1,h2⟩,h3,h4⟩:=best_spec hw l.length h0 (Nat.le_refl _);obtain ⟨i,h5,h6⟩:=hb;have a:=hm j h1;have c:=h4 i h5;rw [←h2] at a;rw [←h6,h3] at c;omega
theorem sum_mono {l m ws:List Int} : ∀ k,(∀ i,i<k->l.getD i 0<=m.getD i 0/\0<=ws.getD i 0)->sumK l ws k<=sumK m ws k
 | 0,_=>Int.le_refl _
 | k+1,h=>by
   have ih:=sum_mono (l:=l) (m:=m) (ws:=ws) k λ i hi=>h i (by omega);obtain ⟨h1,h2⟩:=h k (by omega);have:=Int.mul_le_mul_of_nonneg_right h1 h2;unfold sumK;omega
theorem all_pos {ws:List Int} : ∀ k,(∀ i,i<k->1<=ws.getD i 0/\ws.getD i 0<=1000)->(k:Int)<=allK ws k/\allK ws k<=1000*k
 | 0,_=>by simp [allK]
 | k+1,h=>by
   have ih:=all_pos k λ i hi=>h i (by omega);have:=h k (by omega);unfold allK;omega
theorem sum_bound {l ws:List Int} : ∀ k,(∀ i,i<k -> -1000000<=l.getD i 0/\l.getD i 0<=1000000/\1<=ws.getD i 0/\ws.getD i 0<=1000) -> -1000000000*(k:Int)<=sumK l ws k/\sumK l ws k<=1000000000*(k:Int)
 | 0,_=>by simp [sumK]
 | k+1,h=>by
   have ih:=sum_bound k λ i hi=>h i (by omega);obtain ⟨h1,h2,h3,h4⟩:=h k (by omega)
   have a:l.getD k 0*ws.getD k 0<=1000000*1000:=by
    have q1:l.getD k 0*ws.getD k 0<=1000000*ws.getD k 0:=Int.mul_le_mul_of_nonneg_right h2 (by omega);omega
   have b : -1000000*1000<=l.getD k 0*ws.getD k 0:=by
    have q1 : -1000000*ws.getD k 0<=l.getD k 0*ws.getD k 0:=Int.mul_le_mul_of_nonneg_right h1 (by omega);omega
   unfold sumK;omega
theorem vot_bound {l ws:List Int} (v:Int) : ∀ k,(∀ i,i<k->1<=ws.getD i 0/\ws.getD i 0<=1000)->0<=votK l ws v k/\votK l ws v k<=1000*k
 | 0,_=>by simp [votK]
 | k+1,h=>by
   have ih:=vot_bound (l:=l) v k λ i hi=>h i (by omega);have:=h k (by omega);unfold votK
   split <;> omega
def ndL (n:Nd):List Int:=if nf n = -1 then [nf n,nv n] else [nf n,nc n,nl n,nr n,if ns n=true then 1 else 0]
def trL (x:Int×List Nd):List Int:=x.1 :: (x.2.length:Int) :: x.2.flatMap ndL
def grL (g:Gv):List Int:=gf g :: gw g :: ((gt g).length:Int) :: ((gs g).zip (gt g)).flatMap trL
def encB (g:Gv):List Nat:=bysL (grL g)
def encF (g:Gv):Int:=if groveF g≠0 then groveF g else if 6000<(encB g).length then 4 else 0
def encV (g:Gv):List Nat:=if encF g=0 then encB g else []
structure In where
 at':Nat
 fin:Nat
 bad:Int
def rNum (b:List Nat) (s:In):Int×In:=if s.bad≠0 then (0,s) else ((getL (b.drop s.fin)).1,⟨s.fin,s.fin+(getL (b.drop s.fin)).2.1,(getL (b.drop s.fin)).2.2⟩)
def rMany (b:List Nat) (most:Int) (s:In):Int×In :=
 if (rNum b s).2.bad=0/\((rNum b s).1<1∨most<(rNum b s).1) then (0,{ (rNum b s).2 with bad:=1 })
 else if (rNum b s).2.bad≠0 then (0,(rNum b s).2) else rNum b s
def rAsk (b:List Nat) (f:Int) (s:In):Nd×In :=
 let c:=rNum b s
 let l:=rNum b c.2
 let r:=rNum b l.2
 let x:=rNum b r.2
 ((f,c.1,l.1,r.1,decide (x.1=1),0),if x.2.bad=0/\x.1≠0/\x.1≠1 then { x.2 with bad:=2 } else x.2)
def rNode (b:List Nat) (s:In):Nd×In :=
 if (rNum b s).2.bad=0/\(rNum b s).1 = -1 then (((rNum b s).1,0,0,0,false,(rNum b (rNum b s).2).1),(rNum b (rNum b s).2).2)
 else rAsk b (rNum b s).1 (rNum b s).2
def rNodes (b:List Nat):Nat->In->List Nd×In
 | 0,s=>([],s)
 | k+1,s=>if s.bad≠0 then ([],s) else ((rNode b s).1 :: (rNodes b k (rNode b s).2).1,(rNodes b k (rNode b s).2).2)
def rTree (b:List Nat) (s:In):(Int×List Nd)×In :=
 (((rNum b s).1,(rNodes b (rMany b 63 (rNum b s).2).1.toNat (rMany b 63 (rNum b s).2).2).1),(rNodes b (rMany b 63 (rNum b s).2).1.toNat (rMany b 63 (rNum b s).2).2).2)
def rTrees (b:List Nat):Nat->In->List (Int×List Nd)×In
 | 0,s=>([],s)
 | k+1,s=>if s.bad≠0 then ([],s) else ((rTree b s).1 :: (rTrees b k (rTree b s).2).1,(rTrees b k (rTree b s).2).2)
def in0:In:=⟨0,0,0⟩
def rHead (b:List Nat):(Int×Int×Int)×In:=(((rNum b in0).1,(rNum b (rNum b in0).2).1,(rMany b 12 (rNum b (rNum b in0).2).2).1),(rMany b 12 (rNum b (rNum b in0).2).2).2)
def rAll (b:List Nat):List (Int×List Nd)×In:=rTrees b (rHead b).1.2.2.toNat (rHead b).2
def rGrove (b:List Nat):Gv:=((rHead b).1.1,(rHead b).1.2.1,(rAll b).1.map (·.1),(rAll b).1.map (·.2))
def decF (b:List Nat):Nat×Int :=
 if 6000<b.length then (0,4)
 else if (rAll b).2.bad≠0 then ((rAll b).2.at',(rAll b).2.bad)
 else if (rAll b).2.fin≠b.length then ((rAll b).2.fin,2)
 else if groveF (rGrove b)≠0 then ((rAll b).2.fin,groveF (rGrove b))
 else (0,0)
def decV (b:List Nat):Gv:=if (decF b).2=0 then rGrove b else (0,0, [], [])
def Aln (b:List Nat) (s:In) (l:List Int) (m:Nat):Prop:=s.bad=0/\s.fin<=b.length/\b.drop s.fin=(bysL l).take m
def Cut8 (b:List Nat) (s:In):Prop:=s.bad=8/\s.at'<=b.length
theorem rNum_bad {b:List Nat} {s:In} (h:s.bad≠0):rNum b s=(0,s):=by unfold rNum;rw [if_pos h]
theorem rNum_go {b:List Nat} {s:In} (h:s.bad=0):rNum b s=((getL (b.drop s.fin)).1,⟨s.fin,s.fin+(getL (b.drop s.fin)).2.1,(getL (b.drop s.fin)).2.2⟩):=by unfold rNum;rw [if_neg (by simp [h])]
theorem rNum_aln {b:List Nat} {s:In} {n:Int} {l:List Int} {m:Nat} (hn:I64 n) (h:Aln b s (n :: l) m) :
 ((numL n).length<=m/\(rNum b s).1=n/\Aln b (rNum b s).2 l (m-(numL n).length)/\(rNum b s).2.fin=s.fin+(numL n).length)∨(m<(numL n).length/\Cut8 b (rNum b s).2):=by
 obtain ⟨h1,h2,h3⟩:=h;rw [bys_cons] at h3;rw [rNum_go h1]
 by_cases q:(numL n).length<=m
 · left
   rw [List.take_append,List.take_of_length_le q] at h3;have e:=get_num hn.1 hn.2 ((bysL l).take (m-(numL n).length));rw [h3,e]
   have hlen:b.length-s.fin=(numL n).length+((bysL l).take (m-(numL n).length)).length:=by
    have:=congrArg List.length h3;rw [List.length_drop,List.length_append] at this;exact this
   refine ⟨q,rfl,⟨rfl, ?_, ?_⟩,rfl⟩
   · show s.fin+(numL n).length<=b.length
     omega
   · show b.drop (s.fin+(numL n).length)=_
     rw [←List.drop_drop,h3,List.drop_left]
 · right
   have q':m<(numL n).length:=by omega
   rw [List.take_append_of_le_length (by omega)] at h3;rw [h3,get_cut hn.1 hn.2 q']
   exact ⟨q',rfl,h2⟩
theorem rMany_aln {b:List Nat} {s:In} {n most:Int} {l:List Int} {m:Nat} (hn:I64 n) (h1:1<=n) (h2:n<=most) (h:Aln b s (n :: l) m) :
 ((numL n).length<=m/\(rMany b most s).1=n/\Aln b (rMany b most s).2 l (m-(numL n).length)/\(rMany b most s).2.fin=s.fin+(numL n).length)∨(m<(numL n).length/\Cut8 b (rMany b most s).2):=by
 rcases rNum_aln hn h with ⟨a1,a2,a3,a4⟩ | ⟨a1,a2⟩
 · left
   unfold rMany;rw [if_neg (by rw [a2];omega),if_neg (by simp [a3.1])]
   exact ⟨a1,a2,a3,a4⟩
 · right
   unfold rMany;rw [if_neg (by rw [a2.1];omega),if_pos (by rw [a2.1];decide)]
   exact ⟨a1,a2⟩
theorem cut_num {b:List Nat} {s:In} (h:Cut8 b s):Cut8 b (rNum b s).2:=by rw [rNum_bad (by rw [h.1];decide)];exact h
theorem cut_many {b:List Nat} {s:In} {most:Int} (h:Cut8 b s):Cut8 b (rMany b most s).2:=by
 have h':=cut_num h;unfold rMany;rw [if_neg (by rw [h'.1];omega),if_pos (by rw [h'.1];decide)];exact h'
theorem cut_ask {b:List Nat} {s:In} {f:Int} (h:Cut8 b s):Cut8 b (rAsk b f s).2:=by
 have h':=cut_num (cut_num (cut_num (cut_num h)));unfold rAsk;simp only;rw [if_neg (by rw [h'.1];omega)];exact h'
theorem cut_nodes {b:List Nat} {s:In} (h:Cut8 b s) (k:Nat):rNodes b k s=([],s):=by
 cases k with
 | zero=>rfl
 | succ k=>show (if _ then _ else _)=_;rw [if_pos (by rw [h.1];decide)]
theorem cut_trees {b:List Nat} {s:In} (h:Cut8 b s) (k:Nat):rTrees b k s=([],s):=by
 cases k with
 | zero=>rfl
 | succ k=>show (if _ then _ else _)=_;rw [if_pos (by rw [h.1];decide)]
def NdOk (n:Nd):Prop:=I64 (nf n)/\I64 (nc n)/\I64 (nl n)/\I64 (nr n)/\I64 (nv n)/\(nf n = -1->n=(-1,0,0,0,false,nv n))/\(nf n ≠ -1->nv n=0)
theorem i64_01 (b:Bool):I64 (if b=true then 1 else 0):=by unfold I64;split <;> omega
theorem rNode_aln {b:List Nat} {s:In} {n:Nd} {l:List Int} {m:Nat} (hn:NdOk n) (h:Aln b s (ndL n ++ l) m) :
 ((bysL (ndL n)).length<=m/\(rNode b s).1=n/\Aln b (rNode b s).2 l (m-(bysL (ndL n)).length))∨(m<(bysL (ndL n)).length/\Cut8 b (rNode b s).2):=by
 obtain ⟨i0,i1,i2,i3,i4,hl,ha⟩:=hn
 by_cases q:nf n = -1
 · have e:ndL n = [nf n,nv n]:=by unfold ndL;rw [if_pos q]
   have el:(bysL (ndL n)).length=(numL (nf n)).length+(numL (nv n)).length:=by rw [e,bys_cons,bys_cons,List.length_append,List.length_append];rfl
   rw [e] at h;rw [el];have h':Aln b s (nf n :: (nv n :: l)) m:=h
   rcases rNum_aln i0 h' with ⟨a1,a2,a3,a4⟩ | ⟨a1,a2⟩
   · have en:rNode b s=(((rNum b s).1,0,0,0,false,(rNum b (rNum b s).2).1),(rNum b (rNum b s).2).2):=by unfold rNode;rw [if_pos ⟨a3.1,by rw [a2];exact q⟩]
     rw [en]
     rcases rNum_aln i4 a3 with ⟨b1,b2,b3,b4⟩ | ⟨b1,b2⟩
     · left
       refine ⟨by omega, ?_, ?_⟩
       · show ((rNum b s).1,0,0,0,false,(rNum b (rNum b s).2).1)=n
         rw [a2,b2,hl q];rfl
       · rw [show m-((numL (nf n)).length+(numL (nv n)).length)=m-(numL (nf n)).length-(numL (nv n)).length by omega]
         exact b3
     · right
       exact ⟨by omega,b2⟩
   · right
     have en:rNode b s=rAsk b (rNum b s).1 (rNum b s).2:=by unfold rNode;rw [if_neg (by rw [a2.1];omega)]
     rw [en]
     exact ⟨by omega,cut_ask a2⟩
 · have e:ndL n = [nf n,nc n,nl n,nr n,if ns n=true then 1 else 0]:=by unfold ndL;rw [if_neg q]
   obtain ⟨x,hx⟩ : ∃ x:Int,x=if ns n=true then 1 else 0:=⟨_,rfl⟩
   rw [←hx] at e
   have ix:I64 x:=by rw [hx];exact i64_01 _
   have el:(bysL (ndL n)).length=(numL (nf n)).length+(numL (nc n)).length+(numL (nl n)).length+(numL (nr n)).length+(numL x).length:=by
    rw [e];simp only [bys_cons,List.length_append];show _+(_+(_+(_+(_+0))))=_;omega
   rw [e] at h;rw [el];have h':Aln b s (nf n :: (nc n :: (nl n :: (nr n :: (x :: l))))) m:=h
   rcases rNum_aln i0 h' with ⟨a1,a2,a3,a4⟩ | ⟨a1,a2⟩
   · have en:rNode b s=rAsk b (rNum b s).1 (rNum b s).2:=by unfold rNode;rw [if_neg (by rw [a2];exact λ z=>q z.2)]
     rw [en]
     rcases rNum_aln i1 a3 with ⟨b1,b2,b3,b4⟩ | ⟨b1,b2⟩
     · rcases rNum_aln i2 b3 with ⟨c1,c2,c3,c4⟩ | ⟨c1,c2⟩
       · rcases rNum_aln i3 c3 with ⟨d1,d2,d3,d4⟩ | ⟨d1,d2⟩
         · rcases rNum_aln ix d3 with ⟨e1,e2,e3,e4⟩ | ⟨e1,e2⟩
           · left
             have x01 : ¬ (x≠0/\x≠1):=by rw [hx];split <;> omega
             refine ⟨by omega, ?_, ?_⟩
             · unfold rAsk
               simp only;rw [a2,b2,c2,d2,e2]
               have es:decide (x=1)=ns n:=by rw [hx];cases ns n <;> rfl
               rw [es];have ev:=ha q;show (nf n,nc n,nl n,nr n,ns n,(0:Int))=n;rw [←ev];rfl
             · unfold rAsk
               simp only;rw [if_neg (by rw [e2];exact λ z=>x01 z.2)];rw [show m-((numL (nf n)).length+(numL (nc n)).length+(numL (nl n)).length+(numL (nr n)).length+(numL x).length)=m-(numL (nf n)).length-(numL (nc n)).length-(numL (nl n)).length-(numL (nr n)).length-(numL x).length by omega];exact e3
           · right
             refine ⟨by omega, ?_⟩
             unfold rAsk;simp only;rw [if_neg (by rw [e2.1];omega)];exact e2
         · right
           refine ⟨by omega, ?_⟩
           have z:=cut_num d2;unfold rAsk;simp only;rw [if_neg (by rw [z.1];omega)];exact z
       · right
         refine ⟨by omega, ?_⟩
         have z:=cut_num (cut_num c2);unfold rAsk;simp only;rw [if_neg (by rw [z.1];omega)];exact z
     · right
       refine ⟨by omega, ?_⟩
       have z:=cut_num (cut_num (cut_num b2));unfold rAsk;simp only;rw [if_neg (by rw [z.1];omega)];exact z
   · right
     have en:rNode b s=rAsk b (rNum b s).1 (rNum b s).2:=by unfold rNode;rw [if_neg (by rw [a2.1];omega)]
     rw [en]
     exact ⟨by omega,cut_ask a2⟩
theorem rNodes_aln {b:List Nat} {l:List Int} : ∀ (t:List Nd) (s:In) (m:Nat),(∀ n∈t,NdOk n)->Aln b s (t.flatMap ndL ++ l) m ->
 ((bysL (t.flatMap ndL)).length<=m/\(rNodes b t.length s).1=t/\Aln b (rNodes b t.length s).2 l (m-(bysL (t.flatMap ndL)).length))∨(m<(bysL (t.flatMap ndL)).length/\Cut8 b (rNodes b t.length s).2)
 | [],s,m,_,h => .inl ⟨Nat.zero_le _,rfl,h⟩
 | n :: t,s,m,ht,h=>by
   have hb:s.bad=0:=h.1
   have e:rNodes b (n :: t).length s=((rNode b s).1 :: (rNodes b t.length (rNode b s).2).1,(rNodes b t.length (rNode b s).2).2):=by
    show (if _ then _ else _)=_;rw [if_neg (by simp [hb])]
   have h':Aln b s (ndL n ++ (t.flatMap ndL ++ l)) m:=by rw [←List.append_assoc];exact h
   have el:(bysL ((n :: t).flatMap ndL)).length=(bysL (ndL n)).length+(bysL (t.flatMap ndL)).length:=by rw [List.flatMap_cons,bys_app,List.length_append]
   rw [e,el]
   rcases rNode_aln (ht n (List.mem_cons_self ..)) h' with ⟨a1,a2,a3⟩ | ⟨a1,a2⟩
   · rcases rNodes_aln t (rNode b s).2 _ (λ x hx=>ht x (List.mem_cons_of_mem _ hx)) a3 with ⟨b1,b2,b3⟩ | ⟨b1,b2⟩
     · left
       refine ⟨by omega,by rw [a2,b2], ?_⟩
       rw [show m-((bysL (ndL n)).length+(bysL (t.flatMap ndL)).length)=m-(bysL (ndL n)).length-(bysL (t.flatMap ndL)).length by omega];exact b3
     · right
       exact ⟨by omega,b2⟩
   · right
     rw [cut_nodes a2]
     exact ⟨by omega,a2⟩
def TrOk (x:Int×List Nd):Prop:=I64 x.1/\1<=x.2.length/\x.2.length<=63 /\ ∀ n∈x.2,NdOk n
theorem rTree_aln {b:List Nat} {s:In} {x:Int×List Nd} {l:List Int} {m:Nat} (hx:TrOk x) (h:Aln b s (trL x ++ l) m) :
 ((bysL (trL x)).length<=m/\(rTree b s).1=x/\Aln b (rTree b s).2 l (m-(bysL (trL x)).length))∨(m<(bysL (trL x)).length/\Cut8 b (rTree b s).2):=by
 obtain ⟨i0,h1,h2,hn⟩:=hx
 have el:(bysL (trL x)).length=(numL x.1).length+(numL (x.2.length:Int)).length+(bysL (x.2.flatMap ndL)).length:=by
  unfold trL;rw [bys_cons,bys_cons,List.length_append,List.length_append];omega
 have h':Aln b s (x.1 :: ((x.2.length:Int) :: (x.2.flatMap ndL ++ l))) m:=h;rw [el];unfold rTree
 rcases rNum_aln i0 h' with ⟨a1,a2,a3,a4⟩ | ⟨a1,a2⟩
 · rcases rMany_aln (most:=63) (show I64 (x.2.length:Int) by unfold I64;omega) (by omega) (by omega) a3 with ⟨b1,b2,b3,b4⟩ | ⟨b1,b2⟩
   · rw [b2,Int.toNat_natCast]
     rcases rNodes_aln x.2 _ _ hn b3 with ⟨c1,c2,c3⟩ | ⟨c1,c2⟩
     · left
       refine ⟨by omega,by rw [a2,c2], ?_⟩
       rw [show m-((numL x.1).length+(numL (x.2.length:Int)).length+(bysL (x.2.flatMap ndL)).length)=m-(numL x.1).length-(numL (x.2.length:Int)).length-(bysL (x.2.flatMap ndL)).length by omega];exact c3
     · right
       exact ⟨by omega,c2⟩
   · right
     rw [cut_nodes b2]
     exact ⟨by omega,b2⟩
 · right
   have z:=cut_many (most:=63) a2;rw [cut_nodes z]
   exact ⟨by omega,z⟩
theorem rTrees_aln {b:List Nat} {l:List Int} : ∀ (t:List (Int×List Nd)) (s:In) (m:Nat),(∀ x∈t,TrOk x)->Aln b s (t.flatMap trL ++ l) m ->
 ((bysL (t.flatMap trL)).length<=m/\(rTrees b t.length s).1=t/\Aln b (rTrees b t.length s).2 l (m-(bysL (t.flatMap trL)).length))∨(m<(bysL (t.flatMap trL)).length/\Cut8 b (rTrees b t.length s).2)
 | [],s,m,_,h => .inl ⟨Nat.zero_le _,rfl,h⟩
 | n :: t,s,m,ht,h=>by
   have hb:s.bad=0:=h.1
   have e:rTrees b (n :: t).length s=((rTree b s).1 :: (rTrees b t.length (rTree b s).2).1,(rTrees b t.length (rTree b s).2).2):=by
    show (if _ then _ else _)=_;rw [if_neg (by simp [hb])]
   have h':Aln b s (trL n ++ (t.flatMap trL ++ l)) m:=by rw [←List.append_assoc];exact h
   have el:(bysL ((n :: t).flatMap trL)).length=(bysL (trL n)).length+(bysL (t.flatMap trL)).length:=by rw [List.flatMap_cons,bys_app,List.length_append]
   rw [e,el]
   rcases rTree_aln (ht n (List.mem_cons_self ..)) h' with ⟨a1,a2,a3⟩ | ⟨a1,a2⟩
   · rcases rTrees_aln t (rTree b s).2 _ (λ x hx=>ht x (List.mem_cons_of_mem _ hx)) a3 with ⟨b1,b2,b3⟩ | ⟨b1,b2⟩
     · left
       refine ⟨by omega,by rw [a2,b2], ?_⟩
       rw [show m-((bysL (trL n)).length+(bysL (t.flatMap trL)).length)=m-(bysL (trL n)).length-(bysL (t.flatMap trL)).length by omega];exact b3
     · right
       exact ⟨by omega,b2⟩
   · right
     rw [cut_trees a2]
     exact ⟨by omega,a2⟩
structure Ca where
 what:Int
 ses:Int
 seq:Int
 name:List Nat
 num:Int
 share:Int
 bys:List Nat
structure Vn where
 name:List Nat
 num:Int
 stage:Int
 share:Int
structure An where
 num:Int
 idx:Int
structure Dn where
 ses:Int
 seq:Int
 ans:An
 bad:Int
structure Sh where
 idx:Int
 l:List (Vn×Gv)
 done:List Dn
def an0:An:=⟨0,0⟩
def sh0:Sh:=⟨0, [], []⟩
def timeB (n:Int):Bool:=decide (0<=n) && decide (n<=1000000)
def letB (c:Nat):Bool:=decide (97<=c) && decide (c<=122)
def callF (c:Ca):Int:=if c.what<1∨4<c.what∨timeB c.ses=false∨timeB c.seq=false∨c.seq=0 then 1 else if c.name = []∨12<c.name.length then 2 else if c.name.all letB then 0 else 2
def findN {α:Type} (p:α->Bool):List α->Nat->Option Nat
 | [],_=>none
 | x :: l,k=>if p x then some k else findN p l (k+1)
def lastN (s:Sh) (ses:Int):Option Nat:=findN (λ d:Dn=>decide (d.ses=ses)) s.done 0
def atN (s:Sh) (name:List Nat) (stage:Int):Option Nat:=findN (λ v:Vn×Gv=>decide (v.1.name=name/\v.1.stage=stage)) s.l 0
def verN (s:Sh) (name:List Nat) (num:Int):Option Nat:=findN (λ v:Vn×Gv=>decide (v.1.name=name/\v.1.num=num)) s.l 0
def names (s:Sh):Nat:=(s.l.filter λ v=>decide (v.1.num=1)).length
def many (s:Sh) (name:List Nat):Nat:=(s.l.filter λ v=>decide (v.1.name=name)).length
def setV (l:List (Vn×Gv)) (k:Nat) (stage share:Int):List (Vn×Gv):=l.modify k λ v=>(⟨v.1.name,v.1.num,stage,share⟩,v.2)
def setS (l:List (Vn×Gv)) (k:Nat) (stage:Int):List (Vn×Gv):=l.modify k λ v=>(⟨v.1.name,v.1.num,stage,v.1.share⟩,v.2)
def act (s:Sh) (c:Ca):Int×Int×List (Vn×Gv) :=
 if c.what=1 then
  if (decF c.bys).2≠0 then (0,(decF c.bys).2,s.l)
  else if many s c.name=0/\8<=names s then (0,4,s.l)
  else ((many s c.name:Int)+1,0,s.l ++ [(⟨c.name,(many s c.name:Int)+1,1,0⟩,decV c.bys)])
 else match verN s c.name c.num with
  | none=>(0,5,s.l)
  | some k =>
    let st:=(s.l.map λ v=>v.1.stage).getD k 0
    if c.what=2 then
     if c.share<1∨99<c.share then (0,1,s.l) else if st≠1 then (0,6,s.l) else if (atN s c.name 2).isSome then (0,7,s.l) else (0,0,setV s.l k 2 c.share)
    else if c.what=3 then
     if st≠1/\st≠2 then (0,6,s.l)
     else match atN s c.name 3 with
      | none=>(0,0,setV s.l k 3 0)
      | some o=>(0,0,setV (setS s.l o 4) k 3 0)
    else if st=4 then (0,6,s.l) else (0,0,setV s.l k 4 0)
def say (done:List Dn) (k:Option Nat) (d:Dn):List Dn:=match k with
 | none=>done ++ [d]
 | some i=>done.set i d
def shDo (s:Sh) (c:Ca):An×Int×Sh :=
 if callF c≠0 then (an0,callF c,s)
 else match lastN s c.ses with
  | some k =>
    let d:=s.done.getD k ⟨0,0,an0,0⟩
    if d.seq=c.seq then (d.ans,d.bad,s) else if c.seq<d.seq then (an0,6,s)
    else
     let r:=act s c
     let a:An:=if r.2.1=0 then ⟨r.1,s.idx+1⟩ else an0
     (a,r.2.1,⟨s.idx+1,r.2.2,s.done.set k ⟨c.ses,c.seq,a,r.2.1⟩⟩)
  | none =>
    let r:=act s c
    let a:An:=if r.2.1=0 then ⟨r.1,s.idx+1⟩ else an0
    (a,r.2.1,⟨s.idx+1,r.2.2,s.done ++ [⟨c.ses,c.seq,a,r.2.1⟩]⟩)
theorem find_more {α:Type} (p:α->Bool) : ∀ (l:List α) (k j:Nat),findN p l k=some j->k<=j/\j-k<l.length/\(∀ d,p (l.getD (j-k) d)=true)
 | [],k,j,h=>by cases h
 | x :: l,k,j,h=>by
   unfold findN at h
   by_cases q:p x=true
   · rw [if_pos q] at h
     cases h
     refine ⟨Nat.le_refl _,by simp,λ d => ?_⟩
     rw [Nat.sub_self];exact q
   · rw [if_neg q] at h
     obtain ⟨h1,h2,h3⟩:=find_more p l (k+1) j h
     refine ⟨by omega,by simp;omega,λ d => ?_⟩
     have e:j-k=(j-(k+1))+1:=by omega
     rw [e];exact h3 d
theorem find_app {α:Type} (p:α->Bool) (x:α) (hx:p x=true) : ∀ (l:List α) (k:Nat),findN p l k=none->findN p (l ++ [x]) k=some (k+l.length)
 | [],k,_=>by
   show (if p x then some k else _)=_;rw [if_pos hx];rfl
 | y :: l,k,h=>by
   unfold findN at h
   by_cases q:p y=true
   · rw [if_pos q] at h;cases h
   · rw [if_neg q] at h
     show (if p y then some k else findN p (l ++ [x]) (k+1))=_;rw [if_neg q,find_app p x hx l (k+1) h,List.length_cons]
     congr 1
     omega
theorem find_set {α:Type} (p:α->Bool) (x:α) (hx:p x=true) : ∀ (l:List α) (k j:Nat),findN p l k=some j->findN p (l.set (j-k) x) k=some j
 | [],k,j,h=>by cases h
 | y :: l,k,j,h=>by
   unfold findN at h
   by_cases q:p y=true
   · rw [if_pos q] at h
     cases h;rw [Nat.sub_self,List.set_cons_zero];show (if p x then some k else _)=_;rw [if_pos hx]
   · rw [if_neg q] at h
     have:=(find_more p l (k+1) j h).1;rw [show j-k=(j-(k+1))+1 by omega,List.set_cons_succ];show (if p y then some k else findN p (l.set (j-(k+1)) x) (k+1))=_;rw [if_neg q];exact find_set p x hx l (k+1) j h
end Go.Proofs.YtaijnacghiloaaaGreatDoor.M
