/-
  Several texts as one: MathHb, MathHc, MathHd, MathHe, MathHf, MathHh, LgMa, LgMb, LgMs, LgMk.
-/
import Derived.Test.YtaijnacghiloaaaGreatDoorRunT2
namespace Go.Proofs.YtaijnacghiloaaaGreatDoor.M
set_option linter.unusedVariables false
def oneV (a b:Vn×Gv):Prop := ¬ (a.1.name=b.1.name/\a.1.stage=b.1.stage/\(a.1.stage=3∨a.1.stage=2))
def shrV (v:Vn×Gv):Prop:=(0<v.1.share↔v.1.stage=2)
structure ShOk (s:Sh):Prop where
 one : ∀ i j d,i<j->j<s.l.length->oneV (s.l.getD i d) (s.l.getD j d)
 shr : ∀ i d,i<s.l.length->shrV (s.l.getD i d)
 i0:0<=s.idx
 ans : ∀ d∈s.done,d.bad=0->1<=d.ans.idx/\d.ans.idx<=s.idx
theorem ok_zero:ShOk sh0:=⟨λ i j d h1 h2=>by simp [sh0] at h2,(λ i d hi=>by simp [sh0] at hi),Int.le_refl _,(λ d hd=>by cases hd)⟩
theorem find_none {α:Type} (p:α->Bool) : ∀ (l:List α) (k:Nat),findN p l k=none -> ∀ x∈l,p x=false
 | [],k,_,x,hx=>by cases hx
 | y :: l,k,h,x,hx=>by
   unfold findN at h
   by_cases q:p y=true
   · rw [if_pos q] at h;cases h
   · rw [if_neg q] at h
     rcases List.mem_cons.1 hx with rfl | hx
     · simpa using q
     · exact find_none p l (k+1) h x hx
theorem mod_at {α:Type} {l:List α} {f:α->α} {k i:Nat} {d:α} (h:i<l.length):(l.modify k f).getD i d=if k=i then f (l.getD i d) else l.getD i d:=by
 have h':i<(l.modify k f).length:=by rw [List.length_modify];exact h
 rw [List.getD,List.getElem?_eq_getElem h',List.getD,List.getElem?_eq_getElem h];show (l.modify k f)[i]=if k=i then f l[i] else l[i];rw [List.getElem_modify]
def oneL (l:List (Vn×Gv)):Prop := ∀ i j d,i<j->j<l.length->oneV (l.getD i d) (l.getD j d)
def shrL (l:List (Vn×Gv)):Prop := ∀ i d,i<l.length->shrV (l.getD i d)
theorem one_app {l:List (Vn×Gv)} (h:oneL l) {x:Vn×Gv} (h1:x.1.stage=1):oneL (l ++ [x]):=by
 intro i j d hij hj;rw [List.length_append,List.length_singleton] at hj
 by_cases q:j<l.length
 · have e1:(l ++ [x]).getD i d=l.getD i d:=by simp [List.getD,List.getElem?_append_left (show i<l.length by omega)]
   have e2:(l ++ [x]).getD j d=l.getD j d:=by simp [List.getD,List.getElem?_append_left q]
   rw [e1,e2];exact h i j d hij q
 · have ej:j=l.length:=by omega
   have e2:(l ++ [x]).getD j d=x:=by rw [ej];simp [List.getD]
   rw [e2];rintro ⟨_,b,c⟩;rw [b,h1] at c;omega
theorem shr_app {l:List (Vn×Gv)} (h:shrL l) {x:Vn×Gv} (hx:shrV x):shrL (l ++ [x]):=by
 intro i d hi;rw [List.length_append,List.length_singleton] at hi
 by_cases q:i<l.length
 · have e1:(l ++ [x]).getD i d=l.getD i d:=by simp [List.getD,List.getElem?_append_left q]
   rw [e1];exact h i d q
 · have ej:i=l.length:=by omega
   have e2:(l ++ [x]).getD i d=x:=by rw [ej];simp [List.getD]
   rw [e2];exact hx
theorem one_set {l:List (Vn×Gv)} (h:oneL l) {k:Nat} {st sh:Int} (hk:k<l.length) (hn:(st=3∨st=2) -> ∀ i d,i<l.length->i≠k -> ¬ ((l.getD i d).1.name=(l.getD k d).1.name/\(l.getD i d).1.stage=st)):oneL (setV l k st sh):=by
 intro i j d hij hj;unfold setV at hj ⊢;rw [List.length_modify] at hj;rw [mod_at (show i<l.length by omega),mod_at hj]
 by_cases q1:k=i
 · subst q1
   rw [if_pos rfl,if_neg (by omega)];rintro ⟨a,b,c⟩;exact hn c j d hj (by omega) ⟨a.symm,b.symm⟩
 · rw [if_neg q1]
   by_cases q2:k=j
   · subst q2
     rw [if_pos rfl];rintro ⟨a,b,c⟩;have b':(l.getD i d).1.stage=st:=b;rw [b'] at c;exact hn c i d (by omega) (by omega) ⟨a,b'⟩
   · rw [if_neg q2]
     exact h i j d hij hj
theorem shr_set {l:List (Vn×Gv)} (h:shrL l) {k:Nat} {st sh:Int} (hs:0<sh↔st=2):shrL (setV l k st sh):=by
 intro i d hi;unfold setV at hi ⊢;rw [List.length_modify] at hi;rw [mod_at hi]
 by_cases q:k=i
 · rw [if_pos q];exact hs
 · rw [if_neg q];exact h i d hi
theorem gone_one {l:List (Vn×Gv)} (h:oneL l) (o:Nat):oneL (setS l o 4):=by
 intro i j d hij hj;unfold setS at hj ⊢;rw [List.length_modify] at hj;rw [mod_at (show i<l.length by omega),mod_at hj]
 by_cases q1:o=i
 · subst q1
   rw [if_pos rfl,if_neg (by omega)];rintro ⟨a,b,c⟩;have c':(4:Int)=3∨(4:Int)=2:=c;omega
 · rw [if_neg q1]
   by_cases q2:o=j
   · subst q2
     rw [if_pos rfl];rintro ⟨a,b,c⟩;have b':(l.getD i d).1.stage=4:=b;rw [b'] at c;omega
   · rw [if_neg q2]
     exact h i j d hij hj
theorem gone_shr {l:List (Vn×Gv)} (h:shrL l) {o:Nat} (ho : ∀ d,(l.getD o d).1.stage=3):shrL (setS l o 4):=by
 intro i d hi;unfold setS at hi ⊢;rw [List.length_modify] at hi;rw [mod_at hi]
 by_cases q:o=i
 · subst q
   rw [if_pos rfl];have a:=h o d hi;have b:=ho d;unfold shrV at a ⊢;show 0<(l.getD o d).1.share↔(4:Int)=2;rw [a,b];decide
 · rw [if_neg q];exact h i d hi
theorem act_ok {s:Sh} (h1:oneL s.l) (h2:shrL s.l) (c:Ca):oneL (act s c).2.2/\shrL (act s c).2.2:=by
 unfold act
 by_cases w1:c.what=1
 · rw [if_pos w1]
   by_cases e:(decF c.bys).2≠0
   · rw [if_pos e];exact ⟨h1,h2⟩
   · rw [if_neg e]
     by_cases f:many s c.name=0/\8<=names s
     · rw [if_pos f];exact ⟨h1,h2⟩
     · rw [if_neg f]
       refine ⟨one_app h1 rfl,shr_app h2 ?_⟩
       show (0:Int)<0↔(1:Int)=2;decide
 · rw [if_neg w1]
   cases hv:verN s c.name c.num with
   | none=>exact ⟨h1,h2⟩
   | some k =>
     obtain ⟨_,hk,hp⟩:=find_more _ s.l 0 k hv;rw [Nat.sub_zero] at hk hp;have hkn : ∀ d,(s.l.getD k d).1.name=c.name:=λ d=>(of_decide_eq_true (hp d)).1;simp only
     by_cases w2:c.what=2
     · rw [if_pos w2]
       by_cases a1:c.share<1∨99<c.share
       · rw [if_pos a1];exact ⟨h1,h2⟩
       · rw [if_neg a1]
         by_cases a2:(s.l.map λ v=>v.1.stage).getD k 0≠1
         · rw [if_pos a2];exact ⟨h1,h2⟩
         · rw [if_neg a2]
           by_cases a3:(atN s c.name 2).isSome=true
           · rw [if_pos a3];exact ⟨h1,h2⟩
           · rw [if_neg a3]
             have no:atN s c.name 2=none:=by cases q:atN s c.name 2 with | none=>rfl | some _=>rw [q] at a3;exact absurd rfl a3
             refine ⟨one_set h1 hk λ _ i d hi _ => ?_,shr_set h2 (by constructor <;> intro <;> omega)⟩
             have:=find_none _ s.l 0 no (s.l.getD i d) (by rw [List.getD,List.getElem?_eq_getElem hi];exact List.getElem_mem hi);rw [hkn d];exact of_decide_eq_false this
     · rw [if_neg w2]
       by_cases w3:c.what=3
       · rw [if_pos w3]
         by_cases b1:(s.l.map λ v=>v.1.stage).getD k 0≠1/\(s.l.map λ v=>v.1.stage).getD k 0≠2
         · rw [if_pos b1];exact ⟨h1,h2⟩
         · rw [if_neg b1]
           cases ho:atN s c.name 3 with
           | none =>
             refine ⟨one_set h1 hk λ _ i d hi _ => ?_,shr_set h2 (by decide)⟩
             have:=find_none _ s.l 0 ho (s.l.getD i d) (by rw [List.getD,List.getElem?_eq_getElem hi];exact List.getElem_mem hi);rw [hkn d];exact of_decide_eq_false this
           | some o =>
             obtain ⟨_,hol,hop⟩:=find_more _ s.l 0 o ho;rw [Nat.sub_zero] at hol hop;have on : ∀ d,(s.l.getD o d).1.name=c.name/\(s.l.getD o d).1.stage=3:=λ d=>of_decide_eq_true (hop d);have g1:=gone_one h1 o;have g2:=gone_shr h2 (λ d=>(on d).2)
             have gl:(setS s.l o 4).length=s.l.length:=by unfold setS;rw [List.length_modify]
             refine ⟨one_set g1 (by rw [gl];exact hk) λ _ i d hi hne => ?_,shr_set g2 (by decide)⟩
             rw [gl] at hi;unfold setS;rw [mod_at hi,mod_at hk];rintro ⟨x,y⟩
             by_cases q:o=i
             · rw [if_pos q] at y
               have y':(4:Int)=3:=y;omega
             · rw [if_neg q] at x y
               have x':(s.l.getD i d).1.name=c.name:=by
                rw [x]
                split
                · exact hkn d
                · exact hkn d
               rcases Nat.lt_or_gt_of_ne q with z | z
               · exact h1 o i d z hi ⟨by rw [(on d).1,x'],by rw [(on d).2,y], .inl (on d).2⟩
               · exact h1 i o d z hol ⟨by rw [(on d).1,x'],by rw [(on d).2,y], .inl y⟩
       · rw [if_neg w3]
         by_cases b4:(s.l.map λ v=>v.1.stage).getD k 0=4
         · rw [if_pos b4];exact ⟨h1,h2⟩
         · rw [if_neg b4]
           exact ⟨one_set h1 hk (λ q=>by omega),shr_set h2 (by decide)⟩
theorem do_ok {s:Sh} (h:ShOk s) (c:Ca):ShOk (shDo s c).2.2/\((shDo s c).2.1=0->1<=(shDo s c).1.idx/\(shDo s c).1.idx<=(shDo s c).2.2.idx)/\s.idx<=(shDo s c).2.2.idx/\(shDo s c).2.2.idx<=s.idx+1:=by
 obtain ⟨o1,o2⟩:=act_ok h.one h.shr c;have i0:=h.i0
 by_cases f:callF c=0
 case neg =>
  have e:shDo s c=(an0,callF c,s):=by unfold shDo;rw [if_pos f]
  rw [e]
  exact ⟨h,λ q=>absurd q f,Int.le_refl _,by show s.idx<=s.idx+1;omega⟩
 have new : ∀ D:List Dn,(∀ d∈D,d∈s.done∨d=⟨c.ses,c.seq,if (act s c).2.1=0 then ⟨(act s c).1,s.idx+1⟩ else an0,(act s c).2.1⟩)->ShOk ⟨s.idx+1,(act s c).2.2,D⟩:=λ D hD=>by
  refine ⟨o1,o2,by show 0<=s.idx+1;omega,λ d hd hb => ?_⟩
  show 1<=d.ans.idx/\d.ans.idx<=s.idx+1
  rcases hD d hd with q | q
  · have:=h.ans d q hb
    exact ⟨this.1,by omega⟩
  · subst q
    have hb':(act s c).2.1=0:=hb;show 1<=(if (act s c).2.1=0 then (⟨(act s c).1,s.idx+1⟩:An) else an0).idx/\(if (act s c).2.1=0 then (⟨(act s c).1,s.idx+1⟩:An) else an0).idx<=s.idx+1;rw [if_pos hb']
    exact ⟨by show 1<=s.idx+1;omega,Int.le_refl _⟩
 have ind:(act s c).2.1=0->1<=(if (act s c).2.1=0 then (⟨(act s c).1,s.idx+1⟩:An) else an0).idx/\(if (act s c).2.1=0 then (⟨(act s c).1,s.idx+1⟩:An) else an0).idx<=s.idx+1:=λ q=>by
  rw [if_pos q]
  exact ⟨by show 1<=s.idx+1;omega,Int.le_refl _⟩
 cases hl:lastN s c.ses with
 | none =>
   have e:shDo s c=(if (act s c).2.1=0 then ⟨(act s c).1,s.idx+1⟩ else an0,(act s c).2.1,⟨s.idx+1,(act s c).2.2,s.done ++ [⟨c.ses,c.seq,if (act s c).2.1=0 then ⟨(act s c).1,s.idx+1⟩ else an0,(act s c).2.1⟩]⟩):=by
    unfold shDo;rw [if_neg (by simp [f]),hl]
   rw [e]
   exact ⟨new _ λ d hd=>by simpa using hd,ind,by show s.idx<=s.idx+1;omega,Int.le_refl _⟩
 | some k =>
   obtain ⟨h1,h2,h3⟩:=find_more _ s.done 0 k hl;rw [Nat.sub_zero] at h2 h3
   by_cases q1:(s.done.getD k ⟨0,0,an0,0⟩).seq=c.seq
   · have e:shDo s c=((s.done.getD k ⟨0,0,an0,0⟩).ans,(s.done.getD k ⟨0,0,an0,0⟩).bad,s):=by
      unfold shDo;rw [if_neg (by simp [f]),hl];simp only [q1,if_true]
     rw [e]
     exact ⟨h,λ q=>h.ans _ (by rw [List.getD,List.getElem?_eq_getElem h2];exact List.getElem_mem h2) q,Int.le_refl _,by show s.idx<=s.idx+1;omega⟩
   · by_cases q2:c.seq<(s.done.getD k ⟨0,0,an0,0⟩).seq
     · have e:shDo s c=(an0,6,s):=by
        unfold shDo;rw [if_neg (by simp [f]),hl];simp only [if_neg q1,if_pos q2]
       rw [e]
       exact ⟨h,(λ q=>by cases q),Int.le_refl _,by show s.idx<=s.idx+1;omega⟩
     · have e:shDo s c=(if (act s c).2.1=0 then ⟨(act s c).1,s.idx+1⟩ else an0,(act s c).2.1,⟨s.idx+1,(act s c).2.2,s.done.set k ⟨c.ses,c.seq,if (act s c).2.1=0 then ⟨(act s c).1,s.idx+1⟩ else an0,(act s c).2.1⟩⟩):=by
        unfold shDo;rw [if_neg (by simp [f]),hl];simp only [if_neg q1,if_neg q2]
       rw [e]
       exact ⟨new _ λ d hd=>(List.mem_or_eq_of_mem_set hd),ind,by show s.idx<=s.idx+1;omega,Int.le_refl _⟩

def vn0:Vn:=⟨[],0,0,0⟩
def keyL (l:List (Vn×Gv)):Prop:=(l.map (·.1)).Pairwise λ a b => ¬ (a.name=b.name/\a.num=b.num)
def kyL (l:List (Vn×Gv)):List (List Nat×Int):=l.map λ v=>(v.1.name,v.1.num)
def cntY (l:List (List Nat×Int)) (n:List Nat):Nat:=(l.filter λ x=>decide (x.1=n)).length
def numY (l:List (List Nat×Int)):Prop := ∀ k d,k<l.length->(l.getD k d).2=(cntY (l.take k) (l.getD k d).1:Int)+1
theorem many_is (s:Sh) (n:List Nat):many s n=cntY (kyL s.l) n:=by
 unfold many cntY kyL;rw [List.filter_map,List.length_map];rfl
theorem num_app {l:List (List Nat×Int)} (h:numY l) (n:List Nat):numY (l ++ [(n,(cntY l n:Int)+1)]):=by
 intro k d hk;rw [List.length_append,List.length_singleton] at hk
 by_cases q:k<l.length
 · have e1:(l ++ [(n,(cntY l n:Int)+1)]).getD k d=l.getD k d:=by simp [List.getD,List.getElem?_append_left q]
   rw [e1,List.take_append_of_le_length (by omega)];exact h k d q
 · have ek:k=l.length:=by omega
   subst ek
   have e1:(l ++ [(n,(cntY l n:Int)+1)]).getD l.length d=(n,(cntY l n:Int)+1):=by simp [List.getD]
   rw [e1,List.take_append_of_le_length (Nat.le_refl _),List.take_length]
theorem cnt_mono (l:List (List Nat×Int)) (n:List Nat) {i j:Nat} (h:i<=j):cntY (l.take i) n<=cntY (l.take j) n:=by
 unfold cntY;have:(l.take i).Sublist (l.take j):=List.take_sublist_take_left h;exact (this.filter _).length_le
theorem cnt_step {l:List (List Nat×Int)} {n:List Nat} {i:Nat} (h:i<l.length) (hn:l[i].1=n):cntY (l.take (i+1)) n=cntY (l.take i) n+1:=by
 unfold cntY;rw [List.take_succ_eq_append_getElem h,List.filter_append,List.length_append]
 congr 1
 rw [List.filter_cons,if_pos (decide_eq_true hn)];rfl
theorem key_num {l:List (List Nat×Int)} (h:numY l):l.Pairwise λ a b => ¬ (a.1=b.1/\a.2=b.2):=by
 rw [List.pairwise_iff_getElem];intro i j hi hj hij;rintro ⟨e1,e2⟩;have a:=h i ([],0) hi;have b:=h j ([],0) hj;rw [getD_at hi] at a;rw [getD_at hj] at b;have c:=cnt_step hi rfl;have m:=cnt_mono l l[i].1 (show i+1<=j by omega);rw [←e1] at b;omega
theorem key_ky {l:List (Vn×Gv)} (h:numY (kyL l)):keyL l:=by
 have:=key_num h;unfold keyL;unfold kyL at this;rw [List.pairwise_map] at this ⊢;exact this
theorem ky_setV (l:List (Vn×Gv)) (k:Nat) (st sh:Int):kyL (setV l k st sh)=kyL l:=by
 unfold kyL setV;refine List.ext_getElem (by rw [List.length_map,List.length_map,List.length_modify]) λ i h1 h2 => ?_;rw [List.getElem_map,List.getElem_map,List.getElem_modify]
 split <;> rfl
def vg0:Vn×Gv:=(⟨[],0,0,0⟩,(0,0, [], []))
def posK (l:List (Vn×Gv)) (n:List Nat):Nat->List Nat
 | 0 => []
 | k+1=>posK l n k ++ (if (l.getD k vg0).1.name=n then [k] else [])
def posL (l:List (Vn×Gv)) (n:List Nat):List Nat:=posK l n l.length
theorem posK_mem (l:List (Vn×Gv)) (n:List Nat) : ∀ k j,j∈posK l n k↔j<k/\(l.getD j vg0).1.name=n
 | 0,j=>by simp [posK]
 | k+1,j=>by
   rw [posK,List.mem_append,posK_mem l n k j]
   by_cases q:(l.getD k vg0).1.name=n
   · rw [if_pos q,List.mem_singleton]
     constructor
     · rintro (⟨a,b⟩ | rfl)
       · exact ⟨by omega,b⟩
       · exact ⟨by omega,q⟩
     · rintro ⟨a,b⟩
       by_cases e:j=k
       · exact .inr e
       · exact .inl ⟨by omega,b⟩
   · rw [if_neg q]
     constructor
     · rintro (⟨a,b⟩ | h)
       · exact ⟨by omega,b⟩
       · cases h
     · rintro ⟨a,b⟩
       by_cases e:j=k
       · subst e;exact absurd b q
       · exact .inl ⟨by omega,b⟩
theorem pos_mem {l:List (Vn×Gv)} {n:List Nat} {j:Nat}:j∈posL l n↔j<l.length/\(l.getD j vg0).1.name=n:=posK_mem l n l.length j
theorem posK_same {l r:List (Vn×Gv)} (n:List Nat) : ∀ k,(∀ j,j<k->(l.getD j vg0).1.name=(r.getD j vg0).1.name)->posK l n k=posK r n k
 | 0,_=>rfl
 | k+1,h=>by
   rw [posK,posK,posK_same n k (λ j hj=>h j (by omega)),h k (by omega)]
theorem pos_app (l:List (Vn×Gv)) (x:Vn×Gv) (n:List Nat):posL (l ++ [x]) n=posL l n ++ (if x.1.name=n then [l.length] else []):=by
 unfold posL;rw [List.length_append,List.length_singleton,posK]
 have e:((l ++ [x]).getD l.length vg0)=x:=by simp [List.getD]
 rw [e,posK_same n l.length (r:=l) (λ j hj=>by simp [List.getD,List.getElem?_append_left hj])]
theorem getD_setV (l:List (Vn×Gv)) (k:Nat) (st sh:Int) {j:Nat} (hj:j<l.length):(setV l k st sh).getD j vg0=if k=j then (⟨(l.getD j vg0).1.name,(l.getD j vg0).1.num,st,sh⟩,(l.getD j vg0).2) else l.getD j vg0:=by
 unfold setV;exact mod_at hj
theorem len_setV (l:List (Vn×Gv)) (k:Nat) (st sh:Int):(setV l k st sh).length=l.length:=by unfold setV;rw [List.length_modify]
theorem pos_setV (l:List (Vn×Gv)) (k:Nat) (st sh:Int) (n:List Nat):posL (setV l k st sh) n=posL l n:=by
 unfold posL;rw [len_setV];refine posK_same n _ (λ j hj => ?_);rw [getD_setV l k st sh hj]
 by_cases q:k=j
 · rw [if_pos q]
 · rw [if_neg q]
theorem posK_len (l:List (Vn×Gv)) (n:List Nat) : ∀ k,k<=l.length->(posK l n k).length=cntY ((kyL l).take k) n
 | 0,_=>by simp [posK,cntY]
 | k+1,h=>by
   have hk:k<(kyL l).length:=by unfold kyL;rw [List.length_map];omega
   have e:(kyL l)[k].1=(l.getD k vg0).1.name:=by simp [kyL,List.getD,show k<l.length by omega]
   rw [posK,List.length_append,posK_len l n k (by omega)]
   by_cases q:(l.getD k vg0).1.name=n
   · rw [if_pos q,cnt_step hk (e.trans q)]
     rfl
   · rw [if_neg q]
     unfold cntY;rw [List.take_succ_eq_append_getElem hk,List.filter_append]
     have:List.filter (λ x:List Nat×Int=>decide (x.1=n)) [(kyL l)[k]] = []:=by
      rw [List.filter_cons_of_neg (by rw [e];simpa using q)];rfl
     rw [this,List.append_nil];rfl
theorem pos_len (s:Sh) (n:List Nat):(posL s.l n).length=many s n:=by
 rw [many_is];unfold posL;rw [posK_len s.l n s.l.length (Nat.le_refl _)]
 have:(kyL s.l).length=s.l.length:=by simp [kyL]
 rw [←this,List.take_length]
theorem posK_num {l:List (Vn×Gv)} (h:numY (kyL l)) (n:List Nat) : ∀ k,k<=l.length -> ∀ i,i<(posK l n k).length->(l.getD ((posK l n k).getD i 0) vg0).1.num=(i:Int)+1
 | 0,_,i,hi=>by simp [posK] at hi
 | k+1,hk,i,hi=>by
   by_cases q:(l.getD k vg0).1.name=n
   · rw [posK,if_pos q] at hi ⊢
     by_cases e:i<(posK l n k).length
     · have:=posK_num h n k (by omega) i e
       rwa [show (posK l n k ++ [k]).getD i 0=(posK l n k).getD i 0 by simp [List.getD,List.getElem?_append_left e]]
     · have ei:i=(posK l n k).length:=by rw [List.length_append,List.length_singleton] at hi;omega
       rw [show (posK l n k ++ [k]).getD i 0=k by rw [ei];simp [List.getD]]
       have hk':k<(kyL l).length:=by unfold kyL;rw [List.length_map];omega
       have hn:=h k ([],0) hk'
       have e1:((kyL l).getD k ([],0)).2=(l.getD k vg0).1.num:=by simp [kyL,List.getD,show k<l.length by omega]
       have e2:((kyL l).getD k ([],0)).1=(l.getD k vg0).1.name:=by simp [kyL,List.getD,show k<l.length by omega]
       rw [e1,e2,q] at hn;rw [hn,ei,posK_len l n k (by omega)]
   · rw [posK,if_neg q,List.append_nil] at hi ⊢
     exact posK_num h n k (by omega) i hi
theorem pos_num {l:List (Vn×Gv)} (h:numY (kyL l)) (n:List Nat) {i:Nat} (hi:i<(posL l n).length):(l.getD ((posL l n).getD i 0) vg0).1.num=(i:Int)+1:=posK_num h n l.length (Nat.le_refl _) i hi
theorem find_some {α:Type} (p:α->Bool) (d:α) : ∀ (l:List α) (k j:Nat),j<l.length->p (l.getD j d)=true->(∀ i,i<j->p (l.getD i d)=false)->findN p l k=some (k+j)
 | [],k,j,h,_,_=>by simp at h
 | x :: l,k,0,h,hp,_=>by
   have hp:p x=true:=hp;show (if p x then some k else _)=_;rw [if_pos hp];rfl
 | x :: l,k,j+1,h,hp,hn=>by
   have h0:p x=false:=hn 0 (by omega);show (if p x then some k else findN p l (k+1))=_;rw [if_neg (by rw [h0];decide),find_some p d l (k+1) j (by simpa using h) hp (λ i hi=>hn (i+1) (by omega))]
   congr 1
   omega
theorem find_no {α:Type} (p:α->Bool) : ∀ (l:List α) (k:Nat),(∀ x∈l,p x=false)->findN p l k=none
 | [],k,_=>rfl
 | x :: l,k,h=>by
   show (if p x then some k else findN p l (k+1))=_;rw [if_neg (by rw [h x (List.mem_cons_self ..)];decide),find_no p l (k+1) (λ y hy=>h y (List.mem_cons_of_mem _ hy))]
theorem mem_getD {α:Type} {l:List α} {x:α} (d:α) (h:x∈l) : ∃ i,i<l.length/\l.getD i d=x:=by
 obtain ⟨i,hi,e⟩:=List.getElem_of_mem h
 exact ⟨i,hi,by rw [List.getD,List.getElem?_eq_getElem hi];exact e⟩
theorem ver_pos {s:Sh} (h:numY (kyL s.l)) (n:List Nat) (num:Int):verN s n num=if 1<=num/\num<=(posL s.l n).length then some ((posL s.l n).getD (num-1).toNat 0) else none:=by
 by_cases q:1<=num/\num<=(posL s.l n).length
 · rw [if_pos q]
   obtain ⟨i,hi⟩ : ∃ i:Nat,num=(i:Int)+1:=⟨(num-1).toNat,by omega⟩
   subst hi
   have il:i<(posL s.l n).length:=by omega
   rw [show ((i:Int)+1-1).toNat=i by omega];have nm:=pos_num h n il
   have mem:(posL s.l n).getD i 0∈posL s.l n:=by
    rw [List.getD,List.getElem?_eq_getElem il];exact List.getElem_mem il
   obtain ⟨k1,k2⟩:=pos_mem.1 mem;generalize (posL s.l n).getD i 0=j at *;unfold verN;have ky:=key_ky h;refine (find_some _ vg0 s.l 0 j k1 (decide_eq_true ⟨k2,nm⟩) (λ i' hi'=>decide_eq_false (λ z => ?_))).trans (by rw [Nat.zero_add]);unfold keyL at ky;rw [List.pairwise_iff_getElem] at ky;have:=ky i' j (by rw [List.length_map];omega) (by rw [List.length_map];omega) hi';apply this
   have e1 : (s.l.map (·.1))[i']'(by rw [List.length_map];omega) = (s.l.getD i' vg0).1 := by simp [List.getD, show i' < s.l.length by omega]
   have e2:(s.l.map (·.1))[j]'(by rw [List.length_map];omega)=(s.l.getD j vg0).1:=by simp [List.getD,k1]
   rw [e1,e2]
   exact ⟨z.1.trans k2.symm,z.2.trans nm.symm⟩
 · rw [if_neg q]
   unfold verN;refine find_no _ _ _ (λ x hx=>decide_eq_false (λ z=>q ?_));obtain ⟨j,hj,ej⟩:=mem_getD vg0 hx;have mem:j∈posL s.l n:=pos_mem.2 ⟨hj,by rw [ej];exact z.1⟩;obtain ⟨i,hi,ei⟩:=mem_getD 0 mem;have:=pos_num h n hi;rw [ei,ej,z.2] at this;omega
theorem at_some {s:Sh} (h:oneL s.l) {n:List Nat} {st:Int} (hs:st=3∨st=2) {k:Nat} (hk:k<s.l.length) (h1:(s.l.getD k vg0).1.name=n) (h2:(s.l.getD k vg0).1.stage=st):atN s n st=some k:=by
 unfold atN;refine (find_some _ vg0 s.l 0 k hk (decide_eq_true ⟨h1,h2⟩) (λ i hi=>decide_eq_false (λ z => ?_))).trans (by rw [Nat.zero_add]);exact h i k vg0 hi hk ⟨z.1.trans h1.symm,z.2.trans h2.symm,by rw [z.2];exact hs⟩
theorem at_is {s:Sh} {n:List Nat} {st:Int} {k:Nat} (h:atN s n st=some k):k<s.l.length/\(s.l.getD k vg0).1.name=n/\(s.l.getD k vg0).1.stage=st:=by
 obtain ⟨_,h2,h3⟩:=find_more _ s.l 0 k h;rw [Nat.sub_zero] at h2 h3
 exact ⟨h2,of_decide_eq_true (h3 vg0)⟩
theorem at_not {s:Sh} {n:List Nat} {st:Int} (h:atN s n st=none) {k:Nat} (hk:k<s.l.length) : ¬ ((s.l.getD k vg0).1.name=n/\(s.l.getD k vg0).1.stage=st):=by
 have:=find_none _ s.l 0 h (s.l.getD k vg0) (by rw [List.getD,List.getElem?_eq_getElem hk];exact List.getElem_mem hk);exact of_decide_eq_false this
theorem at_none {s:Sh} {n:List Nat} {st:Int} (h : ∀ k,k<s.l.length -> ¬ ((s.l.getD k vg0).1.name=n/\(s.l.getD k vg0).1.stage=st)):atN s n st=none:=by
 unfold atN;refine find_no _ _ _ (λ x hx=>decide_eq_false ?_);obtain ⟨j,hj,ej⟩:=mem_getD vg0 hx;rw [←ej];exact h j hj
theorem at_set {s:Sh} (h:oneL s.l) {k:Nat} {st sh:Int} (hk:k<s.l.length) (i i':Int) (ds:List Dn) (h':oneL (setV s.l k st sh)) {n:List Nat} {st':Int} (hs:st'=3∨st'=2) :
 atN ⟨i',setV s.l k st sh,ds⟩ n st'=if (s.l.getD k vg0).1.name=n then (if st=st' then some k else if atN s n st'=some k then none else atN s n st') else atN s n st':=by
 have gd : ∀ j,j<s.l.length->(setV s.l k st sh).getD j vg0=if k=j then (⟨(s.l.getD j vg0).1.name,(s.l.getD j vg0).1.num,st,sh⟩,(s.l.getD j vg0).2) else s.l.getD j vg0:=λ j hj=>getD_setV s.l k st sh hj;have ln:=len_setV s.l k st sh
 have stay:(s.l.getD k vg0).1.name≠n∨(st≠st'/\atN s n st'≠some k)->atN ⟨i',setV s.l k st sh,ds⟩ n st'=atN s n st':=λ hne=>by
  cases e:atN s n st' with
  | none =>
    refine at_none (λ j hj => ?_)
    have hj':j<s.l.length:=by rw [←ln];exact hj
    show ¬ (((setV s.l k st sh).getD j vg0).1.name=n/\((setV s.l k st sh).getD j vg0).1.stage=st');rw [gd j hj']
    by_cases q:k=j
    · rw [if_pos q]
      subst q;rintro ⟨a,b⟩
      rcases hne with z | ⟨z,_⟩
      · exact z a
      · exact z b
    · rw [if_neg q]
      exact at_not e hj'
  | some o =>
    obtain ⟨o1,o2,o3⟩:=at_is e
    have ok:k≠o:=λ z=>by
     subst z
     rcases hne with z | ⟨_,z⟩
     · exact z o2
     · exact z e
    refine at_some h' hs (by show o<(setV s.l k st sh).length;rw [ln];exact o1) ?_ ?_
    · show ((setV s.l k st sh).getD o vg0).1.name=n
      rw [gd o o1,if_neg ok];exact o2
    · show ((setV s.l k st sh).getD o vg0).1.stage=st'
      rw [gd o o1,if_neg ok];exact o3
 by_cases q:(s.l.getD k vg0).1.name=n
 · rw [if_pos q]
   by_cases q2:st=st'
   · rw [if_pos q2]
     refine at_some h' hs (by show k<(setV s.l k st sh).length;rw [ln];exact hk) ?_ ?_
     · show ((setV s.l k st sh).getD k vg0).1.name=n
       rw [gd k hk,if_pos rfl];exact q
     · show ((setV s.l k st sh).getD k vg0).1.stage=st'
       rw [gd k hk,if_pos rfl];exact q2
   · rw [if_neg q2]
     by_cases q3:atN s n st'=some k
     · rw [if_pos q3]
       refine at_none (λ j hj => ?_)
       have hj':j<s.l.length:=by rw [←ln];exact hj
       show ¬ (((setV s.l k st sh).getD j vg0).1.name=n/\((setV s.l k st sh).getD j vg0).1.stage=st');rw [gd j hj']
       by_cases z:k=j
       · rw [if_pos z]
         rintro ⟨_,b⟩;exact q2 b
       · rw [if_neg z]
         intro y;have:=at_some h hs hj' y.1 y.2;rw [q3] at this;cases this;exact z rfl
     · rw [if_neg q3]
       exact stay (.inr ⟨q2,q3⟩)
 · rw [if_neg q]
   exact stay (.inl q)
theorem at_app {s:Sh} (h:oneL s.l) {x:Vn×Gv} (h1:x.1.stage=1) (i':Int) (ds:List Dn) (n:List Nat) {st':Int} (hs:st'=3∨st'=2):atN ⟨i',s.l ++ [x],ds⟩ n st'=atN s n st':=by
 have gd : ∀ j,j<s.l.length->(s.l ++ [x]).getD j vg0=s.l.getD j vg0:=λ j hj=>by simp [List.getD,List.getElem?_append_left hj]
 cases e:atN s n st' with
 | none =>
   refine at_none (λ j hj => ?_)
   have hj':j<s.l.length+1:=by have:j<(s.l ++ [x]).length:=hj;simpa using this
   show ¬ (((s.l ++ [x]).getD j vg0).1.name=n/\((s.l ++ [x]).getD j vg0).1.stage=st')
   by_cases q:j<s.l.length
   · rw [gd j q];exact at_not e q
   · have:(s.l ++ [x]).getD j vg0=x:=by rw [show j=s.l.length by omega];simp [List.getD]
     rw [this,h1];rintro ⟨_,b⟩;omega
 | some o =>
   obtain ⟨o1,o2,o3⟩:=at_is e;refine at_some (one_app h h1) hs (by show o<(s.l ++ [x]).length;rw [List.length_append];omega) ?_ ?_
   · show ((s.l ++ [x]).getD o vg0).1.name=n
     rw [gd o o1];exact o2
   · show ((s.l ++ [x]).getD o vg0).1.stage=st'
     rw [gd o o1];exact o3
def zerL (l:List (Vn×Gv)):Prop := ∀ k,k<l.length->(l.getD k vg0).1.stage≠2->(l.getD k vg0).1.share=0
theorem zer_set {l:List (Vn×Gv)} (h:zerL l) {k:Nat} {st sh:Int} (hs:st≠2->sh=0):zerL (setV l k st sh):=by
 intro j hj;rw [len_setV] at hj;rw [getD_setV l k st sh hj]
 by_cases q:k=j
 · rw [if_pos q];exact hs
 · rw [if_neg q];exact h j hj
theorem zer_app {l:List (Vn×Gv)} (h:zerL l) {x:Vn×Gv} (hx:x.1.stage≠2->x.1.share=0):zerL (l ++ [x]):=by
 intro j hj;rw [List.length_append,List.length_singleton] at hj
 by_cases q:j<l.length
 · rw [show (l ++ [x]).getD j vg0=l.getD j vg0 by simp [List.getD,List.getElem?_append_left q]];exact h j q
 · rw [show (l ++ [x]).getD j vg0=x by rw [show j=l.length by omega];simp [List.getD]];exact hx
theorem setS_is {l:List (Vn×Gv)} {k:Nat} {st:Int} (h:(l.getD k vg0).1.share=0):setS l k st=setV l k st 0:=by
 unfold setS setV;apply List.ext_getElem (by rw [List.length_modify,List.length_modify]);intro i h1 h2;rw [List.getElem_modify,List.getElem_modify]
 by_cases q:k=i
 · subst q
   rw [List.length_modify] at h1;rw [List.getD,List.getElem?_eq_getElem h1] at h;have h':l[k].1.share=0:=h;rw [if_pos rfl,if_pos rfl,h']
 · rw [if_neg q,if_neg q]
end Go.Proofs.YtaijnacghiloaaaGreatDoor.M

namespace Go.Proofs.YtaijnacghiloaaaGreatDoor
set_option linter.unusedVariables false
def dn0:M.Dn:=⟨0,0,M.an0,0⟩
def M.was (S:M.Sh) (ses:Int):M.Dn:=match M.lastN S ses with
 | none=>dn0
 | some k=>S.done.getD k dn0
def M.cntF (S:M.Sh) (c:M.Ca):M.An×Int×M.Sh:=(if (M.act S c).2.1=0 then ⟨(M.act S c).1,S.idx+1⟩ else M.an0,(M.act S c).2.1,⟨S.idx+1,(M.act S c).2.2,M.say S.done (M.lastN S c.ses) ⟨c.ses,c.seq,if (M.act S c).2.1=0 then ⟨(M.act S c).1,S.idx+1⟩ else M.an0,(M.act S c).2.1⟩⟩)
theorem M.call_seq {c:M.Ca} (h:M.callF c=0):(1<=c.what/\c.what<=4)/\(0<=c.ses/\c.ses<=1000000)/\(1<=c.seq/\c.seq<=1000000)/\c.name.length<=12:=by
 unfold M.callF at h
 split at h
 · cases h
 · next q =>
   split at h
   · cases h
   · next q2 =>
     unfold M.timeB at q;simp only [Bool.and_eq_false_iff,decide_eq_false_iff_not] at q;have : ¬ 12<c.name.length:=λ z=>q2 (.inr z);omega
theorem M.do_is {S:M.Sh} {c:M.Ca} (h:M.callF c=0):M.shDo S c=if (M.was S c.ses).seq=c.seq then ((M.was S c.ses).ans,(M.was S c.ses).bad,S) else if c.seq<(M.was S c.ses).seq then (M.an0,6,S) else M.cntF S c:=by
 have hs:=(M.call_seq h).2.2.1;unfold M.shDo M.was M.cntF;rw [if_neg (by simp [h])]
 cases hl:M.lastN S c.ses with
 | none =>
   simp only;rw [if_neg (show ¬ (dn0.seq=c.seq) by show ¬ ((0:Int)=c.seq);omega),if_neg (show ¬ (c.seq<dn0.seq) by show ¬ (c.seq<(0:Int));omega)];rfl
 | some k=>rfl
def M.cntB (S:M.Sh) (c:M.Ca):Bool:=decide (M.callF c=0) && decide ((M.was S c.ses).seq<c.seq)
theorem M.cnt_ways (S:M.Sh) (c:M.Ca):(M.cntB S c=true/\M.callF c=0/\(M.was S c.ses).seq<c.seq)∨(M.cntB S c=false/\(M.callF c≠0∨(M.was S c.ses).seq=c.seq∨c.seq<(M.was S c.ses).seq)):=by
 by_cases h1:M.callF c=0
 · by_cases h2:(M.was S c.ses).seq<c.seq
   · exact .inl ⟨by unfold M.cntB;rw [decide_eq_true h1,decide_eq_true h2];rfl,h1,h2⟩
   · exact .inr ⟨by unfold M.cntB;rw [decide_eq_false h2,Bool.and_false], .inr (by omega)⟩
 · exact .inr ⟨by unfold M.cntB;rw [decide_eq_false h1,Bool.false_and], .inl h1⟩
theorem M.cnt_do_is {S:M.Sh} {c:M.Ca} (h:M.cntB S c=true):M.shDo S c=M.cntF S c:=by
 rcases M.cnt_ways S c with ⟨_,h1,h2⟩ | ⟨h1,_⟩
 · rw [M.do_is h1,if_neg (by omega),if_neg (by omega)]
 · rw [h] at h1;cases h1
theorem M.cnt_no {S:M.Sh} {c:M.Ca} (h:M.cntB S c=false):(M.shDo S c).2.2=S:=by
 rcases M.cnt_ways S c with ⟨h1,_⟩ | ⟨_,h1⟩
 · rw [h] at h1;cases h1
 · by_cases f:M.callF c=0
   · rw [M.do_is f]
     rcases h1 with z | z | z
     · exact absurd f z
     · rw [if_pos z]
     · by_cases y:(M.was S c.ses).seq=c.seq
       · rw [if_pos y]
       · rw [if_neg y,if_pos z]
   · unfold M.shDo;rw [if_pos f]
def M.shAll (S:M.Sh):List M.Ca->M.Sh
 | []=>S
 | c :: l=>M.shAll (M.shDo S c).2.2 l
theorem M.shAll_app (S:M.Sh) : ∀ (l m:List M.Ca),M.shAll S (l ++ m)=M.shAll (M.shAll S l) m
 | [],_=>rfl
 | c :: l,m=>M.shAll_app (M.shDo S c).2.2 l m
theorem M.shAll_idx : ∀ (l:List M.Ca) (S:M.Sh),M.ShOk S->(M.shAll S l).idx<=S.idx+l.length/\M.ShOk (M.shAll S l)
 | [],S,h=>⟨by show S.idx<=S.idx+0;omega,h⟩
 | c :: l,S,h=>by
   have k:=M.do_ok h c;have a:=M.shAll_idx l (M.shDo S c).2.2 k.1
   refine ⟨?_,a.2⟩
   have b:=k.2.2.2
   have e:((c :: l).length:Int)=(l.length:Int)+1:=by rw [List.length_cons];omega
   show (M.shAll (M.shDo S c).2.2 l).idx<=_;omega
theorem M.sh0_all (l:List M.Ca):(M.shAll M.sh0 l).idx<=l.length:=by
 have:=(M.shAll_idx l M.sh0 M.ok_zero).1;have e:M.sh0.idx=0:=rfl;omega
theorem M.find_put {α:Type} (p:α->Bool) (x:α) (d:α) (hx:p x=true) (l:List α):M.findN p (M.findN p l 0 |>.elim (l ++ [x]) (λ k=>l.set k x)) 0=some ((M.findN p l 0).getD l.length)/\((M.findN p l 0).elim (l ++ [x]) (λ k=>l.set k x)).getD ((M.findN p l 0).getD l.length) d=x:=by
 cases h:M.findN p l 0 with
 | none =>
   refine ⟨?_, ?_⟩
   · have:=M.find_app p x hx l 0 h
     rw [Nat.zero_add] at this;exact this
   · show (l ++ [x]).getD l.length d=x
     simp [List.getD]
 | some k =>
   have m:=M.find_more p l 0 k h;have s:=M.find_set p x hx l 0 k h;rw [Nat.sub_zero] at s m
   refine ⟨s, ?_⟩
   show (l.set k x).getD k d=x;simp [List.getD,m.2.1]
theorem M.say_is (done:List M.Dn) (o:Option Nat) (d:M.Dn):M.say done o d=o.elim (done ++ [d]) (λ k=>done.set k d):=by cases o <;> rfl
theorem M.was_cnt (S:M.Sh) (c:M.Ca):M.was (M.cntF S c).2.2 c.ses=⟨c.ses,c.seq,if (M.act S c).2.1=0 then ⟨(M.act S c).1,S.idx+1⟩ else M.an0,(M.act S c).2.1⟩:=by
 obtain ⟨x,hx⟩ : ∃ x:M.Dn,x=⟨c.ses,c.seq,if (M.act S c).2.1=0 then ⟨(M.act S c).1,S.idx+1⟩ else M.an0,(M.act S c).2.1⟩:=⟨_,rfl⟩
 rw [←hx]
 have e:M.lastN (M.cntF S c).2.2 c.ses=some ((M.lastN S c.ses).getD S.done.length)/\(M.cntF S c).2.2.done.getD ((M.lastN S c.ses).getD S.done.length) dn0=x:=by
  have:=M.find_put (λ d:M.Dn=>decide (d.ses=c.ses)) x dn0 (by rw [hx];simp) S.done
  have e2:(M.cntF S c).2.2.done=(M.lastN S c.ses).elim (S.done ++ [x]) (λ k=>S.done.set k x):=by
   show M.say S.done _ _=_;rw [M.say_is,hx]
  unfold M.lastN at this e2 ⊢;rw [e2];exact this
 unfold M.was;rw [e.1];exact e.2
end Go.Proofs.YtaijnacghiloaaaGreatDoor

namespace Go.Proofs.YtaijnacghiloaaaGreatDoor.M
set_option linter.unusedVariables false
def sixL (c:Ca):List Int := [c.what,c.ses,c.seq,c.num,c.share,(c.name.length:Int)]
def bodL (c:Ca):List Nat:=bysL (sixL c) ++ c.name ++ c.bys
def recL (c:Ca):List Nat:=numL ((bodL c).length:Int) ++ bodL c
def recs (l:List Ca):List Nat:=l.flatMap recL
theorem recs_app (a b:List Ca):recs (a ++ b)=recs a ++ recs b:=by unfold recs;rw [List.flatMap_append]
theorem recs_cons (c:Ca) (l:List Ca):recs (c :: l)=recL c ++ recs l:=rfl
theorem recs_one (c:Ca):recs [c]=recL c:=by rw [recs_cons];show recL c ++ []=_;rw [List.append_nil]
def rngF (c:Ca):Bool:=decide (1<=c.what) && decide (c.what<=4) && timeB c.ses && timeB c.seq && timeB c.num && timeB c.share
structure CaOk (c:Ca):Prop where
 rng:rngF c=true
 nl:c.name.length<=100
 bl:c.bys.length<=6000
 nb : ∀ x∈c.name,x<256
 bb : ∀ x∈c.bys,x<256
theorem time_in {n:Int} (h:timeB n=true):0<=n/\n<=1000000:=by
 unfold timeB at h;rw [Bool.and_eq_true,decide_eq_true_iff,decide_eq_true_iff] at h;exact h
theorem rng_in {c:Ca} (h:rngF c=true):(1<=c.what/\c.what<=4)/\(0<=c.ses/\c.ses<=1000000)/\(0<=c.seq/\c.seq<=1000000)/\(0<=c.num/\c.num<=1000000)/\(0<=c.share/\c.share<=1000000):=by
 unfold rngF at h;simp only [Bool.and_eq_true,decide_eq_true_iff] at h
 exact ⟨h.1.1.1.1,time_in h.1.1.1.2,time_in h.1.1.2,time_in h.1.2,time_in h.2⟩
theorem CaOk.six {c:Ca} (h:CaOk c) : ∀ x∈sixL c,0<=x/\x<=1000000:=by
 have r:=rng_in h.rng;have n:=h.nl;intro x hx;unfold sixL at hx;simp only [List.mem_cons,List.not_mem_nil,or_false] at hx
 rcases hx with e | e | e | e | e | e <;> omega
theorem CaOk.i64 {c:Ca} (h:CaOk c) : ∀ x∈sixL c,I64 x:=λ x hx=>by
 have:=h.six x hx;unfold I64;omega
theorem CaOk.body_le {c:Ca} (h:CaOk c):(bodL c).length<=6160:=by
 have a:=bys_len (sixL c) h.i64;have n:=h.nl;have b:=h.bl;have e:(sixL c).length=6:=rfl;unfold bodL;rw [List.length_append,List.length_append];omega
theorem CaOk.num_in {c:Ca} (h:CaOk c) : -9223372036854775808<=((bodL c).length:Int)/\((bodL c).length:Int)<=9223372036854775807:=by
 have:=h.body_le;omega
theorem CaOk.rec_le {c:Ca} (h:CaOk c):1<=(recL c).length/\(recL c).length<=6170:=by
 have a:=num_len h.num_in.1 h.num_in.2;have b:=h.body_le;unfold recL;rw [List.length_append];omega
theorem CaOk.body_byte {c:Ca} (h:CaOk c) : ∀ x∈bodL c,x<256:=λ x hx=>by
 unfold bodL at hx
 rcases List.mem_append.1 hx with q | q
 · rcases List.mem_append.1 q with q | q
   · exact bys_byte _ x q
   · exact h.nb x q
 · exact h.bb x q
theorem CaOk.rec_byte {c:Ca} (h:CaOk c) : ∀ x∈recL c,x<256:=λ x hx=>by
 unfold recL at hx
 rcases List.mem_append.1 hx with q | q
 · exact sev_byte _ x q
 · exact h.body_byte x q
theorem recs_byte : ∀ l:List Ca,(∀ c∈l,CaOk c) -> ∀ x∈recs l,x<256
 | [],_,x,hx=>by cases hx
 | c :: l,h,x,hx=>by
   rw [recs_cons] at hx
   rcases List.mem_append.1 hx with q | q
   · exact (h c (List.mem_cons_self ..)).rec_byte x q
   · exact recs_byte l (λ d hd=>h d (List.mem_cons_of_mem _ hd)) x q
def Short (b:List Nat):Prop:=(getL b).2.2≠0∨(b.length:Int)-((getL b).2.1:Int)<(getL b).1
theorem get_rec {c:Ca} (h:CaOk c) (r:List Nat):getL (recL c ++ r)=(((bodL c).length:Int),(numL ((bodL c).length:Int)).length,0):=by
 unfold recL;rw [List.append_assoc];exact get_num h.num_in.1 h.num_in.2 _
theorem rec_drop {c:Ca} (r:List Nat):(recL c ++ r).drop (numL ((bodL c).length:Int)).length=bodL c ++ r:=by
 unfold recL;rw [List.append_assoc,List.drop_left]
theorem short_cut {c:Ca} (h:CaOk c) {k:Nat} (hk:k<(recL c).length):Short ((recL c).take k):=by
 have nl:=num_len h.num_in.1 h.num_in.2
 have rl:(recL c).length=(numL ((bodL c).length:Int)).length+(bodL c).length:=by unfold recL;rw [List.length_append]
 unfold Short
 by_cases q:k<(numL ((bodL c).length:Int)).length
 · left
   have e:(recL c).take k=(numL ((bodL c).length:Int)).take k:=by
    unfold recL;rw [List.take_append_of_le_length (by omega)]
   rw [e,get_cut h.num_in.1 h.num_in.2 q];decide
 · right
   have e:(recL c).take k=numL ((bodL c).length:Int) ++ (bodL c).take (k-(numL ((bodL c).length:Int)).length):=by
    unfold recL;rw [List.take_append,List.take_of_length_le (by omega)]
   have el:((recL c).take k).length=k:=by rw [List.length_take];omega
   rw [el]
   have g:getL ((recL c).take k)=(((bodL c).length:Int),(numL ((bodL c).length:Int)).length,0):=by rw [e,get_num h.num_in.1 h.num_in.2]
   rw [g];show (k:Int)-((numL ((bodL c).length:Int)).length:Int)<((bodL c).length:Int);omega
def TailOk (b:List Nat):Prop := ∃ c k,CaOk c/\k<(recL c).length/\b=(recL c).take k
theorem TailOk.short {b:List Nat} (h:TailOk b):Short b:=by
 obtain ⟨c,k,a,hk,rfl⟩:=h;exact short_cut a hk
theorem TailOk.byte {b:List Nat} (h:TailOk b) : ∀ x∈b,x<256:=by
 obtain ⟨c,k,a,hk,rfl⟩:=h;intro x hx;exact a.rec_byte x (List.mem_of_mem_take hx)
theorem TailOk.len {b:List Nat} (h:TailOk b):b.length<=6170:=by
 obtain ⟨c,k,a,hk,rfl⟩:=h;have:=a.rec_le;rw [List.length_take];omega
theorem TailOk.cut {b:List Nat} (h:TailOk b) (n:Nat):TailOk (b.take n):=by
 obtain ⟨c,k,a,hk,rfl⟩:=h
 exact ⟨c,min n k,a,by omega,by rw [List.take_take]⟩
def caR:Ca:=⟨1,0,0, [],0,0, []⟩
theorem caR_ok:CaOk caR:=⟨by decide,by decide,by decide,(λ x hx=>by cases hx),(λ x hx=>by cases hx)⟩
theorem tail_nil:TailOk []:=⟨caR,0,caR_ok,caR_ok.rec_le.1,rfl⟩
def fitN:List Ca->Nat->Nat
 | [],_=>0
 | c :: l,n=>if (recL c).length<=n then fitN l (n-(recL c).length)+1 else 0
theorem fitN_le : ∀ (l:List Ca) (n:Nat),fitN l n<=l.length
 | [],_=>Nat.le_refl _
 | c :: l,n=>by
   have:=fitN_le l (n-(recL c).length);unfold fitN
   split
   · rw [List.length_cons];omega
   · exact Nat.zero_le _
theorem fitN_all : ∀ (l:List Ca) (n:Nat),(recs l).length<=n->fitN l n=l.length
 | [],_,_=>rfl
 | c :: l,n,h=>by
   rw [recs_cons,List.length_append] at h;unfold fitN;rw [if_pos (by omega),fitN_all l _ (by omega),List.length_cons]
theorem cut_at : ∀ (l:List Ca) (t:List Nat) (n:Nat),(∀ c∈l,CaOk c)->TailOk t->(recs (l.take (fitN l n))).length<=n /\ ∃ t',TailOk t'/\(recs l ++ t).take n=recs (l.take (fitN l n)) ++ t'/\((recs l).length<=n->t'=t.take (n-(recs l).length))
 | [],t,n,_,ht=>by
   refine ⟨Nat.zero_le _,t.take n,ht.cut n, ?_,λ _ => ?_⟩
   · show t.take n = [] ++ _
     rw [List.nil_append]
   · show _=t.take (n-0)
     rw [Nat.sub_zero]
 | c :: l,t,n,h,ht=>by
   by_cases q:(recL c).length<=n
   · obtain ⟨a,t',b1,b2,b3⟩:=cut_at l t (n-(recL c).length) (λ d hd=>h d (List.mem_cons_of_mem _ hd)) ht
     have e:fitN (c :: l) n=fitN l (n-(recL c).length)+1:=by show (if _ then _ else _)=_;rw [if_pos q]
     rw [e,List.take_succ_cons,recs_cons,recs_cons]
     refine ⟨by rw [List.length_append];omega,t',b1, ?_,λ z => ?_⟩
     · rw [List.append_assoc,List.take_append,List.take_of_length_le q,b2,List.append_assoc]
     · rw [List.length_append] at z ⊢
       rw [b3 (by omega)]
       congr 1
       omega
   · have e:fitN (c :: l) n=0:=by show (if _ then _ else _)=_;rw [if_neg q]
     rw [e]
     refine ⟨Nat.zero_le _,(recL c).take n,⟨c,n,h c (List.mem_cons_self ..),by omega,rfl⟩, ?_,λ z => ?_⟩
     · show _ = [] ++ _
       rw [recs_cons,List.append_assoc,List.take_append_of_le_length (by omega),List.nil_append]
     · rw [recs_cons,List.length_append] at z
       omega
theorem recs_drop {l:List Ca} {k:Nat} (hk:k<l.length):recs (l.drop k)=recL l[k] ++ recs (l.drop (k+1)):=by
 rw [List.drop_eq_getElem_cons hk,recs_cons]
theorem recs_split (l:List Ca) (k:Nat):recs l=recs (l.take k) ++ recs (l.drop k):=by
 rw [←recs_app,List.take_append_drop]
structure Lg where
 calls:List Ca
 tail:List Nat
 safe:Nat
 ahead:Int
 stop:Bool
def Lg.bytes (L:Lg):List Nat:=recs L.calls ++ L.tail
def Lg.whole (L:Lg):Nat:=(recs L.calls).length
structure LgOk (L:Lg):Prop where
 ok : ∀ c∈L.calls,CaOk c
 tl:TailOk L.tail
 wh:L.whole<=100000
 sf:L.safe<=L.bytes.length
 ah:I64 L.ahead
theorem LgOk.len {L:Lg} (h:LgOk L):L.whole<=L.bytes.length/\L.bytes.length<=106170:=by
 have a:=h.tl.len;have b:=h.wh;unfold Lg.bytes;unfold Lg.whole at b ⊢;rw [List.length_append];omega
theorem LgOk.byte {L:Lg} (h:LgOk L) : ∀ x∈L.bytes,x<256:=λ x hx=>by
 unfold Lg.bytes at hx
 rcases List.mem_append.1 hx with q | q
 · exact recs_byte _ h.ok x q
 · exact h.tl.byte x q
theorem dec_in {a:Int} (h:I64 a):I64 (if 0<a then a-1 else a):=by
 unfold I64 at *
 by_cases q:0<a
 · rw [if_pos q];omega
 · rw [if_neg q];exact h
def lg0:Lg:=⟨[], [],0, -1,false⟩
theorem lg0_ok:LgOk lg0:=⟨(λ c hc=>by cases hc),tail_nil,by decide,by decide,by unfold I64 lg0;decide⟩
def stpF (L:Lg):Bool:=L.stop || decide (L.ahead=0)
def stpL (L:Lg):Lg:=⟨L.calls,L.tail,L.safe,if stpF L=true then L.ahead else if 0<L.ahead then L.ahead-1 else L.ahead,stpF L⟩
theorem stp_ok {L:Lg} (h:LgOk L):LgOk (stpL L):=⟨h.ok,h.tl,h.wh,h.sf,by
 unfold stpL
 by_cases q:stpF L=true
 · simp only [if_pos q];exact h.ah
 · simp only [if_neg q];exact dec_in h.ah⟩
def cutG (L:Lg) (n:Nat):Lg:=⟨L.calls.take (fitN L.calls n),(L.bytes.take n).drop (recs (L.calls.take (fitN L.calls n))).length,min L.safe n,L.ahead,L.stop⟩
theorem cutG_tail {L:Lg} (h:LgOk L) (n:Nat):TailOk (cutG L n).tail/\(cutG L n).bytes=L.bytes.take n:=by
 obtain ⟨a,t',b1,b2,b3⟩:=cut_at L.calls L.tail n h.ok h.tl
 have e:(cutG L n).tail=t':=by
  show ((recs L.calls ++ L.tail).take n).drop _=_;rw [b2,List.drop_left]
 rw [e]
 refine ⟨b1, ?_⟩
 show recs (L.calls.take (fitN L.calls n)) ++ (cutG L n).tail=(recs L.calls ++ L.tail).take n;rw [e,b2]
theorem cutG_ok {L:Lg} (h:LgOk L) (n:Nat) (hn:n<=L.bytes.length):LgOk (cutG L n):=by
 obtain ⟨t1,t2⟩:=cutG_tail h n
 refine ⟨λ c hc=>h.ok c (List.mem_of_mem_take hc),t1, ?_, ?_,h.ah⟩
 · have w:=h.wh
   have e:=recs_split L.calls (fitN L.calls n);have e2:=congrArg List.length e;rw [List.length_append] at e2;show (recs (L.calls.take (fitN L.calls n))).length<=_;unfold Lg.whole at w;omega
 · rw [t2,List.length_take]
   show min L.safe n<=_;have:=h.sf;omega
theorem cutG_whole {L:Lg} (h:LgOk L):cutG L L.whole=⟨L.calls, [],min L.safe L.whole,L.ahead,L.stop⟩:=by
 have f:fitN L.calls L.whole=L.calls.length:=fitN_all _ _ (Nat.le_refl _);unfold cutG;rw [f,List.take_length]
 have e:(L.bytes.take L.whole).drop (recs L.calls).length = []:=List.drop_eq_nil_of_le (by
  rw [List.length_take];show min (recs L.calls).length _<=_
  omega)
 rw [e]
theorem cutG_more {L:Lg} (h:LgOk L) {n:Nat} (hn:L.whole<=n):(cutG L n).whole=L.whole:=by
 show (recs (L.calls.take (fitN L.calls n))).length=_;rw [fitN_all _ _ hn,List.take_length];rfl
def apF (L:Lg) (c:Ca):Int:=if rngF c=false then 1 else if 100<c.name.length∨6000<c.bys.length∨100000<L.whole+(recL c).length then 4 else if stpF L=true then 9 else 0
def apL (L:Lg) (c:Ca):Lg:=if apF L c=1∨apF L c=4∨L.stop=true then L else if L.ahead=0 then ⟨L.calls,(recL c).take ((recL c).length / 2),min L.safe L.whole,L.ahead,true⟩ else ⟨L.calls ++ [c], [],min L.safe L.whole,if 0<L.ahead then L.ahead-1 else L.ahead,L.stop⟩
def crN (L:Lg) (keep:Int):Nat:=L.safe+min keep.toNat (L.bytes.length-L.safe)
def crL (L:Lg) (keep:Int):Lg:=⟨(cutG L (crN L keep)).calls,(cutG L (crN L keep)).tail,(cutG L (crN L keep)).bytes.length, -1,false⟩
def syF (L:Lg):Int:=if stpF L=true then 9 else 0
def syL (L:Lg):Lg:=if stpF L=true then stpL L else ⟨L.calls,L.tail,L.bytes.length,(stpL L).ahead,false⟩
theorem crN_le {L:Lg} (h:LgOk L) (keep:Int):L.safe<=crN L keep/\crN L keep<=L.bytes.length:=by
 have:=h.sf;unfold crN;omega
theorem cr_ok {L:Lg} (h:LgOk L) (keep:Int):LgOk (crL L keep):=by
 have a:=cutG_ok h (crN L keep) (crN_le h keep).2
 exact ⟨a.ok,a.tl,a.wh,Nat.le_refl _,⟨(by decide:(-9223372036854775808:Int) <= -1),(by decide:(-1:Int)<=9223372036854775807)⟩⟩
theorem sy_ok {L:Lg} (h:LgOk L):LgOk (syL L):=by
 unfold syL
 split
 · exact stp_ok h
 · exact ⟨h.ok,h.tl,h.wh,Nat.le_refl _,(stp_ok h).ah⟩
theorem ca_ok {L:Lg} {c:Ca} (h1:apF L c≠1) (h4:apF L c≠4) (nb : ∀ x∈c.name,x<256) (bb : ∀ x∈c.bys,x<256):CaOk c/\L.whole+(recL c).length<=100000/\apF L c=if stpF L=true then 9 else 0:=by
 unfold apF at *
 by_cases q:rngF c=false
 · rw [if_pos q] at h1;exact absurd rfl h1
 · rw [if_neg q] at h1 h4 ⊢
   by_cases z:100<c.name.length∨6000<c.bys.length∨100000<L.whole+(recL c).length
   · rw [if_pos z] at h4;exact absurd rfl h4
   · rw [if_neg z]
     exact ⟨⟨by simpa using q,by omega,by omega,nb,bb⟩,by omega,rfl⟩
theorem ap_ok {L:Lg} (h:LgOk L) {c:Ca} (nb : ∀ x∈c.name,x<256) (bb : ∀ x∈c.bys,x<256):LgOk (apL L c):=by
 unfold apL
 by_cases q:apF L c=1∨apF L c=4∨L.stop=true
 · rw [if_pos q];exact h
 · rw [if_neg q]
   obtain ⟨k1,k2,k3⟩:=ca_ok (L:=L) (c:=c) (λ e=>q (.inl e)) (λ e=>q (.inr (.inl e))) nb bb;have rl:=k1.rec_le;have ah:=h.ah
   by_cases z:L.ahead=0
   · rw [if_pos z]
     refine ⟨h.ok,⟨c,_,k1,by omega,rfl⟩,h.wh, ?_,h.ah⟩
     show min L.safe L.whole<=(recs L.calls ++ _).length;rw [List.length_append];unfold Lg.whole;omega
   · rw [if_neg z]
     have we:(recs (L.calls ++ [c])).length=L.whole+(recL c).length:=by rw [recs_app,recs_one,List.length_append];rfl
     refine ⟨λ d hd => ?_,tail_nil, ?_, ?_, ?_⟩
     · rcases List.mem_append.1 hd with y | y
       · exact h.ok d y
       · rw [List.mem_singleton] at y;subst y;exact k1
     · show (recs (L.calls ++ [c])).length<=_
       rw [we];exact k2
     · show min L.safe L.whole<=(recs (L.calls ++ [c]) ++ []).length
       rw [List.append_nil,we];omega
     · exact dec_in h.ah
def JS (after:Int) (L:Lg) (n:Nat):Prop:=L.stop=false->(after<0/\L.ahead=after)∨(0<=after/\(n:Int)<=after/\L.ahead=after-n)
theorem JS.lost {after:Int} {L:Lg} {n:Nat} (h:JS after L n):stpF L=(L.stop || (decide (0<=after) && decide ((n:Int)=after))):=by
 unfold stpF
 cases hs:L.stop with
 | true=>rfl
 | false =>
   rw [Bool.false_or,Bool.false_or]
   rcases h hs with ⟨a,b⟩ | ⟨a,b,c⟩
   · rw [decide_eq_false (by omega : ¬ L.ahead=0),decide_eq_false (by omega : ¬ 0<=after),Bool.false_and]
   · rw [decide_eq_true a,Bool.true_and]
     exact decide_eq_decide.2 (by omega)
theorem JS.ways {after:Int} {L:Lg} {n:Nat} (h:JS after L n):(L.stop=true/\stpF L=true)∨(L.stop=false/\decide (0<=after)=false/\stpF L=false)∨(L.stop=false/\decide (0<=after)=true/\((n:Int) == after)=true/\stpF L=true)∨(L.stop=false/\decide (0<=after)=true/\((n:Int) == after)=false/\stpF L=false):=by
 have e:=h.lost
 cases hs:L.stop with
 | true=>exact .inl ⟨rfl,by rw [e,hs];rfl⟩
 | false =>
   rw [hs,Bool.false_or] at e
   by_cases q:0<=after
   · rw [decide_eq_true q,Bool.true_and] at e
     by_cases z:(n:Int)=after
     · exact .inr (.inr (.inl ⟨rfl,decide_eq_true q,beq_iff_eq.2 z,by rw [e];exact decide_eq_true z⟩))
     · exact .inr (.inr (.inr ⟨rfl,decide_eq_true q,beq_eq_false_iff_ne.2 z,by rw [e];exact decide_eq_false z⟩))
   · exact .inr (.inl ⟨rfl,decide_eq_false q,by rw [e,decide_eq_false q];rfl⟩)
theorem ap_step {L:Lg} {c:Ca} (h1:apF L c≠1) (h4:apF L c≠4):(apF L c=if stpF L=true then 9 else 0)/\(apL L c).stop=stpF L/\(stpF L=false->(apL L c).ahead=(stpL L).ahead):=by
 have e:apF L c=if stpF L=true then 9 else 0:=by
  unfold apF at *
  by_cases q:rngF c=false
  · rw [if_pos q] at h1;exact absurd rfl h1
  · rw [if_neg q] at h4 ⊢
    by_cases z:100<c.name.length∨6000<c.bys.length∨100000<L.whole+(recL c).length
    · rw [if_pos z] at h4;exact absurd rfl h4
    · rw [if_neg z]
 refine ⟨e, ?_⟩
 unfold apL
 by_cases hs:L.stop=true
 · rw [if_pos (.inr (.inr hs))]
   have:stpF L=true:=by unfold stpF;rw [hs];rfl
   exact ⟨hs.trans this.symm,λ z=>by rw [this] at z;cases z⟩
 · have hs':L.stop=false:=by simpa using hs
   rw [if_neg (λ z=>z.elim h1 (λ y=>y.elim h4 hs))]
   by_cases a0:L.ahead=0
   · rw [if_pos a0]
     have:stpF L=true:=by unfold stpF;rw [decide_eq_true a0,Bool.or_true]
     exact ⟨this.symm,λ z=>by rw [this] at z;cases z⟩
   · rw [if_neg a0]
     have:stpF L=false:=by unfold stpF;rw [hs',decide_eq_false a0];rfl
     refine ⟨hs'.trans this.symm,λ _ => ?_⟩
     unfold stpL;simp only [this,Bool.false_eq_true,if_false]
def KS (L:Lg) (s:Nat):Prop:=s<=L.calls.length/\(recs (L.calls.take s)).length<=L.safe
theorem recs_take_le (l:List Ca) (k:Nat):(recs (l.take k)).length<=(recs l).length:=by
 have:=congrArg List.length (recs_split l k);rw [List.length_append] at this;omega
theorem ap_calls {L:Lg} {c:Ca} (nz:apF L c≠0):(apL L c).calls=L.calls:=by
 unfold apL
 by_cases q:apF L c=1∨apF L c=4∨L.stop=true
 · rw [if_pos q]
 · rw [if_neg q]
   by_cases z:L.ahead=0
   · rw [if_pos z]
   · exfalso
     refine nz ?_;have h:=(ap_step (L:=L) (c:=c) (λ e=>q (.inl e)) (λ e=>q (.inr (.inl e)))).1;rw [h,if_neg];unfold stpF;rw [decide_eq_false z]
     cases hs:L.stop with
     | true=>exact absurd (.inr (.inr hs)) q
     | false=>decide
theorem ap_push {L:Lg} {c:Ca} (z:apF L c=0):apL L c=⟨L.calls ++ [c], [],min L.safe L.whole,if 0<L.ahead then L.ahead-1 else L.ahead,L.stop⟩:=by
 have h:=(ap_step (L:=L) (c:=c) (by omega) (by omega)).1
 have f : ¬ stpF L=true:=λ e=>by rw [if_pos e] at h;omega
 unfold stpF at f;rw [Bool.or_eq_true,decide_eq_true_iff] at f;unfold apL;rw [if_neg (by rw [z];intro y;rcases y with y | y | y;cases y;cases y;exact f (.inl y)),if_neg (λ e=>f (.inr e))]
theorem KS.ap {L:Lg} {s:Nat} (h:KS L s) (c:Ca):KS (apL L c) s:=by
 obtain ⟨h1,h2⟩:=h;have w:(recs (L.calls.take s)).length<=L.whole:=recs_take_le _ _
 by_cases z:apF L c=0
 · rw [ap_push z]
   refine ⟨by show s<=(L.calls ++ [c]).length;rw [List.length_append];omega, ?_⟩
   show (recs ((L.calls ++ [c]).take s)).length<=min L.safe L.whole;rw [List.take_append_of_le_length h1];omega
 · refine ⟨by rw [ap_calls z];exact h1, ?_⟩
   rw [ap_calls z];unfold apL
   by_cases q:apF L c=1∨apF L c=4∨L.stop=true
   · rw [if_pos q];exact h2
   · rw [if_neg q]
     by_cases a0:L.ahead=0
     · rw [if_pos a0];show _<=min L.safe L.whole;omega
     · rw [if_neg a0];show _<=min L.safe L.whole;omega
theorem sy_calls (L:Lg):(syL L).calls=L.calls:=by unfold syL;split <;> rfl
theorem KS.sy {L:Lg} {s:Nat} (h:KS L s) (ok:LgOk L):KS (syL L) s:=by
 refine ⟨by rw [sy_calls];exact h.1, ?_⟩
 rw [sy_calls];unfold syL
 split
 · exact h.2
 · show _<=L.bytes.length
   have a:=ok.sf;have b:=h.2;omega
theorem KS.sy0 {L:Lg} (z:syF L=0) (ok:LgOk L):KS (syL L) L.calls.length:=by
 refine ⟨by rw [sy_calls];exact Nat.le_refl _, ?_⟩
 rw [sy_calls,List.take_length]
 have f : ¬ stpF L=true:=λ e=>by unfold syF at z;rw [if_pos e] at z;cases z
 unfold syL;rw [if_neg f];exact ok.len.1
theorem fitN_ge : ∀ (l:List Ca) (s n:Nat),s<=l.length->(recs (l.take s)).length<=n->s<=fitN l n
 | _,0,_,_,_=>Nat.zero_le _
 | [],s+1,_,h,_=>by simp at h
 | c :: l,s+1,n,h,hn=>by
   rw [List.take_succ_cons,recs_cons,List.length_append] at hn;unfold fitN;rw [if_pos (by omega)];have:=fitN_ge l s (n-(recL c).length) (by simpa using h) (by omega);omega
theorem cr_calls (L:Lg) (keep:Int):(crL L keep).calls=L.calls.take (fitN L.calls (crN L keep)):=rfl
theorem KS.cr {L:Lg} {s:Nat} (h:KS L s) (ok:LgOk L) (keep:Int):s<=(crL L keep).calls.length/\(crL L keep).calls.length<=L.calls.length:=by
 have a:=fitN_ge L.calls s (crN L keep) h.1 (Nat.le_trans h.2 (crN_le ok keep).1);rw [cr_calls,List.length_take];have:=h.1;omega
end Go.Proofs.YtaijnacghiloaaaGreatDoor.M
