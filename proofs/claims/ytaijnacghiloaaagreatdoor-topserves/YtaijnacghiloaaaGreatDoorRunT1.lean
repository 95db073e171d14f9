/-
  Several texts as one: MathC, Base, GrownW, StayB, ByCells, ByStr, BySlice, CdUnf, CdP, CdGet, NewKept, Wraps, TakeR, CdFold, CdAdd, CdPN, GroIn, OpenB.
-/
import Derived.Test.YtaijnacghiloaaaGreatDoorRunT0
import Derived.Lib.SlicesCompact
import Derived.Test.YtaijnacghiloaaaGreatDoorProg
import Derived.WalkKit
import Derived.ProofKit
import Derived.OpenShut
import Derived.Below
import Derived.Laws.OwnMore
import Derived.Deep.Draws
import Derived.OwnWalk
import Derived.Laws.AppendOwnNone
import Derived.Laws.BytesString
import Derived.Laws.Cells
import Derived.Laws.BitsAllLaws
import Derived.Laws.DeepNot64
import Derived.Deep.RegionHeld3
import Derived.Deep.AppendLies
import Derived.Deep.Cut
import Derived.Deep.CutRange
import Derived.ChangeSlices
import Derived.SizedLaws
namespace Go.Proofs.YtaijnacghiloaaaGreatDoor.M
set_option linter.unusedVariables false
def outI (x:Int):Bool:=decide (x < -1000000) || decide (1000000<x)
theorem out_false {x:Int} (h:outI x=false) : -1000000<=x/\x<=1000000:=by unfold outI at h;simp at h;omega
def badI:Option Int->List Int->Int
 | _, []=>0
 | none,x :: t=>if outI x then 1 else badI (some x) t
 | some y,x :: t=>if outI x then 1 else if x<=y then 3 else badI (some x) t
def prevI (l:List Int) (k:Nat):Option Int:=if k=0 then none else some (l.getD (k-1) 0)
def badFrom (l:List Int) (k:Nat):Int:=badI (prevI l k) (l.drop k)
theorem prev_succ (l:List Int) (k:Nat) (h:k<l.length):prevI l (k+1)=some l[k]:=by
 unfold prevI;rw [if_neg (by omega)];simp [List.getD,List.getElem?_eq_getElem h]
theorem badFrom_fall (l:List Int) (j:Nat) (h:j+1<l.length) (ho:outI l[j+1]=false) (hf:l[j+1]<=l[j]):badFrom l (j+1)=3:=by
 unfold badFrom;rw [List.drop_eq_getElem_cons h,prev_succ l j (by omega)];simp [badI,ho,hf]
theorem uniq_inv (d:Array Int) (hs : ∀ i,i+1<d.size->d[i]! <= d[i+1]!) : ∀ m,m<=d.size ->
 (Lib.compactUpTo d m).Pairwise (λ a b=>a<b)/\(∀ x∈Lib.compactUpTo d m,0<m/\x<=d[m-1]!)/\(∀ j,j<m->d[j]! ∈ Lib.compactUpTo d m)/\(∀ x∈Lib.compactUpTo d m, ∃ j,j<m/\x=d[j]!):=by
 intro m
 induction m with
 | zero=>intro _;simp [Lib.compactUpTo]
 | succ m ih =>
   intro hm;obtain ⟨h1,h2,h3,h4⟩:=ih (by omega);rw [Lib.compactUpTo_succ]
   cases hk:Lib.keeps d m with
   | false =>
     have hk' : ¬ (m=0∨d[m]! ≠ d[m-1]!):=by simpa [Lib.keeps] using hk
     have hm0:0<m:=by omega
     have he:d[m]! = d[m-1]! := by
      by_cases h:d[m]! = d[m-1]!
      · exact h
      · exact absurd (Or.inr h) hk'
     simp only [Bool.false_eq_true,if_false,List.append_nil,Nat.add_sub_cancel]
     refine ⟨h1,λ x hx=>⟨by omega,by rw [he];exact (h2 x hx).2⟩,λ j hj => ?_,λ x hx => ?_⟩
     · by_cases hjm:j<m
       · exact h3 j hjm
       · have:j=m:=by omega
         subst this;rw [he];exact h3 (j-1) (by omega)
     · obtain ⟨j,hj,e⟩:=h4 x hx;exact ⟨j,by omega,e⟩
   | true =>
     have hk':m=0∨d[m]! ≠ d[m-1]! := by simpa [Lib.keeps] using hk
     have hlt : ∀ x∈Lib.compactUpTo d m,x<d[m]! := by
      intro x hx;obtain ⟨hp,hle⟩:=h2 x hx;have h5:=hs (m-1) (by omega);rw [show m-1+1=m by omega] at h5
      rcases hk' with h | h
      · omega
      · omega
     simp only [if_true,Nat.add_sub_cancel]
     refine ⟨?_, ?_, ?_, ?_⟩
     · rw [List.pairwise_append]
       exact ⟨h1,by simp,λ x hx y hy=>by simp at hy;subst hy;exact hlt x hx⟩
     · intro x hx
       rw [List.mem_append] at hx
       rcases hx with hx | hx
       · have:=hlt x hx;exact ⟨by omega,by omega⟩
       · simp at hx;subst hx;exact ⟨by omega,Int.le_refl _⟩
     · intro j hj
       rw [List.mem_append]
       by_cases hjm:j<m
       · exact Or.inl (h3 j hjm)
       · have:j=m:=by omega
         subst this;exact Or.inr (by simp)
     · intro x hx
       rw [List.mem_append] at hx
       rcases hx with hx | hx
       · obtain ⟨j,hj,e⟩:=h4 x hx;exact ⟨j,by omega,e⟩
       · simp at hx;exact ⟨m,by omega,hx⟩
theorem at_toArray (l:List Int) (i:Nat) (h:i<l.length):l.toArray[i]! = l[i]:=by
 rw [getElem!_pos l.toArray i (by simpa using h)];simp
theorem sorted_next (l:List Int) (i:Nat) (h:i+1<l.toArray.size) (hp:l.Pairwise (λ a b=>a<=b)):l.toArray[i]! <= l.toArray[i+1]! := by
 have h':i+1<l.length:=by simpa using h
 rw [at_toArray l i (by omega),at_toArray l (i+1) h'];exact List.pairwise_iff_getElem.1 hp i (i+1) (by omega) h' (by omega)
theorem uniq_pw (l:List Int) (hp:l.Pairwise (λ a b=>a<=b)):(Lib.compact l).Pairwise (λ a b=>a<b):=by
 have:=uniq_inv l.toArray (λ i hi=>sorted_next l i hi hp) l.length (by simp);exact this.1
theorem uniq_mem (l:List Int) (hp:l.Pairwise (λ a b=>a<=b)) (x:Int):x∈Lib.compact l↔x∈l:=by
 have:=uniq_inv l.toArray (λ i hi=>sorted_next l i hi hp) l.length (by simp);obtain ⟨_,_,h3,h4⟩:=this;constructor
 · intro h
   obtain ⟨j,hj,e⟩:=h4 x h
   rw [e,at_toArray l j hj];exact List.getElem_mem _
 · intro h
   obtain ⟨j,hj,e⟩:=List.mem_iff_getElem.1 h;have:=h3 j hj
   rw [at_toArray l j hj,e] at this;exact this
end Go.Proofs.YtaijnacghiloaaaGreatDoor.M

namespace Go.Proofs.YtaijnacghiloaaaGreatDoor
open Go.ChangeShapes Go.WideShapes Go.ChangeAt Go.RowKit
set_option linter.unusedVariables false
theorem hide {p:Prop} (h:p):Hid p:=h
theorem ret_int {k:IntKind} {a b:Int} (h:a=b):Ending.returned (.int k a) = .returned (.int k b):=by rw [h]
theorem ret_bool {a b:Bool} (h:a=b):Ending.returned (.bool a) = .returned (.bool b):=by rw [h]
def Rd (w:World) (a:Option Addr) (xs:List Int):Prop :=
 xs.length<=maxLen/\(xs ≠ [] -> ∃ b off,a=some ⟨b,off,none⟩/\b<w.heap.size /\ ∀ i,i<xs.length->w.cell? ⟨b,off+i,none⟩=some (.int .i64 (xs.getD i 0)))
theorem Rd.below {w w':World} {a:Option Addr} {xs:List Int} (h:Rd w a xs) (hb:Below w.heap.size w w'):Rd w' a xs :=
 ⟨h.1,λ hn=>by
  obtain ⟨b,off,e,hl,hc⟩:=h.2 hn
  exact ⟨b,off,e,Nat.lt_of_lt_of_le hl hb.size,λ i hi=>(hb.cell (p:=⟨b,off+i,none⟩) hl).trans (hc i hi)⟩⟩
theorem Rd.at {w:World} {b off:Nat} {xs:List Int} (hc : ∀ i,i<xs.length->w.cell? ⟨b,off+i,none⟩=some (.int .i64 (xs.getD i 0))) (k:Nat) (hk:k<xs.length) :
 w.cell? ⟨b,off+k,none⟩=some (.int .i64 xs[k]):=by
 rw [hc k hk];simp [List.getD,List.getElem?_eq_getElem hk]
def IsRow (k:IntKind) (w:World) (a:Option Addr) (len cap:Nat) (zs:List Int):Prop :=
 (a=none/\len=0/\cap=0/\zs = []) ∨
 ∃ x,a=some x/\len<=cap/\cap<=maxLen/\zs.length=cap/\(∀ i,i<zs.length->w.cell? (x.add i)=some (.int k (zs.getD i 0))) /\ ∀ n∈zs,(Lit.int k n).wf=true
theorem rd_of {w:World} {a:Option Addr} {len cap:Nat} {zs:List Int} (h:IsRow .i64 w a len cap zs):Rd w a (zs.take len)/\(zs.take len).length=len:=by
 rcases h with ⟨rfl,rfl,rfl,rfl⟩ | ⟨x,rfl,hl,hm,hz,hcell,hwz⟩
 · exact ⟨⟨Nat.zero_le _,λ h=>absurd rfl h⟩,rfl⟩
 · have hlen:(zs.take len).length=len:=by rw [List.length_take];omega
   refine ⟨⟨by omega,λ hne => ?_⟩,hlen⟩
   have hp:0<len:=by rw [←hlen];exact List.length_pos_iff.2 hne
   obtain ⟨b,off,spot⟩:=x;have hc0:=hcell 0 (by omega)
   have hspot:spot=none:=by simpa [Addr.add] using World.cell?_spot hc0
   subst hspot
   have ea : ∀ i,(⟨b,off,none⟩:Addr).add i=⟨b,off+i,none⟩:=λ i=>by unfold Addr.add;simp
   refine ⟨b,off,rfl, ?_,λ i hi => ?_⟩
   · rw [ea] at hc0
     exact block_lt_of_cell hc0
   · have:=hcell i (by omega)
     rw [ea] at this;rw [this]
     have h1:i<len:=by omega
     simp [List.getD,h1]
def errV (c:Int):Value:=if c=0 then .nilIface else .iface 69 (.int .i64 c)
theorem err_nil {c:Int} (h:c=0):errV c = .nilIface:=by unfold errV;rw [if_pos h]
theorem err_some {c:Int} (h:c≠0):errV c = .iface 69 (.int .i64 c):=by unfold errV;rw [if_neg h]
theorem info3:(Tryz.prog.info? 3).map (λ i=>(i.zero,i.size,i.bytes))=some (some (.int .i64 0),1,8):=by kernel_rfl
theorem own_at {w:World} {base g n cap:Nat} {F:List Int} (h:w.ownsRow base 3 1 (.slice (some ⟨g,0,none⟩) n cap) n (F.map (Value.int .i64))) (hn:F.length=n) (k:Nat) (hk:k<F.length) :
 w.cell? ⟨g,k,none⟩=some (.int .i64 F[k]):=by
 rw [h.cellAt k (by omega)];simp [hk]
theorem own_shape {w:World} {base n:Nat} {v:Value} {l:List Value} (h:w.ownsRow base 3 1 v n l) (hn:0<n) : ∃ g cap,v = .slice (some ⟨g,0,none⟩) n cap/\base<=g/\g<w.heap.size:=by
 rcases h.2 with ⟨_,h0⟩ | ⟨g,cap,cur,hv,hb,hg,_⟩
 · omega
 · exact ⟨g,cap,hv,hb,(Array.getElem?_eq_some_iff.1 hg).1⟩
theorem below_on {w w1 w2:World} (h:Below w.heap.size w w1) (k:Below w1.heap.size w1 w2):Below w.heap.size w w2:=h.trans (k.mono h.size)
theorem one_rd (w:World) (x:Int) (t:TypeId):Rd (w.alloc (.cells #[.int .i64 x] t)) (some ⟨w.heap.size,0,none⟩) [x] :=
 ⟨by show 1<=maxLen;unfold maxLen;decide,λ _=>⟨w.heap.size,0,rfl,by simp,λ i hi=>by
  have:i=0:=by simp at hi;exact hi
  subst this
  simp⟩⟩
theorem own_rd {w:World} {base:Nat} {v:Value} {F:List Int} (h:w.ownsRow base 3 1 v F.length (F.map (Value.int .i64))) :
 ∃ a cap,v = .slice a F.length cap/\Rd w a F/\F.length<=cap:=by
 rcases h.2 with ⟨hv,h0⟩ | ⟨g,cap,cur,hv,hb,hg,h1,h2,h3,h4⟩
 · have e:F = []:=List.length_eq_zero_iff.1 h0
   subst e
   exact ⟨none,0,hv,⟨Nat.zero_le _,λ h=>absurd rfl h⟩,Nat.le_refl _⟩
 · subst hv
   refine ⟨_,cap,rfl,⟨by omega,λ _=>⟨g,0,rfl,(Array.getElem?_eq_some_iff.1 hg).1,λ i hi => ?_⟩⟩,h1⟩
   rw [Nat.zero_add,own_at h rfl i hi];simp [List.getD,List.getElem?_eq_getElem hi]
theorem src_cells {w:World} {b off:Nat} {xs:List Int} (hc : ∀ i,i<xs.length->w.cell? ⟨b,off+i,none⟩=some (.int .i64 (xs.getD i 0))) :
 ∀ (j:Nat) (u:Value),(xs.map (Value.int .i64))[j]? = some u->w.cell? ((⟨b,off,none⟩:Addr).add j)=some u:=by
 intro j u hu;rw [List.getElem?_eq_some_iff] at hu;obtain ⟨hj,rfl⟩:=hu
 have hj':j<xs.length:=by simpa using hj
 have ea:(⟨b,off,none⟩:Addr).add j=⟨b,off+j,none⟩:=by unfold Addr.add;simp
 rw [ea];rw [Rd.at hc j hj'];simp
theorem one_cells (xs:List Int) : ∀ u∈xs.map (Value.int .i64),u.oneCell'=true:=by
 intro u hu;rw [List.mem_map] at hu;obtain ⟨x,_,rfl⟩:=hu;rfl
theorem made (n:Nat):(madeCells (Value.cells (.int .i64 0)) (n*1)).toList=(List.replicate n (0:Int)).map (Value.int .i64):=by
 rw [Nat.mul_one];show (madeCells #[Value.int .i64 0] n).toList=_
 rw [toList_madeCells_one];simp
theorem below_drew {B:Nat} {w w1:World} (h:Below B w w1) (q:Nat) (hB:B<=w1.heap.size):Below B w (w1.drewN q):=h.trans ⟨rfl,rfl,rfl,Nat.le_refl _,λ _ _=>rfl⟩
theorem getD_bang (xs:List Int) (j:Nat):xs[j]! = xs.getD j 0:=by
 simp [List.getD,List.getElem!_eq_getElem?_getD]
theorem own_keep {w w':World} {base n:Nat} {v:Value} {l:List Value} (h:w.ownsRow base 3 1 v n l) (hb:Below w.heap.size w w'):w'.ownsRow base 3 1 v n l:=by
 refine ⟨h.1, ?_⟩
 rcases h.2 with h0 | ⟨g,cap,cur,hv,h1,h2,h3⟩
 · exact .inl h0
 · exact .inr ⟨g,cap,cur,hv,h1,(hb.block g (Array.getElem?_eq_some_iff.1 h2).1).trans h2,h3⟩
theorem own_up {w w':World} {base n e size:Nat} {v:Value} {l:List Value} (h:w.ownsRow base e size v n l) (hb:Below w.heap.size w w'):w'.ownsRow base e size v n l:=by
 refine ⟨h.1, ?_⟩
 rcases h.2 with h0 | ⟨g,cap,cur,hv,h1,h2,h3⟩
 · exact .inl h0
 · exact .inr ⟨g,cap,cur,hv,h1,(hb.block g (Array.getElem?_eq_some_iff.1 h2).1).trans h2,h3⟩
theorem grown_trans {a b c:World} {r s:Option Nat} (h:a.grownBy b r) (k:b.grownBy c s) (hs:s=r ∨ ∀ q,s=some q->a.heap.size<=q):a.grownBy c r :=
 ⟨k.os.trans h.os,k.tape.trans h.tape,k.output.trans h.output,Nat.le_trans h.size k.size,λ q hq hn=>(k.block q (Nat.lt_of_lt_of_le hq h.size) (λ e=>by
  rcases hs with q1 | q1
  · exact hn (by rw [e,q1])
  · have:=q1 q e.symm;omega)).trans (h.block q hq hn)⟩
theorem grown_drew {a b:World} {r:Option Nat} (h:a.grownBy b r):a.grownBy b.drew r:=⟨h.os,h.tape,h.output,h.size,h.block⟩
theorem grown_set {W:World} {g o:Nat} {u:Value}:W.grownBy (W.setCell ⟨g,o,none⟩ u) (some g) :=
 ⟨rfl,rfl,rfl,by simp,λ q hq hn=>Below.heap_setCell _ _ _ _ (λ e=>hn (by rw [e]))⟩
theorem grown_undrew {a b:World} {r:Option Nat} (h:a.drew.grownBy b r):a.grownBy b r:=⟨h.os,h.tape,h.output,h.size,h.block⟩
theorem grown_of {a b:World} (h:Below a.heap.size a b) (r:Option Nat):a.grownBy b r:=⟨h.os,h.tape,h.output,h.size,λ k hk _=>h.block k hk⟩
theorem rd_grown {w w':World} {o:Option Nat} {a:Option Addr} {xs:List Int} (h:Rd w a xs) (hg:w.grownBy w' o) (ha:xs ≠ [] -> ∀ p,a=some p->some p.block≠o):Rd w' a xs :=
 ⟨h.1,λ hn=>by
  obtain ⟨b,off,rfl,hb,hc⟩:=h.2 hn
  exact ⟨b,off,rfl,Nat.lt_of_lt_of_le hb hg.size,λ i hi=>hg.cell (hc i hi) (λ e=>ha hn _ rfl e)⟩⟩
end Go.Proofs.YtaijnacghiloaaaGreatDoor

namespace Go.Proofs.YtaijnacghiloaaaGreatDoor
open Go.ChangeShapes Go.WideShapes Go.ChangeAt Go.RowKit Go.Lib
set_option linter.unusedVariables false
structure StayBut (K:Nat->Prop) (W W':World):Prop where
 os:W'.os=W.os
 tape:W'.tape=W.tape
 output:W'.output=W.output
 size:W.heap.size<=W'.heap.size
 block : ∀ q,q<W.heap.size -> ¬ K q->W'.heap[q]? = W.heap[q]?
theorem info8:(Tryz.prog.info? 5).map (λ i=>(i.zero,i.size,i.bytes))=some (some (.int .u8 0),1,1):=by kernel_rfl
def byV (x:Nat):Value := .int .u8 (x:Int)
def byCells (xs:List Nat):List Value:=xs.map byV
theorem byCells_app (a b:List Nat):byCells (a ++ b)=byCells a ++ byCells b:=by unfold byCells;rw [List.map_append]
theorem byCells_len (xs:List Nat):(byCells xs).length=xs.length:=by simp [byCells]
theorem byCells_one (xs:List Nat) : ∀ v∈byCells xs,v.oneCell'=true:=by
 intro v hv;obtain ⟨x,_,rfl⟩:=List.mem_map.1 hv;rfl
def RdB (w:World) (a:Option Addr) (xs:List Nat):Prop :=
 xs.length<=maxLen/\(∀ x∈xs,x<256)/\(xs ≠ [] -> ∃ b off,a=some ⟨b,off,none⟩/\b<w.heap.size /\ ∀ i,i<xs.length->w.cell? ⟨b,off+i,none⟩=some (byV (xs.getD i 0)))
theorem RdB.below {w w':World} {a:Option Addr} {xs:List Nat} (h:RdB w a xs) (hb:Below w.heap.size w w'):RdB w' a xs :=
 ⟨h.1,h.2.1,λ hn=>by
  obtain ⟨b,off,e,hl,hc⟩:=h.2.2 hn
  exact ⟨b,off,e,Nat.lt_of_lt_of_le hl hb.size,λ i hi=>(hb.cell (p:=⟨b,off+i,none⟩) hl).trans (hc i hi)⟩⟩
theorem RdB.drop {w:World} {b off:Nat} {xs:List Nat} (h:RdB w (some ⟨b,off,none⟩) xs) (k:Nat):RdB w (some ⟨b,off+k,none⟩) (xs.drop k):=by
 refine ⟨by rw [List.length_drop];exact Nat.le_trans (Nat.sub_le _ _) h.1,λ x hx=>h.2.1 x (List.mem_of_mem_drop hx),λ hn => ?_⟩
 have hk:k<xs.length:=by
  by_cases q:k<xs.length
  · exact q
  · exact absurd (List.drop_eq_nil_of_le (by omega)) hn
 obtain ⟨b',off',e,hl,hc⟩:=h.2.2 (by intro e;rw [e] at hk;simp at hk);cases e
 refine ⟨b,off+k,rfl,hl,λ i hi => ?_⟩
 rw [List.length_drop] at hi;have:=hc (k+i) (by omega);rw [show off+k+i=off+(k+i) by omega,this]
 congr 2
 simp [List.getD]
theorem RdB.take {w:World} {a:Option Addr} {xs:List Nat} (h:RdB w a xs) (k:Nat):RdB w a (xs.take k):=by
 refine ⟨by rw [List.length_take];exact Nat.le_trans (Nat.min_le_right ..) h.1,λ x hx=>h.2.1 x (List.mem_of_mem_take hx),λ hn => ?_⟩
 obtain ⟨b,off,e,hl,hc⟩:=h.2.2 (by intro e;rw [e] at hn;simp at hn)
 refine ⟨b,off,e,hl,λ i hi => ?_⟩
 rw [List.length_take] at hi;rw [hc i (by omega)]
 congr 2
 have:i<k:=by omega
 simp [List.getD,this]
theorem by_src {w:World} {b off:Nat} {xs:List Nat} (hc : ∀ i,i<xs.length->w.cell? ⟨b,off+i,none⟩=some (byV (xs.getD i 0))) : ∀ j u,(byCells xs)[j]? = some u->w.cell? ((⟨b,off,none⟩:Addr).add j)=some u:=by
 intro j u hj
 have hl:j<xs.length:=by
  have:=(List.getElem?_eq_some_iff.1 hj).1
  rwa [byCells_len] at this
 have add_flat:(⟨b,off,none⟩:Addr).add j=⟨b,off+j,none⟩:=by unfold Addr.add;simp
 rw [add_flat,hc j hl,←hj];simp [byCells,List.getD,hl]
theorem wpList_append_by {w:World} {ops:Array Oper} {rest:List Oper} {o:Oper} {act:Act} {Q:Exit->Act->World->Prop} (hgd:o.guard=none) (s x:Operand)
 (ho:o.op = .call { callee := .builtin .append,args:=#[s,x],argTypes:=#[28, 28] })
 (base:Nat) (v:Value) (n:Nat) (zs:List Nat) (hs:act.eval s=v) (hown:w.ownsRow base 5 1 v n (byCells zs))
 (a:Option Addr) (ys:List Nat) (m cap:Nat) (hm:ys.length=m) (hx:act.eval x = .slice a m cap) (hr:RdB w a ys) (hnil:a=none->cap=0) (hlen:n+ys.length<=140737488355328) (hbase:base<=w.heap.size)
 (h : ∀ va vc w',w'.ownsRow base 5 1 (.slice va (n+m) vc) (n+m) (byCells (zs ++ ys))->Below base w w'->w.grownBy w' v.ownBlock->wpList Tryz.prog ops Q rest (act.put o.dst (.slice va (n+m) vc)) w'):wpList Tryz.prog ops Q (o :: rest) act w:=by
 subst hm;obtain ⟨i0,hi,hz0,hz1,hz2⟩:=info_parts info8
 cases a with
 | none =>
   have e:ys = []:=by
    by_cases hy:ys = []
    · exact hy
    · obtain ⟨b,off,e,_⟩:=hr.2.2 hy;cases e
   subst e;have hc:=hnil rfl;subst hc;refine wpList_append_own_none hgd s x 28 ho base 5 i0 1 Tryz.underlying28 hi v n (byCells zs) hs hown hx ?_
   obtain ⟨va,vc,e⟩ : ∃ va vc,v = .slice va n vc:=by
    rcases hown.2 with ⟨hv,h0⟩ | ⟨g,cap,cur,hv,_⟩
    · exact ⟨none,0,by rw [hv,h0]⟩
    · exact ⟨some ⟨g,0,none⟩,cap,hv⟩
   subst e;have:=h va vc w (by simpa using hown) (Below.refl _ _) ⟨rfl,rfl,rfl,Nat.le_refl _,λ _ _ _=>rfl⟩
   simpa using this
 | some ad =>
   have hnews : ∀ j u,(byCells ys)[j]? = some u->w.cell? (ad.add j)=some u:=by
    by_cases hy:ys = []
    · subst hy;intro j u hj;simp [byCells] at hj
    · obtain ⟨b,off,e,_,hc⟩:=hr.2.2 hy
      cases e;exact by_src hc
   refine wpList_append_own _ hgd s x 28 ho base 5 i0 (.int .u8 0) 1 1 Tryz.underlying28 hi hz0 hz1 hz2 rfl (by decide) v n (byCells zs) hs hown ad ys.length cap (byCells ys) hx (by rw [byCells_len];omega) hnews (byCells_one ys) (by unfold maxLen;omega) (by omega) hbase ?_;intro v' w' hown' hgrow _
   obtain ⟨va,vc,e⟩ : ∃ va vc,v' = .slice va (n+ys.length) vc:=by
    rcases hown'.2 with ⟨hv,h0⟩ | ⟨g,cap,cur,hv,_⟩
    · exact ⟨none,0,by rw [hv,h0]⟩
    · exact ⟨some ⟨g,0,none⟩,cap,hv⟩
   subst e;exact h va vc w' (by rw [byCells_app];exact hown') ((Below.refl _ w).grown hgrow hbase (λ k hk=>(hown.lt k hk).1)) hgrow
def byStr (xs:List Nat):ByteArray:=(xs.map Int.ofNat).foldl (λ r n=>r.push (UInt8.ofNat n.toNat)) ByteArray.empty
theorem push_list : ∀ (xs:List Nat) (s:ByteArray),((xs.map Int.ofNat).foldl (λ r n=>r.push (UInt8.ofNat n.toNat)) s).data.toList=s.data.toList ++ xs.map UInt8.ofNat
 | [],s=>by simp
 | x :: xs,s=>by
   have:=push_list xs (s.push (UInt8.ofNat x));simp only [List.map_cons,List.foldl_cons];rw [show (Int.ofNat x).toNat=x from rfl,this];simp [ByteArray.push]
theorem byStr_list (xs:List Nat):(byStr xs).data.toList=xs.map UInt8.ofNat:=by
 have:=push_list xs ByteArray.empty
 simpa [byStr] using this
theorem of_inj {x y:Nat} (hx:x<256) (hy:y<256) (h:UInt8.ofNat x=UInt8.ofNat y):x=y:=by
 have:=congrArg UInt8.toNat h;simp at this;omega
theorem ofs_inj : ∀ xs ys:List Nat,(∀ x∈xs,x<256)->(∀ y∈ys,y<256)->xs.map UInt8.ofNat=ys.map UInt8.ofNat->xs=ys
 | [], [],_,_,_=>rfl
 | [],y :: ys,_,_,h=>by simp at h
 | x :: xs, [],_,_,h=>by simp at h
 | x :: xs,y :: ys,h1,h2,h=>by
   simp only [List.map_cons,List.cons.injEq] at h;rw [of_inj (h1 x (List.mem_cons_self ..)) (h2 y (List.mem_cons_self ..)) h.1,ofs_inj xs ys (λ z hz=>h1 z (List.mem_cons_of_mem _ hz)) (λ z hz=>h2 z (List.mem_cons_of_mem _ hz)) h.2]
theorem conv_by {W:World} {a:Option Addr} {xs:List Nat} (h:RdB W a xs) (c:Nat):(convert 28 9 (.slice a xs.length c)).run Tryz.prog W = .ok (.string (byStr xs)) W:=by
 rw [run_convert_bytes_string W 28 9 5 a xs.length c Tryz.underlying28 Tryz.underlying5 Tryz.underlying9]
 cases a with
 | none =>
   have e:xs = []:=by
    by_cases hx:xs = []
    · exact hx
    · obtain ⟨b,off,e,_⟩:=h.2.2 hx;cases e
   subst e;unfold Conv.bytesToString;simp [Sem.run_pure,byStr]
 | some ad =>
   refine run_bytesToString W ad xs.length c (xs.map Int.ofNat) ?_
   have e:(xs.map Int.ofNat).map (Value.int .u8)=byCells xs:=by unfold byCells;rw [List.map_map];rfl
   rw [e,←byCells_len xs];refine run_loadCells_list W ad (byCells xs) λ j u hj => ?_
   by_cases hx:xs = []
   · subst hx;simp [byCells] at hj
   · obtain ⟨b,off,e',_,hc⟩:=h.2.2 hx
     cases e';exact by_src hc j u hj
theorem rdB_slice {W:World} {a:Option Addr} {bs:List Nat} {c k:Nat} (h:RdB W a bs) (hc:bs.length<=c):RdB W (if c=k then a else Option.map (λ x=>x.add k) a) (bs.drop k):=by
 by_cases hk:k<bs.length
 · obtain ⟨b,off,rfl,hl,hcc⟩:=h.2.2 (by intro e;rw [e] at hk;simp at hk)
   rw [if_neg (by omega)]
   have add_flat:(⟨b,off,none⟩:Addr).add k=⟨b,off+k,none⟩:=by unfold Addr.add;simp
   show RdB W (some ((⟨b,off,none⟩:Addr).add k)) _;rw [add_flat];exact h.drop k
 · have e:bs.drop k = []:=List.drop_eq_nil_of_le (by omega)
   rw [e]
   exact ⟨Nat.zero_le _,(λ x hx=>by cases hx),λ hn=>absurd rfl hn⟩
theorem own_rdB0 {w:World} {base n:Nat} {v:Value} {xs:List Nat} (hn:xs.length=n) (hm:n<=maxLen) (h8 : ∀ x∈xs,x<256) (h:w.ownsRow base 5 1 v n (byCells xs)) : ∃ a cap,v = .slice a n cap/\RdB w a xs/\(a=none->cap=0)/\n<=cap:=by
 subst hn
 rcases h.2 with ⟨hv,h0⟩ | ⟨g,cap,cur,hv,hb,hg,h1,h2,h3,h4⟩
 · have e:xs = []:=List.length_eq_zero_iff.1 h0
   subst e
   exact ⟨none,0,hv,⟨Nat.zero_le _,h8,λ h=>absurd rfl h⟩,λ _=>rfl,Nat.le_refl _⟩
 · subst hv
   refine ⟨_,cap,rfl,⟨hm,h8,λ _=>⟨g,0,rfl,(Array.getElem?_eq_some_iff.1 hg).1,λ i hi => ?_⟩⟩,(λ hp=>by cases hp), ?_⟩
   · rw [Nat.zero_add,h.cellAt i (by omega)]
     simp [byCells,List.getD,hi]
   · first | exact h1 | exact h2 | omega
theorem own_rdB1 {w:World} {base n:Nat} {v:Value} {xs:List Nat} (hn:xs.length=n) (hm:n<=maxLen) (h8 : ∀ x∈xs,x<256) (h:w.ownsRow base 5 1 v n (byCells xs)) : ∃ a cap,v = .slice a n cap/\RdB w a xs/\(a=none->cap=0)/\n<=cap/\cap<=9223372036854775807:=by
 subst hn
 rcases h.2 with ⟨hv,h0⟩ | ⟨g,cap,cur,hv,hb,hg,h1,h2,h3,h4⟩
 · have e:xs = []:=List.length_eq_zero_iff.1 h0
   subst e
   exact ⟨none,0,hv,⟨Nat.zero_le _,h8,λ h=>absurd rfl h⟩,λ _=>rfl,Nat.le_refl _,by omega⟩
 · subst hv
   refine ⟨_,cap,rfl,⟨hm,h8,λ _=>⟨g,0,rfl,(Array.getElem?_eq_some_iff.1 hg).1,λ i hi => ?_⟩⟩,(λ hp=>by cases hp),h1,h2⟩
   rw [Nat.zero_add,h.cellAt i (by omega)];simp [byCells,List.getD,hi]
theorem unfold_any (x:Nat) (w:World) (h:x<18446744073709551616) :
 Calls Tryz.prog 133 #[.int .u64 (x:Nat)] w λ e w'=>e = .returned (.int .i64 (M.unz x))/\w'=w:=by
 by_cases hn:x % 2=1
 · have EZ:Hid (bits .xor .i64 (-1) ((x:Int) / 2)=M.unz x):=by
    unfold Hid
    have e1:((x:Int) / 2)=((x / 2:Nat):Int):=by omega
    rw [e1,i64_not _ (by omega)]
    unfold M.unz;rw [if_pos hn];omega
   go_enter Tryz.func133, Tryz.ntmps133
   go_wp2
   go_ret
   exact ⟨by rw [←EZ.out];rfl,rfl⟩
 · have EZ:Hid (((x:Int) / 2)=M.unz x):=by unfold Hid M.unz;rw [if_neg hn];omega
   go_enter Tryz.func133, Tryz.ntmps133
   go_wp2
   go_ret
   exact ⟨by rw [←EZ.out];rfl,rfl⟩

theorem u64_in {n:Int} (h1:0<=n) (h2:n<18446744073709551616):IntKind.u64.wrap n=n:=by
 rw [IntKind.wrap_u64];omega
theorem i64_in {x:Int} (h1 : -9223372036854775808<=x) (h2:x<=9223372036854775807):IntKind.i64.wrap x=x:=by
 simp [IntKind.wrap,IntKind.bits,IntKind.signed]
 split <;> omega
theorem M.pow_seven (k:Nat):(2:Nat) ^ (7*k)=128 ^ k:=by rw [Nat.pow_mul]
theorem get_or {X m k:Nat} (hX:X<128 ^ k) (h:X+m*128 ^ k<18446744073709551616):bits .or .u64 (X:Int) ((m*128 ^ k:Nat):Int)=((X+m*128 ^ k:Nat):Int):=by
 have p:1<=(128:Nat) ^ k:=M.pow_pos7 k;rw [u64_or_nat X _ (by omega) (by omega),Nat.or_comm,nat_join (7*k) _ _ (by rw [M.pow_seven,Nat.mul_mod_left]) (by rw [M.pow_seven];exact hX),Nat.add_comm]
theorem get_shl {m k:Nat} (h:m*128 ^ k<18446744073709551616):IntKind.u64.wrap ((m:Int)*2 ^ (7*k))=((m*128 ^ k:Nat):Int):=by
 have e:(2:Int) ^ (7*k)=((128 ^ k:Nat):Int):=by rw [←M.pow_seven];simp
 have e2:(m:Int)*(2:Int) ^ (7*k)=((m*128 ^ k:Nat):Int):=by rw [e];simp
 rw [e2,u64_in (by omega) (by omega)]
set_option maxHeartbeats 8000000 in
set_option maxRecDepth 10000 in
theorem cdget_same (a:Option Addr) (bs:List Nat) (ca:Nat) (w:World) (h:RdB w a bs) :
 Calls Tryz.prog 102 #[.slice a bs.length ca] w λ e w'=>e = .returned (.tuple #[.int .i64 (M.getL bs).1, .int .i64 ((M.getL bs).2.1:Nat),errV (M.getL bs).2.2])/\w'=w:=by
 have hm:bs.length<=9223372036854775807:=h.1;have G0:Hid (M.getL bs=M.gtK (bs.drop 0) 0 0):=rfl;have HB:=hide h;have GA:Hid (∀ i x,i<bs.length->M.gtK (bs.drop i) i x=if (i=9/\1<bs.getD i 0)∨(0<i/\bs.getD i 0=0) then ((0:Int),(0:Nat),(2:Int)) else if bs.getD i 0<128 then (M.unz (x+bs.getD i 0 % 128*128 ^ i),i+1,0) else M.gtK (bs.drop (i+1)) (i+1) (x+bs.getD i 0 % 128*128 ^ i)):=λ i x hi=>M.gtK_at hi
 have GE:Hid (∀ x,M.gtK (bs.drop bs.length) bs.length x=(0,0,8)):=λ x=>by rw [List.drop_length];rfl
 have B8:Hid (∀ i,i<bs.length->bs.getD i 0<256):=λ i hi=>h.2.1 _ (by rw [show bs.getD i 0=bs[i] by simp [List.getD,hi]];exact List.getElem_mem hi);have HU:=hide (λ x W hx=>unfold_any x W hx);generalize hr:M.getL bs=R at *;clear hr h
 go_enter Tryz.func102, Tryz.ntmps102
 go_wp2
 go_loopw [5,10] (λ x i wr => ∃ k X:Nat,k<=bs.length/\i = .int .i64 k/\k<=9/\x = .int .u64 (X:Int)/\Hid (X<128 ^ k)/\Hid (R=M.gtK (bs.drop k) k X)/\Hid (wr=w)) (λ _ i _=>bs.length-(intOf i).toNat)
 case atStart=>exact ⟨0,0,Nat.zero_le _,rfl,by omega,rfl,(by show 0<128 ^ 0;decide),G0,rfl⟩
 case round =>
  obtain ⟨k,X,hk,rfl,k9,rfl,hX,ER,EW⟩:=hrel;have ew:=EW.out;subst ew
  by_cases hlt:k<bs.length
  · have kz:(k:Int)<(bs.length:Int):=by omega
    obtain ⟨b,off,rfl,hb,hc⟩:=HB.out.2.2 (by intro e;rw [e] at hlt;simp at hlt);have c0:=hc k hlt;unfold byV at c0;have ga:=GA.out k X hlt;have c8:=B8.out k hlt;have E1:=hide (ER.out.trans ga);clear hc GA ga B8 ER G0 HB
    obtain ⟨c,hcc⟩ : ∃ c,c=bs.getD k 0:=⟨_,rfl⟩
    rw [←hcc] at c0 c8 E1;clear hcc
    have cm:Int.tmod (c:Int) 128=((c % 128:Nat):Int):=by rw [Int.tmod_eq_emod_of_nonneg (by omega)];try omega
    by_cases bad:k=9/\1<c
    · have e1:=E1.out
      rw [if_pos (.inl bad)] at e1;have ER:=hide e1;obtain ⟨q1,q2⟩:=bad
      have t1:((k:Int) == 9)=true:=by rw [beq_iff_eq];omega
      have t2:decide ((1:Int)<(c:Int))=true:=decide_eq_true (by omega);have t2':decide (1<c)=true:=decide_eq_true q2;clear q1 q2 e1 E1 GE
      go_wp2
      go_ret3
      exact ⟨by rw [ER.out];rfl,rfl⟩
    · obtain ⟨m,hm'⟩ : ∃ m,m=c % 128:=⟨_,rfl⟩
      rw [←hm'] at cm E1
      have m128:m<128:=by omega
      have fit:Hid (X+m*128 ^ k<18446744073709551616/\X+m*128 ^ k<128 ^ (k+1)):=by
       have hX:=hX.out;have a1:m*128 ^ k<=127*128 ^ k:=Nat.mul_le_mul_right _ (by omega);have a2:(128:Nat) ^ (k+1)=128 ^ k*128:=Nat.pow_succ ..
       refine ⟨?_,by omega⟩
       by_cases q:k=9
       · have:m*128 ^ k<=1*128 ^ k:=Nat.mul_le_mul_right _ (by have : ¬ 1<c:=λ z=>bad ⟨q,z⟩;omega)
         have p9:(128:Nat) ^ k=9223372036854775808:=q ▸ M.pow9;omega
       · have p8:(128:Nat) ^ k<=128 ^ 8:=Nat.pow_le_pow_right (by omega) (by omega)
         have e8:(128:Nat) ^ 8=72057594037927936:=by decide
         omega
      have os:=get_shl (m:=m) (k:=k) (by have:=fit.out;omega);have oo:=get_or (X:=X) (m:=m) (k:=k) hX.out fit.out.1
      obtain ⟨Y,hY⟩ : ∃ Y,Y=m*128 ^ k:=⟨_,rfl⟩
      obtain ⟨Z,hZ⟩ : ∃ Z,Z=X+m*128 ^ k:=⟨_,rfl⟩
      rw [←hZ] at oo fit E1;rw [←hY] at oo os;have Z1:=fit.out.1;have ZK:Hid (Z<128 ^ (k+1)):=fit.out.2;have y0:IntKind.u64.wrap (m:Int)=(m:Int):=u64_in (by omega) (by omega);have y7:IntKind.i64.wrap (7*(k:Int))=7*(k:Int):=i64_in (by omega) (by omega)
      have t9:((k:Int) == 9 && decide ((1:Int)<(c:Int)))=false:=by
       by_cases q:k=9
       · have c1 : ¬ 1<c:=λ z=>bad ⟨q,z⟩
         rw [decide_eq_false (by omega),Bool.and_false]
       · rw [show ((k:Int) == 9)=false by rw [beq_eq_false_iff_ne];omega,Bool.false_and]
      obtain ⟨b1,hb1⟩ : ∃ b1,b1=((k:Int) == 9):=⟨_,rfl⟩
      obtain ⟨b2,hb2⟩ : ∃ b2,b2=decide ((1:Int)<(c:Int)):=⟨_,rfl⟩
      rw [←hb1,←hb2] at t9;have t1:=hb1.symm;have t2:=hb2.symm
      have t2':decide (1<c)=b2:=by rw [hb2];exact decide_eq_decide.2 (by omega)
      have U1:=hide (λ W=>HU.out Z W Z1);have NB:Hid (¬ (k=9/\1<c)):=bad;clear hb1 hb2 hY hZ fit hX bad HU
      by_cases s1:c<128
      · have t6:decide ((128:Int)<=(c:Int))=false:=decide_eq_false (by omega)
        have t6':decide (128<=c)=false:=decide_eq_false (by omega)
        by_cases z0:0<k/\c=0
        · have e1:=E1.out
          rw [if_pos (.inr z0)] at e1;have ER:=hide e1;have t3:decide ((0:Int)<(k:Int))=true:=decide_eq_true (by omega);have t3':decide (0<k)=true:=decide_eq_true z0.1
          have t4:((c:Int) == 0)=true:=by rw [beq_iff_eq];omega
          have t4':(c == 0)=true:=by rw [beq_iff_eq];exact z0.2
          clear e1 E1 GE z0 hm' s1
          cases b1 <;> cases b2 <;> first
           | (cases t9;done)
           | (go_wp2
              go_ret3
              exact ⟨by rw [ER.out];rfl,rfl⟩)
        · have e1:=E1.out
          rw [if_neg (λ q=>q.elim NB.out z0),if_pos s1] at e1;have ER:=hide e1
          obtain ⟨b3,hb3⟩ : ∃ b3,b3=decide ((0:Int)<(k:Int)):=⟨_,rfl⟩
          obtain ⟨b4,hb4⟩ : ∃ b4,b4=((c:Int) == 0):=⟨_,rfl⟩
          have t34:(b4 && b3)=false:=by
           by_cases q:0<k
           · have c0' : ¬ c=0:=λ z=>z0 ⟨q,z⟩
             rw [hb4,show ((c:Int) == 0)=false by rw [beq_eq_false_iff_ne];omega,Bool.false_and]
           · rw [hb3,decide_eq_false (by omega),Bool.and_false]
          have t3:=hb3.symm;have t4:=hb4.symm
          have t3':decide (0<k)=b3:=by rw [hb3];exact decide_eq_decide.2 (by omega)
          clear hb3 hb4 e1 E1 GE z0 hm' s1
          cases b1 <;> cases b2 <;> cases b3 <;> cases b4 <;> first
           | (cases t9;done)
           | (cases t34;done)
           | (go_wp2_with (go_at_call 133;refine (U1.out _).mono ?_;rintro e w1 ⟨rfl,rfl⟩)
              go_ret3
              exact ⟨by rw [ER.out];rfl,rfl⟩)
      · have t6:decide ((128:Int)<=(c:Int))=true:=decide_eq_true (by omega)
        have t6':decide (128<=c)=true:=decide_eq_true (by omega);have e1:=E1.out;rw [if_neg (λ q=>q.elim NB.out (λ z=>by omega)),if_neg s1] at e1;have E9:=hide e1
        have K9:Hid (k+1<=9):=by
         have : ¬ k=9:=λ q=>NB.out ⟨q,by omega⟩;unfold Hid;omega
        clear e1 E1 GE hm' s1 NB U1
        cases b1 <;> cases b2 <;> first
         | (cases t9;done)
         | (go_wp2
            go_roundw
            case rel=>exact ⟨k+1,Z,by omega,by go_num,K9.out,rfl,ZK,E9,(by first | rfl | trivial)⟩
            case measure=>simp [intOf];omega)
  · have ke:k=bs.length:=by omega
    have kz : ¬ ((k:Int)<(bs.length:Int)):=by omega
    have ER2:Hid (R=(0,0,8)):=by unfold Hid;rw [ER.out,ke];exact GE.out X
    clear ke ER GE GA HB B8 G0
    go_wp2
    go_ret3
    exact ⟨by rw [ER2.out];rfl,rfl⟩
theorem set2 {W:World} {p:Nat} {x0 x1 y0 y1:Value} (h0:W.cell? ⟨p,0,none⟩=some y0) (h1:W.cell? ⟨p,1,none⟩=some y1) :
 (W.setCell ⟨p,0,none⟩ x0).cell? ⟨p,0,none⟩=some x0/\((W.setCell ⟨p,0,none⟩ x0).setCell ⟨p,1,none⟩ x1).cell? ⟨p,1,none⟩=some x1:=by
 refine ⟨World.cell?_setCell_same _ _ _ h0,World.cell?_setCell_same (u:=y1) _ _ _ ?_⟩
 rw [World.cell?_setCell_other _ _ _ _ (by intro e;cases e)];exact h1
theorem below2 {w W:World} {p:Nat} {x0 x1:Value} (h:Below w.heap.size w W) (hp:w.heap.size<=p):Below w.heap.size w ((W.setCell ⟨p,0,none⟩ x0).setCell ⟨p,1,none⟩ x1) :=
 (h.setCell (p:=⟨p,0,none⟩) hp _).setCell (p:=⟨p,1,none⟩) hp _
theorem frozen_new2 (V:World) (cs:Array Value) (t:TypeId) (j:Nat):(V.alloc (.cells cs t)).frozen? ⟨V.heap.size,j,none⟩=false:=by
 unfold World.frozen?;rw [show (V.alloc (.cells cs t)).heap[V.heap.size]? = some (.cells cs t) from (MapKept.heap_alloc V _).1];simp
theorem put4_at {W:World} {p:Nat} {x0 x1 x2 x3 y0 y1 y2 y3:Value} (h0:W.cell? ⟨p,0,none⟩=some y0) (h1:W.cell? ⟨p,1,none⟩=some y1) (h2:W.cell? ⟨p,2,none⟩=some y2) (h3:W.cell? ⟨p,3,none⟩=some y3) :
 (W.setCell ⟨p,0,none⟩ x0).cell? ⟨p,0,none⟩=some x0/\((W.setCell ⟨p,0,none⟩ x0).setCell ⟨p,1,none⟩ x1).cell? ⟨p,1,none⟩=some x1 /\
 (((W.setCell ⟨p,0,none⟩ x0).setCell ⟨p,1,none⟩ x1).setCell ⟨p,2,none⟩ x2).cell? ⟨p,2,none⟩=some x2 /\
 ((((W.setCell ⟨p,0,none⟩ x0).setCell ⟨p,1,none⟩ x1).setCell ⟨p,2,none⟩ x2).setCell ⟨p,3,none⟩ x3).cell? ⟨p,3,none⟩=some x3:=by
 have o : ∀ (V:World) (i j:Nat) (v:Value),i≠j->(V.setCell ⟨p,i,none⟩ v).cell? ⟨p,j,none⟩=V.cell? ⟨p,j,none⟩:=λ V i j v hij=>World.cell?_setCell_other _ _ _ _ (by intro e;cases e;exact hij rfl)
 refine ⟨World.cell?_setCell_same _ _ _ h0,World.cell?_setCell_same (u:=y1) _ _ _ ?_,World.cell?_setCell_same (u:=y2) _ _ _ ?_,World.cell?_setCell_same (u:=y3) _ _ _ ?_⟩
 · rw [o _ _ _ _ (by decide)];exact h1
 · rw [o _ _ _ _ (by decide),o _ _ _ _ (by decide)];exact h2
 · rw [o _ _ _ _ (by decide),o _ _ _ _ (by decide),o _ _ _ _ (by decide)];exact h3
theorem lay4 {w W:World} {p:Nat} {x0 x1 x2 x3:Value} (h:Below w.heap.size w W) (hp:w.heap.size<=p):Below w.heap.size w ((((W.setCell ⟨p,0,none⟩ x0).setCell ⟨p,1,none⟩ x1).setCell ⟨p,2,none⟩ x2).setCell ⟨p,3,none⟩ x3) :=
 (((h.setCell (p:=⟨p,0,none⟩) hp _).setCell (p:=⟨p,1,none⟩) hp _).setCell (p:=⟨p,2,none⟩) hp _).setCell (p:=⟨p,3,none⟩) hp _
theorem set6 {W:World} {p:Nat} {x0 x1 x2 x3 x4 x5 y0 y1 y2 y3 y4 y5:Value} (h0:W.cell? ⟨p,0,none⟩=some y0) (h1:W.cell? ⟨p,1,none⟩=some y1) (h2:W.cell? ⟨p,2,none⟩=some y2) (h3:W.cell? ⟨p,3,none⟩=some y3) (h4:W.cell? ⟨p,4,none⟩=some y4) (h5:W.cell? ⟨p,5,none⟩=some y5) :
 (W.setCell ⟨p,0,none⟩ x0).cell? ⟨p,0,none⟩=some x0/\((W.setCell ⟨p,0,none⟩ x0).setCell ⟨p,1,none⟩ x1).cell? ⟨p,1,none⟩=some x1 /\
 (((W.setCell ⟨p,0,none⟩ x0).setCell ⟨p,1,none⟩ x1).setCell ⟨p,2,none⟩ x2).cell? ⟨p,2,none⟩=some x2 /\
 ((((W.setCell ⟨p,0,none⟩ x0).setCell ⟨p,1,none⟩ x1).setCell ⟨p,2,none⟩ x2).setCell ⟨p,3,none⟩ x3).cell? ⟨p,3,none⟩=some x3 /\
 (((((W.setCell ⟨p,0,none⟩ x0).setCell ⟨p,1,none⟩ x1).setCell ⟨p,2,none⟩ x2).setCell ⟨p,3,none⟩ x3).setCell ⟨p,4,none⟩ x4).cell? ⟨p,4,none⟩=some x4 /\
 ((((((W.setCell ⟨p,0,none⟩ x0).setCell ⟨p,1,none⟩ x1).setCell ⟨p,2,none⟩ x2).setCell ⟨p,3,none⟩ x3).setCell ⟨p,4,none⟩ x4).setCell ⟨p,5,none⟩ x5).cell? ⟨p,5,none⟩=some x5:=by
 have o : ∀ (V:World) (i j:Nat) (v:Value),i≠j->(V.setCell ⟨p,i,none⟩ v).cell? ⟨p,j,none⟩=V.cell? ⟨p,j,none⟩:=λ V i j v hij=>World.cell?_setCell_other _ _ _ _ (by intro e;cases e;exact hij rfl)
 refine ⟨World.cell?_setCell_same _ _ _ h0,World.cell?_setCell_same (u:=y1) _ _ _ ?_,World.cell?_setCell_same (u:=y2) _ _ _ ?_,World.cell?_setCell_same (u:=y3) _ _ _ ?_,World.cell?_setCell_same (u:=y4) _ _ _ ?_,World.cell?_setCell_same (u:=y5) _ _ _ ?_⟩
 · rw [o _ _ _ _ (by decide)];exact h1
 · rw [o _ _ _ _ (by decide),o _ _ _ _ (by decide)];exact h2
 · rw [o _ _ _ _ (by decide),o _ _ _ _ (by decide),o _ _ _ _ (by decide)];exact h3
 · rw [o _ _ _ _ (by decide),o _ _ _ _ (by decide),o _ _ _ _ (by decide),o _ _ _ _ (by decide)];exact h4
 · rw [o _ _ _ _ (by decide),o _ _ _ _ (by decide),o _ _ _ _ (by decide),o _ _ _ _ (by decide),o _ _ _ _ (by decide)];exact h5
theorem below6 {w W:World} {p:Nat} {x0 x1 x2 x3 x4 x5:Value} (h:Below w.heap.size w W) (hp:w.heap.size<=p):Below w.heap.size w ((((((W.setCell ⟨p,0,none⟩ x0).setCell ⟨p,1,none⟩ x1).setCell ⟨p,2,none⟩ x2).setCell ⟨p,3,none⟩ x3).setCell ⟨p,4,none⟩ x4).setCell ⟨p,5,none⟩ x5) :=
 (((((h.setCell (p:=⟨p,0,none⟩) hp _).setCell (p:=⟨p,1,none⟩) hp _).setCell (p:=⟨p,2,none⟩) hp _).setCell (p:=⟨p,3,none⟩) hp _).setCell (p:=⟨p,4,none⟩) hp _).setCell (p:=⟨p,5,none⟩) hp _
theorem new_kept {w w1:World} {cs:Array Value} {t:TypeId} (e:w1=w.alloc (.cells cs t)) {W:World} (hW:Below w1.heap.size w1 W):(∀ j v,cs[j]? = some v->W.cell? ⟨w.heap.size,j,none⟩=some v) /\ ∀ j,W.frozen? ⟨w.heap.size,j,none⟩=false:=by
 have lt:w.heap.size<w1.heap.size:=by rw [e];simp
 refine ⟨λ j v hv=>(hW.cell (p:=⟨w.heap.size,j,none⟩) lt).trans (by rw [e,World.cell?_alloc_new];exact hv),λ j => ?_⟩
 have f:=frozen_new2 w cs t j;rw [←e] at f;rw [←f];unfold World.frozen?;rw [hW.block _ lt]
theorem wrap_i64n {x:Int} (h1 : -9223372036854775808<=x) (h2:x<=9223372036854775807):IntKind.i64.wrap x=x:=by
 simp [IntKind.wrap,IntKind.bits,IntKind.signed]
 split <;> omega
theorem take_lg {P:Program} {ops:Array Oper} {Q:Exit->Act->World->Prop} {md:Region.Mode} {S:World->Prop} {i:Nat} {d:Option Tmp} {oi:Oper} {v:Value} {fuel:Nat} {listed:Array Bool} {a:Act} {w:World} (hi:ops[i]? = some oi) (hd:oi.dst=d)
 (hs:Region.noSelect ops=true) (hf:Region.free md ops listed i=true) (hr:(Region.ready md ops listed).contains i=true)
 (hQ : ∀ c a w,Q (.panic c) (a.put d v) w->Q (.panic c) a w) (hy:YieldsIf P ops S oi v a) (hS:S w)
 (h:wpAnyH P md ops Q S fuel (listed.setIfInBounds i true) (a.put d v) w):wpAnyH P md ops Q S (fuel+1) listed a w:=by
 subst hd;exact wpAnyH_take hi hs hf hr hQ hy hS h
theorem M.not_nat (x:Nat) (h:x<18446744073709551616):18446744073709551615 ^^^ x=18446744073709551615-x:=by
 have e:=congrArg BitVec.toNat (BitVec.allOnes_xor (x:=BitVec.ofNat 64 x));rw [BitVec.toNat_xor,BitVec.toNat_not,BitVec.toNat_allOnes,BitVec.toNat_ofNat,Nat.mod_eq_of_lt h] at e;exact e
theorem u64_not (x:Nat) (h:x<18446744073709551616):bits .xor .u64 IntKind.u64.max (x:Int)=((18446744073709551615-x:Nat):Int):=by
 have e:IntKind.u64.max=((18446744073709551615:Nat):Int):=by decide
 rw [e,u64_xor_nat _ _ (by omega) h,M.not_nat x h]
theorem fold_any (n:Int) (w:World) (h1 : -9223372036854775808<=n) (h2:n<=9223372036854775807) :
 Calls Tryz.prog 51 #[.int .i64 n] w λ e w'=>e = .returned (.int .u64 (M.zz n:Nat))/\w'=w:=by
 by_cases hn:n<0
 · have EZ:Hid (bits .xor .u64 IntKind.u64.max (IntKind.u64.wrap (IntKind.u64.wrap n*2))=(M.zz n:Int)):=by
    unfold Hid
    have e1:IntKind.u64.wrap (IntKind.u64.wrap n*2)=((2*n+18446744073709551616).toNat:Int):=by
     simp [IntKind.wrap,IntKind.bits,IntKind.signed];omega
    rw [e1,u64_not _ (by omega)]
    unfold M.zz;rw [if_pos hn];omega
   go_enter Tryz.func51, Tryz.ntmps51
   go_wp2
   go_ret
   exact ⟨by rw [←EZ.out];rfl,rfl⟩
 · have EZ:Hid (n*2=(M.zz n:Int)):=by unfold Hid M.zz;rw [if_neg hn];omega
   go_enter Tryz.func51, Tryz.ntmps51
   go_wp2
   go_ret
   exact ⟨by rw [←EZ.out];rfl,rfl⟩
structure BWy (B:Nat) (w:World) (r:Option Nat) (W:World) (va:Option Addr) (vc:Nat) (L:List Nat):Prop where
 own:W.ownsRow B 5 1 (.slice va L.length vc) L.length (byCells L)
 gr:w.grownBy W r
 ob:(Value.slice va L.length vc).ownBlock=r ∨ ∀ q,(Value.slice va L.length vc).ownBlock=some q->w.heap.size<=q
 le:B<=w.heap.size
theorem BWy.alloc {B:Nat} {w:World} {r:Option Nat} {W:World} {va:Option Addr} {vc:Nat} {L:List Nat} (h:BWy B w r W va vc L) (o:Obj):BWy B w r (W.alloc o) va vc L :=
 ⟨h.own.alloc o,grown_trans h.gr (grown_of ((Below.refl _ W).alloc (Nat.le_refl _) o) none) (.inr (λ q hq=>by cases hq)),h.ob,h.le⟩
theorem wpList_append_b1 {W:World} {ops:Array Oper} {rest:List Oper} {o:Oper} {act:Act} {Q:Exit->Act->World->Prop} (hgd:o.guard=none) (s x:Operand)
 (ho:o.op = .call { callee := .builtin .append,args:=#[s,x],argTypes:=#[28, 28] })
 (B:Nat) (w:World) (r:Option Nat) (va:Option Addr) (vc:Nat) (L:List Nat) (y:Nat) (z:Int) (t:TypeId) (hz:z=(y:Int)) (hs:act.eval s = .slice va L.length vc) (h0:BWy B w r W va vc L) (hx:act.eval x = .slice (some ⟨W.heap.size,0,none⟩) 1 1) (hl:L.length+1<=140737488355328)
 (h : ∀ g cap w',BWy B w r w' (some ⟨g,0,none⟩) cap (L ++ [y])->wpList Tryz.prog ops Q rest (act.put o.dst (.slice (some ⟨g,0,none⟩) (L.length+1) cap)) w'):wpList Tryz.prog ops Q (o :: rest) act (W.alloc (.cells #[.int .u8 z] t)):=by
 subst hz;obtain ⟨i0,hi,hz0,hz1,hz2⟩:=info_parts info8;have hA:=h0.alloc (.cells #[.int .u8 (y:Int)] t);refine wpList_append_lies _ hgd s x 28 ho B 5 i0 (.int .u8 0) 1 1 Tryz.underlying28 hi hz0 hz1 hz2 rfl (by omega) _ L.length (byCells L) hs hA.own ⟨W.heap.size,0,none⟩ 1 1 [.int .u8 (y:Int)] hx rfl (World.news_of_block (heap_alloc_new _ _)) (by simp [Value.oneCell']) (by omega) (by unfold maxLen;omega) (by omega) (Nat.le_trans hA.le hA.gr.size) (W.heap.size+1) (by simp) ?_;intro g cap w' ho' hgr hg' hlt
 have el:(L ++ [y]).length=L.length+1:=by simp
 refine h g cap w' ⟨?_,grown_trans hA.gr hgr h0.ob, ?_,h0.le⟩
 · rw [el,byCells_app];exact ho'
 · rw [el]
   have hob:(Value.slice (some ⟨g,0,none⟩) (L.length+1) cap).ownBlock=some g:=by simp [Value.ownBlock]
   rw [hob]
   rcases hg' with hg' | hg'
   · rw [←hg'];exact h0.ob
   · refine .inr λ q hq => ?_
     have hs:=h0.gr.size;cases hq;omega
set_option maxHeartbeats 4000000 in
set_option maxRecDepth 10000 in
theorem add_any (B:Nat) (va:Option Addr) (vc:Nat) (L:List Nat) (na:Option Addr) (ns:List Int) (nc:Nat) (w:World) (hB:B<=w.heap.size) (ho:w.ownsRow B 5 1 (.slice va L.length vc) L.length (byCells L)) (hn:Rd w na ns) (hi : ∀ x∈ns, -9223372036854775808<=x/\x<=9223372036854775807)
 (hne:ns ≠ [] -> ∀ p,na=some p->(Value.slice va L.length vc).ownBlock≠some p.block) (hl:L.length+10*ns.length<=140737488355328) :
 Calls Tryz.prog 22 #[.slice va L.length vc, .slice na ns.length nc] w λ e w' => ∃ va' vc',e = .returned (.slice va' (L ++ M.bysL ns).length vc')/\BWy B w (Value.slice va L.length vc).ownBlock w' va' vc' (L ++ M.bysL ns):=by
 have hm:ns.length<=9223372036854775807:=by omega
 obtain ⟨r,hr⟩ : ∃ r,r=(Value.slice va L.length vc).ownBlock:=⟨_,rfl⟩
 rw [←hr] at hne
 have B0:Hid (BWy B w r w va vc L):=⟨ho,World.grownBy.refl _ _, .inl hr.symm,hB⟩
 have HN:Hid (∀ W,w.grownBy W r->Rd W na ns):=λ W hW=>rd_grown hn hW (λ h p hp e=>hne h p hp e.symm);have HI:=hide hi;have LL:=hide hl;have HF:=hide (λ n W h1 h2=>fold_any n W h1 h2);rw [←hr];clear hr ho hn hi hne hl
 go_enter Tryz.func22, Tryz.ntmps22
 go_wp2
 go_loopw [0,10] (λ v i wr => ∃ (k:Nat) (ua:Option Addr) (uc:Nat),k<=ns.length/\i = .int .i64 k/\v = .slice ua (L ++ M.bysL (ns.take k)).length uc/\Hid (BWy B w r wr ua uc (L ++ M.bysL (ns.take k)))) (λ _ i _=>ns.length-(intOf i).toNat)
 case atStart=>exact ⟨0,va,vc,Nat.zero_le _,rfl,by simp [M.bysL],by unfold Hid;simpa [M.bysL] using B0.out⟩
 case round =>
  obtain ⟨k,ua,uc,hk,rfl,rfl,HB⟩:=hrel
  by_cases hlt:k<ns.length
  · have kz:(k:Int)<(ns.length:Int):=by omega
    obtain ⟨b,off,rfl,hb,hc⟩:=(HN.out wr HB.out.gr).2 (by intro e;rw [e] at hlt;simp at hlt);have c0:=hc k hlt
    have ee:ns.getD k 0=ns[k]:=by simp [List.getD,hlt]
    rw [ee] at c0;have ei:=HI.out ns[k] (List.getElem_mem hlt);have F1:=hide (λ W=>HF.out ns[k] W ei.1 ei.2)
    have more:Hid (L ++ M.bysL (ns.take (k+1))=L ++ M.bysL (ns.take k) ++ M.sev (M.zz ns[k])):=by
     unfold Hid;rw [List.take_succ_eq_append_getElem hlt,M.bys_app,←List.append_assoc]
     congr 1
     rw [M.bys_cons];show M.numL _ ++ []=_
     rw [List.append_nil];rfl
    have zl:=M.zz_lt ei.1 ei.2
    have bl:Hid ((L ++ M.bysL (ns.take k)).length<=L.length+10*k):=by
     have:=M.bys_len (ns.take k) λ x hx=>HI.out x (List.mem_of_mem_take hx);unfold Hid;rw [List.length_append];rw [List.length_take] at this;omega
    clear hc ee ei
    obtain ⟨P,hP⟩ : ∃ P,P=L ++ M.bysL (ns.take k):=⟨_,rfl⟩
    rw [←hP] at HB more bl ⊢;clear hP;generalize ns[k]=x at *
    have SL:Hid (∀ Q u,Q ++ M.sev u=P ++ M.sev (M.zz x)->Q.length+1<=140737488355328):=λ Q u e=>by
     have e1:=congrArg List.length e;rw [List.length_append,List.length_append] at e1;have p1:1<=(M.sev u).length:=List.length_pos_iff.2 (M.sev_ne u);have p2:=M.sev_ten zl;have:=bl.out;have:=LL.out;omega
    go_upto_region 5 with (go_at_call 51;refine (F1.out _).mono ?_;rintro e w1 ⟨rfl,rfl⟩)
    clear F1
    go_loopw [0,7] (λ v x' wr => ∃ (u:Nat) (Q:List Nat) (ua:Option Addr) (uc:Nat),v = .slice ua Q.length uc/\x' = .int .u64 (u:Int)/\u<18446744073709551616/\Hid (Q ++ M.sev u=P ++ M.sev (M.zz x))/\Hid (BWy B w r wr ua uc Q)) (λ _ x _=>(intOf x).toNat)
    case atStart=>exact ⟨M.zz x,P,ua,uc,rfl,rfl,zl,rfl,HB⟩
    case round =>
     clear HB;obtain ⟨u,Q,ua,uc,rfl,rfl,hu,EL,HB⟩:=hrel;have ll:=SL.out Q u EL.out
     by_cases hq:127<u
     · have q:decide ((128:Int)<=(u:Int))=true:=decide_eq_true (by omega)
       have q2:((128:Int)<=(u:Int)):=by omega
       obtain ⟨m,hm'⟩ : ∃ m,m=u % 128:=⟨_,rfl⟩
       obtain ⟨d,hd⟩ : ∃ d,d=u / 128:=⟨_,rfl⟩
       have r1:(u:Int) % 128=(m:Int):=by omega
       have r2:Int.tmod (u:Int) 128=(m:Int):=by rw [Int.tmod_eq_emod_of_nonneg (by omega)];omega
       have d1:(u:Int) / 128=(d:Int):=by omega
       have E2:Hid ((Q ++ [m+128]) ++ M.sev d=P ++ M.sev (M.zz x)):=by
        unfold Hid;rw [←EL.out,M.sev_more hq,←hm',←hd,List.append_assoc];rfl
       have m128:m<128:=by omega
       have dlt:d<u:=by omega
       clear hm' hd EL
       go_wp2_with (at_builtin;refine wpList_append_b1 rfl (.tmp 20) (.tmp 25) rfl B w r ua uc Q (m+128) _ _ (by omega) rfl HB.out rfl ll ?_;intro g cap w2 hb2;have B2:=hide hb2;clear hb2)
       go_roundw
       case rel=>exact ⟨d,Q ++ [m+128],_,_,by rw [List.length_append];rfl,rfl,by omega,E2,B2⟩
       case measure=>simp [intOf];omega
     · have q:decide ((128:Int)<=(u:Int))=false:=decide_eq_false (by omega)
       have q2 : ¬ ((128:Int)<=(u:Int)):=by omega
       have E2:Hid (Q ++ [u]=L ++ M.bysL (ns.take (k+1))):=by unfold Hid;rw [more.out,←EL.out,M.sev_last hq]
       clear EL
       go_wp2_with (at_builtin;refine wpList_append_b1 rfl (.tmp 27) (.tmp 30) rfl B w r ua uc Q u _ _ rfl rfl HB.out rfl ll ?_;intro g cap w2 hb2;have B2:=hide hb2;clear hb2)
       exact ⟨⟨k+1,_,_,hlt,rfl,by rw [←E2.out,List.length_append];rfl,by unfold Hid;rw [←E2.out];exact B2.out⟩,by show ns.length-(((k:Int)+1).toNat)<ns.length-((k:Int).toNat);omega⟩
  · have ek:k=ns.length:=by omega
    have kz : ¬ ((k:Int)<(ns.length:Int)):=by omega
    have B2:Hid (BWy B w r wr ua uc (L ++ M.bysL ns)):=by have:=HB.out;rw [ek,List.take_length] at this;exact this
    rw [show ns.take k=ns by rw [ek,List.take_length]];clear ek HB HN HI HF
    go_wp2
    go_ret
    exact ⟨_,_,rfl,B2.out⟩
def CdNumGives:Prop := ∀ (a:Option Addr) (bs:List Nat) (c:Nat) (n:Int) (W:World),RdB W a bs->(a=none->c=0)->bs.length<=140737488351232 -> -9223372036854775808<=n->n<=9223372036854775807->Calls Tryz.prog 124 #[.slice a bs.length c, .int .i64 n] W λ e w' => ∃ v,e = .returned v/\w'.ownsRow W.heap.size 5 1 v (bs ++ M.numL n).length (byCells (bs ++ M.numL n))/\Below W.heap.size W w'
theorem getD_in (xs:List Int) {k:Nat} (h:k<xs.length):xs.getD k 0=xs[k]:=by simp [List.getD,List.getElem?_eq_getElem h]
set_option maxHeartbeats 1000000 in
theorem gindex_any (a:Option Addr) (xs:List Int) (ca:Nat) (x:Int) (w:World) (h:Rd w a xs) :
 Calls Tryz.prog 145 #[.slice a xs.length ca, .int .i64 x] w λ e w' => ∃ n:Int,e = .returned (.int .i64 n)/\(0<=n↔x∈xs)/\w'=w:=by
 have hm:xs.length<=9223372036854775807:=h.1;have H:=hide h;clear h
 go_enter Tryz.func145, Tryz.ntmps145
 go_wp2
 go_loopw [5,8] (λ _ i wr => ∃ k:Nat,k<=xs.length/\i = .int .i64 k/\Hid (∀ j,j<k->xs.getD j 0≠x)/\Hid (wr=w)) (λ _ i _=>xs.length-(intOf i).toNat)
 case atStart=>exact ⟨0,Nat.zero_le _,rfl,λ j hj=>absurd hj (Nat.not_lt_zero _),rfl⟩
 case round =>
  obtain ⟨k,hk,rfl,HJ,W⟩:=hrel;have we:=W.out.symm;subst we
  by_cases hlt:k<xs.length
  · obtain ⟨b,off,rfl,hb,hc⟩:=H.out.2 (by intro e;rw [e] at hlt;simp at hlt)
    have hck:=hc k hlt
    have kz:(k:Int)<(xs.length:Int):=by omega
    by_cases he:x=xs.getD k 0
    · have q:(x == xs.getD k 0)=true:=by rw [beq_iff_eq];exact he
      have IN:Hid (x∈xs):=by unfold Hid;rw [he,getD_in xs hlt];exact List.getElem_mem _
      clear hc he HJ H;generalize xs.getD k 0=v at *
      go_wp2
      go_ret
      exact ⟨_,rfl,⟨λ _=>IN.out,λ _=>by omega⟩,rfl⟩
    · have q:(x == xs.getD k 0)=false:=by rw [beq_eq_false_iff_ne];exact he
      have HK:Hid (∀ j,j<k+1->xs.getD j 0≠x):=λ j hj=>by
       by_cases e:j=k
       · subst e;exact λ z=>he z.symm
       · exact HJ.out j (by omega)
      clear hc he HJ H;generalize xs.getD k 0=v at *
      go_wp2
      go_roundw
      case rel=>exact ⟨k+1,by omega,by go_num,HK,(by first | rfl | trivial)⟩
      case measure=>simp [intOf];omega
  · have NI:Hid (x ∉ xs):=λ hx=>by
     obtain ⟨j,hj,e⟩:=List.getElem_of_mem hx;exact HJ.out j (by omega) (by rw [getD_in xs hj];exact e)
    clear HJ H
    go_wp2
    go_ret
    exact ⟨_,rfl,⟨λ q=>absurd q (by decide),λ q=>absurd q NI.out⟩,rfl⟩
theorem gcontains_any (a:Option Addr) (xs:List Int) (ca:Nat) (x:Int) (w:World) (h:Rd w a xs) :
 Calls Tryz.prog 119 #[.slice a xs.length ca, .int .i64 x] w λ e w'=>e = .returned (.bool (decide (x∈xs)))/\w'=w:=by
 have C:=hide (gindex_any a xs ca x w h);clear h
 go_enter Tryz.func119, Tryz.ntmps119
 go_wp2_with (go_at_call 145;refine C.out.mono ?_;rintro e w1 ⟨n,rfl,hn,e1⟩;have HN:=hide hn;clear hn;have e1':=e1.symm;subst e1')
 go_ret
 exact ⟨ret_bool (by rw [Bool.eq_iff_iff,decide_eq_true_eq,decide_eq_true_eq];exact HN.out),rfl⟩
end Go.Proofs.YtaijnacghiloaaaGreatDoor

namespace Go.Proofs.YtaijnacghiloaaaGreatDoor
open Go.ChangeShapes Go.WideShapes Go.ChangeAt Go.RowKit
set_option linter.unusedVariables false
theorem int_wf {n:Int} (h:(Lit.int .i64 n).wf=true) : -9223372036854775808<=n/\n<=9223372036854775807:=by
 simp [Lit.wf,IntKind.min,IntKind.max,IntKind.bits,IntKind.signed] at h;omega
end Go.Proofs.YtaijnacghiloaaaGreatDoor
