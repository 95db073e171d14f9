/-
  Several texts as one: FlMa, CaRd, InBox, CdIn, CdRdr, Nodes, CdNode, NdCells, Grown.
-/
import Derived.Test.YtaijnacghiloaaaGreatDoorRunT3
import Derived.Test.YtaijnacghiloaaaGreatDoorRunT1
import Derived.Test.YtaijnacghiloaaaGreatDoorRunT2
import Derived.Deep.Cut
import Derived.Deep.CutRange
import Derived.BigQuiet
import Derived.Deep.QuietTactic
import Derived.Deep.Matrix
import Derived.Deep.Strs
import Derived.Deep.AppendLies
import Derived.OwnWalk
namespace Go.Proofs.YtaijnacghiloaaaGreatDoor.M
set_option linter.unusedVariables false
structure Fl where
 L:Lg
 m:Nat
 lost:Bool
 ks:List Nat
def shN (l:List Ca) (k:Nat):Sh:=shAll sh0 (l.take k)
def Fl.S (X:Fl):Sh:=shN X.L.calls X.m
theorem shN_succ {l:List Ca} {k:Nat} (h:k<l.length):shN l (k+1)=(shDo (shN l k) (l.getD k caR)).2.2:=by
 unfold shN;rw [List.take_succ_eq_append_getElem h,shAll_app]
 have:l.getD k caR=l[k]:=by simp [List.getD,h]
 rw [this];rfl
theorem shN_take (l:List Ca) {k n:Nat} (h:k<=n):shN (l.take n) k=shN l k:=by
 unfold shN;rw [List.take_take,Nat.min_eq_left h]
theorem shN_app (l r:List Ca) {k:Nat} (h:k<=l.length):shN (l ++ r) k=shN l k:=by
 unfold shN;rw [List.take_append_of_le_length h]
theorem shN_all (l:List Ca):shN l l.length=shAll sh0 l:=by unfold shN;rw [List.take_length]
def CTS (l:List Ca):Prop := ∀ k,k<l.length->cntB (shN l k) (l.getD k caR)=true
theorem cts_nil:CTS []:=λ k hk=>by simp at hk
theorem CTS.idx {l:List Ca} (h:CTS l) : ∀ k,k<=l.length->(shN l k).idx=(k:Int)
 | 0,_=>by unfold shN;rw [List.take_zero];rfl
 | k+1,hk=>by
   rw [shN_succ (by omega),cnt_do_is (h k (by omega))];show (shN l k).idx+1=_;rw [CTS.idx h k (by omega)]
   push_cast
   rfl
theorem CTS.take {l:List Ca} (h:CTS l) (n:Nat):CTS (l.take n):=λ k hk=>by
 rw [List.length_take] at hk;have:=h k (by omega);rw [shN_take l (by omega)]
 have e:(l.take n).getD k caR=l.getD k caR:=by simp [List.getD,show k<n by omega]
 rw [e];exact this
theorem CTS.push {l:List Ca} (h:CTS l) {c:Ca} (hc:cntB (shAll sh0 l) c=true):CTS (l ++ [c]):=λ k hk=>by
 rw [List.length_append] at hk
 by_cases q:k<l.length
 · rw [shN_app _ _ (by omega)]
   have e:(l ++ [c]).getD k caR=l.getD k caR:=by simp [List.getD,List.getElem?_append_left q]
   rw [e];exact h k q
 · have e:k=l.length:=by simp at hk;omega
   subst e;rw [shN_app _ _ (Nat.le_refl _),shN_all]
   have e:(l ++ [c]).getD l.length caR=c:=by simp [List.getD]
   rw [e];exact hc
structure FlOk (X:Fl):Prop where
 le1:X.L.calls.length<=X.m+1
 ks:KS X.L X.m
 ct:CTS X.L.calls
 all:X.lost=false->X.L.calls.length=X.m
 kl : ∀ k∈X.ks,k<=X.m
theorem FlOk.le {X:Fl} (h:FlOk X):X.m<=X.L.calls.length:=h.ks.1
theorem FlOk.idx {X:Fl} (h:FlOk X):X.S.idx=(X.m:Int):=h.ct.idx X.m h.le
theorem FlOk.at {X:Fl} (h:FlOk X) {i:Nat} (hi:i<X.ks.length):X.ks.getD i 0<=X.m:=h.kl _ (by rw [List.getD,List.getElem?_eq_getElem hi];exact List.getElem_mem hi)
def fl0 (n:Nat):Fl:=⟨lg0,0,false,List.replicate n 0⟩
theorem fl0_ok (n:Nat):FlOk (fl0 n):=⟨Nat.zero_le _,⟨Nat.zero_le _,Nat.zero_le _⟩,cts_nil,λ _=>rfl,λ k hk=>by
 have:=List.eq_of_mem_replicate hk
 omega⟩
def kpF (X:Fl) (c:Ca):Int:=if apF X.L c≠0 then apF X.L c else syF (apL X.L c)
def kpX (X:Fl) (c:Ca):Lg:=if apF X.L c≠0 then apL X.L c else syL (apL X.L c)
theorem sy_nine (L:Lg):syF L=0∨syF L=9:=by
 unfold syF
 split
 · exact .inr rfl
 · exact .inl rfl
def doX (X:Fl) (c:Ca):An×Int×Fl :=
 if X.lost=true then (an0,9,X)
 else if cntB X.S c=true then
  if kpF X c≠0 then (an0,kpF X c,⟨kpX X c,X.m,decide (kpF X c=9),X.ks⟩)
  else ((shDo X.S c).1,(shDo X.S c).2.1,⟨kpX X c,X.m+1,false,X.ks⟩)
 else ((shDo X.S c).1,(shDo X.S c).2.1,X)
theorem kp_calls {X:Fl} {c:Ca}:(apF X.L c≠0/\(kpX X c).calls=X.L.calls)∨(apF X.L c=0/\(kpX X c).calls=X.L.calls ++ [c]):=by
 unfold kpX
 by_cases z:apF X.L c=0
 · right
   refine ⟨z, ?_⟩
   rw [if_neg (by simpa using z),sy_calls,ap_push z]
 · left
   refine ⟨z, ?_⟩
   rw [if_pos z,ap_calls z]
theorem do_fl {X:Fl} (h:FlOk X) (ok:LgOk X.L) {c:Ca} (nb : ∀ x∈c.name,x<256) (bb : ∀ x∈c.bys,x<256):FlOk (doX X c).2.2/\(doX X c).2.2.S=(if X.lost=false/\cntB X.S c=true/\kpF X c=0 then (shDo X.S c).2.2 else X.S)/\(doX X c).2.2.m=(if X.lost=false/\cntB X.S c=true/\kpF X c=0 then X.m+1 else X.m)/\(doX X c).2.2.L.calls.take X.m=X.L.calls.take X.m/\(doX X c).2.2.L.calls.length<=X.L.calls.length+1/\(∀ d∈(doX X c).2.2.L.calls,d∈X.L.calls∨d=c)/\(doX X c).2.2.ks=X.ks:=by
 unfold doX
 cases hl:X.lost with
 | true =>
   rw [if_pos rfl]
   refine ⟨h, ?_, ?_,rfl,Nat.le_succ _,λ d hd => .inl hd,rfl⟩
   · rw [if_neg (λ z=>by cases z.1)]
   · rw [if_neg (λ z=>by cases z.1)]
 | false =>
   rw [if_neg (by decide)];have hm:=h.all hl
   cases hc:cntB X.S c with
   | false =>
     rw [if_neg (by decide)]
     refine ⟨h, ?_, ?_,rfl,Nat.le_succ _,λ d hd => .inl hd,rfl⟩
     · rw [if_neg (λ z=>by cases z.2.1)]
     · rw [if_neg (λ z=>by cases z.2.1)]
   | true =>
     rw [if_pos rfl]
     have hS:X.S=shAll sh0 X.L.calls:=by
      have:=shN_all X.L.calls;rw [hm] at this;exact this
     have okA:=ap_ok ok nb bb
     by_cases z:kpF X c=0
     · rw [if_neg (by simpa using z),if_pos ⟨rfl,rfl,z⟩,if_pos ⟨rfl,rfl,z⟩]
       have az:apF X.L c=0:=by
        by_cases y:apF X.L c=0
        · exact y
        · unfold kpF at z;rw [if_pos y] at z;exact absurd z y
       have sz:syF (apL X.L c)=0:=by unfold kpF at z;rw [if_neg (by simpa using az)] at z;exact z
       have ek:kpX X c=syL (apL X.L c):=by unfold kpX;rw [if_neg (by simpa using az)]
       have ec:(kpX X c).calls=X.L.calls ++ [c]:=by rw [ek,sy_calls,ap_push az]
       have el:(kpX X c).calls.length=X.m+1:=by rw [ec,List.length_append,hm];rfl
       have kz:KS (kpX X c) (X.m+1):=by
        have:=KS.sy0 sz okA;rw [ek];rw [←el,ek,sy_calls];exact this
       have K9 : ∀ k,k∈X.ks->k<=X.m+1:=λ k hk=>Nat.le_succ_of_le (h.kl k hk)
       refine ⟨⟨by show (kpX X c).calls.length<=X.m+1+1;omega,kz, ?_,λ _=>el,K9⟩, ?_,rfl, ?_, ?_, ?_,rfl⟩
       · show CTS (kpX X c).calls
         rw [ec];exact h.ct.push (by rw [←hS];exact hc)
       · show shN (kpX X c).calls (X.m+1)=_
         rw [shN_succ (by omega),ec,shN_app _ _ (by omega)]
         have e:(X.L.calls ++ [c]).getD X.m caR=c:=by rw [←hm];simp [List.getD]
         rw [e];rfl
       · show (kpX X c).calls.take X.m=_
         rw [ec,List.take_append_of_le_length (by omega)]
       · show (kpX X c).calls.length<=_
         omega
       · intro d hd
         have hd':d∈(kpX X c).calls:=hd;rw [ec] at hd'
         rcases List.mem_append.1 hd' with y | y
         · exact .inl y
         · exact .inr (by simpa using y)
     · rw [if_pos z,if_neg (λ y=>z y.2.2),if_neg (λ y=>z y.2.2)]
       rcases kp_calls (X:=X) (c:=c) with ⟨az,ec⟩ | ⟨az,ec⟩
       · have ek:kpX X c=apL X.L c:=by unfold kpX;rw [if_pos az]
         refine ⟨⟨?_, ?_, ?_,λ _ => ?_,h.kl⟩, ?_,rfl, ?_, ?_, ?_,rfl⟩
         · show (kpX X c).calls.length<=X.m+1
           rw [ec];exact h.le1
         · show KS (kpX X c) X.m
           rw [ek];exact h.ks.ap c
         · show CTS (kpX X c).calls
           rw [ec];exact h.ct
         · show (kpX X c).calls.length=X.m
           rw [ec];exact hm
         · show shN (kpX X c).calls X.m=_
           rw [ec];rfl
         · show (kpX X c).calls.take X.m=_
           rw [ec]
         · show (kpX X c).calls.length<=_
           rw [ec];omega
         · intro d hd
           have hd':d∈(kpX X c).calls:=hd;rw [ec] at hd';exact .inl hd'
       · have ek:kpX X c=syL (apL X.L c):=by unfold kpX;rw [if_neg (by simpa using az)]
         have kn:kpF X c=9:=by
          have e:kpF X c=syF (apL X.L c):=by unfold kpF;rw [if_neg (by simpa using az)]
          rcases sy_nine (apL X.L c) with y | y
          · rw [e] at z;exact absurd y z
          · rw [e];exact y
         refine ⟨⟨?_, ?_, ?_,λ y => ?_,h.kl⟩, ?_,rfl, ?_, ?_, ?_,rfl⟩
         · show (kpX X c).calls.length<=X.m+1
           rw [ec,List.length_append,hm];exact Nat.le_refl _
         · show KS (kpX X c) X.m
           rw [ek];exact (h.ks.ap c).sy okA
         · show CTS (kpX X c).calls
           rw [ec];exact h.ct.push (by rw [←hS];exact hc)
         · have y':decide (kpF X c=9)=false:=y
           rw [decide_eq_true kn] at y';cases y'
         · show shN (kpX X c).calls X.m=_
           rw [ec,shN_app _ _ (by omega)];rfl
         · show (kpX X c).calls.take X.m=_
           rw [ec,List.take_append_of_le_length (by omega)]
         · show (kpX X c).calls.length<=_
           rw [ec,List.length_append];exact Nat.le_refl _
         · intro d hd
           have hd':d∈(kpX X c).calls:=hd;rw [ec] at hd'
           rcases List.mem_append.1 hd' with y | y
           · exact .inl y
           · exact .inr (by simpa using y)
def crX (X:Fl) (keep:Int):Fl:=⟨crL X.L keep,(crL X.L keep).calls.length,false,X.ks⟩
theorem cr_fl {X:Fl} (h:FlOk X) (ok:LgOk X.L) (keep:Int):FlOk (crX X keep)/\X.m<=(crX X keep).m/\(crX X keep).m<=X.L.calls.length/\(crX X keep).L.calls=X.L.calls.take (crX X keep).m/\(∀ k,k<=X.m->shN (crX X keep).L.calls k=shN X.L.calls k):=by
 have kc:=h.ks.cr ok keep
 have e:(crL X.L keep).calls=X.L.calls.take (crL X.L keep).calls.length:=by
  rw [cr_calls,List.length_take];have:=fitN_le X.L.calls (crN X.L keep);rw [Nat.min_eq_left this]
 have hl1:=h.le1;have m1:X.m<=(crL X.L keep).calls.length:=kc.1;have cok:=cr_ok ok keep
 refine ⟨⟨Nat.le_succ _,⟨Nat.le_refl _, ?_⟩, ?_,λ _=>rfl,λ k hk=>Nat.le_trans (h.kl k hk) m1⟩,m1,kc.2,e,λ k hk => ?_⟩
 · show (recs ((crL X.L keep).calls.take (crL X.L keep).calls.length)).length<=(crL X.L keep).bytes.length
   rw [List.take_length];exact cok.len.1
 · show CTS (crL X.L keep).calls
   rw [e];exact h.ct.take _
 · show shN (crL X.L keep).calls k=_
   rw [e];exact shN_take _ (by omega)
def tlX (X:Fl) (i:Nat):Fl:=if X.ks.getD i 0<X.m then ⟨X.L,X.m,X.lost,X.ks.set i (X.ks.getD i 0+1)⟩ else X
theorem tl_fl {X:Fl} (h:FlOk X) (i:Nat):FlOk (tlX X i):=by
 unfold tlX
 split
 · next q=>exact ⟨h.le1,h.ks,h.ct,h.all,λ k hk=>by
    rcases List.mem_or_eq_of_mem_set hk with z | z
    · exact h.kl k z
    · have:k=X.ks.getD i 0+1:=z
      show k<=X.m
      omega⟩
 · exact h
def flX (X:Fl) (n:Int):Fl:=⟨⟨X.L.calls,X.L.tail,X.L.safe,n,X.L.stop⟩,X.m,X.lost,X.ks⟩
end Go.Proofs.YtaijnacghiloaaaGreatDoor.M

namespace Go.Proofs.YtaijnacghiloaaaGreatDoor
open Go.ChangeShapes Go.WideShapes Go.ChangeAt Go.RowKit Go.Lib
set_option linter.unusedVariables false
def isB (n:List Nat):Prop := ∀ x∈n,x<256
def caV (c:M.Ca) (a:Option Addr) (cap:Nat):Value := .agg #[.int .i64 c.what, .int .i64 c.ses, .int .i64 c.seq, .string (byStr c.name), .int .i64 c.num, .int .i64 c.share, .slice a c.bys.length cap]
def I64 (x:Int):Prop := -9223372036854775808<=x/\x<=9223372036854775807
structure CaIn (W:World) (c:M.Ca) (a:Option Addr) (cap:Nat):Prop where
 nb:isB c.name
 nl:c.name.length<=9223372036854775807
 rd:RdB W a c.bys
 le:c.bys.length<=cap
 cp:cap<=9223372036854775807
 num:I64 c.num
 shr:I64 c.share
 nil:a=none->cap=0
abbrev CaC:=M.Ca×Option Addr×Nat
def ca0:CaC:=(⟨0,0,0, [],0,0, []⟩,none,0)
def SevenAt (w:World) (b off:Nat) (k:CaC):Prop:=w.cell? ⟨b,off,none⟩=some (.int .i64 k.1.what)/\w.cell? ⟨b,off+1,none⟩=some (.int .i64 k.1.ses)/\w.cell? ⟨b,off+2,none⟩=some (.int .i64 k.1.seq)/\w.cell? ⟨b,off+3,none⟩=some (.string (byStr k.1.name))/\w.cell? ⟨b,off+4,none⟩=some (.int .i64 k.1.num)/\w.cell? ⟨b,off+5,none⟩=some (.int .i64 k.1.share)/\w.cell? ⟨b,off+6,none⟩=some (.slice k.2.1 k.1.bys.length k.2.2)
def RdC (w:World) (a:Option Addr) (l:List CaC):Prop :=
 l.length<=maxLen/\(∀ k∈l,CaIn w k.1 k.2.1 k.2.2)/\(l ≠ [] -> ∃ b off,a=some ⟨b,off,none⟩/\b<w.heap.size /\ ∀ i,i<l.length->SevenAt w b (off+i*7) (l.getD i ca0))
theorem CaIn.below {w w':World} {c:M.Ca} {a:Option Addr} {cap:Nat} (h:CaIn w c a cap) (hb:Below w.heap.size w w'):CaIn w' c a cap:=⟨h.nb,h.nl,h.rd.below hb,h.le,h.cp,h.num,h.shr,h.nil⟩
theorem RdC.below {w w':World} {a:Option Addr} {l:List CaC} (h:RdC w a l) (hb:Below w.heap.size w w'):RdC w' a l :=
 ⟨h.1,λ k hk=>(h.2.1 k hk).below hb,λ hn=>by
  obtain ⟨b,off,e,hl,hc⟩:=h.2.2 hn;have k : ∀ j v,w.cell? ⟨b,j,none⟩=some v->w'.cell? ⟨b,j,none⟩=some v:=λ j v hv=>(hb.cell (p:=⟨b,j,none⟩) hl).trans hv
  exact ⟨b,off,e,Nat.lt_of_lt_of_le hl hb.size,λ i hi=>⟨k _ _ (hc i hi).1,k _ _ (hc i hi).2.1,k _ _ (hc i hi).2.2.1,k _ _ (hc i hi).2.2.2.1,k _ _ (hc i hi).2.2.2.2.1,k _ _ (hc i hi).2.2.2.2.2.1,k _ _ (hc i hi).2.2.2.2.2.2⟩⟩⟩
theorem RdC.at {w:World} {a:Option Addr} {l:List CaC} (h:RdC w a l) {k:Nat} (hk:k<l.length) : ∃ b off,a=some ⟨b,off,none⟩/\b<w.heap.size/\SevenAt w b (off+k*7) (l.getD k ca0)/\CaIn w (l.getD k ca0).1 (l.getD k ca0).2.1 (l.getD k ca0).2.2:=by
 obtain ⟨b,off,e,hb,hc⟩:=h.2.2 (by intro e;rw [e] at hk;simp at hk)
 exact ⟨b,off,e,hb,hc k hk,h.2.1 _ (by rw [List.getD,List.getElem?_eq_getElem hk];exact List.getElem_mem hk)⟩
theorem M.gt_le : ∀ (b:List Nat) (i x:Nat),(M.gtK b i x).2.1<=i+b.length
 | [],i,x=>by show 0<=i+0;omega
 | c :: r,i,x=>by
   have ih:=M.gt_le r (i+1) (x+c % 128*128 ^ i)
   show (if (i=9/\1<c)∨(0<i/\c=0) then ((0:Int),(0:Nat),(2:Int)) else if c<128 then (M.unz (x+c % 128*128 ^ i),i+1,0) else M.gtK r (i+1) (x+c % 128*128 ^ i)).2.1<=i+(r.length+1)
   split
   · exact Nat.zero_le _
   · split
     · show i+1<=_;omega
     · omega
theorem M.get_le (b:List Nat):(M.getL b).2.1<=b.length:=by
 have:=M.gt_le b 0 0;rw [Nat.zero_add] at this;exact this
theorem M.rNum_fin {b:List Nat} {s:M.In} (h:s.fin<=b.length):(M.rNum b s).2.fin<=b.length:=by
 by_cases q:s.bad=0
 · rw [M.rNum_go q]
   have:=M.get_le (b.drop s.fin);rw [List.length_drop] at this;show s.fin+_<=_;omega
 · rw [M.rNum_bad q];exact h
theorem M.rMany_fin {b:List Nat} {s:M.In} {most:Int} (h:s.fin<=b.length):(M.rMany b most s).2.fin<=b.length:=by
 have:=M.rNum_fin h;unfold M.rMany
 split
 · exact this
 · split
   · exact this
   · exact this
theorem cell_set_same {W:World} {g o:Nat} {u v:Value} (h:W.cell? ⟨g,o,none⟩=some u):(W.setCell ⟨g,o,none⟩ v).cell? ⟨g,o,none⟩=some v:=World.cell?_setCell_same _ _ _ h
theorem cell_set_other {W:World} {g o j:Nat} {u v:Value} (h:W.cell? ⟨g,j,none⟩=some u) (hj:o≠j):(W.setCell ⟨g,o,none⟩ v).cell? ⟨g,j,none⟩=some u:=(World.cell?_setCell_other _ _ _ _ (by intro e;cases e;exact hj rfl)).trans h
theorem frozen_set {W:World} {g o j:Nat} {v:Value} (h:W.frozen? ⟨g,j,none⟩=false):(W.setCell ⟨g,o,none⟩ v).frozen? ⟨g,j,none⟩=false:=by rw [World.frozen?_setCell];exact h
theorem rdB_keep {W W':World} {a:Option Addr} {xs:List Nat} (h:RdB W a xs) (hk:xs ≠ [] -> ∀ p,a=some p->W'.heap[p.block]? = W.heap[p.block]?) (hz:W.heap.size<=W'.heap.size):RdB W' a xs :=
 ⟨h.1,h.2.1,λ hn=>by
  obtain ⟨b,off,e,hl,hc⟩:=h.2.2 hn;have hb:W'.heap[b]? = W.heap[b]? := hk hn _ e
  exact ⟨b,off,e,Nat.lt_of_lt_of_le hl hz,λ i hi=>(World.cell?_of_block (a:=⟨b,_,none⟩) hb).trans (hc i hi)⟩⟩
def M.lat (s:M.In):Nat:=if s.bad=0 then s.fin else s.at'
def M.rWith (b:List Nat) (lo hi e:Int) (s:M.In):Int×M.In :=
 if s.bad≠0 then (0,s)
 else if (M.getL (b.drop s.fin)).2.2≠0 then (0,⟨s.fin,s.fin+(M.getL (b.drop s.fin)).2.1,(M.getL (b.drop s.fin)).2.2⟩)
 else if (M.getL (b.drop s.fin)).1<lo∨hi<(M.getL (b.drop s.fin)).1 then (0,⟨s.fin,s.fin+(M.getL (b.drop s.fin)).2.1,e⟩)
 else ((M.getL (b.drop s.fin)).1,⟨s.fin,s.fin+(M.getL (b.drop s.fin)).2.1,0⟩)
theorem M.gt_zero : ∀ (b:List Nat) (i x:Nat),(M.gtK b i x).2.2≠0->(M.gtK b i x).1=0
 | [],i,x,_=>rfl
 | c :: r,i,x,h=>by
   have ih:=M.gt_zero r (i+1) (x+c % 128*128 ^ i);have e:M.gtK (c :: r) i x=if (i=9/\1<c)∨(0<i/\c=0) then ((0:Int),(0:Nat),(2:Int)) else if c<128 then (M.unz (x+c % 128*128 ^ i),i+1,0) else M.gtK r (i+1) (x+c % 128*128 ^ i):=rfl;rw [e] at h ⊢
   split
   · rfl
   · next q =>
     rw [if_neg q] at h
     split
     · next q2=>rw [if_pos q2] at h;exact absurd rfl h
     · next q2=>rw [if_neg q2] at h;exact ih h
theorem M.rWith_num {b:List Nat} (h8 : ∀ x∈b,x<256) (s:M.In):M.rWith b (-9223372036854775808) 9223372036854775807 1 s=M.rNum b s:=by
 unfold M.rWith
 by_cases q:s.bad=0
 · rw [if_neg (by simp [q]),M.rNum_go q]
   by_cases r:(M.getL (b.drop s.fin)).2.2=0
   · rw [if_neg (by simp [r])]
     obtain ⟨⟨n,k,e⟩,hR⟩ : ∃ R,M.getL (b.drop s.fin)=R:=⟨_,rfl⟩
     rw [hR] at r ⊢;have r':e=0:=r;subst r';have g:=M.get_back (λ x hx=>h8 x (List.mem_of_mem_drop hx)) hR;rw [if_neg (by show ¬ (n<_∨_<n);omega)]
   · rw [if_pos r]
     have:=M.gt_zero (b.drop s.fin) 0 0 r
     show (0,_)=((M.gtK (b.drop s.fin) 0 0).1,_)
     rw [this]
 · rw [if_pos q,M.rNum_bad q]
theorem M.rWith_many (b:List Nat) (most:Int) (s:M.In):M.rWith b 1 most 1 s=M.rMany b most s:=by
 unfold M.rWith M.rMany
 by_cases q:s.bad=0
 · rw [if_neg (by simp [q]),M.rNum_go q]
   by_cases r:(M.getL (b.drop s.fin)).2.2=0
   · rw [if_neg (by simp [r])]
     by_cases z:(M.getL (b.drop s.fin)).1<1∨most<(M.getL (b.drop s.fin)).1
     · rw [if_pos z,if_pos ⟨r,z⟩]
     · rw [if_neg z,if_neg (λ y=>z y.2),if_neg (by simp [r]),r]
   · rw [if_pos r,if_neg (λ y=>r y.1),if_pos r]
 · rw [if_pos q,M.rNum_bad q,if_neg (λ y=>q y.1),if_pos q]
theorem M.rWith_tru {b:List Nat} (h8 : ∀ x∈b,x<256) (s:M.In):(M.rWith b 0 1 2 s).2=(if (M.rNum b s).2.bad=0/\(M.rNum b s).1≠0/\(M.rNum b s).1≠1 then { (M.rNum b s).2 with bad:=2 } else (M.rNum b s).2)/\((M.rWith b 0 1 2 s).1 == 1)=decide ((M.rNum b s).1=1):=by
 unfold M.rWith
 by_cases q:s.bad=0
 · rw [if_neg (by simp [q]),M.rNum_go q]
   by_cases r:(M.getL (b.drop s.fin)).2.2=0
   · rw [if_neg (by simp [r])]
     by_cases z:(M.getL (b.drop s.fin)).1<0∨1<(M.getL (b.drop s.fin)).1
     · rw [if_pos z,if_pos ⟨r,by show (M.getL (b.drop s.fin)).1≠0;omega,by show (M.getL (b.drop s.fin)).1≠1;omega⟩]
       exact ⟨rfl,by rw [decide_eq_false (by show ¬ (M.getL (b.drop s.fin)).1=1;omega)];rfl⟩
     · rw [if_neg z,if_neg (by rintro ⟨_,y1,y2⟩;exact z (by have y1:(M.getL (b.drop s.fin)).1≠0:=y1;have y2:(M.getL (b.drop s.fin)).1≠1:=y2;omega))]
       exact ⟨by rw [r],rfl⟩
   · rw [if_pos r,if_neg (λ y=>r y.1)]
     refine ⟨rfl, ?_⟩
     have e:(M.getL (b.drop s.fin)).1=0:=M.gt_zero (b.drop s.fin) 0 0 r;show ((0:Int) == 1)=decide ((M.getL (b.drop s.fin)).1=1);rw [e];rfl
 · rw [if_pos q,M.rNum_bad q,if_neg (λ y=>q y.1)]
   exact ⟨rfl,rfl⟩
structure RdA (W:World) (g:Nat) (v:Value) (s:M.In):Prop where
 c0:W.cell? ⟨g,0,none⟩=some v
 c1:W.cell? ⟨g,1,none⟩=some (.int .i64 (M.lat s:Nat))
 c2:W.cell? ⟨g,2,none⟩=some (errV s.bad)
 fr : ∀ j,W.frozen? ⟨g,j,none⟩=false
theorem RdA.lt {W:World} {g:Nat} {v:Value} {s:M.In} (h:RdA W g v s):g<W.heap.size:=block_lt_of_cell h.c0
theorem RdA.same {W W':World} {g:Nat} {v:Value} {s:M.In} (h:RdA W g v s) (e:W'.heap[g]? = W.heap[g]?):RdA W' g v s :=
 ⟨(World.cell?_of_block (a:=⟨g,0,none⟩) e).trans h.c0,(World.cell?_of_block (a:=⟨g,1,none⟩) e).trans h.c1,(World.cell?_of_block (a:=⟨g,2,none⟩) e).trans h.c2,λ j=>(World.frozen?_of_block (a:=⟨g,j,none⟩) e).trans (h.fr j)⟩
theorem RdA.up {W W':World} {g:Nat} {v:Value} {s:M.In} (h:RdA W g v s) (hb:Below W.heap.size W W'):RdA W' g v s:=h.same (hb.block g h.lt)
theorem RdA.go {W:World} {g:Nat} {v:Value} {s:M.In} (h:RdA W g v s) (hs:s.bad=0) (n:Nat) (z:Int) (hz:z=(n:Int)):RdA (W.setCell ⟨g,1,none⟩ (.int .i64 z)) g v ⟨s.fin,n,0⟩:=by
 subst hz
 refine ⟨cell_set_other h.c0 (by decide), ?_, ?_,λ j=>frozen_set (h.fr j)⟩
 · have e:M.lat ⟨s.fin,n,0⟩=n:=if_pos rfl
   rw [e];exact cell_set_same h.c1
 · have:=h.c2
   rw [hs] at this;exact cell_set_other this (by decide)
theorem RdA.stop {W:World} {g:Nat} {v:Value} {s:M.In} (h:RdA W g v s) (hs:s.bad=0) (n:Nat) (e:Int) (he:e≠0):RdA (W.setCell ⟨g,2,none⟩ (.iface 69 (.int .i64 e))) g v ⟨s.fin,n,e⟩:=by
 refine ⟨cell_set_other h.c0 (by decide), ?_, ?_,λ j=>frozen_set (h.fr j)⟩
 · have e1:M.lat ⟨s.fin,n,e⟩=M.lat s:=by unfold M.lat;rw [if_neg he,if_pos hs]
   rw [e1];exact cell_set_other h.c1 (by decide)
 · show _=some (errV e)
   rw [err_some he];exact cell_set_same h.c2
set_option maxHeartbeats 8000000 in
set_option maxRecDepth 10000 in
theorem within_any (g:Nat) (a:Option Addr) (bs:List Nat) (c:Nat) (lo hi told:Int) (s:M.In) (w:World) (h:RdA w g (.slice a bs.length c) s) (hb:RdB w a bs) (hc:bs.length<=c) (h63:c<=9223372036854775807) (hf:s.fin<=bs.length) (ht:told≠0) :
 Calls Tryz.prog 160 #[.pointer (some ⟨g,0,none⟩), .int .i64 lo, .int .i64 hi, .int .i64 told] w λ e w'=>e = .returned (.int .i64 (M.rWith bs lo hi told s).1)/\RdA w' g (.slice a bs.length c) (M.rWith bs lo hi told s).2/\w.grownBy w' (some g):=by
 have y2:=h.c2;have HT:=hide ht;clear ht
 by_cases q:s.bad=0
 · have EW:Hid (M.rWith bs lo hi told s=if (M.getL (bs.drop s.fin)).2.2≠0 then (0,⟨s.fin,s.fin+(M.getL (bs.drop s.fin)).2.1,(M.getL (bs.drop s.fin)).2.2⟩) else if (M.getL (bs.drop s.fin)).1<lo∨hi<(M.getL (bs.drop s.fin)).1 then (0,⟨s.fin,s.fin+(M.getL (bs.drop s.fin)).2.1,told⟩) else ((M.getL (bs.drop s.fin)).1,⟨s.fin,s.fin+(M.getL (bs.drop s.fin)).2.1,0⟩)):=by
    unfold Hid M.rWith;rw [if_neg (by simp [q])]
   rw [err_nil q] at y2;have y0:=h.c0;have y1:=h.c1;rw [show M.lat s=s.fin from if_pos q] at y1;have Q:=hide q
   obtain ⟨R,hR⟩ : ∃ R,R=M.getL (bs.drop s.fin):=⟨_,rfl⟩
   have rl:s.fin+R.2.1<=bs.length:=by
    have:=M.get_le (bs.drop s.fin);rw [←hR,List.length_drop] at this;omega
   have GT:Hid (∀ (W:World) a' n' c',n'=bs.length-s.fin->RdB W a' (bs.drop s.fin)->Calls Tryz.prog 102 #[.slice a' n' c'] W λ e w'=>e = .returned (.tuple #[.int .i64 R.1, .int .i64 (R.2.1:Nat),errV R.2.2])/\w'=W):=λ W a' n' c' hn h'=>by
    have:=cdget_same a' (bs.drop s.fin) c' W h';rw [List.length_drop,←hn,←hR] at this;exact this
   rw [←hR] at EW;have RS:Hid (∀ n,RdB (w.drewN n) (if c=s.fin then a else Option.map (λ x=>x.add s.fin) a) (bs.drop s.fin)):=λ n=>rdB_slice (hb.below (below_drew (Below.refl _ _) n (Nat.le_refl _))) hc
   have z0:(0:Int)<=(s.fin:Int):=by omega
   have z1:(s.fin:Int)<=(bs.length:Int):=by omega
   have z2:(s.fin:Int)<=(c:Int):=by omega
   have HH:=hide h;generalize M.rWith bs lo hi told s=Z at *;clear h hb hR q;obtain ⟨n,k,er⟩:=R;have rl:s.fin+k<=bs.length:=rl
   have rl2:s.fin+k<=9223372036854775807:=by omega
   simp only at GT EW
   by_cases r:er=0
   · subst r
     have zn:errV 0 = .nilIface:=if_pos rfl;rw [zn] at GT;rw [if_neg (by simp)] at EW;clear zn
     by_cases l1:n<lo
     · have EZ:Hid (Z=(0,⟨s.fin,s.fin+k,told⟩)):=by unfold Hid;rw [EW.out,if_pos (.inl l1)]
       have t1:decide (n<lo)=true:=decide_eq_true l1;clear EW l1
       go_enter Tryz.func160, Tryz.ntmps160
       go_upto_region 3 with (fail)
       go_quiet ((go_at_call 102;exact Calls.quiet_of_same (GT.out _ _ _ _ rfl (RS.out _))))
       generalize (if c=s.fin then a else Option.map (λ x=>x.add s.fin) a)=ad
       obtain ⟨w2,hw2⟩ : ∃ X,X=w.drewN nq:=⟨_,rfl⟩
       rw [←hw2]
       have H2:Hid (RdA w2 g (.slice a bs.length c) s):=by rw [hw2];exact HH.out.up (below_drew (Below.refl _ _) nq (Nat.le_refl _))
       have G2:Hid (w.grownBy w2 (some g)):=by rw [hw2];exact grown_of (below_drew (Below.refl _ _) nq (Nat.le_refl _)) (some g)
       clear hw2 y0 y1 y2 GT RS HH
       have v2:w2.cell? ⟨g,2,none⟩=some (.nilIface):=by have:=H2.out.c2;rwa [err_nil Q.out] at this
       have f2:=H2.out.fr 2;have S3:=hide (H2.out.stop Q.out (s.fin+k) told HT.out)
       go_wp2
       go_ret
       exact ⟨by rw [EZ.out];rfl,by rw [EZ.out];exact S3.out,grown_trans G2.out grown_set (.inl rfl)⟩
     · by_cases l2:hi<n
       · have EZ:Hid (Z=(0,⟨s.fin,s.fin+k,told⟩)):=by unfold Hid;rw [EW.out,if_pos (.inr l2)]
         have t1:decide (n<lo)=false:=decide_eq_false l1;have t2:decide (hi<n)=true:=decide_eq_true l2;clear EW l1 l2
         go_enter Tryz.func160, Tryz.ntmps160
         go_upto_region 3 with (fail)
         go_quiet ((go_at_call 102;exact Calls.quiet_of_same (GT.out _ _ _ _ rfl (RS.out _))))
         generalize (if c=s.fin then a else Option.map (λ x=>x.add s.fin) a)=ad
         obtain ⟨w2,hw2⟩ : ∃ X,X=w.drewN nq:=⟨_,rfl⟩
         rw [←hw2]
         have H2:Hid (RdA w2 g (.slice a bs.length c) s):=by rw [hw2];exact HH.out.up (below_drew (Below.refl _ _) nq (Nat.le_refl _))
         have G2:Hid (w.grownBy w2 (some g)):=by rw [hw2];exact grown_of (below_drew (Below.refl _ _) nq (Nat.le_refl _)) (some g)
         clear hw2 y0 y1 y2 GT RS HH
         have v2:w2.cell? ⟨g,2,none⟩=some (.nilIface):=by have:=H2.out.c2;rwa [err_nil Q.out] at this
         have f2:=H2.out.fr 2;have S3:=hide (H2.out.stop Q.out (s.fin+k) told HT.out)
         go_wp2
         go_ret
         exact ⟨by rw [EZ.out];rfl,by rw [EZ.out];exact S3.out,grown_trans G2.out grown_set (.inl rfl)⟩
       · have EZ:Hid (Z=(n,⟨s.fin,s.fin+k,0⟩)):=by unfold Hid;rw [EW.out,if_neg (by rintro (y | y);exact l1 y;exact l2 y)]
         have t1:decide (n<lo)=false:=decide_eq_false l1;have t2:decide (hi<n)=false:=decide_eq_false l2;clear EW l1 l2
         go_enter Tryz.func160, Tryz.ntmps160
         go_upto_region 3 with (fail)
         go_quiet ((go_at_call 102;exact Calls.quiet_of_same (GT.out _ _ _ _ rfl (RS.out _))))
         generalize (if c=s.fin then a else Option.map (λ x=>x.add s.fin) a)=ad
         obtain ⟨w2,hw2⟩ : ∃ X,X=w.drewN nq:=⟨_,rfl⟩
         rw [←hw2]
         have H2:Hid (RdA w2 g (.slice a bs.length c) s):=by rw [hw2];exact HH.out.up (below_drew (Below.refl _ _) nq (Nat.le_refl _))
         have G2:Hid (w.grownBy w2 (some g)):=by rw [hw2];exact grown_of (below_drew (Below.refl _ _) nq (Nat.le_refl _)) (some g)
         clear hw2 y0 y1 y2 GT RS HH
         have v1:w2.cell? ⟨g,1,none⟩=some (.int .i64 (s.fin:Nat)):=by have:=H2.out.c1;rwa [show M.lat s=s.fin from if_pos Q.out] at this
         have f1:=H2.out.fr 1;have S3:=hide (H2.out.go Q.out (s.fin+k) ((s.fin:Int)+(k:Int)) (by omega))
         go_wp2
         go_ret
         exact ⟨by rw [EZ.out];rfl,by rw [EZ.out];exact S3.out,grown_trans G2.out grown_set (.inl rfl)⟩
   · have EZ:Hid (Z=(0,⟨s.fin,s.fin+k,er⟩)):=by unfold Hid;rw [EW.out,if_pos r]
     rw [err_some r] at GT;have RR:=hide r;clear EW r
     go_enter Tryz.func160, Tryz.ntmps160
     go_upto_region 3 with (fail)
     go_quiet ((go_at_call 102;exact Calls.quiet_of_same (GT.out _ _ _ _ rfl (RS.out _))))
     generalize (if c=s.fin then a else Option.map (λ x=>x.add s.fin) a)=ad
     obtain ⟨w2,hw2⟩ : ∃ X,X=w.drewN nq:=⟨_,rfl⟩
     rw [←hw2]
     have H2:Hid (RdA w2 g (.slice a bs.length c) s):=by rw [hw2];exact HH.out.up (below_drew (Below.refl _ _) nq (Nat.le_refl _))
     have G2:Hid (w.grownBy w2 (some g)):=by rw [hw2];exact grown_of (below_drew (Below.refl _ _) nq (Nat.le_refl _)) (some g)
     clear hw2 y0 y1 y2 GT RS HH
     have v2:w2.cell? ⟨g,2,none⟩=some (.nilIface):=by have:=H2.out.c2;rwa [err_nil Q.out] at this
     have f2:=H2.out.fr 2;have S3:=hide (H2.out.stop Q.out (s.fin+k) er RR.out)
     go_wp2
     go_ret
     exact ⟨by rw [EZ.out];rfl,by rw [EZ.out];exact S3.out,grown_trans G2.out grown_set (.inl rfl)⟩
 · have EZ:Hid (M.rWith bs lo hi told s=(0,s)):=by unfold Hid M.rWith;rw [if_pos q]
   rw [err_some q] at y2;have HI:=hide h;clear h hb q
   go_enter Tryz.func160, Tryz.ntmps160
   go_wp2
   go_ret
   exact ⟨by rw [EZ.out];rfl,by rw [EZ.out];exact HI.out,World.grownBy.refl _ _⟩
theorem number_any (g:Nat) (a:Option Addr) (bs:List Nat) (c:Nat) (s:M.In) (w:World) (h:RdA w g (.slice a bs.length c) s) (hb:RdB w a bs) (hc:bs.length<=c) (h63:c<=9223372036854775807) (hf:s.fin<=bs.length) :
 Calls Tryz.prog 153 #[.pointer (some ⟨g,0,none⟩)] w λ e w'=>e = .returned (.int .i64 (M.rNum bs s).1)/\RdA w' g (.slice a bs.length c) (M.rNum bs s).2/\w.grownBy w' (some g):=by
 have F:=hide (within_any g a bs c (-9223372036854775808) 9223372036854775807 1 s w h hb hc h63 hf (by decide));rw [M.rWith_num hb.2.1] at F;generalize M.rNum bs s=R at *;clear h hb hc hf
 go_enter Tryz.func153, Tryz.ntmps153
 go_wp2_with (go_at_call 160;refine F.out.mono ?_;rintro e w1 ⟨rfl,i1,g1⟩;have I1:=hide i1;have G1:=hide g1;clear i1 g1)
 go_ret
 exact ⟨rfl,I1.out,G1.out⟩
theorem count_any (g:Nat) (a:Option Addr) (bs:List Nat) (c:Nat) (most:Int) (s:M.In) (w:World) (h:RdA w g (.slice a bs.length c) s) (hb:RdB w a bs) (hc:bs.length<=c) (h63:c<=9223372036854775807) (hf:s.fin<=bs.length) :
 Calls Tryz.prog 154 #[.pointer (some ⟨g,0,none⟩), .int .i64 most] w λ e w'=>e = .returned (.int .i64 (M.rMany bs most s).1)/\RdA w' g (.slice a bs.length c) (M.rMany bs most s).2/\w.grownBy w' (some g):=by
 have F:=hide (within_any g a bs c 1 most 1 s w h hb hc h63 hf (by decide));rw [M.rWith_many] at F;generalize M.rMany bs most s=R at *;clear h hb hc hf
 go_enter Tryz.func154, Tryz.ntmps154
 go_wp2_with (go_at_call 160;refine F.out.mono ?_;rintro e w1 ⟨rfl,i1,g1⟩;have I1:=hide i1;have G1:=hide g1;clear i1 g1)
 go_ret
 exact ⟨rfl,I1.out,G1.out⟩
theorem truth_any (g:Nat) (a:Option Addr) (bs:List Nat) (c:Nat) (s:M.In) (w:World) (h:RdA w g (.slice a bs.length c) s) (hb:RdB w a bs) (hc:bs.length<=c) (h63:c<=9223372036854775807) (hf:s.fin<=bs.length) :
 Calls Tryz.prog 164 #[.pointer (some ⟨g,0,none⟩)] w λ e w'=>e = .returned (.bool (decide ((M.rNum bs s).1=1)))/\RdA w' g (.slice a bs.length c) (if (M.rNum bs s).2.bad=0/\(M.rNum bs s).1≠0/\(M.rNum bs s).1≠1 then { (M.rNum bs s).2 with bad:=2 } else (M.rNum bs s).2)/\w.grownBy w' (some g):=by
 have F:=hide (within_any g a bs c 0 1 2 s w h hb hc h63 hf (by decide));have e:=M.rWith_tru hb.2.1 s;rw [e.1] at F;have E2:=hide e.2;generalize (if (M.rNum bs s).2.bad=0/\(M.rNum bs s).1≠0/\(M.rNum bs s).1≠1 then { (M.rNum bs s).2 with bad:=2 } else (M.rNum bs s).2)=T at *;rw [←e.2];generalize (M.rWith bs 0 1 2 s).1=R at *;clear h hb hc hf e
 go_enter Tryz.func164, Tryz.ntmps164
 go_wp2_with (go_at_call 160;refine F.out.mono ?_;rintro e w1 ⟨rfl,i1,g1⟩;have I1:=hide i1;have G1:=hide g1;clear i1 g1)
 go_ret
 exact ⟨rfl,I1.out,G1.out⟩
structure Rdr (W:World) (g:Nat) (a:Option Addr) (bs:List Nat) (c:Nat) (s:M.In):Prop where
 box:RdA W g (.slice a bs.length c) s
 rd:RdB W a bs
 hc:bs.length<=c
 h63:c<=9223372036854775807
 fin:s.fin<=bs.length
 ne:bs ≠ [] -> ∀ p,a=some p->p.block≠g
theorem Rdr.lt {W:World} {g:Nat} {a:Option Addr} {bs:List Nat} {c:Nat} {s:M.In} (h:Rdr W g a bs c s):g<W.heap.size:=h.box.lt
theorem Rdr.up {W W':World} {g:Nat} {a:Option Addr} {bs:List Nat} {c:Nat} {s:M.In} (h:Rdr W g a bs c s) (hb:Below W.heap.size W W'):Rdr W' g a bs c s:=⟨h.box.up hb,h.rd.below hb,h.hc,h.h63,h.fin,h.ne⟩
theorem Rdr.alloc {W:World} {g:Nat} {a:Option Addr} {bs:List Nat} {c:Nat} {s:M.In} (h:Rdr W g a bs c s) (o:Obj):Rdr (W.alloc o) g a bs c s:=h.up ((Below.refl _ W).alloc (Nat.le_refl _) o)
theorem Rdr.step {W W':World} {g:Nat} {a:Option Addr} {bs:List Nat} {c:Nat} {s s':M.In} (h:Rdr W g a bs c s) (hb:RdA W' g (.slice a bs.length c) s') (hg:W.grownBy W' (some g)) (hf:s'.fin<=bs.length):Rdr W' g a bs c s' :=
 ⟨hb,rdB_keep h.rd (λ hn p hp=>hg.block p.block (by
  obtain ⟨b,off,e,hl,_⟩:=h.rd.2.2 hn;rw [hp] at e;cases e
  exact hl) (λ e=>h.ne hn p hp (by cases e;rfl))) hg.size,h.hc,h.h63,hf,h.ne⟩
theorem Rdr.far {w W W':World} {g:Nat} {a:Option Addr} {bs:List Nat} {c:Nat} {s0 s:M.In} {r:Option Nat} (h0:Rdr w g a bs c s0) (h:Rdr W g a bs c s) (hg:W.grownBy W' r) (hr : ∀ q,r=some q->w.heap.size<=q):Rdr W' g a bs c s:=by
 have l0:=h0.lt
 refine ⟨h.box.same (hg.block g h.lt (λ e=>by have:=hr g e.symm;omega)),rdB_keep h.rd (λ hn p hp => ?_) hg.size,h.hc,h.h63,h.fin,h.ne⟩
 obtain ⟨b,off,e,hl,_⟩:=h0.rd.2.2 hn;rw [hp] at e;cases e;obtain ⟨b,off,e,hl2,_⟩:=h.rd.2.2 hn;rw [hp] at e;cases e;exact hg.block _ hl2 (λ e=>by have:=hr _ e.symm;simp at this;omega)
theorem M.ask_fin {b:List Nat} {s:M.In} {f:Int} (h:s.fin<=b.length):(M.rAsk b f s).2.fin<=b.length:=by
 have:=M.rNum_fin (M.rNum_fin (M.rNum_fin (M.rNum_fin h)));unfold M.rAsk;simp only
 split
 · exact this
 · exact this
theorem M.rNode_fin {b:List Nat} {s:M.In} (h:s.fin<=b.length):(M.rNode b s).2.fin<=b.length:=by
 unfold M.rNode
 split
 · exact M.rNum_fin (M.rNum_fin h)
 · exact M.ask_fin (M.rNum_fin h)
theorem M.rNum_zero {b:List Nat} {s:M.In} (h:(M.rNum b s).2.bad≠0):(M.rNum b s).1=0:=by
 by_cases q:s.bad=0
 · rw [M.rNum_go q] at h ⊢
   exact M.gt_zero _ 0 0 h
 · rw [M.rNum_bad q]
theorem numR {W:World} {g:Nat} {a:Option Addr} {bs:List Nat} {c:Nat} {s:M.In} (h:Rdr W g a bs c s):Calls Tryz.prog 153 #[.pointer (some ⟨g,0,none⟩)] W λ e w'=>e = .returned (.int .i64 (M.rNum bs s).1)/\Rdr w' g a bs c (M.rNum bs s).2/\W.grownBy w' (some g) :=
 (number_any g a bs c s W h.box h.rd h.hc h.h63 h.fin).mono λ e w' hh=>⟨hh.1,h.step hh.2.1 hh.2.2 (M.rNum_fin h.fin),hh.2.2⟩
theorem cntR {W:World} {g:Nat} {a:Option Addr} {bs:List Nat} {c:Nat} {s:M.In} (most:Int) (h:Rdr W g a bs c s):Calls Tryz.prog 154 #[.pointer (some ⟨g,0,none⟩), .int .i64 most] W λ e w'=>e = .returned (.int .i64 (M.rMany bs most s).1)/\Rdr w' g a bs c (M.rMany bs most s).2/\W.grownBy w' (some g) :=
 (count_any g a bs c most s W h.box h.rd h.hc h.h63 h.fin).mono λ e w' hh=>⟨hh.1,h.step hh.2.1 hh.2.2 (M.rMany_fin h.fin),hh.2.2⟩
theorem truR {W:World} {g:Nat} {a:Option Addr} {bs:List Nat} {c:Nat} {s:M.In} (h:Rdr W g a bs c s):Calls Tryz.prog 164 #[.pointer (some ⟨g,0,none⟩)] W λ e w'=>e = .returned (.bool (decide ((M.rNum bs s).1=1)))/\Rdr w' g a bs c (if (M.rNum bs s).2.bad=0/\(M.rNum bs s).1≠0/\(M.rNum bs s).1≠1 then { (M.rNum bs s).2 with bad:=2 } else (M.rNum bs s).2)/\W.grownBy w' (some g) :=
 (truth_any g a bs c s W h.box h.rd h.hc h.h63 h.fin).mono λ e w' hh=>⟨hh.1,h.step hh.2.1 hh.2.2 (by have:=M.rNum_fin h.fin;split;exact this;exact this),hh.2.2⟩
theorem new_grown {w W:World} {cs:Array Value} {t:TypeId} {g:Nat} (hg:(w.alloc (.cells cs t)).grownBy W (some g)) (hl:g<w.heap.size):(∀ j v,cs[j]? = some v->W.cell? ⟨w.heap.size,j,none⟩=some v) /\ ∀ j,W.frozen? ⟨w.heap.size,j,none⟩=false:=by
 have lt:w.heap.size<(w.alloc (.cells cs t)).heap.size:=by simp
 have e:=hg.block w.heap.size lt (λ e=>by cases e;omega)
 refine ⟨λ j v hv=>(World.cell?_of_block (a:=⟨w.heap.size,j,none⟩) e).trans (by rw [World.cell?_alloc_new];exact hv),λ j=>(World.frozen?_of_block (a:=⟨w.heap.size,j,none⟩) e).trans (frozen_new2 w cs t j)⟩
theorem grown_new {w W:World} {o:Obj} {r:Option Nat} (h:(w.alloc o).grownBy W r):w.grownBy W r:=grown_trans (World.grownBy_alloc w o r) h (.inl rfl)
theorem grown6 {w W:World} {p:Nat} {r:Option Nat} {x0 x1 x2 x3 x4 x5:Value} (h:w.grownBy W r) (hp:w.heap.size<=p):w.grownBy ((((((W.setCell ⟨p,0,none⟩ x0).setCell ⟨p,1,none⟩ x1).setCell ⟨p,2,none⟩ x2).setCell ⟨p,3,none⟩ x3).setCell ⟨p,4,none⟩ x4).setCell ⟨p,5,none⟩ x5) r :=
 have f : ∀ q,some p=some q->w.heap.size<=q:=λ q e=>by cases e;exact hp
 grown_trans (grown_trans (grown_trans (grown_trans (grown_trans (grown_trans h grown_set (.inr f)) grown_set (.inr f)) grown_set (.inr f)) grown_set (.inr f)) grown_set (.inr f)) grown_set (.inr f)
theorem grown6_at {W:World} {p:Nat} {x0 x1 x2 x3 x4 x5:Value}:W.grownBy ((((((W.setCell ⟨p,0,none⟩ x0).setCell ⟨p,1,none⟩ x1).setCell ⟨p,2,none⟩ x2).setCell ⟨p,3,none⟩ x3).setCell ⟨p,4,none⟩ x4).setCell ⟨p,5,none⟩ x5) (some p) :=
 grown_trans (grown_trans (grown_trans (grown_trans (grown_trans grown_set grown_set (.inl rfl)) grown_set (.inl rfl)) grown_set (.inl rfl)) grown_set (.inl rfl)) grown_set (.inl rfl)
end Go.Proofs.YtaijnacghiloaaaGreatDoor

namespace Go.Proofs.YtaijnacghiloaaaGreatDoor
open Go.ChangeShapes Go.WideShapes Go.ChangeAt Go.RowKit Go.Deep
set_option linter.unusedVariables false
def ndV (n:M.Nd):Value := .agg #[.int .i64 (M.nf n), .int .i64 (M.nc n), .int .i64 (M.nl n), .int .i64 (M.nr n), .bool (M.ns n), .int .i64 (M.nv n)]
def SixAt (w:World) (b off:Nat) (n:M.Nd):Prop :=
 w.cell? ⟨b,off,none⟩=some (.int .i64 (M.nf n))/\w.cell? ⟨b,off+1,none⟩=some (.int .i64 (M.nc n))/\w.cell? ⟨b,off+2,none⟩=some (.int .i64 (M.nl n)) /\
 w.cell? ⟨b,off+3,none⟩=some (.int .i64 (M.nr n))/\w.cell? ⟨b,off+4,none⟩=some (.bool (M.ns n))/\w.cell? ⟨b,off+5,none⟩=some (.int .i64 (M.nv n))
theorem SixAt.below {w w':World} {b off:Nat} {n:M.Nd} {B:Nat} (h:SixAt w b off n) (hb:Below B w w') (hl:b<B):SixAt w' b off n:=by
 obtain ⟨h0,h1,h2,h3,h4,h5⟩:=h
 exact ⟨(hb.cell (p:=⟨b,off,none⟩) hl).trans h0,(hb.cell (p:=⟨b,off+1,none⟩) hl).trans h1,(hb.cell (p:=⟨b,off+2,none⟩) hl).trans h2,
  (hb.cell (p:=⟨b,off+3,none⟩) hl).trans h3,(hb.cell (p:=⟨b,off+4,none⟩) hl).trans h4,(hb.cell (p:=⟨b,off+5,none⟩) hl).trans h5⟩
def RdN (w:World) (a:Option Addr) (ts:List M.Nd):Prop :=
 ts.length<=maxLen/\(ts ≠ [] -> ∃ b off,a=some ⟨b,off,none⟩/\b<w.heap.size /\ ∀ i,i<ts.length->SixAt w b (off+i*6) (M.nAt ts i))
theorem RdN.below {w w':World} {a:Option Addr} {ts:List M.Nd} (h:RdN w a ts) (hb:Below w.heap.size w w'):RdN w' a ts :=
 ⟨h.1,λ hn=>by
  obtain ⟨b,off,e,hl,hc⟩:=h.2 hn
  exact ⟨b,off,e,Nat.lt_of_lt_of_le hl hb.size,λ i hi=>(hc i hi).below hb hl⟩⟩
theorem cellsInt : Tryz.prog.cellsOf 3=1:=by kernel_rfl
theorem add_flat (b off i:Nat):(⟨b,off,none⟩:Addr).add i=⟨b,off+i,none⟩:=by unfold Addr.add;simp
end Go.Proofs.YtaijnacghiloaaaGreatDoor

namespace Go.Proofs.YtaijnacghiloaaaGreatDoor
open Go.ChangeShapes Go.WideShapes Go.ChangeAt Go.RowKit Go.Lib
set_option linter.unusedVariables false
set_option maxHeartbeats 8000000 in
set_option maxRecDepth 10000 in
theorem nodeR {w:World} {g:Nat} {a:Option Addr} {bs:List Nat} {c:Nat} {s:M.In} (h:Rdr w g a bs c s):Calls Tryz.prog 161 #[.pointer (some ⟨g,0,none⟩)] w λ e w'=>e = .returned (ndV (M.rNode bs s).1)/\Rdr w' g a bs c (M.rNode bs s).2/\w.grownBy w' (some g):=by
 have gl:=h.lt
 obtain ⟨n1,s1,h1⟩ : ∃ n1 s1,M.rNum bs s=(n1,s1):=⟨_,_,rfl⟩
 have N1:=hide (λ (W:World) (h:Rdr W g a bs c s)=>numR h);rw [h1] at N1;have NF:Hid (∀ W,(w.alloc (.cells #[.int .i64 0, .int .i64 0, .int .i64 0, .int .i64 0, .bool false, .int .i64 0] 26)).grownBy W (some g)->(∀ j v,#[Value.int .i64 0, .int .i64 0, .int .i64 0, .int .i64 0, .bool false, .int .i64 0][j]? = some v->W.cell? ⟨w.heap.size,j,none⟩=some v) /\ ∀ j,W.frozen? ⟨w.heap.size,j,none⟩=false):=λ W hW=>new_grown hW gl;have I0:=hide h;have IA:=hide (h.alloc (.cells #[.int .i64 0, .int .i64 0, .int .i64 0, .int .i64 0, .bool false, .int .i64 0] 26));have sz:w.heap.size<=w.heap.size:=Nat.le_refl _
 by_cases q:n1 = -1
 · obtain ⟨n2,s2,h2⟩ : ∃ n2 s2,M.rNum bs s1=(n2,s2):=⟨_,_,rfl⟩
   have N2:=hide (λ (W:World) (h:Rdr W g a bs c s1)=>numR h);rw [h2] at N2
   have EN:Hid (M.rNode bs s=((n1,0,0,0,false,n2),s2)):=by
    have zb:s1.bad=0:=by
     by_cases z:s1.bad=0
     · exact z
     · have:=M.rNum_zero (b:=bs) (s:=s) (by rw [h1];exact z)
       rw [h1] at this;have this:n1=0:=this;omega
    unfold Hid M.rNode;rw [h1,if_pos ⟨zb,q⟩];show ((n1,0,0,0,false,(M.rNum bs s1).1),(M.rNum bs s1).2)=_;rw [h2]
   generalize M.rNode bs s=Z at *
   have t1:(n1 == -1)=true:=by rw [beq_iff_eq];exact q
   clear h h1 h2 q;simp only at N1 N2
   go_enter Tryz.func161, Tryz.ntmps161
   go_wp2_with (first
    | (go_at_call 153;refine (N2.out _ I1.out).mono ?_;rintro e w2 ⟨rfl,i2,g2⟩;have I2:=hide i2;have G2:=hide (grown_trans G1.out g2 (.inl rfl));have y0:=(NF.out w2 G2.out).1 0 _ rfl;have y1:=(NF.out w2 G2.out).1 1 _ rfl;have y2:=(NF.out w2 G2.out).1 2 _ rfl;have y3:=(NF.out w2 G2.out).1 3 _ rfl;have y4:=(NF.out w2 G2.out).1 4 _ rfl;have y5:=(NF.out w2 G2.out).1 5 _ rfl;have f0:=(NF.out w2 G2.out).2 0;have f1:=(NF.out w2 G2.out).2 1;have f2:=(NF.out w2 G2.out).2 2;have f3:=(NF.out w2 G2.out).2 3;have f4:=(NF.out w2 G2.out).2 4;have f5:=(NF.out w2 G2.out).2 5;clear i2 g2)
    | (go_at_call 153;refine (N1.out _ IA.out).mono ?_;rintro e w1 ⟨rfl,i1,g1⟩;have I1:=hide i1;have G1:=hide g1;clear i1 g1))
   obtain ⟨e0,e1,e2,e3,e4,e5⟩:=set6 (x0 := .int .i64 n1) (x1 := .int .i64 0) (x2 := .int .i64 0) (x3 := .int .i64 0) (x4 := .bool false) (x5 := .int .i64 n2) y0 y1 y2 y3 y4 y5;refine bodyPost_ret (v := .agg #[.int .i64 n1, .int .i64 0, .int .i64 0, .int .i64 0, .bool false, .int .i64 n2]) (by simp [results, Tryz.results161,go_sem,e0,e1,e2,e3,e4,e5]) rfl ?_
   exact ⟨by rw [EN.out];rfl,by rw [EN.out];exact I0.out.far I2.out grown6_at (λ q e=>by cases e;exact sz),grown6 (grown_new G2.out) sz⟩
 · obtain ⟨n2,s2,h2⟩ : ∃ n2 s2,M.rNum bs s1=(n2,s2):=⟨_,_,rfl⟩
   obtain ⟨n3,s3,h3⟩ : ∃ n3 s3,M.rNum bs s2=(n3,s3):=⟨_,_,rfl⟩
   obtain ⟨n4,s4,h4⟩ : ∃ n4 s4,M.rNum bs s3=(n4,s4):=⟨_,_,rfl⟩
   obtain ⟨s5,h5⟩ : ∃ s5,(if (M.rNum bs s4).2.bad=0/\(M.rNum bs s4).1≠0/\(M.rNum bs s4).1≠1 then { (M.rNum bs s4).2 with bad:=2 } else (M.rNum bs s4).2)=s5:=⟨_,rfl⟩
   obtain ⟨bb,hbb⟩ : ∃ bb,decide ((M.rNum bs s4).1=1)=bb:=⟨_,rfl⟩
   have N2:=hide (λ (W:World) (h:Rdr W g a bs c s1)=>numR h);have N3:=hide (λ (W:World) (h:Rdr W g a bs c s2)=>numR h);have N4:=hide (λ (W:World) (h:Rdr W g a bs c s3)=>numR h);have T5:=hide (λ (W:World) (h:Rdr W g a bs c s4)=>truR h);rw [h2] at N2;rw [h3] at N3;rw [h4] at N4;rw [h5,hbb] at T5
   have EN:Hid (M.rNode bs s=((n1,n2,n3,n4,bb,0),s5)):=by
    unfold Hid M.rNode;rw [h1,if_neg (λ z=>q z.2)];show M.rAsk bs n1 s1=_;unfold M.rAsk;simp only;rw [h2];simp only;rw [h3];simp only;rw [h4];simp only;rw [h5,hbb]
   generalize M.rNode bs s=Z at *
   have t1:(n1 == -1)=false:=by rw [beq_eq_false_iff_ne];exact q
   clear h h1 h2 h3 h4 h5 hbb q;simp only at N1 N2 N3 N4
   go_enter Tryz.func161, Tryz.ntmps161
   go_wp2_with (first
    | (go_at_call 164;refine (T5.out _ I4.out).mono ?_;rintro e w5 ⟨rfl,i5,g5⟩;have I5:=hide i5;have G5:=hide (grown_trans G4.out g5 (.inl rfl));have y0:=(NF.out w5 G5.out).1 0 _ rfl;have y1:=(NF.out w5 G5.out).1 1 _ rfl;have y2:=(NF.out w5 G5.out).1 2 _ rfl;have y3:=(NF.out w5 G5.out).1 3 _ rfl;have y4:=(NF.out w5 G5.out).1 4 _ rfl;have y5:=(NF.out w5 G5.out).1 5 _ rfl;have f0:=(NF.out w5 G5.out).2 0;have f1:=(NF.out w5 G5.out).2 1;have f2:=(NF.out w5 G5.out).2 2;have f3:=(NF.out w5 G5.out).2 3;have f4:=(NF.out w5 G5.out).2 4;have f5:=(NF.out w5 G5.out).2 5;clear i5 g5)
    | (go_at_call 153;refine (N4.out _ I3.out).mono ?_;rintro e w4 ⟨rfl,i4,g4⟩;have I4:=hide i4;have G4:=hide (grown_trans G3.out g4 (.inl rfl));clear i4 g4)
    | (go_at_call 153;refine (N3.out _ I2.out).mono ?_;rintro e w3 ⟨rfl,i3,g3⟩;have I3:=hide i3;have G3:=hide (grown_trans G2.out g3 (.inl rfl));clear i3 g3)
    | (go_at_call 153;refine (N2.out _ I1.out).mono ?_;rintro e w2 ⟨rfl,i2,g2⟩;have I2:=hide i2;have G2:=hide (grown_trans G1.out g2 (.inl rfl));clear i2 g2)
    | (go_at_call 153;refine (N1.out _ IA.out).mono ?_;rintro e w1 ⟨rfl,i1,g1⟩;have I1:=hide i1;have G1:=hide g1;clear i1 g1))
   obtain ⟨e0,e1,e2,e3,e4,e5⟩:=set6 (x0 := .int .i64 n1) (x1 := .int .i64 n2) (x2 := .int .i64 n3) (x3 := .int .i64 n4) (x4 := .bool bb) (x5 := .int .i64 0) y0 y1 y2 y3 y4 y5;refine bodyPost_ret (v := .agg #[.int .i64 n1, .int .i64 n2, .int .i64 n3, .int .i64 n4, .bool bb, .int .i64 0]) (by simp [results, Tryz.results161,go_sem,e0,e1,e2,e3,e4,e5]) rfl ?_
   exact ⟨by rw [EN.out];rfl,by rw [EN.out];exact I0.out.far I5.out grown6_at (λ q e=>by cases e;exact sz),grown6 (grown_new G5.out) sz⟩
end Go.Proofs.YtaijnacghiloaaaGreatDoor

namespace Go.Proofs.YtaijnacghiloaaaGreatDoor
open Go.ChangeShapes Go.WideShapes Go.ChangeAt Go.RowKit
set_option linter.unusedVariables false
theorem infoN:(Tryz.prog.info? 26).map (λ i=>(i.zero,i.size,i.bytes))=some (some (.agg #[.int .i64 0, .int .i64 0, .int .i64 0, .int .i64 0, .bool false, .int .i64 0]),6,48):=by kernel_rfl
def ndCells (ts:List M.Nd):List Value:=ts.flatMap λ n => [.int .i64 (M.nf n), .int .i64 (M.nc n), .int .i64 (M.nl n), .int .i64 (M.nr n), .bool (M.ns n), .int .i64 (M.nv n)]
theorem ndCells_cons (n:M.Nd) (t:List M.Nd):ndCells (n :: t) = .int .i64 (M.nf n) :: .int .i64 (M.nc n) :: .int .i64 (M.nl n) :: .int .i64 (M.nr n) :: .bool (M.ns n) :: .int .i64 (M.nv n) :: ndCells t:=rfl
theorem ndCells_len (ts:List M.Nd):(ndCells ts).length=ts.length*6:=by
 induction ts with
 | nil=>rfl
 | cons x t ih=>rw [ndCells_cons];simp only [List.length_cons,ih];omega
theorem ndCells_one (ts:List M.Nd) : ∀ v∈ndCells ts,v.oneCell'=true:=by
 intro v hv;simp only [ndCells,List.mem_flatMap] at hv;obtain ⟨s,_,hs⟩:=hv;simp only [List.mem_cons,List.not_mem_nil,or_false] at hs
 rcases hs with rfl | rfl | rfl | rfl | rfl | rfl <;> rfl
theorem ndCells_at : ∀ (ts:List M.Nd) (i:Nat),i<ts.length->(ndCells ts)[i*6]? = some (.int .i64 (M.nf (M.nAt ts i)))/\(ndCells ts)[i*6+1]? = some (.int .i64 (M.nc (M.nAt ts i)))/\(ndCells ts)[i*6+2]? = some (.int .i64 (M.nl (M.nAt ts i)))/\(ndCells ts)[i*6+3]? = some (.int .i64 (M.nr (M.nAt ts i)))/\(ndCells ts)[i*6+4]? = some (.bool (M.ns (M.nAt ts i)))/\(ndCells ts)[i*6+5]? = some (.int .i64 (M.nv (M.nAt ts i)))
 | [],i,h=>by simp at h
 | s :: t,0,h=>⟨rfl,rfl,rfl,rfl,rfl,rfl⟩
 | s :: t,i+1,h=>by
   have:=ndCells_at t i (by simpa using h)
   have e:M.nAt (s :: t) (i+1)=M.nAt t i:=by simp [M.nAt]
   rw [ndCells_cons,e,show (i+1)*6=i*6+1+1+1+1+1+1 by omega]
   simpa using this
theorem nd_src {w:World} {b off:Nat} {ts:List M.Nd} (hc : ∀ i,i<ts.length->SixAt w b (off+i*6) (M.nAt ts i)) : ∀ j u,(ndCells ts)[j]? = some u->w.cell? ((⟨b,off,none⟩:Addr).add j)=some u:=by
 intro j u hj
 have hl:j<ts.length*6:=by
  have:=(List.getElem?_eq_some_iff.1 hj).1
  rwa [ndCells_len] at this
 have hi:j / 6<ts.length:=by omega
 obtain ⟨h0,h1,h2,h3,h4,h5⟩:=hc _ hi;obtain ⟨q0,q1,q2,q3,q4,q5⟩:=ndCells_at ts _ hi;rw [add_flat]
 rcases (show j=j / 6*6∨j=j / 6*6+1∨j=j / 6*6+2∨j=j / 6*6+3∨j=j / 6*6+4∨j=j / 6*6+5 by omega) with e | e | e | e | e | e
 · rw [e] at hj ⊢;rw [q0] at hj;rw [←hj];simpa [Nat.mul_div_cancel] using h0
 · rw [e] at hj ⊢;rw [show (j / 6*6+1)=j / 6*6+1 from rfl] at hj;rw [q1] at hj;rw [←hj,←Nat.add_assoc];exact h1
 · rw [e] at hj ⊢;rw [q2] at hj;rw [←hj,←Nat.add_assoc];exact h2
 · rw [e] at hj ⊢;rw [q3] at hj;rw [←hj,←Nat.add_assoc];exact h3
 · rw [e] at hj ⊢;rw [q4] at hj;rw [←hj,←Nat.add_assoc];exact h4
 · rw [e] at hj ⊢;rw [q5] at hj;rw [←hj,←Nat.add_assoc];exact h5
theorem own_rdN {w:World} {base n:Nat} {v:Value} {ts:List M.Nd} (hn:ts.length=n) (hm:n<=maxLen) (h:w.ownsRow base 26 6 v n (ndCells ts)) : ∃ a cap,v = .slice a n cap/\RdN w a ts/\(∀ p,a=some p->base<=p.block):=by
 subst hn
 rcases h.2 with ⟨hv,h0⟩ | ⟨g,cap,cur,hv,hb,hg,h1,h2,h3,h4⟩
 · have e:ts = []:=List.length_eq_zero_iff.1 h0
   subst e
   exact ⟨none,0,hv,⟨Nat.zero_le _,λ h=>absurd rfl h⟩,λ p hp=>by cases hp⟩
 · subst hv
   refine ⟨_,cap,rfl,⟨hm,λ _=>⟨g,0,rfl,(Array.getElem?_eq_some_iff.1 hg).1,λ i hi => ?_⟩⟩,λ p hp=>by cases hp;exact hb⟩
   obtain ⟨q0,q1,q2,q3,q4,q5⟩:=ndCells_at ts i hi;rw [Nat.zero_add]
   exact ⟨(h.cellAt (i*6) (by omega)).trans q0,(h.cellAt (i*6+1) (by omega)).trans q1,(h.cellAt (i*6+2) (by omega)).trans q2,(h.cellAt (i*6+3) (by omega)).trans q3,(h.cellAt (i*6+4) (by omega)).trans q4,(h.cellAt (i*6+5) (by omega)).trans q5⟩
theorem ndCells_app (a b:List M.Nd):ndCells (a ++ b)=ndCells a ++ ndCells b:=by unfold ndCells;rw [List.flatMap_append]
theorem ndCells_set2 : ∀ (ts:List M.Nd) (i:Nat),i<ts.length -> ∀ l r:Int,((ndCells ts).set (i*6+2) (.int .i64 l)).set (i*6+3) (.int .i64 r)=ndCells (ts.set i (M.nf (M.nAt ts i),M.nc (M.nAt ts i),l,r,M.ns (M.nAt ts i),M.nv (M.nAt ts i)))
 | [],i,h,l,r=>by simp at h
 | n :: t,0,h,l,r=>rfl
 | n :: t,i+1,h,l,r=>by
   have ih:=ndCells_set2 t i (by simpa using h) l r
   have e:M.nAt (n :: t) (i+1)=M.nAt t i:=by simp [M.nAt]
   rw [e,List.set_cons_succ,ndCells_cons,ndCells_cons,←ih,show (i+1)*6+2=(i*6+2)+1+1+1+1+1+1 by omega,show (i+1)*6+3=(i*6+3)+1+1+1+1+1+1 by omega];simp only [List.set_cons_succ]
theorem ndCells_setL : ∀ (ts:List M.Nd) (i:Nat),i<ts.length -> ∀ l:Int,(ndCells ts).set (i*6+2) (.int .i64 l)=ndCells (ts.set i (M.nf (M.nAt ts i),M.nc (M.nAt ts i),l,M.nr (M.nAt ts i),M.ns (M.nAt ts i),M.nv (M.nAt ts i)))
 | [],i,h,l=>by simp at h
 | n :: t,0,h,l=>rfl
 | n :: t,i+1,h,l=>by
   have ih:=ndCells_setL t i (by simpa using h) l
   have e:M.nAt (n :: t) (i+1)=M.nAt t i:=by simp [M.nAt]
   rw [e,List.set_cons_succ,ndCells_cons,ndCells_cons,←ih,show (i+1)*6+2=(i*6+2)+1+1+1+1+1+1 by omega];simp only [List.set_cons_succ]
theorem ndCells_setR : ∀ (ts:List M.Nd) (i:Nat),i<ts.length -> ∀ r:Int,(ndCells ts).set (i*6+3) (.int .i64 r)=ndCells (ts.set i (M.nf (M.nAt ts i),M.nc (M.nAt ts i),M.nl (M.nAt ts i),r,M.ns (M.nAt ts i),M.nv (M.nAt ts i)))
 | [],i,h,r=>by simp at h
 | n :: t,0,h,r=>rfl
 | n :: t,i+1,h,r=>by
   have ih:=ndCells_setR t i (by simpa using h) r
   have e:M.nAt (n :: t) (i+1)=M.nAt t i:=by simp [M.nAt]
   rw [e,List.set_cons_succ,ndCells_cons,ndCells_cons,←ih,show (i+1)*6+3=(i*6+3)+1+1+1+1+1+1 by omega];simp only [List.set_cons_succ]
theorem nAt_snoc (O:List M.Nd) (n:M.Nd) (C:List M.Nd):M.nAt (O ++ n :: C) O.length=n:=by unfold M.nAt;simp [List.getD]
theorem set_snoc (O:List M.Nd) (n n':M.Nd) (C:List M.Nd):(O ++ n :: C).set O.length n'=O ++ n' :: C:=by
 rw [List.set_append_right _ _ (Nat.le_refl _),Nat.sub_self,List.set_cons_zero]
theorem own_low {w:World} {base base' e size n:Nat} {v:Value} {l:List Value} (hb:base'<=base) (h:w.ownsRow base e size v n l):w.ownsRow base' e size v n l:=by
 refine ⟨h.1, ?_⟩
 rcases h.2 with h0 | ⟨g,cap,cur,hv,hg,rest⟩
 · exact .inl h0
 · exact .inr ⟨g,cap,cur,hv,by omega,rest⟩
end Go.Proofs.YtaijnacghiloaaaGreatDoor
