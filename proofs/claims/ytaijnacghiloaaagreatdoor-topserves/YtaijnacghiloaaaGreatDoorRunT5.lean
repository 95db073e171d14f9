/-
  Several texts as one: CdTree, MathJ, VnCells, TNode, TStray, TDepth, TCheck, MathCc, OneMa.
-/
import Derived.Test.YtaijnacghiloaaaGreatDoorRunT4
import Derived.Test.YtaijnacghiloaaaGreatDoorRunT2
import Derived.Test.YtaijnacghiloaaaGreatDoorRunT1
import Derived.Test.YtaijnacghiloaaaGreatDoorRunT3
import Derived.Laws.AppendOwnNone
import Derived.OwnWalk
import Derived.RegionTactic
import Derived.Deep.RegionWith
import Derived.Deep.Cut
import Derived.Deep.CutRange
import Derived.Deep.QuietTactic
import Derived.ChangeAlike
import Derived.KernelRfl
namespace Go.Proofs.YtaijnacghiloaaaGreatDoor
open Go.ChangeShapes Go.WideShapes Go.ChangeAt Go.RowKit Go.Lib
set_option linter.unusedVariables false
def M.lNodes (b:List Nat):Nat->M.In->List M.Nd×M.In
 | 0,s=>([],s)
 | k+1,s=>((M.rNode b s).1 :: (M.lNodes b k (M.rNode b s).2).1,(M.lNodes b k (M.rNode b s).2).2)
theorem M.rNode_bad {b:List Nat} {s:M.In} (h:s.bad≠0):(M.rNode b s).2=s:=by
 unfold M.rNode;rw [M.rNum_bad h,if_neg (λ z=>h z.1)];unfold M.rAsk;simp only [M.rNum_bad h];rw [if_neg (λ z=>h z.1)]
theorem M.lNodes_bad {b:List Nat} : ∀ (k:Nat) {s:M.In},s.bad≠0->(M.lNodes b k s).2=s
 | 0,s,h=>rfl
 | k+1,s,h=>by
   show (M.lNodes b k (M.rNode b s).2).2=s;rw [M.rNode_bad h];exact M.lNodes_bad k h
theorem M.lNodes_is {b:List Nat} : ∀ (k:Nat) (s:M.In),(M.lNodes b k s).2=(M.rNodes b k s).2/\((M.rNodes b k s).2.bad=0->(M.lNodes b k s).1=(M.rNodes b k s).1)
 | 0,s=>⟨rfl,λ _=>rfl⟩
 | k+1,s=>by
   have e:M.rNodes b (k+1) s=if s.bad≠0 then ([],s) else ((M.rNode b s).1 :: (M.rNodes b k (M.rNode b s).2).1,(M.rNodes b k (M.rNode b s).2).2):=rfl
   by_cases q:s.bad=0
   · rw [e,if_neg (by simp [q])]
     have ih:=M.lNodes_is (b:=b) k (M.rNode b s).2
     refine ⟨ih.1,λ h => ?_⟩
     show _ :: _=_ :: _;rw [ih.2 h]
   · rw [e,if_pos q]
     exact ⟨M.lNodes_bad (k+1) q,λ h=>absurd h q⟩
theorem M.lNodes_len {b:List Nat} : ∀ (k:Nat) (s:M.In),(M.lNodes b k s).1.length=k
 | 0,s=>rfl
 | k+1,s=>by show (M.lNodes b k (M.rNode b s).2).1.length+1=k+1;rw [M.lNodes_len k]
theorem M.lNodes_fin {b:List Nat} : ∀ (k:Nat) {s:M.In},s.fin<=b.length->(M.lNodes b k s).2.fin<=b.length
 | 0,s,h=>h
 | k+1,s,h=>M.lNodes_fin k (M.rNode_fin h)
theorem M.rMany_in {b:List Nat} {most:Int} {s:M.In} (h:0<=most):0<=(M.rMany b most s).1/\(M.rMany b most s).1<=most:=by
 unfold M.rMany
 split
 · exact ⟨Int.le_refl _,h⟩
 · next q =>
   split
   · exact ⟨Int.le_refl _,h⟩
   · next q2 =>
     have z:(M.rNum b s).2.bad=0:=by by_cases y:(M.rNum b s).2.bad=0;exact y;exact absurd y q2
     have : ¬ ((M.rNum b s).1<1∨most<(M.rNum b s).1):=λ y=>q ⟨z,y⟩;omega
def M.lTree (b:List Nat) (s:M.In):List M.Nd×M.In:=M.lNodes b (M.rMany b 63 s).1.toNat (M.rMany b 63 s).2
theorem own_rdr {w W W':World} {e size n:Nat} {v:Value} {l:List Value} {g:Nat} (ho:W.ownsRow w.heap.size e size v n l) (hg:W.grownBy W' (some g)) (gl:g<w.heap.size):W'.ownsRow w.heap.size e size v n l:=by
 refine ho.kept hg ?_
 cases hv:v.ownBlock with
 | none=>exact .inl rfl
 | some q=>exact .inr λ e=>by cases e;have:=(ho.lt _ hv).1;omega
set_option maxHeartbeats 8000000 in
set_option maxRecDepth 10000 in
theorem treeR {w:World} {g:Nat} {a:Option Addr} {bs:List Nat} {c:Nat} {s:M.In} (h:Rdr w g a bs c s):Calls Tryz.prog 155 #[.pointer (some ⟨g,0,none⟩)] w λ e w' => ∃ va vc,e = .returned (.slice va (M.lTree bs s).1.length vc)/\w'.ownsRow w.heap.size 26 6 (.slice va (M.lTree bs s).1.length vc) (M.lTree bs s).1.length (ndCells (M.lTree bs s).1)/\Rdr w' g a bs c (M.lTree bs s).2/\w.grownBy w' (some g):=by
 have GL:=hide h.lt;have H0:=hide h;have C1:=hide (cntR 63 h);have mi:=M.rMany_in (b:=bs) (s:=s) (most:=63) (by decide);have ET:Hid (M.lTree bs s=M.lNodes bs (M.rMany bs 63 s).1.toNat (M.rMany bs 63 s).2):=rfl
 obtain ⟨⟨m,s0⟩,hm⟩ : ∃ R,M.rMany bs 63 s=R:=⟨_,rfl⟩
 rw [hm] at C1 mi ET;simp only at C1 mi ET
 obtain ⟨n,rfl⟩ : ∃ n:Nat,m=(n:Int):=⟨m.toNat,by omega⟩
 rw [Int.toNat_natCast] at ET
 have n63:n<=63:=by omega
 have LN:Hid ((M.lTree bs s).1.length=n):=by unfold Hid;rw [ET.out];exact M.lNodes_len n s0
 rw [LN.out];generalize M.lTree bs s=Z at *;have NN:=hide (λ (W:World) (s:M.In) (h:Rdr W g a bs c s)=>nodeR h);have NA:Hid (∀ k s,M.lNodes bs (k+1) s=((M.rNode bs s).1 :: (M.lNodes bs k (M.rNode bs s).2).1,(M.lNodes bs k (M.rNode bs s).2).2)):=λ _ _=>rfl;obtain ⟨j0,hj0,hy0,hy1,hy2⟩:=info_parts infoN;have J0:=hide hj0;clear h hm mi hj0
 go_enter Tryz.func155, Tryz.ntmps155
 go_wp2_with (go_at_call 154;refine C1.out.mono ?_;rintro e w1 ⟨rfl,i1,g1⟩;have I1:=hide i1;have G1:=hide g1;clear i1 g1)
 clear C1
 go_loopw [3,6] (λ v i wr => ∃ (k:Nat) (L:List M.Nd) (va:Option Addr) (vc:Nat) (s':M.In),k<=n/\i = .int .i64 k/\v = .slice va k vc/\Hid (L.length=k)/\Hid (Z=(L ++ (M.lNodes bs (n-k) s').1,(M.lNodes bs (n-k) s').2))/\Hid (Rdr wr g a bs c s')/\Hid (wr.ownsRow w.heap.size 26 6 (.slice va k vc) k (ndCells L))/\Hid (w.grownBy wr (some g))) (λ _ i _=>n-(intOf i).toNat)
 case atStart=>exact ⟨0, [],none,0,s0,Nat.zero_le _,rfl,rfl,rfl,by rw [Nat.sub_zero];exact ET,I1,World.ownsRow_nil _ _ _ _,G1⟩
 case round =>
  obtain ⟨k,L,va,vc,s',hk,rfl,rfl,LK,EZ,RR,OO,GG⟩:=hrel
  by_cases hlt:k<n
  · have kz:(k:Int)<(n:Int):=by omega
    have N1:=hide (NN.out wr s' RR.out);have na:=NA.out (n-(k+1)) s';rw [show n-(k+1)+1=n-k by omega] at na;have ez:=EZ.out;rw [na] at ez
    obtain ⟨⟨⟨f,cc,l,r,b,v⟩,s2⟩,h2⟩ : ∃ R,M.rNode bs s'=R:=⟨_,rfl⟩
    rw [h2] at N1 ez;have nv:ndV (f,cc,l,r,b,v) = .agg #[.int .i64 f, .int .i64 cc, .int .i64 l, .int .i64 r, .bool b, .int .i64 v]:=rfl;simp only [nv] at N1
    have E2:Hid (Z=((L ++ [(f,cc,l,r,b,v)]) ++ (M.lNodes bs (n-(k+1)) s2).1,(M.lNodes bs (n-(k+1)) s2).2)):=by
     unfold Hid;rw [ez,List.append_assoc];rfl
    have NC:Hid (ndCells (L ++ [(f,cc,l,r,b,v)])=ndCells L ++ [.int .i64 f, .int .i64 cc, .int .i64 l, .int .i64 r, .bool b, .int .i64 v]):=by unfold Hid;rw [ndCells_app];rfl
    have LK2:Hid ((L ++ [(f,cc,l,r,b,v)]).length=k+1):=by unfold Hid;rw [List.length_append,LK.out];rfl
    clear ez na nv h2 NN NA EZ LN ET
    go_wp2_with (first
     | (go_at_call 161;refine N1.out.mono ?_;rintro e w2 ⟨rfl,i2,g2⟩;have I2:=hide i2;have G2:=hide (grown_trans GG.out g2 (.inl rfl));have O2:=hide (own_rdr OO.out g2 GL.out);have z2:=G2.out.size;clear i2 g2)
     | (at_builtin;refine wpList_append_lies _ rfl (.tmp 8) (.tmp 11) 27 rfl w.heap.size 26 j0 (.agg #[.int .i64 0, .int .i64 0, .int .i64 0, .int .i64 0, .bool false, .int .i64 0]) 6 48 Tryz.underlying27 J0.out hy0 hy1 hy2 rfl (by omega) (.slice va k vc) k (ndCells L) rfl (O2.out.alloc _) ⟨w2.heap.size,0,none⟩ 1 1 [.int .i64 f, .int .i64 cc, .int .i64 l, .int .i64 r, .bool b, .int .i64 v] rfl rfl (World.news_of_block (heap_alloc_new _ _)) (by simp [Value.oneCell']) (by omega) (by unfold maxLen;omega) (by omega) (by simp;omega) (w2.heap.size+1) (by simp) ?_;intro g3 cap3 w3 ho3 hg3 _ _;have O3:=hide ho3;have R3:=hide (H0.out.far (I2.out.alloc _) hg3 (λ q hq=>(OO.out.lt q hq).1));have G3:=hide (grown_trans (grown_trans G2.out (World.grownBy_alloc w2 _ (some g)) (.inl rfl)) hg3 (.inr (λ q hq=>(OO.out.lt q hq).1)));clear ho3 hg3))
    go_roundw
    case rel=>exact ⟨k+1,L ++ [(f,cc,l,r,b,v)],_,_,s2,by omega,by go_num,rfl,LK2,E2,R3,by unfold Hid;rw [NC.out];exact O3.out,G3⟩
    case measure=>simp [intOf];omega
  · have ek:k=n:=by omega
    have kz : ¬ ((k:Int)<(n:Int)):=by omega
    have EZ2:Hid (Z=(L,s')):=by
     have:=EZ.out;rw [ek,Nat.sub_self] at this;unfold Hid;rw [this];show (L ++ [],_)=_;rw [List.append_nil];rfl
    have ek2:=hide ek;clear EZ NN NA ek ET LN
    go_wp2
    go_ret
    have ek:=ek2.out;subst ek
    exact ⟨va,vc,rfl,by rw [EZ2.out];exact OO.out,by rw [EZ2.out];exact RR.out,GG.out⟩
end Go.Proofs.YtaijnacghiloaaaGreatDoor

namespace Go.Proofs.YtaijnacghiloaaaGreatDoor.M
set_option linter.unusedVariables false
def lvK (t:List Nd):Nat->List Int
 | 0 => []
 | k+1=>if leafB (nAt t k)=true then lvK t k ++ [nv (nAt t k)] else lvK t k
theorem lvK_mem (t:List Nd) : ∀ (k:Nat) (x:Int),x∈lvK t k ↔ ∃ j,j<k/\leafB (nAt t j)=true/\x=nv (nAt t j)
 | 0,x=>by simp [lvK]
 | k+1,x=>by
   unfold lvK
   by_cases h:leafB (nAt t k)=true
   · rw [if_pos h,List.mem_append,lvK_mem t k x,List.mem_singleton]
     constructor
     · rintro (⟨j,h1,h2⟩ | rfl)
       · exact ⟨j,by omega,h2⟩
       · exact ⟨k,by omega,h,rfl⟩
     · rintro ⟨j,h1,h2,h3⟩
       by_cases q:j=k
       · subst q;exact .inr h3
       · exact .inl ⟨j,by omega,h2,h3⟩
   · rw [if_neg h,lvK_mem t k x]
     constructor
     · rintro ⟨j,h1,h2⟩
       exact ⟨j,by omega,h2⟩
     · rintro ⟨j,h1,h2,h3⟩
       by_cases q:j=k
       · subst q;exact absurd h2 h
       · exact ⟨j,by omega,h2,h3⟩
theorem leafV_leaf' {t:List Nd} {r:List Int} (h:readyF t r=0):toD t r 0<t.length/\nf (nAt t (toD t r 0)) = -1:=by
 have F:=(tree_ok (ready_ok h).2).1;exact to_end F.2.2.2.2.1 r t.length 0 F.2.1 (by omega)
theorem eval_mem {t:List Nd} {r:List Int} (h:readyF t r=0):evalV t r∈lvK t t.length:=by
 have hl:=leafV_leaf' h;unfold evalV;rw [if_pos h,lvK_mem]
 refine ⟨toD t r 0,hl.1, ?_,rfl⟩
 unfold leafB
 rw [hl.2];rfl
theorem lv_in {t:List Nd} {m:Int} (F:Fair t m) : ∀ x∈lvK t t.length, -1000000<=x/\x<=1000000:=by
 intro x hx;obtain ⟨j,h1,h2,rfl⟩:=(lvK_mem t _ x).1 hx;have:=F.2.2.2.2.1 j h1;unfold leafB at h2;unfold nodeF at this;rw [if_pos (of_decide_eq_true h2)] at this;unfold lfF at this
 split at this
 · cases this
 · rename_i hc
   exact out_false (by simpa using hc)
theorem wt_at {g:Gv} (h:Good g) {i:Nat} (hi:i<(gt g).length):1<=(gs g).getD i 0/\(gs g).getD i 0<=1000:=by
 have hl:=h.len;rw [getD_at (by omega)];exact h.wts _ (List.getElem_mem _)
theorem each_in {g:Gv} {r:List Int} (h:standF g r=0) {i:Nat} (hi:i<(gt g).length) : -1000000<=(eachL g r).getD i 0/\(eachL g r).getD i 0<=1000000:=by
 rw [each_at g r hi,getD_at hi];have hr:=stand_ready h (List.getElem_mem hi);exact lv_in (tree_ok (ready_ok hr).2).1 _ (eval_mem hr)
end Go.Proofs.YtaijnacghiloaaaGreatDoor.M

namespace Go.Proofs.YtaijnacghiloaaaGreatDoor
open Go.ChangeShapes Go.WideShapes Go.ChangeAt Go.RowKit Go.Lib
set_option linter.unusedVariables false
def M.vAtL (l:List M.Vn) (i:Nat):M.Vn:=l.getD i M.vn0
def FourAt (w:World) (b off:Nat) (u:M.Vn):Prop:=w.cell? ⟨b,off,none⟩=some (.string (byStr u.name))/\w.cell? ⟨b,off+1,none⟩=some (.int .i64 u.num)/\w.cell? ⟨b,off+2,none⟩=some (.int .i64 u.stage)/\w.cell? ⟨b,off+3,none⟩=some (.int .i64 u.share)
def RdV (w:World) (a:Option Addr) (xs:List M.Vn):Prop :=
 xs.length<=maxLen/\(xs ≠ [] -> ∃ b off,a=some ⟨b,off,none⟩/\b<w.heap.size /\ ∀ i,i<xs.length->FourAt w b (off+i*4) (M.vAtL xs i))
theorem RdV.below {w w':World} {a:Option Addr} {xs:List M.Vn} (h:RdV w a xs) (hb:Below w.heap.size w w'):RdV w' a xs :=
 ⟨h.1,λ hn=>by
  obtain ⟨b,off,e,hl,hc⟩:=h.2 hn
  exact ⟨b,off,e,Nat.lt_of_lt_of_le hl hb.size,λ i hi=>⟨(hb.cell (p:=⟨b,off+i*4,none⟩) hl).trans (hc i hi).1,(hb.cell (p:=⟨b,off+i*4+1,none⟩) hl).trans (hc i hi).2.1,(hb.cell (p:=⟨b,off+i*4+2,none⟩) hl).trans (hc i hi).2.2.1,(hb.cell (p:=⟨b,off+i*4+3,none⟩) hl).trans (hc i hi).2.2.2⟩⟩⟩
theorem RdV.keep {w w':World} {a:Option Addr} {xs:List M.Vn} (h:RdV w a xs) (hz:w.heap.size<=w'.heap.size) (hk : ∀ p,a=some p->w'.heap[p.block]? = w.heap[p.block]?):RdV w' a xs :=
 ⟨h.1,λ hn=>by
  obtain ⟨b,off,e,hl,hc⟩:=h.2 hn;have hb:w'.heap[b]? = w.heap[b]? := hk _ e;have k : ∀ j v,w.cell? ⟨b,j,none⟩=some v->w'.cell? ⟨b,j,none⟩=some v:=λ j v hv=>(World.cell?_of_block (a:=⟨b,j,none⟩) hb).trans hv
  exact ⟨b,off,e,Nat.lt_of_lt_of_le hl hz,λ i hi=>⟨k _ _ (hc i hi).1,k _ _ (hc i hi).2.1,k _ _ (hc i hi).2.2.1,k _ _ (hc i hi).2.2.2⟩⟩⟩
theorem isleaf_any (n:M.Nd) (w:World):Calls Tryz.prog 117 #[ndV n] w λ e w'=>e = .returned (.bool (M.leafB n))/\Below w.heap.size w w':=by
 have E:Hid ((M.nf n == -1)=M.leafB n):=by
  unfold Hid M.leafB
  by_cases h:M.nf n = -1
  · rw [decide_eq_true h,beq_iff_eq];exact h
  · rw [decide_eq_false h,beq_eq_false_iff_ne];exact h
 unfold ndV;generalize M.leafB n=o at *;generalize M.nf n=f at *;generalize M.nc n=c at *;generalize M.nl n=l at *;generalize M.nr n=r at *;generalize M.ns n=s at *;generalize M.nv n=v at *
 go_enter Tryz.func117, Tryz.ntmps117
 go_wp2
 go_ret
 exact ⟨ret_bool E.out,(Below.refl _ _).alloc (Nat.le_refl _) _⟩
theorem iscell_any (x:Int) (w:World):Calls Tryz.prog 148 #[.int .i64 x] w λ e w'=>e = .returned (.bool (!M.outI x))/\w'=w:=by
 by_cases h1 : -1000000<=x
 · have E:Hid (decide (x<=1000000) = !M.outI x):=by
    unfold Hid M.outI;rw [show decide (x < -1000000)=false from decide_eq_false (by omega),Bool.false_or]
    by_cases h2:x<=1000000
    · simp [h2]
    · simp [h2];omega
   have h1':decide (-1000000<=x)=true:=decide_eq_true h1;clear h1
   go_enter Tryz.func148, Tryz.ntmps148
   go_wp2
   go_ret
   exact ⟨ret_bool E.out,rfl⟩
 · have E:Hid (false = !M.outI x):=by
    unfold Hid M.outI
    rw [show decide (x < -1000000)=true from decide_eq_true (by omega)];rfl
   have h1':decide (-1000000<=x)=false:=decide_eq_false h1;clear h1
   go_enter Tryz.func148, Tryz.ntmps148
   go_wp2
   go_ret
   exact ⟨ret_bool E.out,rfl⟩
theorem ret_err {c d:Int} (h:c=d):Ending.returned (errV c) = .returned (errV d):=by rw [h]
theorem checkleaf_any (n:M.Nd) (w:World):Calls Tryz.prog 122 #[ndV n] w λ e w'=>e = .returned (errV (M.lfF n))/\Below w.heap.size w w':=by
 have C:=hide (iscell_any (M.nv n));have D:Hid (M.lfF n=if M.outI (M.nv n)=true then 1 else if M.nc n≠0∨M.nl n≠0∨M.nr n≠0∨M.ns n=true then 3 else 0):=rfl;unfold ndV;generalize M.lfF n=o at *;generalize M.outI (M.nv n)=z at *;generalize M.nf n=f at *;generalize M.nc n=c at *;generalize M.nl n=l at *;generalize M.nr n=r at *;generalize M.ns n=s at *;generalize M.nv n=v at *
 cases z with
 | true =>
   have E:Hid (o=1):=D.out.trans (by simp);clear D
   go_enter Tryz.func122, Tryz.ntmps122
   go_wp2_with (go_at_call 148;refine (C.out _).mono ?_;rintro e w1 ⟨rfl,rfl⟩)
   go_ret
   exact ⟨by rw [E.out];rfl,(Below.refl _ _).alloc (Nat.le_refl _) _⟩
 | false =>
   by_cases hc:c=0
   · have qc:(c != 0)=false:=by rw [bne_eq_false_iff_eq];exact hc
     by_cases hl:l=0
     · have ql:(l != 0)=false:=by rw [bne_eq_false_iff_eq];exact hl
       by_cases hr:r=0
       · have qr:(r != 0)=false:=by rw [bne_eq_false_iff_eq];exact hr
         cases s with
         | true =>
           have E:Hid (o=3):=D.out.trans (by simp [hc,hl,hr]);clear D hc hl hr
           go_enter Tryz.func122, Tryz.ntmps122
           go_wp2_with (go_at_call 148;refine (C.out _).mono ?_;rintro e w1 ⟨rfl,rfl⟩)
           go_ret
           exact ⟨by rw [E.out];rfl,(Below.refl _ _).alloc (Nat.le_refl _) _⟩
         | false =>
           have E:Hid (o=0):=D.out.trans (by simp [hc,hl,hr]);clear D hc hl hr
           go_enter Tryz.func122, Tryz.ntmps122
           go_wp2_with (go_at_call 148;refine (C.out _).mono ?_;rintro e w1 ⟨rfl,rfl⟩)
           go_ret
           exact ⟨by rw [E.out];rfl,(Below.refl _ _).alloc (Nat.le_refl _) _⟩
       · have qr:(r != 0)=true:=by rw [bne_iff_ne];exact hr
         have E:Hid (o=3):=D.out.trans (by simp [hc,hl,hr]);clear D hc hl hr
         go_enter Tryz.func122, Tryz.ntmps122
         go_wp2_with (go_at_call 148;refine (C.out _).mono ?_;rintro e w1 ⟨rfl,rfl⟩)
         go_ret
         exact ⟨by rw [E.out];rfl,(Below.refl _ _).alloc (Nat.le_refl _) _⟩
     · have ql:(l != 0)=true:=by rw [bne_iff_ne];exact hl
       have E:Hid (o=3):=D.out.trans (by simp [hc,hl]);clear D hc hl
       go_enter Tryz.func122, Tryz.ntmps122
       go_wp2_with (go_at_call 148;refine (C.out _).mono ?_;rintro e w1 ⟨rfl,rfl⟩)
       go_ret
       exact ⟨by rw [E.out];rfl,(Below.refl _ _).alloc (Nat.le_refl _) _⟩
   · have qc:(c != 0)=true:=by rw [bne_iff_ne];exact hc
     have E:Hid (o=3):=D.out.trans (by simp [hc]);clear D hc
     go_enter Tryz.func122, Tryz.ntmps122
     go_wp2_with (go_at_call 148;refine (C.out _).mono ?_;rintro e w1 ⟨rfl,rfl⟩)
     go_ret
     exact ⟨by rw [E.out];rfl,(Below.refl _ _).alloc (Nat.le_refl _) _⟩
theorem behind_any (bp bl:Nat) (p q x:Int) (w:World) (hp:w.cell? ⟨bp,0,none⟩=some (.int .i64 p)) (hq:w.cell? ⟨bl,0,none⟩=some (.int .i64 q)) :
 Calls Tryz.prog 149 (#[.int .i64 x] ++ #[.pointer (some ⟨bp,0,none⟩), .pointer (some ⟨bl,0,none⟩)]) w λ e w'=>e = .returned (.bool (decide (p<x) && decide (x<=q)))/\w'=w:=by
 by_cases h:p<x
 · have E:Hid (decide (x<=q)=(decide (p<x) && decide (x<=q))):=by unfold Hid;simp [h]
   have h1:decide (p<x)=true:=decide_eq_true h;clear h;generalize (decide (p<x) && decide (x<=q))=o at *
   go_enter Tryz.func149, Tryz.ntmps149
   go_wp2
   go_ret
   exact ⟨ret_bool E.out,rfl⟩
 · have E:Hid (false=(decide (p<x) && decide (x<=q))):=by unfold Hid;simp [h]
   have h1:decide (p<x)=false:=decide_eq_false h;clear h;generalize (decide (p<x) && decide (x<=q))=o at *
   go_enter Tryz.func149, Tryz.ntmps149
   go_wp2
   go_ret
   exact ⟨ret_bool E.out,rfl⟩
theorem behind_is {p q x:Int} {i len:Nat} (hp:p=i) (hq:q=(len:Int)-1):(decide (p<x) && decide (x<=q))=M.inB x i len:=by
 subst hp;subst hq
 unfold M.inB
 congr 1
 exact decide_eq_decide.2 ⟨λ h=>by omega,λ h=>by omega⟩
set_option maxHeartbeats 8000000 in
theorem checkask_any (n:M.Nd) (i len:Nat) (p q m:Int) (w:World) (hp:p=i) (hq:q=(len:Int)-1) :
 Calls Tryz.prog 123 #[ndV n, .int .i64 p, .int .i64 q, .int .i64 m] w λ e w'=>e = .returned (errV (M.asF n i len m))/\Below w.heap.size w w':=by
 have C:=hide (iscell_any (M.nc n))
 have CB:Hid (∀ x bp bl W,W.cell? ⟨bp,0,none⟩=some (.int .i64 p)->W.cell? ⟨bl,0,none⟩=some (.int .i64 q)->Calls Tryz.prog 149 (#[.int .i64 x] ++ #[.pointer (some ⟨bp,0,none⟩), .pointer (some ⟨bl,0,none⟩)]) W λ e w'=>e = .returned (.bool (M.inB x i len))/\w'=W) :=
  λ x bp bl W h1 h2=>by rw [←behind_is hp hq];exact behind_any bp bl p q _ W h1 h2
 have QP:Hid (∀ o:Obj,(((w.alloc o).alloc (.cells #[.int .i64 p] 3)).alloc (.cells #[.int .i64 q] 3)).cell? ⟨w.heap.size+1,0,none⟩=some (.int .i64 p)):=λ o=>by
  rw [World.cell?_alloc_past _ _ _ (by simp),World.cell?_alloc_at _ _ _ _ (by simp)];rfl
 have QQ:Hid (∀ o:Obj,(((w.alloc o).alloc (.cells #[.int .i64 p] 3)).alloc (.cells #[.int .i64 q] 3)).cell? ⟨w.heap.size+1+1,0,none⟩=some (.int .i64 q)):=λ o=>by
  rw [World.cell?_alloc_at _ _ _ _ (by simp)];rfl
 have D:Hid (M.asF n i len m=if M.nf n<0∨m<=M.nf n∨M.outI (M.nc n)=true∨M.inB (M.nl n) i len=false∨M.inB (M.nr n) i len=false then 1 else if M.nv n≠0∨M.nl n=M.nr n then 3 else 0):=rfl;clear hp hq;unfold ndV;generalize M.asF n i len m=o at *;generalize M.outI (M.nc n)=zc at *;generalize M.nf n=f at *;generalize M.nc n=c at *;generalize M.nl n=l at *;generalize M.nr n=r at *;generalize M.ns n=s at *;generalize M.nv n=v at *
 by_cases h1:f<0
 · have q1:decide (f<0)=true:=decide_eq_true h1
   have E:Hid (o=1):=D.out.trans (by simp [h1]);clear D h1
   go_enter Tryz.func123, Tryz.ntmps123
   go_wp2_with (first
    | (go_at_call 148;refine (C.out _).mono ?_;rintro e w1 ⟨rfl,rfl⟩)
    | (go_at_call 149;refine (CB.out _ _ _ _ (QP.out _) (QQ.out _)).mono ?_;rintro e w1 ⟨rfl,rfl⟩))
   go_ret
   exact ⟨by rw [E.out];rfl,(((Below.refl _ w).alloc (Nat.le_refl _) _).alloc (by simp) _).alloc (by simp;omega) _⟩
 · have q1:decide (f<0)=false:=decide_eq_false h1
   by_cases h2:m<=f
   · have q2:decide (m<=f)=true:=decide_eq_true h2
     have E:Hid (o=1):=D.out.trans (by simp [h1,h2]);clear D h1 h2
     go_enter Tryz.func123, Tryz.ntmps123
     go_wp2_with (first
      | (go_at_call 148;refine (C.out _).mono ?_;rintro e w1 ⟨rfl,rfl⟩)
      | (go_at_call 149;refine (CB.out _ _ _ _ (QP.out _) (QQ.out _)).mono ?_;rintro e w1 ⟨rfl,rfl⟩))
     go_ret
     exact ⟨by rw [E.out];rfl,(((Below.refl _ w).alloc (Nat.le_refl _) _).alloc (by simp) _).alloc (by simp;omega) _⟩
   · have q2:decide (m<=f)=false:=decide_eq_false h2
     cases zc with
     | true =>
       have E:Hid (o=1):=D.out.trans (by simp [h1,h2]);clear D h1 h2
       go_enter Tryz.func123, Tryz.ntmps123
       go_wp2_with (first
        | (go_at_call 148;refine (C.out _).mono ?_;rintro e w1 ⟨rfl,rfl⟩)
        | (go_at_call 149;refine (CB.out _ _ _ _ (QP.out _) (QQ.out _)).mono ?_;rintro e w1 ⟨rfl,rfl⟩))
       go_ret
       exact ⟨by rw [E.out];rfl,(((Below.refl _ w).alloc (Nat.le_refl _) _).alloc (by simp) _).alloc (by simp;omega) _⟩
     | false =>
       cases zl:M.inB l i len with
       | false =>
         have E:Hid (o=1):=D.out.trans (by simp [h1,h2,zl]);clear D h1 h2
         go_enter Tryz.func123, Tryz.ntmps123
         go_wp2_with (first
          | (go_at_call 148;refine (C.out _).mono ?_;rintro e w1 ⟨rfl,rfl⟩)
          | (go_at_call 149;refine (CB.out _ _ _ _ (QP.out _) (QQ.out _)).mono ?_;rintro e w1 ⟨rfl,rfl⟩))
         go_ret
         exact ⟨by rw [E.out];rfl,(((Below.refl _ w).alloc (Nat.le_refl _) _).alloc (by simp) _).alloc (by simp;omega) _⟩
       | true =>
         cases zr:M.inB r i len with
         | false =>
           have E:Hid (o=1):=D.out.trans (by simp [h1,h2,zl,zr]);clear D h1 h2
           go_enter Tryz.func123, Tryz.ntmps123
           go_wp2_with (first
            | (go_at_call 148;refine (C.out _).mono ?_;rintro e w1 ⟨rfl,rfl⟩)
            | (go_at_call 149;refine (CB.out _ _ _ _ (QP.out _) (QQ.out _)).mono ?_;rintro e w1 ⟨rfl,rfl⟩))
           go_ret
           exact ⟨by rw [E.out];rfl,(((Below.refl _ w).alloc (Nat.le_refl _) _).alloc (by simp) _).alloc (by simp;omega) _⟩
         | true =>
           by_cases h3:v=0
           · have q3:(v != 0)=false:=by rw [bne_eq_false_iff_eq];exact h3
             by_cases h4:l=r
             · have q4:(l == r)=true:=by rw [beq_iff_eq];exact h4
               have E:Hid (o=3):=D.out.trans (by simp [h1,h2,h3,h4,zr]);clear D h1 h2 h3 h4
               go_enter Tryz.func123, Tryz.ntmps123
               go_wp2_with (first
                | (go_at_call 148;refine (C.out _).mono ?_;rintro e w1 ⟨rfl,rfl⟩)
                | (go_at_call 149;refine (CB.out _ _ _ _ (QP.out _) (QQ.out _)).mono ?_;rintro e w1 ⟨rfl,rfl⟩))
               go_ret
               exact ⟨by rw [E.out];rfl,(((Below.refl _ w).alloc (Nat.le_refl _) _).alloc (by simp) _).alloc (by simp;omega) _⟩
             · have q4:(l == r)=false:=by rw [beq_eq_false_iff_ne];exact h4
               have E:Hid (o=0):=D.out.trans (by simp [h1,h2,h3,h4,zl,zr]);clear D h1 h2 h3 h4
               go_enter Tryz.func123, Tryz.ntmps123
               go_wp2_with (first
                | (go_at_call 148;refine (C.out _).mono ?_;rintro e w1 ⟨rfl,rfl⟩)
                | (go_at_call 149;refine (CB.out _ _ _ _ (QP.out _) (QQ.out _)).mono ?_;rintro e w1 ⟨rfl,rfl⟩))
               go_ret
               exact ⟨by rw [E.out];rfl,(((Below.refl _ w).alloc (Nat.le_refl _) _).alloc (by simp) _).alloc (by simp;omega) _⟩
           · have q3:(v != 0)=true:=by rw [bne_iff_ne];exact h3
             have E:Hid (o=3):=D.out.trans (by simp [h1,h2,h3,zl,zr]);clear D h1 h2 h3
             go_enter Tryz.func123, Tryz.ntmps123
             go_wp2_with (first
              | (go_at_call 148;refine (C.out _).mono ?_;rintro e w1 ⟨rfl,rfl⟩)
              | (go_at_call 149;refine (CB.out _ _ _ _ (QP.out _) (QQ.out _)).mono ?_;rintro e w1 ⟨rfl,rfl⟩))
             go_ret
             exact ⟨by rw [E.out];rfl,(((Below.refl _ w).alloc (Nat.le_refl _) _).alloc (by simp) _).alloc (by simp;omega) _⟩
theorem checknode_any (n:M.Nd) (i len:Nat) (p q m:Int) (w:World) (hp:p=i) (hq:q=(len:Int)-1) :
 Calls Tryz.prog 82 #[ndV n, .int .i64 p, .int .i64 q, .int .i64 m] w λ e w'=>e = .returned (errV (M.nodeF n i len m))/\Below w.heap.size w w':=by
 have C1:=hide (isleaf_any n);have C2:=hide (checkleaf_any n);have C3:=hide (λ W=>checkask_any n i len p q m W hp hq);clear hp hq
 by_cases h:M.nf n = -1
 · have E:Hid (M.lfF n=M.nodeF n i len m):=by unfold Hid M.nodeF;rw [if_pos h]
   have hl:M.leafB n=true:=by unfold M.leafB;exact decide_eq_true h
   rw [hl] at C1;clear h hl C3;unfold ndV at *;generalize M.nodeF n i len m=o at *;generalize M.lfF n=u at *;generalize M.nf n=f at *;generalize M.nc n=c at *;generalize M.nl n=l at *;generalize M.nr n=r at *;generalize M.ns n=s at *;generalize M.nv n=v at *
   go_enter Tryz.func82, Tryz.ntmps82
   go_wp2_with (first
    | (go_at_call 117;refine (C1.out _).mono ?_;rintro e w1 ⟨rfl,hb1⟩;have hcell : ∀ k,w1.cell? ⟨w.heap.size,k,none⟩=_:=λ k=>hb1.cell (p:=⟨w.heap.size,k,none⟩) (by simp))
    | (go_at_call 122;refine (C2.out _).mono ?_;rintro e w2 ⟨rfl,hb2⟩))
   go_ret
   exact ⟨ret_err E.out,below_on (below_on ((Below.refl _ w).alloc (Nat.le_refl _) _) hb1) hb2⟩
 · have E:Hid (M.asF n i len m=M.nodeF n i len m):=by unfold Hid M.nodeF;rw [if_neg h]
   have hl:M.leafB n=false:=by unfold M.leafB;exact decide_eq_false h
   rw [hl] at C1;clear h hl C2;unfold ndV at *;generalize M.nodeF n i len m=o at *;generalize M.asF n i len m=u at *;generalize M.nf n=f at *;generalize M.nc n=c at *;generalize M.nl n=l at *;generalize M.nr n=r at *;generalize M.ns n=s at *;generalize M.nv n=v at *
   go_enter Tryz.func82, Tryz.ntmps82
   go_wp2_with (first
    | (go_at_call 117;refine (C1.out _).mono ?_;rintro e w1 ⟨rfl,hb1⟩;have hcell : ∀ k,w1.cell? ⟨w.heap.size,k,none⟩=_:=λ k=>hb1.cell (p:=⟨w.heap.size,k,none⟩) (by simp))
    | (go_at_call 123;refine (C3.out _).mono ?_;rintro e w2 ⟨rfl,hb2⟩))
   go_ret
   exact ⟨ret_err E.out,below_on (below_on ((Below.refl _ w).alloc (Nat.le_refl _) _) hb1) hb2⟩
def Arr (w:World) (B g:Nat) (F:List Int):Prop:=F.length=63/\w.ownsRow B 210 1 (.slice (some ⟨g,0,none⟩) 63 63) 63 (F.map (Value.int .i64))
theorem Arr.cell {w:World} {B g:Nat} {F:List Int} (h:Arr w B g F) {i:Nat} (hi:i<63):w.cell? ⟨g,i,none⟩=some (.int .i64 (F.getD i 0)):=by
 rw [h.2.cellAt i (by omega)];have:=h.1;simp [List.getD,show i<F.length by omega]
theorem Arr.frozen {w:World} {B g:Nat} {F:List Int} (h:Arr w B g F) (i:Nat):w.frozen? ⟨g,i,none⟩=false:=h.2.frozenAt i
theorem Arr.set {w:World} {B g:Nat} {F:List Int} (h:Arr w B g F) (i:Nat) (x:Int):Arr (w.setCell ⟨g,i,none⟩ (.int .i64 x)) B g (F.set i x):=by
 refine ⟨by rw [List.length_set];exact h.1, ?_⟩
 rw [List.map_set];exact (h.2.stored i (.int .i64 x)).1
theorem Arr.up {w w':World} {B g:Nat} {F:List Int} (h:Arr w B g F) (hb:Below w.heap.size w w'):Arr w' B g F:=⟨h.1,own_up h.2 hb⟩
theorem Arr.lt {w:World} {B g:Nat} {F:List Int} (h:Arr w B g F):B<=g/\g<w.heap.size:=h.2.lt g rfl
theorem Arr.new (w:World) (B:Nat) (hB:B<=w.heap.size):Arr (w.alloc (.cells ((List.replicate 63 (Value.int .i64 0)).toArray) 210)) B w.heap.size (List.replicate 63 0):=by
 refine ⟨by simp, ?_⟩
 have:=World.ownsRow_lit (base:=B) (e := 210) (size:=1) w ((List.replicate 63 (Value.int .i64 0)).toArray) 63 hB (by unfold maxLen;omega) (by simp);rw [List.map_replicate];exact this
theorem cell_other {w:World} {g h a k:Nat} {v:Value} (hn:h≠g):(w.setCell ⟨g,a,none⟩ v).cell? ⟨h,k,none⟩=w.cell? ⟨h,k,none⟩:=by
 unfold World.cell? World.setCell;simp [Array.getElem?_modify,hn.symm]
theorem two_cells {wr W:World} {B g:Nat} {F:List Int} {o:Obj} {a b:Nat} (hA:Arr wr B g F) (hW:Below (wr.alloc o).heap.size (wr.alloc o) W) (ha:a<63) (hb:b<63) (hab:a≠b) (x y:Int) :
 W.cell? ⟨g,a,none⟩=some (.int .i64 (F.getD a 0))/\W.frozen? ⟨g,a,none⟩=false /\
 (∀ k,(W.setCell ⟨g,a,none⟩ (.int .i64 x)).cell? ⟨wr.heap.size,k,none⟩=W.cell? ⟨wr.heap.size,k,none⟩) /\
 (W.setCell ⟨g,a,none⟩ (.int .i64 x)).cell? ⟨g,b,none⟩=some (.int .i64 (F.getD b 0))/\(W.setCell ⟨g,a,none⟩ (.int .i64 x)).frozen? ⟨g,b,none⟩=false /\
 Arr ((W.setCell ⟨g,a,none⟩ (.int .i64 x)).setCell ⟨g,b,none⟩ (.int .i64 y)) B g ((F.set a x).set b y):=by
 have h1:Arr (wr.alloc o) B g F:=hA.up ((Below.refl _ _).alloc (Nat.le_refl _) _);have h2:Arr W B g F:=h1.up hW;have h3:=h2.set a x
 refine ⟨h2.cell ha,h2.frozen a,λ k=>cell_other (by have:=hA.lt;omega), ?_,h3.frozen b,h3.set b y⟩
 rw [h3.cell hb];simp [List.getD,List.getElem?_set_ne hab]
set_option maxHeartbeats 4000000 in
set_option maxRecDepth 10000 in
theorem stray_any (a0:Option Addr) (ts:List M.Nd) (cap:Nat) (m:Int) (w:World) (h:RdN w a0 ts) (hl:ts.length<=63) (hf : ∀ j,j<ts.length->M.nodeF (M.nAt ts j) j ts.length m=0) :
 Calls Tryz.prog 83 #[.slice a0 ts.length cap] w λ e w'=>e = .returned (.int .i64 (M.strayV ts:Nat))/\Below w.heap.size w w':=by
 have hm:ts.length<=9223372036854775807:=h.1;have HR:=hide h.2;have HF:=hide hf;clear h hf;have SH:Hid (∀ i,i<ts.length->0<i->M.ups ts i≠1->(∀ j,0<j->j<i->M.ups ts j=1)->M.strayV ts=i):=λ i h1 h2 h3 h4=>M.stray_hit h1 h2 h3 h4;have SM:Hid ((∀ j,0<j->j<ts.length->M.ups ts j=1)->M.strayV ts=0):=λ h=>M.stray_miss h;generalize M.strayV ts=sv at *
 go_enter Tryz.func83, Tryz.ntmps83
 go_wp2
 go_loopw [9] (λ i wr => ∃ k:Nat,k<=ts.length/\i = .int .i64 k/\Arr wr w.heap.size w.heap.size (M.upsL ts k)/\Below w.heap.size w wr) (λ i _=>ts.length-(intOf i).toNat)
 case atStart =>
  refine ⟨0,Nat.zero_le _,rfl, ?_,(Below.refl _ w).alloc (Nat.le_refl _) _⟩
  rw [M.upsL_zero];exact Arr.new w w.heap.size (Nat.le_refl _)
 case round =>
  obtain ⟨k,hk,rfl,hown,hbl⟩:=hrel
  by_cases hlt:k<ts.length
  · obtain ⟨b0,off,rfl,hb0,hc⟩:=HR.out (by intro e;subst e;simp at hlt)
    obtain ⟨s0,s1,s2,s3,s4,s5⟩:=(hc k hlt).below hbl hb0;have C1:=hide (isleaf_any (M.nAt ts k));unfold ndV at C1;have NB:Hid (∀ o W,Below (wr.alloc o).heap.size (wr.alloc o) W->Below w.heap.size w W):=λ o W hW=>below_on (below_on hbl ((Below.refl _ wr).alloc (Nat.le_refl _) o)) hW
    by_cases hf:M.nf (M.nAt ts k) = -1
    · have e1:M.leafB (M.nAt ts k)=true:=decide_eq_true hf
      rw [e1] at C1
      have NA:Hid (∀ o W,Below (wr.alloc o).heap.size (wr.alloc o) W->Arr W w.heap.size w.heap.size (M.upsL ts (k+1))):=λ o W hW=>by
       rw [M.upsL_leaf hlt hf];exact (hown.up ((Below.refl _ wr).alloc (Nat.le_refl _) o)).up hW
      clear hc e1 hf hown hbl;generalize M.nf (M.nAt ts k)=f at *;generalize M.nc (M.nAt ts k)=c at *;generalize M.nl (M.nAt ts k)=l at *;generalize M.nr (M.nAt ts k)=r at *;generalize M.ns (M.nAt ts k)=sl at *;generalize M.nv (M.nAt ts k)=v at *
      go_wp2_with (go_at_call 117;refine (C1.out _).mono ?_;rintro e w1 ⟨rfl,hb1⟩)
      go_roundw
      case rel=>exact ⟨k+1,by omega,by go_num,NA.out _ w1 hb1,NB.out _ w1 hb1⟩
      case measure=>simp [intOf];omega
    · have e1:M.leafB (M.nAt ts k)=false:=decide_eq_false hf
      rw [e1] at C1;obtain ⟨a,b,ea,eb,h1,h2,h3,h4,hab⟩:=M.ask_at HF.out hlt hf;rw [ea] at s2 C1;rw [eb] at s3 C1
      have ha:a<63:=by omega
      have hb:b<63:=by omega
      have TW:=hide (λ o W (hW:Below (wr.alloc o).heap.size (wr.alloc o) W)=>two_cells (x:=(M.upsL ts k).getD a 0+1) (y:=(M.upsL ts k).getD b 0+1) hown hW ha hb hab);have NE:=hide (M.upsL_ask hlt hf ea eb ha hb hab)
      have za:0<=(M.upsL ts k).getD a 0/\(M.upsL ts k).getD a 0<=126:=by
       rw [M.upsL_at ts k ha];have:=M.ups_le (ts.take k) (a:Int);rw [List.length_take] at this;omega
      have zb:0<=(M.upsL ts k).getD b 0/\(M.upsL ts k).getD b 0<=126:=by
       rw [M.upsL_at ts k hb];have:=M.ups_le (ts.take k) (b:Int);rw [List.length_take] at this;omega
      obtain ⟨za0,za1⟩:=za;obtain ⟨zb0,zb1⟩:=zb;clear hc e1 hf hown hbl ea eb;generalize (M.upsL ts k).getD a 0=xa at *;generalize (M.upsL ts k).getD b 0=xb at *;generalize M.nf (M.nAt ts k)=f at *;generalize M.nc (M.nAt ts k)=c at *;generalize M.ns (M.nAt ts k)=sl at *;generalize M.nv (M.nAt ts k)=v at *
      go_wp2_with (go_at_call 117;refine (C1.out _).mono ?_;rintro e w1 ⟨rfl,hb1⟩;obtain ⟨t1,t2,t3,t4,t5,t6⟩:=TW.out _ w1 hb1;have hcell : ∀ k,w1.cell? ⟨wr.heap.size,k,none⟩=_:=λ k=>hb1.cell (p:=⟨wr.heap.size,k,none⟩) (by simp))
      go_roundw
      case rel =>
       refine ⟨k+1,by omega,by go_num, ?_,((NB.out _ w1 hb1).setCell (Nat.le_refl _) _).setCell (Nat.le_refl _) _⟩
       rw [←NE.out];exact t6
      case measure=>simp [intOf];omega
  · have hke:k=ts.length:=by omega
    rw [hke] at hown
    have CE:Hid (∀ i,i<63->wr.cell? ⟨w.heap.size,i,none⟩=some (.int .i64 ((M.ups ts (i:Int):Nat):Int))):=λ i hi=>by
     rw [hown.cell hi,M.upsL_at ts _ hi,List.take_length]
    have UL:Hid (∀ i:Nat,M.ups ts i<=126):=λ i=>by have:=M.ups_le ts (i:Int);omega
    clear hown hke
    go_wp2
    go_loop [6] (λ i => ∃ j:Nat,0<j/\j<=ts.length+1/\i = .int .i64 j/\Hid (∀ p,0<p->p<j->M.ups ts p=1)) (λ i=>ts.length+1-(intOf i).toNat)
    case atStart=>exact ⟨1,by omega,by omega,rfl,λ p h1 h2=>by omega⟩
    case round =>
     obtain ⟨j,hj0,hj,rfl,I⟩:=hrel
     by_cases hlt2:j<ts.length
     · have hc:=CE.out j (by omega)
       by_cases hu:M.ups ts (j:Int)=1
       · have N:Hid (∀ p,0<p->p<j+1->M.ups ts p=1):=λ p h1 h2=>by
          by_cases e:p=j
          · subst e;exact hu
          · exact I.out p h1 (by omega)
         have q:(((M.ups ts (j:Int):Nat):Int) != 1)=false:=by rw [bne_eq_false_iff_eq];omega
         clear hu;generalize ((M.ups ts (j:Int):Nat):Int)=u at *
         go_wp2
         go_round
         case rel=>exact ⟨j+1,by omega,by omega,by go_num,N⟩
         case measure=>simp [intOf];omega
       · have E:=hide (SH.out j hlt2 hj0 hu I.out)
         have q:(((M.ups ts (j:Int):Nat):Int) != 1)=true:=by rw [bne_iff_ne];omega
         clear hu;generalize ((M.ups ts (j:Int):Nat):Int)=u at *
         go_wp2
         go_ret
         exact ⟨ret_int (by rw [E.out]),hbl⟩
     · have E:=hide (SM.out λ p h1 h2=>I.out p h1 (by omega))
       go_wp2
       go_ret
       exact ⟨ret_int (by rw [E.out];rfl),hbl⟩
theorem lev_cells {wr W:World} {B g:Nat} {F:List Int} {o:Obj} {a b k:Nat} (hA:Arr wr B g F) (hW:Below (wr.alloc o).heap.size (wr.alloc o) W) (hk:k<63) (hak:a≠k) (ha:a<63) (hb:b<63) (x y:Int) :
 (∃ z,W.cell? ⟨g,a,none⟩=some (.int .i64 z))/\(∃ z,(W.setCell ⟨g,a,none⟩ (.int .i64 x)).cell? ⟨g,b,none⟩=some (.int .i64 z)) /\
 W.cell? ⟨g,k,none⟩=some (.int .i64 (F.getD k 0))/\W.frozen? ⟨g,a,none⟩=false /\
 (∀ j,(W.setCell ⟨g,a,none⟩ (.int .i64 x)).cell? ⟨wr.heap.size,j,none⟩=W.cell? ⟨wr.heap.size,j,none⟩) /\
 (W.setCell ⟨g,a,none⟩ (.int .i64 x)).cell? ⟨g,k,none⟩=some (.int .i64 (F.getD k 0))/\(W.setCell ⟨g,a,none⟩ (.int .i64 x)).frozen? ⟨g,b,none⟩=false /\
 Arr ((W.setCell ⟨g,a,none⟩ (.int .i64 x)).setCell ⟨g,b,none⟩ (.int .i64 y)) B g ((F.set a x).set b y):=by
 have h1:Arr (wr.alloc o) B g F:=hA.up ((Below.refl _ _).alloc (Nat.le_refl _) _);have h2:Arr W B g F:=h1.up hW;have h3:=h2.set a x
 refine ⟨⟨_,h2.cell ha⟩,⟨_,h3.cell hb⟩,h2.cell hk,h2.frozen a,λ k=>cell_other (by have:=hA.lt;omega), ?_,h3.frozen b,h3.set b y⟩
 rw [h3.cell hk];simp [List.getD,List.getElem?_set_ne hak]
theorem max_val {dk lv n:Nat} (h:n=max dk lv):Value.int .i64 (if dk<lv then (lv:Int) else (dk:Int)) = .int .i64 (n:Nat):=by
 rw [h];congr 1;split <;> omega
set_option maxHeartbeats 4000000 in
set_option maxRecDepth 10000 in
theorem depth_any (a0:Option Addr) (ts:List M.Nd) (cap:Nat) (m:Int) (w:World) (h:RdN w a0 ts) (hl:ts.length<=63) (hf : ∀ j,j<ts.length->M.nodeF (M.nAt ts j) j ts.length m=0) :
 Calls Tryz.prog 84 #[.slice a0 ts.length cap] w λ e w'=>e = .returned (.int .i64 (M.deepest ts ts.length:Nat))/\Below w.heap.size w w':=by
 have hm:ts.length<=9223372036854775807:=h.1;have HR:=hide h.2;have HF:=hide hf;clear h hf
 have DE:Hid (∀ k,k=ts.length->M.deepest ts k=M.deepest ts ts.length):=λ k e=>by rw [e]
 generalize M.deepest ts ts.length=dv at *
 go_enter Tryz.func84, Tryz.ntmps84
 go_wp2
 go_loopw [4,9] (λ d i wr => ∃ k:Nat,k<=ts.length/\i = .int .i64 k/\d = .int .i64 (M.deepest ts k:Nat)/\Arr wr w.heap.size w.heap.size (M.levL ts k)/\Below w.heap.size w wr) (λ _ i _=>ts.length-(intOf i).toNat)
 case atStart =>
  refine ⟨0,Nat.zero_le _,rfl,rfl, ?_,(Below.refl _ w).alloc (Nat.le_refl _) _⟩
  rw [M.levL_zero];exact Arr.new w w.heap.size (Nat.le_refl _)
 case round =>
  obtain ⟨k,hk,rfl,rfl,hown,hbl⟩:=hrel
  by_cases hlt:k<ts.length
  · obtain ⟨b0,off,rfl,hb0,hc⟩:=HR.out (by intro e;subst e;simp at hlt)
    obtain ⟨s0,s1,s2,s3,s4,s5⟩:=(hc k hlt).below hbl hb0;have C1:=hide (isleaf_any (M.nAt ts k));unfold ndV at C1
    have k63:k<63:=by omega
    have NB:Hid (∀ o W,Below (wr.alloc o).heap.size (wr.alloc o) W->Below w.heap.size w W):=λ o W hW=>below_on (below_on hbl ((Below.refl _ wr).alloc (Nat.le_refl _) o)) hW;have ck:wr.cell? ⟨w.heap.size,k,none⟩=some (.int .i64 ((M.levL ts k).getD k 0)):=hown.cell k63;have glt:w.heap.size<wr.heap.size:=hown.lt.2;have DN:Hid (M.deepest ts (k+1)=max (M.deepest ts k) (M.lev ts k k)):=rfl;have LV:Hid ((M.levL ts k).getD k 0=((M.lev ts k k:Nat):Int)):=M.levL_at ts k k63;have DB:=M.deep_le ts k;have LB:=M.lev_le ts k k
    by_cases hf:M.nf (M.nAt ts k) = -1
    · have e1:M.leafB (M.nAt ts k)=true:=decide_eq_true hf
      rw [e1] at C1
      have NA:Hid (∀ o W,Below (wr.alloc o).heap.size (wr.alloc o) W->Arr W w.heap.size w.heap.size (M.levL ts (k+1))):=λ o W hW=>by
       rw [M.levL_leaf hf];exact (hown.up ((Below.refl _ wr).alloc (Nat.le_refl _) o)).up hW
      rw [LV.out] at ck;clear hc e1 hf hown hbl LV;generalize M.lev ts k k=lv at *;generalize M.deepest ts k=dk at *;generalize M.nf (M.nAt ts k)=f at *;generalize M.nc (M.nAt ts k)=c at *;generalize M.nl (M.nAt ts k)=l at *;generalize M.nr (M.nAt ts k)=r at *;generalize M.ns (M.nAt ts k)=sl at *;generalize M.nv (M.nAt ts k)=v at *
      go_wp2_with (go_at_call 117;refine (C1.out _).mono ?_;rintro e w1 ⟨rfl,hb1⟩)
      go_roundw
      case rel=>exact ⟨k+1,by omega,by go_num,max_val DN.out,NA.out _ w1 hb1,NB.out _ w1 hb1⟩
      case measure=>simp [intOf];omega
    · have e1:M.leafB (M.nAt ts k)=false:=decide_eq_false hf
      rw [e1] at C1;obtain ⟨a,b,ea,eb,h1,h2,h3,h4,hab⟩:=M.ask_at HF.out hlt hf;rw [ea] at s2 C1;rw [eb] at s3 C1
      have ha:a<63:=by omega
      have hb:b<63:=by omega
      have TW:=hide (λ o W (hW:Below (wr.alloc o).heap.size (wr.alloc o) W)=>lev_cells (a:=a) (b:=b) (x:=(M.levL ts k).getD k 0+1) (y:=(M.levL ts k).getD k 0+1) hown hW k63 (by omega) ha hb);have NE:=hide (M.levL_ask hf ea eb k63);rw [LV.out] at ck TW NE;clear hc e1 hf hown hbl LV ea eb;generalize M.lev ts k k=lv at *;generalize M.deepest ts k=dk at *;generalize M.nf (M.nAt ts k)=f at *;generalize M.nc (M.nAt ts k)=c at *;generalize M.ns (M.nAt ts k)=sl at *;generalize M.nv (M.nAt ts k)=v at *
      go_wp2_with (go_at_call 117;refine (C1.out _).mono ?_;rintro e w1 ⟨rfl,hb1⟩;have hcell : ∀ k,w1.cell? ⟨wr.heap.size,k,none⟩=_:=λ k=>hb1.cell (p:=⟨wr.heap.size,k,none⟩) (by simp);have TT:=TW.out _ w1 hb1;obtain ⟨q1,q2,t1,t2,t3,t4,t5,t6⟩:=TT;obtain ⟨za,c1⟩:=q1;obtain ⟨zb,c2⟩:=q2;generalize hmx:(if dk<lv then (lv:Int) else (dk:Int))=mx;have HM:=hide hmx;clear hmx)
      go_region
      all_goals go_wp2_with fail
      all_goals go_region
      all_goals go_wp2_with fail
      go_roundw
      case rel =>
       refine ⟨k+1,by omega,by go_num,by rw [←HM.out];exact max_val DN.out, ?_,(((NB.out _ w1 hb1).setCell (Nat.le_refl _) _).setCell (Nat.le_refl _) _).drew.drew⟩
       rw [←NE.out];exact (t6.up (Below.refl _ _).drew).up (Below.refl _ _).drew
      case measure=>simp [intOf];omega
  · have E:=hide (DE.out k (by omega))
    go_wp2
    go_ret
    exact ⟨ret_int (by rw [E.out]),hbl⟩
theorem two_val {n:Nat} {c:Int} {tf:Nat×Int} (h:tf=(n,c)):Ending.returned (.tuple #[.int .i64 (n:Nat),errV c]) = .returned (.tuple #[.int .i64 (tf.1:Nat),errV tf.2]):=by rw [h]
set_option maxHeartbeats 4000000 in
set_option maxRecDepth 10000 in
theorem tcheck_any (a0:Option Addr) (ts:List M.Nd) (cap:Nat) (m:Int) (w:World) (h:RdN w a0 ts) :
 Calls Tryz.prog 50 #[.slice a0 ts.length cap, .int .i64 m] w λ e w'=>e = .returned (.tuple #[.int .i64 ((M.treeF ts m).1:Nat),errV (M.treeF ts m).2])/\Below w.heap.size w w':=by
 have hm:ts.length<=9223372036854775807:=h.1
 by_cases h63:63<ts.length
 · have E:=hide (M.tree_full (m:=m) h63)
   have hd:decide ((63:Int)<(ts.length:Int))=true:=decide_eq_true (by omega);clear h h63;generalize M.treeF ts m=tf at *
   go_enter Tryz.func50, Tryz.ntmps50
   go_wp2
   go_ret2
   exact ⟨two_val E.out,Below.refl _ _⟩
 · have hd:decide ((63:Int)<(ts.length:Int))=false:=decide_eq_false (by omega)
   by_cases h0:ts.length=0
   · have E:=hide (M.tree_none (m:=m) h0)
     have q0:((ts.length:Int) == 0)=true:=by rw [beq_iff_eq];omega
     clear h h63 h0;generalize M.treeF ts m=tf at *;generalize ts.length=len at *
     go_enter Tryz.func50, Tryz.ntmps50
     go_wp2
     go_ret2
     exact ⟨two_val E.out,Below.refl _ _⟩
   · have q0:((ts.length:Int) == 0)=false:=by rw [beq_eq_false_iff_ne];omega
     by_cases h1:m<0
     · have E:=hide (M.tree_range h63 h0 (.inl h1))
       have q1:decide (m<0)=true:=decide_eq_true h1;clear h h63 h0 h1;generalize M.treeF ts m=tf at *;generalize ts.length=len at *
       go_enter Tryz.func50, Tryz.ntmps50
       go_wp2
       go_ret2
       exact ⟨two_val E.out,Below.refl _ _⟩
     · have q1:decide (m<0)=false:=decide_eq_false h1
       by_cases h2:8<m
       · have E:=hide (M.tree_range h63 h0 (.inr h2))
         have q2:decide (8<m)=true:=decide_eq_true h2;clear h h63 h0 h1 h2;generalize M.treeF ts m=tf at *;generalize ts.length=len at *
         go_enter Tryz.func50, Tryz.ntmps50
         go_wp2
         go_ret2
         exact ⟨two_val E.out,Below.refl _ _⟩
       · have q2:decide (8<m)=false:=decide_eq_false h2
         have l63:ts.length<=63:=by omega
         have TN:Hid (∀ i,i<ts.length->M.nodeF (M.nAt ts i) i ts.length m≠0->(∀ j,j<i->M.nodeF (M.nAt ts j) j ts.length m=0)->M.treeF ts m=(i,M.nodeF (M.nAt ts i) i ts.length m)):=λ i hi hb hj=>M.tree_node h63 h0 (by omega) hi hb hj;have TS:Hid ((∀ j,j<ts.length->M.nodeF (M.nAt ts j) j ts.length m=0)->0<M.strayV ts->M.treeF ts m=(M.strayV ts,7)):=λ hb hs=>M.stray_tree h63 h0 (by omega) hb hs
         have TF:Hid ((∀ j,j<ts.length->M.nodeF (M.nAt ts j) j ts.length m=0)->M.strayV ts=0->M.treeF ts m=if 10<M.deepest ts ts.length then (0,4) else (0,0)):=λ hb hs=>by
          have F:M.Fair ts m:=⟨by omega,by omega,by omega,by omega,hb,M.stray_zero hs⟩
          rw [M.deepest_eq F];exact M.tree_fair F
         have CS:Hid (∀ W,Below w.heap.size w W->(∀ j,j<ts.length->M.nodeF (M.nAt ts j) j ts.length m=0)->Calls Tryz.prog 83 #[.slice a0 ts.length cap] W λ e w'=>e = .returned (.int .i64 (M.strayV ts:Nat))/\Below W.heap.size W w'):=λ W hW hb=>stray_any a0 ts cap m W (h.below hW) l63 hb;have CD:Hid (∀ W,Below w.heap.size w W->(∀ j,j<ts.length->M.nodeF (M.nAt ts j) j ts.length m=0)->Calls Tryz.prog 84 #[.slice a0 ts.length cap] W λ e w'=>e = .returned (.int .i64 (M.deepest ts ts.length:Nat))/\Below W.heap.size W w'):=λ W hW hb=>depth_any a0 ts cap m W (h.below hW) l63 hb;have DB:=M.deep_le ts ts.length
         have SB:M.strayV ts<=63:=by
          rcases Nat.eq_zero_or_pos (M.strayV ts) with e | e
          · omega
          · unfold M.strayV
            cases q:M.firstN (M.strayP ts) ts.length with
            | none=>simp
            | some k=>have:=(M.first_some q).1;simp;omega
         have HR:=hide h.2;clear h h63 h0 h1 h2;generalize M.treeF ts m=tf at *;generalize M.strayV ts=sv at *;generalize M.deepest ts ts.length=dv at *
         go_enter Tryz.func50, Tryz.ntmps50
         go_wp2
         go_loopw [27] (λ i wr => ∃ k:Nat,k<=ts.length/\i = .int .i64 k/\Below w.heap.size w wr/\Hid (∀ j,j<k->M.nodeF (M.nAt ts j) j ts.length m=0)) (λ i _=>ts.length-(intOf i).toNat)
         case atStart=>exact ⟨0,Nat.zero_le _,rfl,Below.refl _ _,λ j hj=>by omega⟩
         case round =>
          obtain ⟨k,hk,rfl,hbl,I⟩:=hrel
          by_cases hlt:k<ts.length
          · obtain ⟨b0,off,rfl,hb0,hc⟩:=HR.out (by intro e;subst e;simp at hlt)
            obtain ⟨s0,s1,s2,s3,s4,s5⟩:=(hc k hlt).below hbl hb0;have C1:=hide (λ W=>checknode_any (M.nAt ts k) k ts.length (k:Int) ((ts.length:Int)-1) m W rfl rfl);unfold ndV at C1;have NB:Hid (∀ o W,Below (wr.alloc o).heap.size (wr.alloc o) W->Below w.heap.size w W):=λ o W hW=>below_on (below_on hbl ((Below.refl _ wr).alloc (Nat.le_refl _) o)) hW
            by_cases hf:M.nodeF (M.nAt ts k) k ts.length m=0
            · have N:Hid (∀ j,j<k+1->M.nodeF (M.nAt ts j) j ts.length m=0):=λ j hj=>by
               by_cases e:j=k
               · subst e;exact hf
               · exact I.out j (by omega)
              rw [err_nil hf] at C1;clear hc hf hbl;generalize M.nf (M.nAt ts k)=f at *;generalize M.nc (M.nAt ts k)=c at *;generalize M.nl (M.nAt ts k)=l at *;generalize M.nr (M.nAt ts k)=r at *;generalize M.ns (M.nAt ts k)=sl at *;generalize M.nv (M.nAt ts k)=v at *
              go_wp2_with (go_at_call 82;refine (C1.out _).mono ?_;rintro e w1 ⟨rfl,hb1⟩)
              go_roundw
              case rel=>exact ⟨k+1,by omega,by go_num,NB.out _ w1 hb1,N⟩
              case measure=>simp [intOf];omega
            · have E:=hide (TN.out k hlt hf I.out)
              have EE:Hid (errV (M.nodeF (M.nAt ts k) k ts.length m) = .iface 69 (.int .i64 (M.nodeF (M.nAt ts k) k ts.length m))):=err_some hf;rw [err_some hf] at C1;clear hc hf hbl TN;generalize M.nodeF (M.nAt ts k) k ts.length m=cc at *;generalize M.nf (M.nAt ts k)=f at *;generalize M.nc (M.nAt ts k)=c at *;generalize M.nl (M.nAt ts k)=l at *;generalize M.nr (M.nAt ts k)=r at *;generalize M.ns (M.nAt ts k)=sl at *;generalize M.nv (M.nAt ts k)=v at *
              go_wp2_with (go_at_call 82;refine (C1.out _).mono ?_;rintro e w1 ⟨rfl,hb1⟩)
              go_ret2
              exact ⟨by rw [←EE.out];exact two_val E.out,NB.out _ w1 hb1⟩
          · have A:Hid (∀ j,j<ts.length->M.nodeF (M.nAt ts j) j ts.length m=0):=λ j hj=>I.out j (by omega)
            have S1:=hide (CS.out wr hbl A.out);have D1:=hide (λ W (hW:Below w.heap.size w W)=>CD.out W hW A.out)
            by_cases hs:sv=0
            · have qs:decide (0<sv)=false:=decide_eq_false (by omega)
              have E1:=hide (TF.out A.out hs)
              by_cases h10:10<dv
              · have qd:decide ((10:Int)<(dv:Int))=true:=decide_eq_true (by omega)
                have E:Hid (tf=(0,4)):=by have:=E1.out;rw [if_pos h10] at this;exact this
                clear E1 TN TS TF A CS CD HR hs h10
                go_wp2_with (first
                 | (go_at_call 83;refine S1.out.mono ?_;rintro e w1 ⟨rfl,hb1⟩)
                 | (go_at_call 84;refine (D1.out _ (below_on hbl hb1)).mono ?_;rintro e w2 ⟨rfl,hb2⟩))
                go_ret2
                exact ⟨two_val E.out,below_on (below_on hbl hb1) hb2⟩
              · have qd:decide ((10:Int)<(dv:Int))=false:=decide_eq_false (by omega)
                have E:Hid (tf=(0,0)):=by have:=E1.out;rw [if_neg h10] at this;exact this
                clear E1 TN TS TF A CS CD HR hs h10
                go_wp2_with (first
                 | (go_at_call 83;refine S1.out.mono ?_;rintro e w1 ⟨rfl,hb1⟩)
                 | (go_at_call 84;refine (D1.out _ (below_on hbl hb1)).mono ?_;rintro e w2 ⟨rfl,hb2⟩))
                go_ret2
                exact ⟨two_val E.out,below_on (below_on hbl hb1) hb2⟩
            · have qs:decide (0<sv)=true:=decide_eq_true (by omega)
              have E:=hide (TS.out A.out (by omega));clear TN TS TF A CS CD HR hs D1
              go_wp2_with (go_at_call 83;refine S1.out.mono ?_;rintro e w1 ⟨rfl,hb1⟩)
              go_ret2
              exact ⟨two_val E.out,below_on hbl hb1⟩
end Go.Proofs.YtaijnacghiloaaaGreatDoor

namespace Go.Proofs.YtaijnacghiloaaaGreatDoor.M
set_option linter.unusedVariables false
theorem nd_ok {n:Nd} {i len:Nat} {m:Int} (hl:len<=63) (hm:m<=8) (h:nodeF n i len m=0):NdOk n:=by
 by_cases q:nf n = -1
 · unfold nodeF at h
   rw [if_pos q] at h;unfold lfF at h
   split at h
   · cases h
   · rename_i h1
     split at h
     · cases h
     · rename_i h2
       have o:=out_false (x:=nv n) (by cases e:outI (nv n) with | false=>rfl | true=>exact absurd e h1);obtain ⟨f,c,l,r,s,v⟩:=n
       have z1:c=0:=by by_cases e:c=0;exact e;exact absurd (.inl e) h2
       have z2:l=0:=by by_cases e:l=0;exact e;exact absurd (.inr (.inl e)) h2
       have z3:r=0:=by by_cases e:r=0;exact e;exact absurd (.inr (.inr (.inl e))) h2
       have z4:s=false:=by cases s with | false=>rfl | true=>exact absurd (.inr (.inr (.inr rfl))) h2
       have q':f = -1:=q;have o' : -1000000<=v/\v<=1000000:=o;subst z1 z2 z3 z4 q'
       refine ⟨?_, ?_, ?_, ?_, ?_,λ _=>rfl,λ z=>absurd rfl z⟩
       · show I64 (-1);unfold I64;omega
       · show I64 0;unfold I64;omega
       · show I64 0;unfold I64;omega
       · show I64 0;unfold I64;omega
       · show I64 v;unfold I64;omega
 · obtain ⟨a1,a2,a3,a4,a5,a6,a7,a8,a9⟩:=node_ask h q
   have o:=out_false a3
   refine ⟨?_, ?_, ?_, ?_, ?_,λ z=>absurd z q,λ _=>a8⟩
   · unfold I64;omega
   · unfold I64;omega
   · unfold I64;omega
   · unfold I64;omega
   · rw [a8];unfold I64;omega
theorem tr_ok {t:List Nd} {m w:Int} (hw:1<=w/\w<=1000) (h:(treeF t m).2=0):TrOk (w,t):=by
 have F:=(tree_ok h).1
 refine ⟨?_,F.2.1,F.1,λ n hn => ?_⟩
 · show I64 w;unfold I64;omega
 · obtain ⟨i,hi,rfl⟩:=List.getElem_of_mem hn
   have:=F.2.2.2.2.1 i hi
   have e:nAt t i=t[i]:=by unfold nAt;rw [getD_at hi]
   rw [e] at this;exact nd_ok F.1 F.2.2.2.1 this
theorem zip_ok {g:Gv} (h:Good g) : ∀ x∈(gs g).zip (gt g),TrOk x:=λ x hx=>by
 obtain ⟨w,t⟩:=x;have h1:=List.of_mem_zip hx;exact tr_ok (h.wts w h1.1) (h.trees t h1.2)
theorem zip_len {g:Gv} (h:Good g):((gs g).zip (gt g)).length=(gt g).length:=by rw [List.length_zip,h.len,Nat.min_self]
theorem dec_along {g:Gv} (h:Good g) {m:Nat} (hm:m<=(encB g).length) :
 (m=(encB g).length/\(rAll ((encB g).take m)).2.bad=0/\(rAll ((encB g).take m)).2.fin=m/\rGrove ((encB g).take m)=g)∨(m<(encB g).length/\Cut8 ((encB g).take m) (rAll ((encB g).take m)).2):=by
 obtain ⟨b,hb⟩ : ∃ b,b=(encB g).take m:=⟨_,rfl⟩
 rw [←hb]
 have bl:b.length=m:=by rw [hb,List.length_take,Nat.min_eq_left hm]
 have i1:I64 (gf g):=by have:=h.f0;have:=h.f8;unfold I64;omega
 have i2:I64 (gw g):=by have:=h.w1;have:=h.w3;unfold I64;omega
 have i3:I64 ((gt g).length:Int):=by have:=h.t12;unfold I64;omega
 have el:(encB g).length=(numL (gf g)).length+(numL (gw g)).length+(numL ((gt g).length:Int)).length+(bysL (((gs g).zip (gt g)).flatMap trL)).length:=by
  unfold encB grL;rw [bys_cons,bys_cons,bys_cons,List.length_append,List.length_append,List.length_append];omega
 have A0:Aln b in0 (gf g :: (gw g :: (((gt g).length:Int) :: (((gs g).zip (gt g)).flatMap trL ++ [])))) m:=by
  refine ⟨rfl,Nat.zero_le _, ?_⟩
  show b.drop 0=_;rw [List.drop_zero,hb,List.append_nil];rfl
 have cutAll : ∀ s,Cut8 b s->(rHead b).2=s->Cut8 b (rAll b).2:=λ s hs e=>by
  unfold rAll;rw [e,cut_trees hs];exact hs
 have t0:=h.t0;have t12:=h.t12
 rcases rNum_aln i1 A0 with ⟨a1,a2,a3,a4⟩ | ⟨a1,a2⟩
 · rcases rNum_aln i2 a3 with ⟨b1,b2,b3,b4⟩ | ⟨b1,b2⟩
   · rcases rMany_aln (most:=12) i3 (by omega) (by omega) b3 with ⟨c1,c2,c3,c4⟩ | ⟨c1,c2⟩
     · have hd:(rHead b).1=(gf g,gw g,((gt g).length:Int)):=by unfold rHead;rw [a2,b2,c2]
       have hs:(rHead b).2=(rMany b 12 (rNum b (rNum b in0).2).2).2:=rfl
       have ra:rAll b=rTrees b ((gs g).zip (gt g)).length (rMany b 12 (rNum b (rNum b in0).2).2).2:=by
        unfold rAll;rw [hd,hs,zip_len h];rfl
       rcases rTrees_aln ((gs g).zip (gt g)) _ _ (zip_ok h) c3 with ⟨d1,d2,d3⟩ | ⟨d1,d2⟩
       · left
         have em:m=(encB g).length:=by omega
         rw [←ra] at d2 d3
         refine ⟨em,d3.1, ?_, ?_⟩
         · have z:=d3.2.2
           have z2:b.drop (rAll b).2.fin = []:=by rw [z];simp [bysL]
           have z3:=congrArg List.length z2;rw [List.length_drop] at z3;have:=d3.2.1;simp at z3;omega
         · unfold rGrove
           rw [hd,d2]
           have e1:((gs g).zip (gt g)).map (·.1)=gs g:=by
            rw [List.map_fst_zip];have:=h.len;omega
           have e2:((gs g).zip (gt g)).map (·.2)=gt g:=by
            rw [List.map_snd_zip];have:=h.len;omega
           rw [e1,e2]
       · right
         rw [ra]
         exact ⟨by omega,d2⟩
     · right
       exact ⟨by omega,cutAll _ c2 rfl⟩
   · right
     exact ⟨by omega,cutAll _ (cut_many b2) rfl⟩
 · right
   exact ⟨by omega,cutAll _ (cut_many (cut_num a2)) rfl⟩
theorem dec_enc {g:Gv} (h:encF g=0):decF (encV g)=(0,0)/\decV (encV g)=g:=by
 have ev:encV g=encB g:=by unfold encV;rw [if_pos h]
 unfold encF at h
 split at h
 · rename_i h1;exact absurd h h1
 · rename_i h1
   have h0:groveF g=0:=by omega
   have G:=(good_iff g).1 h0
   split at h
   · cases h
   · rename_i h2
     rw [ev]
     rcases dec_along G (Nat.le_refl (encB g).length) with ⟨_,a2,a3,a4⟩ | ⟨a1,_⟩
     · rw [List.take_length] at a2 a3 a4
       have d:decF (encB g)=(0,0):=by
        unfold decF;rw [if_neg h2,if_neg (by simp [a2]),if_neg (by simp [a3]),if_neg (by rw [a4];simp [h0])]
       refine ⟨d, ?_⟩
       unfold decV;rw [d,if_pos rfl,a4]
     · omega
def g7:Gv:=(0,1, [1], [[(-1,0,0,0,false,7)]])
end Go.Proofs.YtaijnacghiloaaaGreatDoor.M
