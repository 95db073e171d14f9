/-
  Several texts as one: ScB, ScD, ScK, ScKp, ScL.
-/
import Derived.Test.YtaijnacghiloaaaGreatDoorRunT30
import Derived.Shelf.Abstract
import Derived.Deep.Cut
import Derived.Deep.CutRange
import Derived.Lib.SliceRun
import Derived.Deep.RegionLaw
import Derived.RegionTactic
import Derived.Deep.AppendLies
import Derived.Deep.RegionWith
import Derived.Test.YtaijnacghiloaaaGreatDoorRunT29
import Derived.Test.YtaijnacghiloaaaGreatDoorRunT19
namespace Go.Proofs.YtaijnacghiloaaaGreatDoor
open Go.ChangeShapes Go.WideShapes Go.ChangeAt Go.RowKit Go.Lib
set_option linter.unusedVariables false
theorem own_ld {w:World} {base n:Nat} {g c:Nat} {l:List Ld} (hn:l.length=n) (h:w.ownsRow base 165 3 (.slice (some ⟨g,0,none⟩) n c) n (ldCs l)) {i:Nat} (hi:i<n):w.cell? ⟨g,i*3,none⟩=some (.string (byStr (l.getD i ld0).1))/\w.cell? ⟨g,i*3+1,none⟩=some (.int .i64 (l.getD i ld0).2.1)/\w.cell? ⟨g,i*3+2,none⟩=some (.pointer (some ⟨(l.getD i ld0).2.2,0,none⟩)):=by
 have key : ∀ j,j<3 -> ∀ v,(ld3 (l.getD i ld0))[j]? = some v->w.cell? ⟨g,i*3+j,none⟩=some v:=λ j hj v hv=>by
  rw [h.cellAt (i*3+j) (by omega),←hv];exact ldCs_at l i j (by omega) hj
 exact ⟨key 0 (by omega) _ rfl,key 1 (by omega) _ rfl,key 2 (by omega) _ rfl⟩
theorem own_form {w:World} {base n:Nat} {a:Option Addr} {c:Nat} {l:List Ld} (h:w.ownsRow base 165 3 (.slice a n c) n (ldCs l)) (hn:0<n) : ∃ g,a=some ⟨g,0,none⟩/\base<=g/\g<w.heap.size:=by
 obtain ⟨g,cap,e,h1,h2⟩:=h.form hn;cases e
 exact ⟨g,rfl,h1,h2⟩
def isLd (s:ByteArray) (k:Int) (x:Ld):Bool:=((byStr x.1).toList == s.toList) && (x.2.1 == k)
theorem isLd_is {s:ByteArray} {k:Int} {x:Ld} (h:isLd s k x=true):byStr x.1=s/\x.2.1=k:=by
 unfold isLd at h;rw [Bool.and_eq_true] at h
 refine ⟨bytes_inj ?_,eq_of_beq h.2⟩
 have:=eq_of_beq h.1
 rwa [ByteArray.toList_eq,ByteArray.toList_eq] at this
structure VB (w:World) (vb:Nat) (s:ByteArray) (k:Int):Prop where
 c0:w.cell? ⟨vb,0,none⟩=some (.string s)
 c1:w.cell? ⟨vb,1,none⟩=some (.int .i64 k)
 lt:vb<w.heap.size
theorem VB.up {w w':World} {vb:Nat} {s:ByteArray} {k:Int} (h:VB w vb s k) (hb:w'.heap[vb]? = w.heap[vb]?) (hz:w.heap.size<=w'.heap.size):VB w' vb s k:=⟨(World.cell?_of_block (a:=⟨vb,0,none⟩) hb).trans h.c0,(World.cell?_of_block (a:=⟨vb,1,none⟩) hb).trans h.c1,Nat.lt_of_lt_of_le h.lt hz⟩
theorem VB.below {w w':World} {vb:Nat} {s:ByteArray} {k:Int} (h:VB w vb s k) (hb:Below w.heap.size w w'):VB w' vb s k:=h.up (hb.block _ h.lt) hb.size
set_option maxHeartbeats 4000000 in
theorem isOf1_any (x:Ld) {w:World} {vb:Nat} {s:ByteArray} {k:Int} (h:VB w vb s k) :
 Calls Tryz.prog 125 #[ldV x, .pointer (some ⟨vb,0,none⟩)] w λ e w'=>e = .returned (.bool (isLd s k x))/\Below w.heap.size w w':=by
 have c0:=h.c0;have c1:=h.c1;have lt:=h.lt
 have ne : ¬ w.heap.size=vb:=by omega
 have ne2 : ¬ vb=w.heap.size:=by omega
 unfold ldV isLd;clear h;generalize byStr x.1=s1 at *;generalize x.2.1=n1 at *;generalize x.2.2=p1 at *;have BW:Hid (Below w.heap.size w (w.alloc (.cells #[.string s1, .int .i64 n1, .pointer (some ⟨p1,0,none⟩)] 165))):=(Below.refl _ _).alloc (Nat.le_refl _) _
 cases q:s1.toList == s.toList with
 | true =>
   go_enter Tryz.func125, Tryz.ntmps125
   go_wp2
   go_ret
   exact ⟨by first | rfl | simp,BW.out⟩
 | false =>
   go_enter Tryz.func125, Tryz.ntmps125
   go_wp2
   go_ret
   exact ⟨by first | rfl | simp,BW.out⟩
set_option maxHeartbeats 4000000 in
theorem idx_ld {w:World} {base n:Nat} {ka:Option Addr} {kc:Nat} {l:List Ld} (hn:l.length=n) (hm:n<=9223372036854775807) (h:w.ownsRow base 165 3 (.slice ka n kc) n (ldCs l)) {vb:Nat} {s:ByteArray} {k:Int} (hv:VB w vb s k) :
 Calls Tryz.prog 93 #[.slice ka n kc, .func (.func 125) #[] #[.pointer (some ⟨vb,0,none⟩)]] w λ e w' => ∃ j:Int,e = .returned (.int .i64 j)/\(j = -1 ∨ ∃ i:Nat,j=(i:Int)/\i<n/\isLd s k (l.getD i ld0)=true)/\Below w.heap.size w w':=by
 have H:=hide h;have V:=hide hv;have LN:=hide hn;have did : ∀ args w,(callFunc 125 args).run Tryz.prog w = .ok (.enter 125 args) w:=enters_of Tryz.func125 (by kernel_rfl) rfl;clear h hv hn
 go_enter Tryz.func93, Tryz.ntmps93
 go_wp2
 go_loopw [5,8] (λ _ i wr => ∃ j:Nat,j<=n/\i = .int .i64 j/\Hid (Below w.heap.size w wr)) (λ _ i _=>n-(intOf i).toNat)
 case atStart=>exact ⟨0,Nat.zero_le _,rfl,Below.refl _ _⟩
 case round =>
  obtain ⟨j,hj,rfl,KK⟩:=hrel
  by_cases hlt:j<n
  · obtain ⟨g,rfl,hg1,hg2⟩:=own_form H.out (by omega)
    have O:=own_up H.out KK.out;obtain ⟨c0,c1,c2⟩:=own_ld LN.out O hlt;have CA:=hide (isOf1_any (l.getD j ld0) (V.out.below KK.out))
    have kz:(j:Int)<(n:Int):=by omega
    cases q:isLd s k (l.getD j ld0) with
    | true =>
      rw [q] at CA;have Q:=hide q;unfold ldV at CA;clear O q
      go_wp2_with (go_at_fn 125;refine CA.out.mono ?_;rintro e w1 ⟨rfl,b1⟩;have K1:=hide (below_on KK.out b1);clear b1)
      go_ret
      exact ⟨(j:Int),rfl, .inr ⟨j,rfl,hlt,Q.out⟩,K1.out⟩
    | false =>
      rw [q] at CA;unfold ldV at CA;clear O q
      go_wp2_with (go_at_fn 125;refine CA.out.mono ?_;rintro e w1 ⟨rfl,b1⟩;have K1:=hide (below_on KK.out b1);clear b1)
      go_roundw
      case rel=>exact ⟨j+1,by omega,by go_num,K1⟩
      case measure=>simp [intOf];omega
  · have kz : ¬ ((j:Int)<(n:Int)):=by omega
    go_wp2
    go_ret
    exact ⟨-1,rfl, .inl rfl,KK.out⟩
def setM:List Value->Nat->List Value->List Value
 | l,_, []=>l
 | l,o,v :: r=>setM (l.set o v) (o+1) r
theorem setM_take : ∀ (r l:List Value) (o m:Nat),m<=o->(setM l o r).take m=l.take m
 | [],l,o,m,_=>rfl
 | v :: r,l,o,m,h=>by
   show (setM (l.set o v) (o+1) r).take m=_;rw [setM_take r _ (o+1) m (by omega),List.take_set_of_le h]
theorem own_setM {base n e size g cap:Nat} : ∀ (r:List Value) (w:World) (xs:List Value) (o:Nat),w.ownsRow base e size (.slice (some ⟨g,0,none⟩) n cap) n xs->(w.setCells g o r).ownsRow base e size (.slice (some ⟨g,0,none⟩) n cap) n (setM xs o r)/\StayBut (λ q=>q=g) w (w.setCells g o r)
 | [],w,xs,o,h=>⟨h,StayBut.refl _ _⟩
 | v :: r,w,xs,o,h=>by
   obtain ⟨h1,h2⟩:=own_setM r (w.setCell ⟨g,o,none⟩ v) (xs.set o v) (o+1) (h.stored o v).1
   exact ⟨h1,StayBut.trans (K:=λ q=>q=g) (stay_set rfl) h2⟩
theorem ldCs_take (l:List Ld) : ∀ m,(ldCs l).take (m*3)=ldCs (l.take m):=by
 induction l with
 | nil=>intro m;simp [ldCs]
 | cons x l ih =>
   intro m
   cases m with
   | zero=>simp [ldCs]
   | succ m =>
     show (ld3 x ++ ldCs l).take ((m+1)*3)=ld3 x ++ ldCs (l.take m)
     have e:(m+1)*3-(ld3 x).length=m*3:=by show (m+1)*3-3=_;omega
     rw [List.take_append,List.take_of_length_le (by show 3<=(m+1)*3;omega),←ih m,e]
theorem own_cutL {w:World} {base n m:Nat} {g c:Nat} {xs:List Value} {l:List Ld} (h:w.ownsRow base 165 3 (.slice (some ⟨g,0,none⟩) n c) n xs) (hm:m<=n) (hx:xs.take (m*3)=ldCs l) (hl:l.length=m):w.ownsRow base 165 3 (.slice (some ⟨g,0,none⟩) m c) m (ldCs l):=by
 refine ⟨by rw [ldCs_len,hl], ?_⟩
 rcases h.2 with ⟨hv,h0⟩ | ⟨g',cap,cur,hv,hb,hg,h1,h2,h3,h4⟩
 · cases hv
 · cases hv
   refine .inr ⟨g,c,cur,rfl,hb,hg,by omega,h2,h3, ?_⟩;rw [←hx,←h4,List.take_take]
   congr 1
   omega
def ldZ:List Value := [.string ⟨#[]⟩, .int .i64 0, .pointer none]
def ldZs (n:Nat):List Value:=(List.replicate n ldZ).flatten
theorem ldZs_len (n:Nat):(ldZs n).length=n*3:=by
 unfold ldZs;rw [List.length_flatten,List.map_replicate,List.sum_replicate_nat];rfl
theorem zeroC : ∀ n,(Builtin.zeroCells #[Value.string ⟨#[]⟩, .int .i64 0, .pointer none] n).toList=ldZs n:=by
 intro n;apply List.ext_getElem
 · rw [ldZs_len]
   simp [Builtin.zeroCells]
 · intro i h1 h2
   have hi:i<n*3:=by rw [ldZs_len] at h2;exact h2
   have e : ∀ (n i:Nat) (h:i<(ldZs n).length),(ldZs n)[i]=(ldZ)[i % 3]'(by show i % 3<3;omega):=by
    intro n
    induction n with
    | zero=>intro i h;exact absurd h (by rw [ldZs_len];omega)
    | succ n ih =>
      intro i h
      have es:ldZs (n+1)=ldZ ++ ldZs n:=by unfold ldZs;rw [List.replicate_succ,List.flatten_cons]
      simp only [es]
      by_cases q:i<3
      · rw [List.getElem_append_left (by show i<3;exact q)]
        congr 1
        omega
      · rw [List.getElem_append_right (by show 3<=i;omega)]
        have hb:i-3<(ldZs n).length:=by rw [ldZs_len] at h ⊢;omega
        have:=ih (i-3) hb;refine Eq.trans this ?_
        congr 1
        omega
   rw [e n i h2];simp [Builtin.zeroCells];rw [List.getElem?_eq_getElem (by show i % 3<3;omega)];rfl
theorem run_clearL (w:World) (ty:TypeId) (b o n c:Nat) (hn:0<n) (hc : ∀ j,j<n*3->(w.cell? ⟨b,o+j,none⟩).isSome=true) (hf : ∀ j,j<n*3->w.frozen? ⟨b,o+j,none⟩=false) :
 (Builtin.clear_ #[115] ty #[.slice (some ⟨b,o,none⟩) n c]).run Tryz.prog w = .ok (.tuple #[]) (w.setCells b o (ldZs n)):=by
 have hl:=ldZs_len n
 have h1 : ∀ v∈ldZs n,v.oneCell'=true:=by
  intro v hv;unfold ldZs at hv;obtain ⟨z,hz,hv⟩:=List.mem_flatten.1 hv;rw [List.eq_of_mem_replicate hz] at hv;unfold ldZ at hv;simp at hv
  rcases hv with rfl | rfl | rfl <;> rfl
 have hst:=run_storeCells_cells (P := Tryz.prog) b o (ldZs n) 0 w (by simpa [hl] using hc) (by simpa [hl] using hf) h1;simp only [Nat.add_zero] at hst
 obtain ⟨m,rfl⟩ : ∃ m,n=m+1:=⟨n-1,by omega⟩
 have hzc:=zeroC (m+1);simp [Builtin.clear_,run_underlying Tryz.underlying115,Value.cells,hzc,hst]
theorem ldCs_set : ∀ (l:List Ld) (i:Nat) (x:Ld),i<l.length->(((ldCs l).set (i*3) (.string (byStr x.1))).set (i*3+1) (.int .i64 x.2.1)).set (i*3+2) (.pointer (some ⟨x.2.2,0,none⟩))=ldCs (l.set i x)
 | [],i,x,h=>by cases h
 | y :: l,0,x,_=>rfl
 | y :: l,i+1,x,h=>by
   have ih:=ldCs_set l i x (by simpa using h)
   have e:(i+1)*3=i*3+1+1+1:=by omega
   show (((ld3 y ++ ldCs l).set ((i+1)*3) _).set ((i+1)*3+1) _).set ((i+1)*3+2) _=ld3 y ++ ldCs (l.set i x);rw [←ih,e];rfl
structure DelL (w w':World) (base:Nat) (ka:Option Addr) (kc:Nat) (l:List Ld) (m:Nat) (r:List Ld):Prop where
 le:m<=l.length
 len:r.length=m
 sub : ∀ x∈r,x∈l
 own:w'.ownsRow base 165 3 (.slice ka m kc) m (ldCs r)
 stay:StayBut (λ q => ∃ p,ka=some p/\p.block=q) w w'
set_option maxHeartbeats 8000000 in
set_option maxRecDepth 10000 in
theorem del_ld {w:World} {base n:Nat} {ka:Option Addr} {kc:Nat} {l:List Ld} (hn:l.length=n) (hm:n<=1000) (h:w.ownsRow base 165 3 (.slice ka n kc) n (ldCs l)) {vb:Nat} {s:ByteArray} {k:Int} (hv:VB w vb s k) (hne : ∀ p,ka=some p->p.block≠vb) :
 Calls Tryz.prog 100 #[.slice ka n kc, .func (.func 125) #[] #[.pointer (some ⟨vb,0,none⟩)]] w λ e w' => ∃ m:Nat,e = .returned (.slice ka m kc) /\ ∃ r,DelL w w' base ka kc l m r:=by
 have H:=hide h;have V:=hide hv;have LN:=hide hn;have CI:=hide (idx_ld hn (by omega) h hv);have did : ∀ args w,(callFunc 125 args).run Tryz.prog w = .ok (.enter 125 args) w:=enters_of Tryz.func125 (by kernel_rfl) rfl;have NE:=hide hne;clear h hv hn hne
 go_enter Tryz.func100, Tryz.ntmps100
 go_upto_region 2 with (go_at_call 93;refine CI.out.mono ?_;rintro e w1 ⟨j,rfl,ways,b1⟩;have W1:=hide ways;have K1:=hide b1;clear ways b1)
 rcases W1.out with rfl | ⟨i,rfl,hi,_⟩
 · clear CI
   go_wp2
   go_ret
   exact ⟨n,rfl,l,⟨by rw [LN.out];exact Nat.le_refl _,LN.out,(λ x hx=>hx),own_up H.out K1.out,stay_of K1.out (Nat.le_refl _)⟩⟩
 · obtain ⟨g,rfl,hg1,hg2⟩:=own_form H.out (by omega)
   have t1:(((i:Nat):Int) == -1)=false:=by rw [beq_eq_false_iff_ne];omega
   have gv:g≠vb:=NE.out _ rfl
   have cap:n<=kc/\kc<=maxLen:=by
    rcases H.out.2 with ⟨hq,_⟩ | ⟨g',cap,cur,hq,_,_,h1,h2,_⟩
    · cases hq
    · cases hq;exact ⟨h1,h2⟩
   obtain ⟨cap1,cap2⟩:=cap;clear CI W1 NE
   go_wp2
   go_loopw [5,6,7] (λ s5 s6 _ wr => ∃ (p q:Nat) (R:List Ld),s5 = .int .i64 p/\s6 = .int .i64 q/\p<q/\q<=n/\R.length=n/\Hid (∀ x∈R,x∈l)/\Hid (wr.ownsRow base 165 3 (.slice (some ⟨g,0,none⟩) n kc) n (ldCs R))/\Hid (StayBut (λ q=>q=g) w wr)) (λ _ s6 _ _=>n-(intOf s6).toNat)
   case atStart=>exact ⟨i,i+1,l,rfl,by go_num,by omega,by omega,LN.out,(λ x hx=>hx),own_up H.out K1.out,stay_of K1.out (Nat.le_refl _)⟩
   case round =>
    obtain ⟨p,q,R,rfl,rfl,hpq,hq,hR,RL,O,ST⟩:=hrel
    by_cases hlt:q<n
    · obtain ⟨c0,c1,c2⟩:=own_ld hR O.out hlt
      have kz:(q:Int)<(n:Int):=by omega
      have mem:R.getD q ld0∈R:=by rw [List.getD,List.getElem?_eq_getElem (by omega)];exact List.getElem_mem (by omega)
      have V1:VB wr vb s k:=V.out.up (ST.out.block _ V.out.lt (λ e=>gv e.symm)) ST.out.size;have BA:Below wr.heap.size wr (wr.alloc (.cells #[.string (byStr (R.getD q ld0).1), .int .i64 (R.getD q ld0).2.1, .pointer (some ⟨(R.getD q ld0).2.2,0,none⟩)] 165)):=(Below.refl _ _).alloc (Nat.le_refl _) _;have CA:=hide (isOf1_any (R.getD q ld0) (V1.below BA))
      have AFT:Hid (∀ w2,Below (wr.alloc (.cells #[.string (byStr (R.getD q ld0).1), .int .i64 (R.getD q ld0).2.1, .pointer (some ⟨(R.getD q ld0).2.2,0,none⟩)] 165)).heap.size (wr.alloc (.cells #[.string (byStr (R.getD q ld0).1), .int .i64 (R.getD q ld0).2.1, .pointer (some ⟨(R.getD q ld0).2.2,0,none⟩)] 165)) w2->Bx w2 wr.heap.size [.string (byStr (R.getD q ld0).1), .int .i64 (R.getD q ld0).2.1, .pointer (some ⟨(R.getD q ld0).2.2,0,none⟩)]/\w2.ownsRow base 165 3 (.slice (some ⟨g,0,none⟩) n kc) n (ldCs R)/\StayBut (λ q=>q=g) w w2):=λ w2 hb =>
       ⟨(bx_new wr _ _).keep (hb.block _ (by simp)),own_up (own_up O.out BA) hb,(ST.out.trans (stay_of BA (Nat.le_refl _))).trans (stay_of hb (Nat.le_refl _))⟩
      have MM:=hide (RL.out _ mem);unfold ldV at CA;clear V1 BA mem;generalize R.getD q ld0=x at *
      cases eb:isLd s k x with
      | true =>
        rw [eb] at CA;clear eb
        go_wp2_with (go_at_fn 125;refine CA.out.mono ?_;rintro e w2 ⟨rfl,b2⟩;have A2:=hide (AFT.out w2 b2);clear b2)
        go_roundw
        case rel=>exact ⟨p,q+1,R,rfl,by go_num,by omega,by omega,hR,RL,A2.out.2.1,A2.out.2.2⟩
        case measure=>simp [intOf];omega
      | false =>
        rw [eb] at CA;clear eb
        have STO:Hid (∀ w2,w2.ownsRow base 165 3 (.slice (some ⟨g,0,none⟩) n kc) n (ldCs R)->StayBut (λ q=>q=g) w w2->((w2.cell? ⟨g,p*3,none⟩).isSome=true/\(w2.cell? ⟨g,p*3+1,none⟩).isSome=true/\(w2.cell? ⟨g,p*3+2,none⟩).isSome=true)/\(∀ j,w2.frozen? ⟨g,j,none⟩=false)/\(((w2.setCell ⟨g,p*3,none⟩ (.string (byStr x.1))).setCell ⟨g,p*3+1,none⟩ (.int .i64 x.2.1)).setCell ⟨g,p*3+2,none⟩ (.pointer (some ⟨x.2.2,0,none⟩))).ownsRow base 165 3 (.slice (some ⟨g,0,none⟩) n kc) n (ldCs (R.set p x))/\StayBut (λ q=>q=g) w (((w2.setCell ⟨g,p*3,none⟩ (.string (byStr x.1))).setCell ⟨g,p*3+1,none⟩ (.int .i64 x.2.1)).setCell ⟨g,p*3+2,none⟩ (.pointer (some ⟨x.2.2,0,none⟩)))):=λ w2 o2 s2=>by
         have cc:=own_ld hR o2 (show p<n by omega);have h1:=(o2.stored (p*3) (.string (byStr x.1))).1;have h2:=(h1.stored (p*3+1) (.int .i64 x.2.1)).1;have h3:=(h2.stored (p*3+2) (.pointer (some ⟨x.2.2,0,none⟩))).1;rw [ldCs_set R p x (by omega)] at h3;have ss : ∀ (u:World) (j:Nat) (v:Value),StayBut (λ q=>q=g) u (u.setCell ⟨g,j,none⟩ v):=λ u j v=>stay_set (K:=λ q=>q=g) rfl
         exact ⟨⟨by rw [cc.1];rfl,by rw [cc.2.1];rfl,by rw [cc.2.2];rfl⟩,λ j=>o2.frozenAt j,h3,((s2.trans (ss _ _ _)).trans (ss _ _ _)).trans (ss _ _ _)⟩
        have RS:Hid (∀ y∈R.set p x,y∈l):=λ y hy=>by
         rcases List.mem_or_eq_of_mem_set hy with z | z
         · exact RL.out y z
         · rw [z];exact MM.out
        go_upto_region 9 with (go_at_fn 125;refine CA.out.mono ?_;rintro e w2 ⟨rfl,b2⟩;have A2:=hide (AFT.out w2 b2);clear b2)
        have d0:=A2.out.1.cell 0 _ rfl;have d1:=A2.out.1.cell 1 _ rfl;have d2:=A2.out.1.cell 2 _ rfl;obtain ⟨⟨u0,u1,u2⟩,fz,o3,s3⟩:=STO.out w2 A2.out.2.1 A2.out.2.2;obtain ⟨y0,u0⟩:=Option.isSome_iff_exists.1 u0;obtain ⟨y1,u1⟩:=Option.isSome_iff_exists.1 u1;obtain ⟨y2,u2⟩:=Option.isSome_iff_exists.1 u2
        have pz:(p:Int)<(n:Int):=by omega
        have O3:=hide o3;have S3:=hide s3;clear o3 s3 CA AFT STO c0 c1 c2
        go_wp2
        go_roundw
        case rel=>exact ⟨p+1,q+1,R.set p x,by go_num,by go_num,by omega,by omega,by rw [List.length_set];exact hR,RS,O3,S3⟩
        case measure=>simp [intOf];omega
    · obtain rfl:q=n:=by omega
      have kz : ¬ ((q:Int)<(q:Int)):=by omega
      have ne1 : ¬ kc=p:=by omega
      have c63:kc<=9223372036854775807:=cap2
      have cs : ∀ j,j<(q-p)*3->(wr.cell? ⟨g,p*3+j,none⟩).isSome=true:=λ j hj=>by
       rw [O.out.cellAt (p*3+j) (by omega),List.getElem?_eq_getElem (by rw [ldCs_len,hR];omega)];rfl
      have hcl : ∀ ty,(Builtin.clear_ #[115] ty #[.slice (some ⟨g,p*3,none⟩) (q-p) (kc-p)]).run Tryz.prog wr = .ok (.tuple #[]) (wr.setCells g (p*3) (ldZs (q-p))):=λ ty=>run_clearL wr ty g (p*3) (q-p) (kc-p) (by omega) cs (λ j hj=>O.out.frozenAt _);obtain ⟨om,sm⟩:=own_setM (ldZs (q-p)) wr (ldCs R) (p*3) O.out;have FIN:Hid ((wr.setCells g (p*3) (ldZs (q-p))).ownsRow base 165 3 (.slice (some ⟨g,0,none⟩) p kc) p (ldCs (R.take p))):=own_cutL om (by omega) (by rw [setM_take _ _ _ _ (Nat.le_refl _),ldCs_take]) (by rw [List.length_take];omega);have SF:Hid (StayBut (λ z => ∃ a,(some ⟨g,0,none⟩:Option Addr)=some a/\a.block=z) w (wr.setCells g (p*3) (ldZs (q-p)))):=(ST.out.trans sm).mono (λ z _ e=>⟨_,rfl,e.symm⟩);clear om sm cs
      go_wp2
      go_ret
      exact ⟨p,rfl,R.take p,⟨by rw [LN.out];omega,by rw [List.length_take];omega,(λ x hx=>RL.out x (List.mem_of_mem_take hx)),FIN.out,SF.out⟩⟩
theorem four_ld {l:List Ld} (h:l.length=4) : ∃ x y z u:Ld,l = [x,y,z,u]:=by
 match l,h with
 | [x,y,z,u],_=>exact ⟨x,y,z,u,rfl⟩
theorem one_ld {l:List Ld} : ∀ v∈ldCs l,v.oneCell'=true:=λ v hv=>by
 unfold ldCs at hv;obtain ⟨x,_,hv⟩:=List.mem_flatMap.1 hv;unfold ld3 at hv;simp at hv
 rcases hv with rfl | rfl | rfl <;> rfl
theorem infoLd:(Tryz.prog.info? 165).map (λ i=>(i.zero,i.size,i.bytes))=some (some (.agg #[.string ⟨#[]⟩, .int .i64 0, .pointer none]),3,32):=by kernel_rfl
set_option maxHeartbeats 8000000 in
set_option maxRecDepth 10000 in
theorem del_one {w:World} {base g kc:Nat} {l:List Ld} (hn:l.length=4) (h:w.ownsRow base 165 3 (.slice (some ⟨g,0,none⟩) 4 kc) 4 (ldCs l)) :
 Calls Tryz.prog 101 #[.slice (some ⟨g,0,none⟩) 4 kc, .int .i64 0, .int .i64 1] w λ e w'=>e = .returned (.slice (some ⟨g,0,none⟩) 3 kc) /\ ∃ r,DelL w w' base (some ⟨g,0,none⟩) kc l 3 r:=by
 obtain ⟨x,y,z,u,el⟩:=four_ld hn
 have cap:4<=kc/\kc<=maxLen:=by
  rcases h.2 with ⟨hq,_⟩ | ⟨g',cap,cur,hq,_,_,h1,h2,_⟩
  · cases hq
  · cases hq;exact ⟨h1,h2⟩
 obtain ⟨cap1,cap2⟩:=cap;have c63:kc<=9223372036854775807:=cap2;have HK:Hid (w.drew.ownsRow base 165 3 (.slice (some ⟨g,0,none⟩) 4 kc) 4 (ldCs l)):=sp_stay h (λ _ _=>rfl)
 have src : ∀ j v,(ldCs [y,z,u])[j]? = some v->w.drew.cell? ((⟨g,3,none⟩:Addr).add j)=some v:=λ j v hj=>by
  have hl:=(List.getElem?_eq_some_iff.1 hj).1;rw [ldCs_len] at hl
  have e:(⟨g,3,none⟩:Addr).add j=⟨g,3+j,none⟩:=by unfold Addr.add;simp
  rw [e,HK.out.cellAt (3+j) (by have : [y,z,u].length=3:=rfl;omega),←hj,el];show (ld3 x ++ ldCs [y,z,u])[3+j]? = _;rw [List.getElem?_append_right (by show 3<=3+j;omega)]
  congr 1
  show 3+j-3=j;omega
 have SRC:=hide src
 have spare : ∀ j,j<(ldCs [y,z,u]).length->(w.drew.cell? ⟨g,j,none⟩).isSome=true/\w.drew.frozen? ⟨g,j,none⟩=false:=λ j hj=>by
  rw [ldCs_len] at hj;have h3 : [y,z,u].length=3:=rfl
  refine ⟨?_,HK.out.frozenAt j⟩
  rw [HK.out.cellAt j (by omega),List.getElem?_eq_getElem (by rw [ldCs_len,hn];omega)];rfl
 have SPR:Hid (∀ j,j<(ldCs [y,z,u]).length->(w.drew.cell? ⟨g,0+0*3+j,none⟩).isSome=true/\w.drew.frozen? ⟨g,0+0*3+j,none⟩=false):=λ j hj=>by
  have e:0+0*3+j=j:=by omega
  rw [e];exact spare j hj
 have ONE:Hid (∀ v∈ldCs [y,z,u],v.oneCell'=true):=one_ld;obtain ⟨o1,s1⟩:=own_setM (ldCs [y,z,u]) w.drew (ldCs l) 0 HK.out
 have e1:setM (ldCs l) 0 (ldCs [y,z,u])=ldCs [y,z,u,u]:=by rw [el];rfl
 rw [e1] at o1
 have cs : ∀ j,j<1*3->((w.drew.setCells g 0 (ldCs [y,z,u])).cell? ⟨g,9+j,none⟩).isSome=true:=λ j hj=>by
  rw [o1.cellAt (9+j) (by omega),List.getElem?_eq_getElem (by rw [ldCs_len];show 9+j<4*3;omega)];rfl
 have hcl : ∀ ty,(Builtin.clear_ #[115] ty #[.slice (some ⟨g,9,none⟩) 1 (kc-3)]).run Tryz.prog (w.drew.setCells g 0 (ldCs [y,z,u])) = .ok (.tuple #[]) ((w.drew.setCells g 0 (ldCs [y,z,u])).setCells g 9 (ldZs 1)):=λ ty=>run_clearL _ ty g 9 1 (kc-3) (by omega) cs (λ j hj=>o1.frozenAt _);obtain ⟨o2,s2⟩:=own_setM (ldZs 1) _ (ldCs [y,z,u,u]) 9 o1
 have FIN:Hid (DelL w ((w.drew.setCells g 0 (ldCs [y,z,u])).setCells g 9 (ldZs 1)) base (some ⟨g,0,none⟩) kc l 3 [y,z,u]):=by
  refine ⟨by omega,rfl,λ v hv=>by rw [el];exact List.mem_cons_of_mem _ hv,own_cutL o2 (by omega) (by rw [setM_take _ _ _ _ (by omega)];rfl) rfl, ?_⟩
  have sd:StayBut (λ q=>q=g) w w.drew:=stay_of (Below.refl _ w).drew (Nat.le_refl _);exact ((sd.trans s1).trans s2).mono (λ q _ e=>⟨_,rfl,e.symm⟩)
 have L3:Hid ((ldCs [y,z,u]).length=3*3):=by unfold Hid;rw [ldCs_len];rfl
 have ne1 : ¬ kc=1:=by omega
 have ne3 : ¬ kc=3:=by omega
 have ne0 : ¬ kc=0:=by omega
 obtain ⟨i0,hi,hz0,hz1,hz2⟩:=info_parts infoLd;have I0:=hide hi;clear hi h HK o1 s1 o2 s2 e1 cs el src spare hn;generalize ldCs [y,z,u]=news at *
 go_enter Tryz.func101, Tryz.ntmps101
 go_upto_region 5 with fail
 go_region_law (refine step_append_room rfl (.tmp 22) (.tmp 25) 115 rfl 165 i0 3 Tryz.underlying115 I0.out hz1 g 0 0 kc rfl ⟨g,3,none⟩ 3 (kc-1) news rfl L3.out SRC.out ONE.out (by omega) SPR.out ?_)
 all_goals (
  clear L3 SRC ONE SPR
  go_wp2
  go_ret
  exact ⟨rfl,_,FIN.out⟩)
end Go.Proofs.YtaijnacghiloaaaGreatDoor

namespace Go.Proofs.YtaijnacghiloaaaGreatDoor
open Go.ChangeShapes Go.WideShapes Go.ChangeAt Go.RowKit Go.Lib Go.Maps
set_option linter.unusedVariables false
def vn4 (v:M.Vn):List Value := [.string (byStr v.name), .int .i64 v.num, .int .i64 v.stage, .int .i64 v.share]
set_option maxHeartbeats 2000000 in
theorem isOf_any (x0:ByteArray) (x1 x2 x3:Int) (w:World) :
 Calls Tryz.prog 94 #[.agg #[.string x0, .int .i64 x1, .int .i64 x2, .int .i64 x3]] w λ e w' => ∃ vb,e = .returned (.func (.func 125) #[] #[.pointer (some ⟨vb,0,none⟩)])/\VB w' vb x0 x1/\Below w.heap.size w w'/\w.heap.size<=vb:=by
 have bn:=bx_new w [.string x0, .int .i64 x1, .int .i64 x2, .int .i64 x3] 122
 have FIN:Hid (VB (w.alloc (.cells #[.string x0, .int .i64 x1, .int .i64 x2, .int .i64 x3] 122)) w.heap.size x0 x1/\Below w.heap.size w (w.alloc (.cells #[.string x0, .int .i64 x1, .int .i64 x2, .int .i64 x3] 122))):=⟨⟨bn.cell 0 _ rfl,bn.cell 1 _ rfl,bn.lt⟩,(Below.refl _ _).alloc (Nat.le_refl _) _⟩
 clear bn
 go_enter Tryz.func94, Tryz.ntmps94
 go_wp2
 go_ret
 exact ⟨w.heap.size,rfl,FIN.out.1,FIN.out.2,Nat.le_refl _⟩
structure KR (W w wx:World) (s f i:Nat) (ka:Option Addr) (kc:Nat) (K:List Ld) (vb:Nat) (V4:List Value) (m:Nat) (r:List Ld):Prop where
 box:Bx wx s (scL f i ka m kc)
 own:wx.ownsRow W.heap.size 165 3 (.slice ka m kc) m (ldCs r)
 sub : ∀ x∈r,x∈K
 len:r.length=m
 vbx:Bx wx vb V4
 stay:StayBut (λ q=>q=s ∨ ∃ p,ka=some p/\p.block=q) w wx
theorem KR.struck {W w wx wy wz:World} {s f i:Nat} {ka:Option Addr} {kc:Nat} {K:List Ld} {vb:Nat} {V4:List Value} {m n:Nat} {r l:List Ld} (h:KR W w wx s f i ka kc K vb V4 m r) (hb:Below wx.heap.size wx wy) (hd:DelL wy wz W.heap.size ka kc r n l) (hs : ∀ p,ka=some p->p.block≠s) (hv : ∀ p,ka=some p->p.block≠vb) (hvs:vb≠s):(wz.cell? ⟨s,2,none⟩=some (.slice ka m kc)/\wz.frozen? ⟨s,2,none⟩=false)/\KR W w (wz.setCell ⟨s,2,none⟩ (.slice ka n kc)) s f i ka kc K vb V4 n l:=by
 have b0:Bx wz s (scL f i ka m kc):=(h.box.keep (hb.block _ h.box.lt)).keep (hd.stay.block _ (Nat.lt_of_lt_of_le h.box.lt hb.size) (λ ⟨p,e1,e2⟩=>hs p e1 e2))
 refine ⟨⟨b0.cell 2 _ rfl,b0.free 2⟩,⟨b0.put, ?_,λ x hx=>h.sub x (hd.sub x hx),hd.len, ?_, ?_⟩⟩
 · exact sp_stay hd.own (λ p hp=>heap_setCell_other _ _ _ _ (hs p hp))
 · exact ((h.vbx.keep (hb.block _ h.vbx.lt)).keep (hd.stay.block _ (Nat.lt_of_lt_of_le h.vbx.lt hb.size) (λ ⟨p,e1,e2⟩=>hv p e1 e2))).else hvs
 · exact ((h.stay.trans (stay_of hb (Nat.le_refl _))).trans (hd.stay.mono (λ q _ e => .inr e))).trans (stay_set (.inl rfl))
theorem KR.push {W w wx:World} {s f i:Nat} {T:Nat->Nat} {S:M.Sh} {ka:Option Addr} {kc:Nat} {K:List Ld} {F E:Nat->Prop} {vb:Nat} {V4:List Value} {m:Nat} {r:List Ld} (h:SC W w s f T S i ka kc K F) (kr:KR W w wx s f i ka kc K vb V4 m r) (hm:m<=3) {x:Ld} (hx:isB x.1 /\ ∃ k,k<S.l.length/\(vAt S k).name=x.1/\(vAt S k).num=x.2.1/\FoIn E w x.2.2 (S.l.getD k M.vg0).2) (hFE : ∀ q,F q->E q)
 (hE : ∀ q,E q->W.heap.size<=q/\q<w.heap.size/\T q=0/\q≠s /\ ∀ p,ka=some p->q≠p.block) {o:Obj} {w7:World} {g7 c7:Nat} (hov:w7.ownsRow W.heap.size 165 3 (.slice (some ⟨g7,0,none⟩) (m+1) c7) (m+1) (ldCs r ++ ld3 x)) (hg:(wx.alloc o).grownBy w7 (Value.slice ka m kc).ownBlock) (hat:(Value.slice ka m kc).ownBlock=some g7∨g7=wx.heap.size+1) :
 (w7.cell? ⟨s,2,none⟩=some (.slice ka m kc)/\w7.frozen? ⟨s,2,none⟩=false)/\SC W (w7.setCell ⟨s,2,none⟩ (.slice (some ⟨g7,0,none⟩) (m+1) c7)) s f T S i (some ⟨g7,0,none⟩) c7 (r ++ [x]) E/\StayBut (λ q=>q=s ∨ ∃ p,ka=some p/\p.block=q) w (w7.setCell ⟨s,2,none⟩ (.slice (some ⟨g7,0,none⟩) (m+1) c7))/\((∃ p,ka=some p/\p.block=g7)∨w.heap.size<=g7):=by
 have ob : ∀ q,(Value.slice ka m kc).ownBlock=some q -> ∃ p,ka=some p/\p.block=q:=λ q hq=>by
  cases ka with
  | none=>cases hq
  | some p=>exact ⟨p,rfl,by simpa [Value.ownBlock] using hq⟩
 have sl:=h.box.lt;have ws:=kr.stay.size
 have za:(wx.alloc o).heap.size=wx.heap.size+1:=by simp
 have zg:=hg.size
 have s7:w7.heap[s]? = wx.heap[s]? := (hg.block s (by omega) (λ e=>by
  obtain ⟨p,e1,e2⟩:=ob s e.symm
  exact h.sn.2.2 p e1 e2)).trans (Below.heap_alloc _ _ _ (by omega))
 have b7:Bx w7 s (scL f i ka m kc):=kr.box.keep s7
 have far : ∀ q,q<w.heap.size->q≠s->(∀ p,ka=some p->q≠p.block)->(w7.setCell ⟨s,2,none⟩ (.slice (some ⟨g7,0,none⟩) (m+1) c7)).heap[q]? = w.heap[q]? := λ q h1 h2 h3=>by
  rw [heap_setCell_other _ _ _ _ h2,hg.block q (by omega) (λ e=>by
   obtain ⟨p,e1,e2⟩:=ob q e.symm
   exact h3 p e1 e2.symm),Below.heap_alloc _ _ _ (by omega)]
  exact kr.stay.block q h1 (λ z=>by
   rcases z with z | ⟨p,e1,e2⟩
   · exact h2 z
   · exact h3 p e1 e2.symm)
 have gw:(∃ p,ka=some p/\p.block=g7)∨w.heap.size<=g7:=by
  rcases hat with z | z
  · exact .inl (ob _ z)
  · right;omega
 have g7s:g7≠s:=by
  rcases gw with ⟨p,e1,e2⟩ | z
  · intro e;exact h.sn.2.2 p e1 (e2.trans e)
  · omega
 have el:(r ++ [x]).length=m+1:=by rw [List.length_append,kr.len];rfl
 have st:StayBut (λ q=>q=s ∨ ∃ p,ka=some p/\p.block=q) w (w7.setCell ⟨s,2,none⟩ (.slice (some ⟨g7,0,none⟩) (m+1) c7)):=by
  refine ⟨?_, ?_, ?_,by simp;omega,λ q hq hn=>far q hq (λ e=>hn (.inl e)) (λ p hp e=>hn (.inr ⟨p,hp,e.symm⟩))⟩
  · exact (hg.os.trans kr.stay.os)
  · exact (hg.tape.trans kr.stay.tape)
  · exact (hg.output.trans kr.stay.output)
 have bw:Below W.heap.size W (w7.setCell ⟨s,2,none⟩ (.slice (some ⟨g7,0,none⟩) (m+1) c7)):=by
  have hb:=h.has.bl
  refine ⟨st.os.trans hb.os,st.tape.trans hb.tape,st.output.trans hb.output,Nat.le_trans hb.size st.size,λ q hq => ?_⟩
  have hz:=hb.size
  rw [st.block q (by omega) (λ z=>by
   rcases z with z | ⟨p,e1,e2⟩
   · have:=h.sn.1;omega
   · have:=sp_in h.ko p e1;omega)]
  exact hb.block q hq
 refine ⟨⟨b7.cell 2 _ rfl,b7.free 2⟩,h.turned bw st.size (by rw [el];exact b7.put) ?_ (by omega) ?_ (λ q hq => ?_) (λ q hq => ?_) (λ p hp => ?_) (λ p hp => ?_),st,gw⟩
 · rw [el,ldCs_app,ldCs_one]
   exact sp_stay hov (λ p hp=>heap_setCell_other _ _ _ _ (by cases hp;exact g7s))
 · have kE : ∀ q,E q->(w7.setCell ⟨s,2,none⟩ (.slice (some ⟨g7,0,none⟩) (m+1) c7)).heap[q]? = w.heap[q]? := λ q hq=>far q (hE q hq).2.1 (hE q hq).2.2.2.1 (hE q hq).2.2.2.2
   intro y hy
   rcases List.mem_append.1 hy with z | z
   · obtain ⟨a,k,b,c,d,e⟩:=h.kv y (kr.sub y z)
     exact ⟨a,k,b,c,d,e.up st.size (λ q hq=>kE q (hFE q hq)) hFE⟩
   · rw [List.mem_singleton] at z
     subst z;obtain ⟨a,k,b,c,d,e⟩:=hx
     exact ⟨a,k,b,c,d,e.up st.size kE (λ q hq=>hq)⟩
 · refine far q ?_ ?_ ?_
   · by_cases z:q<w.heap.size
     · exact z
     · exact absurd (h.has.sa.lt (by omega)) hq
   · intro e;exact hq (by rw [e];exact h.sn.2.1)
   · intro p hp e;exact hq (by rw [e];exact h.kn p hp)
 · obtain ⟨e1,e2,e3,e4,e5⟩:=hE q hq
   refine ⟨e1,Nat.lt_of_lt_of_le e2 st.size,e3,e4,λ p hp => ?_⟩
   cases hp;show q≠g7
   rcases gw with ⟨p,a1,a2⟩ | z
   · rw [←a2];exact e5 p a1
   · omega
 · cases hp;exact g7s
 · cases hp
   show T g7=0
   rcases gw with ⟨p,a1,a2⟩ | z
   · rw [←a2];exact h.kn p a1
   · exact h.has.sa.lt z
set_option maxHeartbeats 16000000 in
set_option maxRecDepth 10000 in
theorem sc_keep {W w:World} {s f i:Nat} {T:Nat->Nat} {S:M.Sh} {ka:Option Addr} {kc:Nat} {K:List Ld} {F E:Nat->Prop} (h:SC W w s f T S i ka kc K F) (v:M.Vn) (p:Nat) (hx:isB v.name /\ ∃ k,k<S.l.length/\(vAt S k).name=v.name/\(vAt S k).num=v.num/\FoIn E w p (S.l.getD k M.vg0).2) (hFE : ∀ q,F q->E q)
 (hE : ∀ q,E q->W.heap.size<=q/\q<w.heap.size/\T q=0/\q≠s /\ ∀ p,ka=some p->q≠p.block) :
 Calls Tryz.prog 61 #[.pointer (some ⟨s,0,none⟩),vnV v, .pointer (some ⟨p,0,none⟩)] w λ e w'=>e = .returned (.tuple #[]) /\ ∃ g kd L,SC W w' s f T S i (some ⟨g,0,none⟩) kd L E/\StayBut (λ q=>q=s ∨ ∃ p,ka=some p/\p.block=q) w w'/\((∃ p,ka=some p/\p.block=g)∨w.heap.size<=g):=by
 obtain ⟨w0,hw0⟩ : ∃ X,X=w.alloc (.cells #[.string (byStr v.name), .int .i64 v.num, .int .i64 v.stage, .int .i64 v.share] 122):=⟨_,rfl⟩
 obtain ⟨vb,hvb⟩ : ∃ x,x=w.heap.size:=⟨_,rfl⟩
 have ba:Below w.heap.size w w0:=by rw [hw0];exact (Below.refl _ _).alloc (Nat.le_refl _) _
 have bv:Bx w0 vb (vn4 v):=by rw [hw0,hvb];exact bx_new w _ _
 have sl:=h.box.lt
 have vs:vb≠s:=by omega
 have va : ∀ p,ka=some p->p.block≠vb:=λ p hp=>by have:=sp_in h.ko p hp;omega
 have kr0:KR W w w0 s f i ka kc K vb (vn4 v) K.length K:=⟨h.box.keep (ba.block _ sl),own_up h.ko ba,(λ x hx=>hx),rfl,bv,stay_of ba (Nat.le_refl _)⟩
 have kl:=h.kl;have IO:=hide (isOf_any (byStr v.name) v.num v.stage v.share w0.drew)
 have DL:Hid (∀ wB vq,Below w0.drew.heap.size w0.drew wB->VB wB vq (byStr v.name) v.num->w0.heap.size<=vq->Calls Tryz.prog 100 #[.slice ka K.length kc, .func (.func 125) #[] #[.pointer (some ⟨vq,0,none⟩)]] wB λ e wC => ∃ m:Nat,e = .returned (.slice ka m kc)/\(wC.cell? ⟨s,2,none⟩=some (.slice ka K.length kc)/\wC.frozen? ⟨s,2,none⟩=false)/\m<=4 /\ ∃ r,KR W w (wC.setCell ⟨s,2,none⟩ (.slice ka m kc)) s f i ka kc K vb (vn4 v) m r):=λ wB vq hb hv hq=>by
  have hb0:Below w0.heap.size w0 wB:=((Below.refl _ w0).drew).trans hb;refine (del_ld rfl (by omega) (own_up kr0.own hb0) hv (λ p hp => ?_)).mono ?_
  · have:=sp_in h.ko p hp
    have:=ba.size;omega
  · rintro e wC ⟨m,rfl,r,dl⟩
    obtain ⟨c,k⟩:=kr0.struck hb0 dl h.sn.2.2 va vs
    exact ⟨m,rfl,c,by have:=dl.le;omega,r,k⟩
 have D1:Hid (∀ wx r,KR W w wx s f i ka kc K vb (vn4 v) 4 r->Calls Tryz.prog 101 #[.slice ka 4 kc, .int .i64 0, .int .i64 1] wx λ e wC=>e = .returned (.slice ka 3 kc)/\(wC.cell? ⟨s,2,none⟩=some (.slice ka 4 kc)/\wC.frozen? ⟨s,2,none⟩=false) /\ ∃ r',KR W w (wC.setCell ⟨s,2,none⟩ (.slice ka 3 kc)) s f i ka kc K vb (vn4 v) 3 r'):=λ wx r kr=>by
  obtain ⟨g,e,_,_⟩:=own_form kr.own (by omega);have own':=kr.own;rw [e] at own';rw [e];refine (del_one kr.len own').mono ?_;rintro e' wC ⟨rfl,r',dl⟩;rw [←e] at dl ⊢;obtain ⟨c,k⟩:=kr.struck (Below.refl _ _) dl h.sn.2.2 va vs
  exact ⟨rfl,c,r',k⟩
 have PU:Hid (∀ wx m r,KR W w wx s f i ka kc K vb (vn4 v) m r->m<=3 -> ∀ (o:Obj) w7 g7 c7,w7.ownsRow W.heap.size 165 3 (.slice (some ⟨g7,0,none⟩) (m+1) c7) (m+1) (ldCs r ++ ld3 (v.name,v.num,p))->(wx.alloc o).grownBy w7 (Value.slice ka m kc).ownBlock->((Value.slice ka m kc).ownBlock=some g7∨g7=wx.heap.size+1)->(w7.cell? ⟨s,2,none⟩=some (.slice ka m kc)/\w7.frozen? ⟨s,2,none⟩=false)/\Hid (SC W (w7.setCell ⟨s,2,none⟩ (.slice (some ⟨g7,0,none⟩) (m+1) c7)) s f T S i (some ⟨g7,0,none⟩) c7 (r ++ [(v.name,v.num,p)]) E/\StayBut (λ q=>q=s ∨ ∃ p,ka=some p/\p.block=q) w (w7.setCell ⟨s,2,none⟩ (.slice (some ⟨g7,0,none⟩) (m+1) c7))/\((∃ p,ka=some p/\p.block=g7)∨w.heap.size<=g7))):=λ wx m r kr hm o w7 g7 c7 h1 h2 h3=>KR.push h kr hm (x:=(v.name,v.num,p)) hx hFE hE h1 h2 h3;have KR0:=hide kr0;have BS:=hide (λ wx m r (kr:KR W w wx s f i ka kc K vb (vn4 v) m r)=>And.intro kr.box (And.intro kr.vbx kr.own))
 have BZ:Hid (∀ wx m r,KR W w wx s f i ka kc K vb (vn4 v) m r->W.heap.size<=wx.heap.size/\s<wx.heap.size/\vb<wx.heap.size):=λ wx m r kr=>⟨by have:=kr.stay.size;have:=h.has.bl.size;omega,kr.box.lt,kr.vbx.lt⟩
 obtain ⟨j0,hj0,hz0,hz1,hz2⟩:=info_parts infoLd;have J0:=hide hj0;unfold vnV;unfold vn4 at BS KR0 IO;clear h hx hFE hE kr0 bv ba sl va hj0;unfold ld3 at PU;simp only at PU;unfold vn4 at DL D1 PU BZ;generalize byStr v.name=x0 at *;generalize v.num=x1 at *;generalize v.stage=x2 at *;generalize v.share=x3 at *;generalize K.length=n at *
 go_enter Tryz.func61, Tryz.ntmps61
 go_upto_region 1 with fail
 rw [←hw0];simp only [←hvb];clear hw0 hvb
 go_cut [] from 6 to 15 (λ wx => ∃ (m:Nat) (r:List Ld),m<=4/\Hid (KR W w wx s f i ka kc K vb [.string x0, .int .i64 x1, .int .i64 x2, .int .i64 x3] m r))
 case first =>
  obtain ⟨b1,b2,_⟩:=BS.out _ _ _ KR0.out;have c2:=b1.cell 2 _ rfl;have v0:=b2.cell 0 _ rfl;have v1:=b2.cell 1 _ rfl;have v2:=b2.cell 2 _ rfl;have v3:=b2.cell 3 _ rfl;have C2:Hid (∀ wB,Below w0.drew.heap.size w0.drew wB->wB.cell? ⟨s,2,none⟩=some (.slice ka n kc)):=λ wB hb=>(hb.cell (p:=⟨s,2,none⟩) b1.lt).trans c2;clear b1 b2 D1 PU BS BZ J0
  go_region_with (first
   | (go_at_call 100;refine (DL.out wB vq KB.out VQ.out LQ.out).mono ?_;rintro e wC ⟨m,rfl,⟨cc,cf⟩,m4,r,kr⟩;have KR1:=hide kr;have M4:=hide m4;clear kr m4)
   | (go_at_call 94;refine IO.out.mono ?_;rintro e wB ⟨vq,rfl,vb2,kb,lq⟩;have VQ:=hide vb2;have KB:=hide kb;have LQ:Hid (w0.heap.size<=vq):=lq;have c2b:=C2.out wB kb;clear vb2 kb lq))
  all_goals (
   go_wp2
   go_meet
   case rel=>exact ⟨m,r,M4.out,KR1⟩)
 case rest =>
  obtain ⟨m,r,m4,KR1⟩:=hcut
  obtain ⟨wx,hwx⟩ : ∃ X,X=wc:=⟨_,rfl⟩
  subst hwx;clear DL IO KR0;obtain ⟨b1,b2,_⟩:=BS.out _ _ _ KR1.out;have c2:=b1.cell 2 _ rfl;clear b1 b2
  go_upto_if 21 with fail
  go_cut [] from 22 to 29 (λ wx => ∃ (m:Nat) (r:List Ld),m<=3/\Hid (KR W w wx s f i ka kc K vb [.string x0, .int .i64 x1, .int .i64 x2, .int .i64 x3] m r))
  case first =>
   by_cases q:m=4
   · subst q
     have D2:=hide (D1.out wx r KR1.out);clear D1 PU BS BZ
     go_wp2_with (go_at_call 101;refine D2.out.mono ?_;rintro e wC ⟨rfl,⟨cc,cf⟩,r',kr⟩;have KR2:=hide kr;clear kr)
     go_meet
     case rel=>exact ⟨3,r',by omega,KR2⟩
   · have t1:((m:Int) == 4)=false:=by rw [beq_eq_false_iff_ne];omega
     have t2:(m == 4)=false:=by rw [beq_eq_false_iff_ne];exact q
     have M3:Hid (m<=3):=by unfold Hid;omega
     clear D1 PU BS BZ q
     go_wp2
     go_meet
     case rel=>exact ⟨m,r,M3.out,KR1⟩
  case rest =>
   obtain ⟨m2,r2,m3,KR2⟩:=hcut
   obtain ⟨wy,hwy⟩ : ∃ X,X=wc:=⟨_,rfl⟩
   subst hwy;clear D1 KR1 c2;obtain ⟨b1,b2,ow⟩:=BS.out _ _ _ KR2.out;obtain ⟨bz1,bz2,bz3⟩:=BZ.out _ _ _ KR2.out;have c2:=b1.cell 2 _ rfl;have v0:=b2.cell 0 _ rfl;have v1:=b2.cell 1 _ rfl;have c2a : ∀ o,(wy.alloc o).cell? ⟨s,2,none⟩=some (.slice ka m2 kc):=λ o=>(World.cell?_of_block (a:=⟨s,2,none⟩) (Below.heap_alloc _ _ _ bz2)).trans c2;have v0a : ∀ o,(wy.alloc o).cell? ⟨vb,0,none⟩=some (.string x0):=λ o=>(World.cell?_of_block (a:=⟨vb,0,none⟩) (Below.heap_alloc _ _ _ bz3)).trans v0;have v1a : ∀ o,(wy.alloc o).cell? ⟨vb,1,none⟩=some (.int .i64 x1):=λ o=>(World.cell?_of_block (a:=⟨vb,1,none⟩) (Below.heap_alloc _ _ _ bz3)).trans v1;have OW:=hide ow;have P2:=hide (PU.out wy m2 r2 KR2.out m3);clear PU BS BZ b1 b2 ow
   go_upto_region 4 with fail
   go_region_law (refine step_append_lies _ rfl (.tmp 34) (.tmp 41) 115 rfl W.heap.size 165 j0 (.agg #[.string ⟨#[]⟩, .int .i64 0, .pointer none]) 3 32 Tryz.underlying115 J0.out hz0 hz1 hz2 rfl (by omega) (.slice ka m2 kc) m2 (ldCs r2) rfl (by first | exact OW.out.alloc _ | exact (OW.out.alloc _).drew) ⟨wy.heap.size,0,none⟩ 1 1 [.string x0, .int .i64 x1, .pointer (some ⟨p,0,none⟩)] rfl rfl (World.news_of_block (by first | exact heap_alloc_new _ _ | (simp;done))) (by simp [Value.oneCell']) (by omega) (by unfold maxLen;omega) (by omega) (by simp;omega) (wy.heap.size+1) (by simp) ?_;intro g7 c7 w7 hov7 hgrow7 hat7 hlt7;obtain ⟨⟨z2,zf⟩,N7⟩:=P2.out _ w7 g7 c7 hov7 (grown_undrew hgrow7) hat7;clear hov7 hgrow7 hat7 hlt7)
   all_goals (
    clear P2 OW
    go_wp2
    refine bodyPost_end (results_none rfl _ _ _) rfl ?_
    exact ⟨rfl,g7,c7,_,N7.out⟩)
theorem byStr_injL {a b:List Nat} (ha:isB a) (hb:isB b) (h:byStr a=byStr b):a=b:=by
 refine ofs_inj a b ha hb ?_;rw [←byStr_list,←byStr_list,h]
theorem M.one_ver {S:M.Sh} (h:M.numY (M.kyL S.l)) {j k:Nat} (hj:j<S.l.length) (hk:k<S.l.length) (h1:(vAt S j).name=(vAt S k).name) (h2:(vAt S j).num=(vAt S k).num):j=k:=by
 have pw:=M.key_num h
 have el:(M.kyL S.l).length=S.l.length:=by unfold M.kyL;rw [List.length_map]
 have ea : ∀ i (hi:i<S.l.length),(M.kyL S.l)[i]'(by omega)=((vAt S i).name,(vAt S i).num):=λ i hi=>by
  unfold M.kyL;rw [List.getElem_map]
  show (S.l[i].1.name,S.l[i].1.num)=((S.l.getD i M.vg0).1.name,(S.l.getD i M.vg0).1.num)
  rw [show S.l.getD i M.vg0=S.l[i] from by rw [List.getD,List.getElem?_eq_getElem hi];rfl]
 have no : ∀ i l (hi:i<l) (hl:l<S.l.length), ¬ ((vAt S i).name=(vAt S l).name/\(vAt S i).num=(vAt S l).num):=λ i l hi hl=>by
  have:=List.pairwise_iff_getElem.1 pw i l (by omega) (by omega) hi;rw [ea i (by omega),ea l hl] at this;exact this
 rcases Nat.lt_trichotomy j k with z | z | z
 · exact absurd ⟨h1,h2⟩ (no j k z hk)
 · exact z
 · exact absurd ⟨h1.symm,h2.symm⟩ (no k j z hj)
theorem M.ver_at {S:M.Sh} (h:M.numY (M.kyL S.l)) {k:Nat} (hk:k<S.l.length):M.verN S (vAt S k).name (vAt S k).num=some k:=by
 cases e:M.verN S (vAt S k).name (vAt S k).num with
 | none =>
   have:=M.find_none _ _ _ e (S.l.getD k M.vg0) (by rw [List.getD,List.getElem?_eq_getElem hk];exact List.getElem_mem hk);simp at this;exact absurd rfl (this rfl)
 | some j =>
   obtain ⟨h1,h2,h3⟩:=M.find_more _ _ _ _ e;have hj:=h3 M.vg0;rw [Nat.sub_zero] at hj h2;have hq:(vAt S j).name=(vAt S k).name/\(vAt S j).num=(vAt S k).num:=of_decide_eq_true hj;rw [M.one_ver h h2 hk hq.1 hq.2]
set_option maxHeartbeats 16000000 in
set_option maxRecDepth 10000 in
theorem sc_lay {W w:World} {s f i:Nat} {T:Nat->Nat} {S:M.Sh} {ka:Option Addr} {kc:Nat} {K:List Ld} {F:Nat->Prop} (h:SC W w s f T S i ka kc K F) {k:Nat} (hk:k<S.l.length) (hs:(vAt S k).stage≠4) (hl:(vAt S k).name.length<=9223372036854775807) (hi:I64 (vAt S k).num) :
 Calls Tryz.prog 59 #[.pointer (some ⟨s,0,none⟩),vnV (vAt S k)] w λ e w' => ∃ p,e = .returned (.tuple #[.pointer (some ⟨p,0,none⟩), .nilIface])/\Below w.heap.size w w' /\ ∃ E:Nat->Prop,FoIn E w' p (S.l.getD k M.vg0).2/\(∀ q,F q->E q) /\ ∀ q,E q->F q∨(w.heap.size<=q/\q<w'.heap.size):=by
 obtain ⟨mm,ml,D,E0,kb,mb,va,vc,G,sv⟩:=h.has.sa;have nu:=sv.inv.nu;have nb:=sv.inv.nb k hk
 obtain ⟨w0,hw0⟩ : ∃ X,X=w.alloc (.cells #[.string (byStr (vAt S k).name), .int .i64 (vAt S k).num, .int .i64 (vAt S k).stage, .int .i64 (vAt S k).share] 122):=⟨_,rfl⟩
 obtain ⟨vb,hvb⟩ : ∃ x,x=w.heap.size:=⟨_,rfl⟩
 have ba:Below w.heap.size w w0:=by rw [hw0];exact (Below.refl _ _).alloc (Nat.le_refl _) _
 have bv:Bx w0 vb (vn4 (vAt S k)):=by rw [hw0,hvb];exact bx_new w _ _
 have IO:=hide (isOf_any (byStr (vAt S k).name) (vAt S k).num (vAt S k).stage (vAt S k).share w0.drew);have kl:=h.kl
 have IX:Hid (∀ wB vq,Below w0.drew.heap.size w0.drew wB->VB wB vq (byStr (vAt S k).name) (vAt S k).num->Calls Tryz.prog 93 #[.slice ka K.length kc, .func (.func 125) #[] #[.pointer (some ⟨vq,0,none⟩)]] wB λ e w' => ∃ j:Int,e = .returned (.int .i64 j)/\Below w0.drew.heap.size w0.drew w'/\(j = -1 ∨ ∃ x:Nat,j=(x:Int)/\x<K.length/\Hid (FoIn F w (K.getD x ld0).2.2 (S.l.getD k M.vg0).2))):=λ wB vq hb hv=>by
  have hb0:Below w0.heap.size w0 wB:=((Below.refl _ w0).drew).trans hb;refine (idx_ld rfl (by omega) (own_up (own_up h.ko ba) hb0) hv).mono ?_;rintro e w' ⟨j,rfl,ways,b⟩
  refine ⟨j,rfl,below_on hb b, ?_⟩
  rcases ways with z | ⟨x,e1,e2,e3⟩
  · exact .inl z
  · refine .inr ⟨x,e1,e2, ?_⟩
    obtain ⟨i1,i2⟩:=isLd_is e3
    have mem:K.getD x ld0∈K:=by rw [List.getD,List.getElem?_eq_getElem e2];exact List.getElem_mem e2
    obtain ⟨a,k2,b2,c2,d2,fo⟩:=h.kv _ mem;have en:=byStr_injL a nb i1;have ek:=M.one_ver nu b2 hk (c2.trans en) (d2.trans i2);rw [ek] at fo;exact fo
 have KO:Hid (∀ w',Below w0.heap.size w0 w' -> ∀ x,x<K.length -> ∃ g,ka=some ⟨g,0,none⟩/\w'.cell? ⟨g,x*3+2,none⟩=some (.pointer (some ⟨(K.getD x ld0).2.2,0,none⟩))/\K.length<=kc):=λ w' hb x hx=>by
  obtain ⟨g,e,_,_⟩:=own_form h.ko (by omega);have o:=own_up (own_up h.ko ba) hb;rw [e] at o
  refine ⟨g,e,(own_ld rfl o hx).2.2, ?_⟩
  rcases h.ko.2 with ⟨hq,z⟩ | ⟨g',cap,cur,hq,_,_,h1,_⟩
  · omega
  · cases hq;exact h1
 have GR:Hid (∀ w1,Below w0.heap.size w0 w1->Calls Tryz.prog 95 #[.pointer (some ⟨f,0,none⟩), .string (byStr (vAt S k).name), .int .i64 (vAt S k).num] w1 λ e w' => ∃ J:Gr,e = .returned (.tuple #[J.v, .nilIface])/\J.m=(S.l.getD k M.vg0).2/\NewH w1 w' J/\Below w1.heap.size w1 w'):=λ w1 hb=>by
  refine (sh_Grove ((sv.below ba).below hb) hl hi (M.ver_at nu hk) hs (h.gg k hk)).mono ?_;rintro e w' ⟨J,rfl,a,b,c⟩
  exact ⟨J,rfl,a,b,c⟩
 have FN:Hid (∀ w2 (J:Gr),RdG w2 J->J.m=(S.l.getD k M.vg0).2->Below w0.heap.size w0 w2->Calls Tryz.prog 96 #[J.v] w2 λ e w' => ∃ p,e = .returned (.tuple #[.pointer (some ⟨p,0,none⟩), .nilIface])/\Hid (Below w.heap.size w w' /\ ∃ E:Nat->Prop,FoIn E w' p (S.l.getD k M.vg0).2/\(∀ q,F q->E q) /\ ∀ q,E q->F q∨(w.heap.size<=q/\q<w'.heap.size))):=λ w2 J hr hm hb=>by
  refine (fnew_new J w2 hr (by rw [hm];exact h.gg k hk)).mono ?_;rintro e w' ⟨p,rfl,fo,b⟩;have bz:=(below_on ba hb).size;rw [hm] at fo
  refine ⟨p,rfl,below_on (below_on ba hb) b,λ q=>F q∨(w2.heap.size<=q/\q<w'.heap.size),λ W' h1 h2=>fo W' h1 (λ q q1 q2=>h2 q (.inr ⟨q1,q2⟩)),(λ q hq => .inl hq),λ q hq => ?_⟩
  rcases hq with z | z
  · exact .inl z
  · exact .inr ⟨by omega,z.2⟩
 have SX:Hid (∀ w',Below w0.heap.size w0 w'->Bx w' s (scL f i ka K.length kc)/\Bx w' vb (vn4 (vAt S k))):=λ w' hb=>⟨(h.box.keep (ba.block _ h.box.lt)).keep (hb.block _ (Nat.lt_of_lt_of_le h.box.lt ba.size)),bv.keep (hb.block _ bv.lt)⟩
 have OLD:Hid (∀ w' p,Below w0.heap.size w0 w'->FoIn F w p (S.l.getD k M.vg0).2->Below w.heap.size w w' /\ ∃ E:Nat->Prop,FoIn E w' p (S.l.getD k M.vg0).2/\(∀ q,F q->E q) /\ ∀ q,E q->F q∨(w.heap.size<=q/\q<w'.heap.size)):=λ w' p hb fo=>by
  have b:=below_on ba hb
  exact ⟨b,F,fo.up b.size (λ q hq=>b.block q (h.fn q hq).2.1) (λ q hq=>hq),(λ q hq=>hq),λ q hq => .inl hq⟩
 unfold vnV;unfold vn4 at SX;clear h hk hs hl hi sv nu nb bv ba;generalize (S.l.getD k M.vg0).2=gv at *;generalize byStr (vAt S k).name=x0 at *;generalize (vAt S k).num=x1 at *;generalize (vAt S k).stage=x2 at *;generalize (vAt S k).share=x3 at *
 go_enter Tryz.func59, Tryz.ntmps59
 go_upto_region 1 with fail
 rw [←hw0];simp only [←hvb];clear hw0 hvb
 go_cut [6] from 9 to 15 (λ v wx => ∃ j:Int,v = .int .i64 j/\Hid (Below w0.heap.size w0 wx)/\Hid (j = -1 ∨ ∃ x:Nat,j=(x:Int)/\x<K.length/\Hid (FoIn F w (K.getD x ld0).2.2 gv)))
 case first =>
  obtain ⟨b1,b2⟩:=SX.out w0 (Below.refl _ _);have c2:=b1.cell 2 _ rfl;have v0:=b2.cell 0 _ rfl;have v1:=b2.cell 1 _ rfl;have v2:=b2.cell 2 _ rfl;have v3:=b2.cell 3 _ rfl;have C2:Hid (∀ wB,Below w0.drew.heap.size w0.drew wB->wB.cell? ⟨s,2,none⟩=some (.slice ka K.length kc)):=λ wB hb=>(hb.cell (p:=⟨s,2,none⟩) b1.lt).trans c2;clear b1 b2 SX KO GR FN OLD;generalize K.length=n at *
  go_region_with (first
   | (go_at_call 93;refine (IX.out wB vq KB.out VQ.out).mono ?_;rintro e wC ⟨j,rfl,bj,ways⟩;have WY:=hide ways;have KC:Hid (Below w0.heap.size w0 wC):=((Below.refl _ w0).drew).trans bj;clear ways bj)
   | (go_at_call 94;refine IO.out.mono ?_;rintro e wB ⟨vq,rfl,vb2,kb,lq⟩;have VQ:=hide vb2;have KB:=hide kb;have c2b:=C2.out wB kb;clear vb2 kb lq))
  all_goals (
   go_wp2
   go_meet
   case rel=>exact ⟨j,rfl,KC,WY⟩)
 case rest =>
  obtain ⟨j,rfl,KX,WY⟩:=hcut
  obtain ⟨wx,hwx⟩ : ∃ X,X=wc:=⟨_,rfl⟩
  subst hwx;clear IO IX
  rcases WY.out with rfl | ⟨x,rfl,hx,fo⟩
  · have bd:Below w0.heap.size w0 wx.drew:=KX.out.drew
    obtain ⟨b1,b2⟩:=SX.out wx KX.out;have c0:=b1.cell 0 _ rfl;have v0:=b2.cell 0 _ rfl;have v1:=b2.cell 1 _ rfl
    have SL:Hid (s<wx.heap.size/\vb<wx.heap.size):=⟨b1.lt,b2.lt⟩
    have KC:Hid (∀ wB,Below w0.heap.size w0 wB->wB.cell? ⟨s,0,none⟩=some (.pointer (some ⟨f,0,none⟩))/\wB.cell? ⟨vb,0,none⟩=some (.string x0)/\wB.cell? ⟨vb,1,none⟩=some (.int .i64 x1)):=λ wB hb=>by
     obtain ⟨b1,b2⟩:=SX.out wB hb
     exact ⟨b1.cell 0 _ rfl,b2.cell 0 _ rfl,b2.cell 1 _ rfl⟩
    have B1:Hid (Below w0.heap.size w0 wx.drew):=bd;have B2:Hid (Below w0.heap.size w0 (wx.alloc nilG).drew):=(below_on KX.out ((Below.refl _ wx).alloc (Nat.le_refl _) _)).drew
    have PN:Hid (∀ wB,Below w0.heap.size w0 wB->wx.heap.size<=wB.heap.size -> ¬ wB.heap.size=s /\ ¬ wB.heap.size=vb):=λ wB hb hz=>by have:=SL.out;exact ⟨by omega,by omega⟩
    have FA:Hid (∀ w2 (J:Gr),NewH (wx.alloc nilG).drew w2 J->Below (wx.alloc nilG).drew.heap.size (wx.alloc nilG).drew w2->Zf w2 wx.heap.size/\Hid (Below w0.heap.size w0 (put4 w2 wx.heap.size (.int .i64 J.f) (.int .i64 J.w) (.slice J.wa J.ws.length J.wc) (.slice J.ta J.ks.length J.tc))/\RdG (put4 w2 wx.heap.size (.int .i64 J.f) (.int .i64 J.w) (.slice J.wa J.ws.length J.wc) (.slice J.ta J.ks.length J.tc)) J/\(((put4 w2 wx.heap.size (.int .i64 J.f) (.int .i64 J.w) (.slice J.wa J.ws.length J.wc) (.slice J.ta J.ks.length J.tc)).cell? ⟨wx.heap.size,0,none⟩=some (.int .i64 J.f)/\(put4 w2 wx.heap.size (.int .i64 J.f) (.int .i64 J.w) (.slice J.wa J.ws.length J.wc) (.slice J.ta J.ks.length J.tc)).cell? ⟨wx.heap.size,1,none⟩=some (.int .i64 J.w)/\(put4 w2 wx.heap.size (.int .i64 J.f) (.int .i64 J.w) (.slice J.wa J.ws.length J.wc) (.slice J.ta J.ks.length J.tc)).cell? ⟨wx.heap.size,2,none⟩=some (.slice J.wa J.ws.length J.wc)/\(put4 w2 wx.heap.size (.int .i64 J.f) (.int .i64 J.w) (.slice J.wa J.ws.length J.wc) (.slice J.ta J.ks.length J.tc)).cell? ⟨wx.heap.size,3,none⟩=some (.slice J.ta J.ks.length J.tc))))/\Below w0.heap.size w0 w2/\wx.heap.size<=w2.heap.size):=λ w2 J hn hb=>by
     have z:Zf w2 wx.heap.size:=((zf_made wx).up (Below.refl _ _).drew).up hb
     have e1:(wx.alloc nilG).drew.heap.size=wx.heap.size+1:=by
      show (wx.alloc nilG).heap.size=_;simp
     have hz:=hb.size;rw [e1] at hz;have b2:=below_on B2.out hb;have pc:=put4_cells (x0 := .int .i64 J.f) (x1 := .int .i64 J.w) (x2 := .slice J.wa J.ws.length J.wc) (x3 := .slice J.ta J.ks.length J.tc) z
     refine ⟨z,⟨put4_below b2 KX.out.size,hn _ (by rw [put4_size];exact Nat.le_refl _) (λ b q1 q2=>put4_far (by rw [e1] at q1;omega)),pc.1,pc.2.1,pc.2.2.1,pc.2.2.2.1⟩,b2,by omega⟩
    have FB:Hid (∀ w2 (J:Gr),NewH wx.drew w2 J->Below wx.drew.heap.size wx.drew w2->Hid (Below w0.heap.size w0 (w2.alloc (.cells #[.int .i64 J.f, .int .i64 J.w, .slice J.wa J.ws.length J.wc, .slice J.ta J.ks.length J.tc] 35))/\RdG (w2.alloc (.cells #[.int .i64 J.f, .int .i64 J.w, .slice J.wa J.ws.length J.wc, .slice J.ta J.ks.length J.tc] 35)) J/\(((w2.alloc (.cells #[.int .i64 J.f, .int .i64 J.w, .slice J.wa J.ws.length J.wc, .slice J.ta J.ks.length J.tc] 35)).cell? ⟨w2.heap.size,0,none⟩=some (.int .i64 J.f)/\(w2.alloc (.cells #[.int .i64 J.f, .int .i64 J.w, .slice J.wa J.ws.length J.wc, .slice J.ta J.ks.length J.tc] 35)).cell? ⟨w2.heap.size,1,none⟩=some (.int .i64 J.w)/\(w2.alloc (.cells #[.int .i64 J.f, .int .i64 J.w, .slice J.wa J.ws.length J.wc, .slice J.ta J.ks.length J.tc] 35)).cell? ⟨w2.heap.size,2,none⟩=some (.slice J.wa J.ws.length J.wc)/\(w2.alloc (.cells #[.int .i64 J.f, .int .i64 J.w, .slice J.wa J.ws.length J.wc, .slice J.ta J.ks.length J.tc] 35)).cell? ⟨w2.heap.size,3,none⟩=some (.slice J.ta J.ks.length J.tc))))/\Below w0.heap.size w0 w2/\wx.heap.size<=w2.heap.size):=λ w2 J hn hb=>by
     have b2:=below_on B1.out hb;have ba:=(Below.refl _ w2).alloc (Nat.le_refl _) (.cells #[.int .i64 J.f, .int .i64 J.w, .slice J.wa J.ws.length J.wc, .slice J.ta J.ks.length J.tc] 35);have bn:=bx_new w2 [.int .i64 J.f, .int .i64 J.w, .slice J.wa J.ws.length J.wc, .slice J.ta J.ks.length J.tc] 35
     exact ⟨⟨below_on b2 ba,(hn w2 (Nat.le_refl _) (λ _ _ _=>rfl)).below ba,bn.cell 0 _ rfl,bn.cell 1 _ rfl,bn.cell 2 _ rfl,bn.cell 3 _ rfl⟩,b2,hb.size⟩
    clear b1 b2 bd SX KO OLD WY v0 v1 c0;generalize K.length=n at *
    go_upto_region 4 with fail
    go_cut [7,8] from 26 to 37 (λ g e wz => ∃ (gb:Nat) (J:Gr),g = .pointer (some ⟨gb,0,none⟩)/\e = .nilIface/\Hid (Below w0.heap.size w0 wz/\RdG wz J/\(wz.cell? ⟨gb,0,none⟩=some (.int .i64 J.f)/\wz.cell? ⟨gb,1,none⟩=some (.int .i64 J.w)/\wz.cell? ⟨gb,2,none⟩=some (.slice J.wa J.ws.length J.wc)/\wz.cell? ⟨gb,3,none⟩=some (.slice J.ta J.ks.length J.tc)))/\Hid (J.m=gv))
    case first =>
     obtain ⟨a0,a1,a2⟩:=KC.out _ B1.out;obtain ⟨y0,y1,y2⟩:=KC.out _ B2.out;obtain ⟨c0,c1,c2⟩:=KC.out _ KX.out;have q0 : ∀ o,(wx.alloc o).cell? ⟨s,0,none⟩=some (.pointer (some ⟨f,0,none⟩)):=λ o=>(KC.out _ (below_on KX.out ((Below.refl _ wx).alloc (Nat.le_refl _) o))).1;have q1 : ∀ o,(wx.alloc o).cell? ⟨vb,0,none⟩=some (.string x0):=λ o=>(KC.out _ (below_on KX.out ((Below.refl _ wx).alloc (Nat.le_refl _) o))).2.1;have q2 : ∀ o,(wx.alloc o).cell? ⟨vb,1,none⟩=some (.int .i64 x1):=λ o=>(KC.out _ (below_on KX.out ((Below.refl _ wx).alloc (Nat.le_refl _) o))).2.2
     have pn0 : ¬ wx.heap.size=s:=by have:=SL.out;omega
     have pn1 : ¬ wx.heap.size=vb:=by have:=SL.out;omega
     unfold Gr.v at GR;clear FN
     go_region_held3 (λ W=>W.cell? ⟨s,0,none⟩=some (.pointer (some ⟨f,0,none⟩))/\W.cell? ⟨vb,0,none⟩=some (.string x0)/\W.cell? ⟨vb,1,none⟩=some (.int .i64 x1)) (go_keep) (first
      | (go_at_call 95;refine (GR.out _ ?qw).mono ?_;(case qw=>exact B2.out);rintro e w3 ⟨J,rfl,jm,nj,b3⟩;obtain ⟨Z3,hg,bw3,sz3⟩:=FA.out w3 J nj b3;have JM:=hide jm;have HG:=hide hg;have z0:=Z3.c0;have z1:=Z3.c1;have z2:=Z3.c2;have z3:=Z3.c3;have zf:=Z3.fr;obtain ⟨d0,d1,d2⟩:=KC.out w3 bw3;obtain ⟨pn3,pn4⟩:=PN.out w3 bw3 sz3;clear jm nj b3 hg)
      | (go_at_call 95;refine (GR.out _ ?qw).mono ?_;(case qw=>exact B1.out);rintro e w3 ⟨J,rfl,jm,nj,b3⟩;obtain ⟨hg,bw3,sz3⟩:=FB.out w3 J nj b3;have JM:=hide jm;have HG:=hide hg;obtain ⟨d0,d1,d2⟩:=KC.out w3 bw3;obtain ⟨pn3,pn4⟩:=PN.out w3 bw3 sz3;clear jm nj b3 hg))
     all_goals go_wp2
     all_goals go_meet
     all_goals (case rel=>exact ⟨_,J,rfl,rfl,HG.out,JM⟩)
    case rest =>
     obtain ⟨gb,J,rfl,rfl,HG,JM⟩:=hcut;obtain ⟨bz,rz,e0,e1,e2,e3⟩:=HG.out;have F2:=hide (FN.out wc J rz JM.out bz);unfold Gr.v at F2;clear FN GR FA FB KC bz rz HG
     go_wp2_with (go_at_call 96;refine F2.out.mono ?_;rintro e w5 ⟨p,rfl,fin⟩;have FIN:=hide fin.out;clear fin)
     go_ret2
     exact ⟨p,rfl,FIN.out⟩
  · obtain ⟨b1,b2⟩:=SX.out wx KX.out
    have c2:=b1.cell 2 _ rfl;obtain ⟨g,rfl,cp,hc⟩:=KO.out wx KX.out x hx;have FINO:=hide (OLD.out wx _ KX.out fo.out);have t1:decide (0<=(x:Int))=true:=decide_eq_true (by omega)
    have xz:(x:Int)<(K.length:Int):=by omega
    clear b1 b2 SX KO GR FN OLD WY fo;generalize (K.getD x ld0).2.2=pp at *;generalize K.length=n at *
    go_wp2
    go_ret2
    exact ⟨pp,rfl,FINO.out⟩
end Go.Proofs.YtaijnacghiloaaaGreatDoor
