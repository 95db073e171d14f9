/-
  Several texts as one: LgA, LgB, LgC.
-/
import Derived.Test.YtaijnacghiloaaaGreatDoorRunT10
import Derived.Test.YtaijnacghiloaaaGreatDoorRunT3
import Derived.Test.YtaijnacghiloaaaGreatDoorRunT4
import Derived.Test.YtaijnacghiloaaaGreatDoorRunT1
import Derived.Deep.QuietTactic
import Derived.Deep.Cut
import Derived.Deep.CutRange
import Derived.Deep.RegionHeld3
namespace Go.Proofs.YtaijnacghiloaaaGreatDoor
open Go.ChangeShapes Go.WideShapes Go.ChangeAt Go.RowKit Go.Lib
set_option linter.unusedVariables false
def lgL (va:Option Addr) (vc:Nat) (L:M.Lg):List Value := [.slice va L.bytes.length vc, .int .i64 (L.whole:Int), .int .i64 (L.safe:Int), .int .i64 L.ahead, .bool L.stop]
structure LA (W:World) (f:Nat) (va:Option Addr) (vc:Nat) (L:M.Lg):Prop where
 ok:M.LgOk L
 box:Bx W f (lgL va vc L)
 own:W.ownsRow 0 5 1 (.slice va L.bytes.length vc) L.bytes.length (byCells L.bytes)
 ne : ∀ p,va=some p->p.block≠f
def LB (f:Nat) (va:Option Addr) (q:Nat):Prop:=q=f ∨ ∃ p,va=some p/\p.block=q
theorem own_spot {W:World} {B n:Nat} {e:TypeId} {size:Nat} {a:Option Addr} {c:Nat} {l:List Value} (h:W.ownsRow B e size (.slice a n c) n l) : ∀ p,a=some p->p=⟨p.block,0,none⟩/\p.block<W.heap.size/\(Value.slice a n c).ownBlock=some p.block:=by
 intro p hp;subst hp
 rcases h.2 with ⟨hv,_⟩ | ⟨g,cap,cur,hv,hb,hg,_⟩
 · cases hv
 · cases hv
   exact ⟨rfl,(Array.getElem?_eq_some_iff.1 hg).1,rfl⟩
theorem LA.lt {W:World} {f:Nat} {va:Option Addr} {vc:Nat} {L:M.Lg} (h:LA W f va vc L) {q:Nat} (hq:LB f va q):q<W.heap.size:=by
 rcases hq with e | ⟨p,e1,e2⟩
 · subst e;exact h.box.lt
 · rw [←e2];exact (own_spot h.own p e1).2.1
theorem LA.up {W W':World} {f:Nat} {va:Option Addr} {vc:Nat} {L:M.Lg} (h:LA W f va vc L) (hk : ∀ q,LB f va q->W'.heap[q]? = W.heap[q]?):LA W' f va vc L :=
 ⟨h.ok,h.box.keep (hk f (.inl rfl)),by
  refine ⟨h.own.1, ?_⟩
  rcases h.own.2 with z | ⟨g,cap,cur,hv,hb,hg,r⟩
  · exact .inl z
  · refine .inr ⟨g,cap,cur,hv,hb, ?_,r⟩
    cases hv;rw [hk g (.inr ⟨_,rfl,rfl⟩)]
    exact hg,h.ne⟩
theorem LA.below {W W':World} {f:Nat} {va:Option Addr} {vc:Nat} {L:M.Lg} (h:LA W f va vc L) (hb:Below W.heap.size W W'):LA W' f va vc L:=h.up (λ q hq=>hb.block q (h.lt hq))
theorem LA.rd {W:World} {f:Nat} {va:Option Addr} {vc:Nat} {L:M.Lg} (h:LA W f va vc L):RdB W va L.bytes/\(va=none->vc=0)/\L.bytes.length<=vc/\vc<=9223372036854775807:=by
 obtain ⟨a,cap,e,r⟩:=own_rdB1 rfl (by have:=h.ok.len;unfold maxLen;omega) h.ok.byte h.own;cases e;exact r
def LeftL (W:World) (f:Nat) (va:Option Addr) (L':M.Lg) (W':World):Prop := ∃ va' vc',LA W' f va' vc' L'/\StayBut (LB f va) W W' /\ ∀ q,LB f va' q->LB f va q∨W.heap.size<=q
set_option maxHeartbeats 4000000 in
theorem lg_copyOf (a:Option Addr) (bs:List Nat) (c:Nat) (w:World) (h:RdB w a bs) (hc:a=none->c=0) (hl:bs.length<=140737488351232) :
 Calls Tryz.prog 103 #[.slice a bs.length c] w λ e w' => ∃ va vc,e = .returned (.slice va bs.length vc)/\w'.ownsRow w.heap.size 5 1 (.slice va bs.length vc) bs.length (byCells bs)/\Below w.heap.size w w':=by
 have O0:Hid (w.ownsRow w.heap.size 5 1 (.slice none 0 0) 0 (byCells [])):=World.ownsRow_nil _ _ _ _;have HB:=hide h;have HC:=hide hc;clear h hc
 go_enter Tryz.func103, Tryz.ntmps103
 go_wp2_with (at_builtin;refine wpList_append_by rfl (.const (.slice none 0 0)) (.tmp 3) rfl w.heap.size (.slice none 0 0) 0 [] rfl O0.out a bs bs.length c rfl rfl HB.out HC.out (by omega) (Nat.le_refl _) ?_;intro va vc w1 ho1 hb1 hg1;rw [Nat.zero_add,List.nil_append] at ho1;have O1:=hide ho1;have K1:=hide hb1;clear ho1 hb1 hg1)
 go_ret
 exact ⟨va,vc,rfl,by simpa using O1.out,K1.out⟩
set_option maxHeartbeats 4000000 in
theorem lg_split_no (a:Option Addr) (bs:List Nat) (ca:Nat) (w:World) (h:RdB w a bs) (hs:M.Short bs) :
 Calls Tryz.prog 62 #[.slice a bs.length ca] w λ e w'=>e = .returned (.tuple #[.slice none 0 0, .slice none 0 0, .bool false])/\w'=w:=by
 have G:=hide (cdget_same a bs ca w h);have kl:=M.get_le bs;have hm:bs.length<=9223372036854775807:=h.1;unfold M.Short at hs;clear h;generalize (M.getL bs).1=n at *;generalize (M.getL bs).2.1=k at *;generalize (M.getL bs).2.2=er at *;have wr:IntKind.i64.wrap ((bs.length:Int)-(k:Int))=(bs.length:Int)-(k:Int):=i64_in (by omega) (by omega)
 by_cases q:er=0
 · have lt:(bs.length:Int)-(k:Int)<n:=by
    rcases hs with z | z
    · exact absurd q z
    · exact z
   have d1:decide ((bs.length:Int)-(k:Int)<n)=true:=decide_eq_true lt;rw [err_nil q] at G;clear hs q lt
   go_enter Tryz.func62, Tryz.ntmps62
   go_wp2_with (go_at_call 102;refine G.out.mono ?_;rintro e w1 ⟨rfl,ew⟩;have ew2:=ew.symm;subst ew2)
   go_ret3
   exact ⟨rfl,rfl⟩
 · rw [err_some q] at G
   clear hs q
   go_enter Tryz.func62, Tryz.ntmps62
   go_wp2_with (go_at_call 102;refine G.out.mono ?_;rintro e w1 ⟨rfl,ew⟩;have ew2:=ew.symm;subst ew2)
   go_ret3
   exact ⟨rfl,rfl⟩
set_option maxHeartbeats 4000000 in
theorem lg_split (a:Option Addr) (c:M.Ca) (r:List Nat) (ca:Nat) (w:World) (hc:M.CaOk c) (h:RdB w a (M.recL c ++ r)) (hl:(M.recL c ++ r).length<=ca) (hca:ca<=9223372036854775807) (hn:a=none->ca=0) :
 Calls Tryz.prog 62 #[.slice a (M.recL c ++ r).length ca] w λ e w' => ∃ a1 c1 a2 c2,e = .returned (.tuple #[.slice a1 (M.bodL c).length c1, .slice a2 r.length c2, .bool true])/\(∀ V,RdB V a (M.recL c ++ r)->RdB V a1 (M.bodL c)/\RdB V a2 r)/\(M.bodL c).length<=c1/\c1<=9223372036854775807/\r.length<=c2/\c2<=9223372036854775807/\(a2=none->c2=0)/\(a1=none->c1=0)/\Below w.heap.size w w':=by
 have G:=hide (cdget_same a (M.recL c ++ r) ca w h);rw [M.get_rec hc,err_nil rfl] at G
 have rl:(M.recL c ++ r).length=(M.numL ((M.bodL c).length:Int)).length+(M.bodL c).length+r.length:=by unfold M.recL;rw [List.length_append,List.length_append]
 have kl:=(M.num_len hc.num_in.1 hc.num_in.2).2
 have RA : ∀ V,RdB V a (M.recL c ++ r)->RdB V (if ca=(M.numL ((M.bodL c).length:Int)).length then a else Option.map (λ x=>x.add (M.numL ((M.bodL c).length:Int)).length) a) (M.bodL c ++ r):=λ V hV=>by
  have:=rdB_slice (k:=(M.numL ((M.bodL c).length:Int)).length) hV hl;rw [M.rec_drop] at this;exact this
 have hm:(M.recL c ++ r).length<=9223372036854775807:=h.1;clear h;generalize (M.recL c ++ r).length=n at *;generalize (M.numL ((M.bodL c).length:Int)).length=k at *;have wr:IntKind.i64.wrap ((n:Int)-(k:Int))=(n:Int)-(k:Int):=i64_in (by omega) (by omega);have d1:decide ((n:Int)-(k:Int)<((M.bodL c).length:Int))=false:=decide_eq_false (by omega)
 have z1:(k:Int)<=(n:Int):=by omega
 have z2:(n:Int)<=(ca:Int):=by omega
 have z3:k<=n:=by omega
 have z4:n<=ca:=by omega
 obtain ⟨a1,ha1⟩ : ∃ x,x=(if ca=k then a else Option.map (λ x=>x.add k) a):=⟨_,rfl⟩
 have N1:Hid (a1=none->ca-k=0):=λ z=>by
  rw [ha1] at z
  split at z
  · omega
  · cases a with
    | none=>have:=hn rfl;omega
    | some p=>cases z
 rw [←ha1] at RA;have RB:=hide RA;have HA:=hide ha1.symm;have RL:=hide rl;have HM:=hide (show n<=ca/\ca<=9223372036854775807 from ⟨z4,hca⟩);clear RA ha1 rl hn hl kl hm hca
 obtain ⟨m,hm⟩ : ∃ x,x=(M.bodL c).length:=⟨_,rfl⟩
 rw [←hm] at G d1;have EM:=hide hm;clear hm hc
 go_enter Tryz.func62, Tryz.ntmps62
 go_upto_region 5 with (go_at_call 102;refine G.out.mono ?_;rintro e w1 ⟨rfl,ew⟩;have ew2:=ew.symm;subst ew2)
 clear G d1;rw [HA.out]
 have X:n-k=m+r.length/\n-k<=ca-k/\ca-k<=9223372036854775807:=by
  have:=RL.out;have:=HM.out;have:=EM.out;omega
 clear HA wr z1 z2 z3 z4;generalize n-k=n1 at *;generalize ca-k=c1 at *;obtain ⟨x1,x2,x3⟩:=X
 have y1:(m:Int)<=(n1:Int):=by omega
 have y2:(m:Int)<=(c1:Int):=by omega
 have y3:m<=n1:=by omega
 have y4:m<=c1:=by omega
 have T1:Hid (∀ V,RdB V a (M.recL c ++ r)->RdB V a1 (M.bodL c)):=λ V hV=>by
  have:=(RB.out V hV).take m;rw [EM.out,List.take_left] at this;exact this
 have T2:Hid (∀ V,RdB V a (M.recL c ++ r)->RdB V (if c1=m then a1 else Option.map (λ x=>x.add m) a1) r):=λ V hV=>by
  have:=rdB_slice (c:=c1) (k:=m) (RB.out V hV) (by have:=EM.out;rw [List.length_append];omega);rw [show (M.bodL c ++ r).drop m=r by rw [EM.out,List.drop_left]] at this;exact this
 have N2:Hid ((if c1=m then a1 else Option.map (λ x=>x.add m) a1)=none->c1-m=0):=λ z=>by
  split at z
  · omega
  · cases a1 with
    | none=>have:=N1.out rfl;omega
    | some p=>cases z
 have X2:Hid (n1-m=r.length/\n1<=c1/\c1<=9223372036854775807):=⟨by omega,x2,x3⟩
 clear x1 x2 x3 RB HM RL
 by_cases hcm:c1=m
 · have t2:=T2.out
   rw [if_pos hcm] at t2;clear T2;have T2:=hide t2;clear t2 N2;subst hcm
   go_quiet (fail)
   go_wp2
   go_ret3
   have e2:=X2.out.1
   exact ⟨a1,c1,a1,0,by rw [e2,←EM.out];rfl,λ V hV=>⟨T1.out V hV,T2.out V hV⟩,by rw [←EM.out];exact Nat.le_refl _,X2.out.2.2,by have:=X2.out;omega,by omega,λ _=>rfl,N1.out,below_drew (Below.refl _ _) nq (Nat.le_refl _)⟩
 · have t2:=T2.out
   have n2:=N2.out;rw [if_neg hcm] at t2 n2;clear T2 N2;have T2:=hide t2;have N2:=hide n2;clear t2 n2
   go_quiet (fail)
   go_wp2
   go_ret3
   have e2:=X2.out.1
   exact ⟨a1,c1,_,c1-m,by rw [e2,←EM.out];rfl,λ V hV=>⟨T1.out V hV,T2.out V hV⟩,by rw [←EM.out];exact y4,X2.out.2.2,by have:=X2.out;omega,by have:=X2.out;omega,N2.out,N1.out,below_drew (Below.refl _ _) nq (Nat.le_refl _)⟩
def lenV:Value->Nat
 | .slice _ n _=>n
 | _=>0
set_option maxHeartbeats 4000000 in
theorem lg_wholeOf (a:Option Addr) (l:List M.Ca) (t:List Nat) (ca:Nat) (w:World) (hl : ∀ c∈l,M.CaOk c) (ht:M.TailOk t) (h:RdB w a (M.recs l ++ t)) (hc:(M.recs l ++ t).length<=ca) (hca:ca<=9223372036854775807) (hn:a=none->ca=0) :
 Calls Tryz.prog 91 #[.slice a (M.recs l ++ t).length ca] w λ e w'=>e = .returned (.int .i64 ((M.recs l).length:Int))/\Below w.heap.size w w':=by
 have hm:(M.recs l ++ t).length<=9223372036854775807:=h.1;have LL:(M.recs l ++ t).length=(M.recs l).length+t.length:=List.length_append;have R0:Hid (RdB w a (M.recs (l.drop 0) ++ t)):=h
 have C0:Hid ((M.recs (l.drop 0) ++ t).length<=ca/\ca<=9223372036854775807/\(a=none->ca=0)):=⟨hc,hca,hn⟩
 have HL:=hide hl;have NO:=hide (λ (a:Option Addr) (ca:Nat) (w:World) (h:RdB w a t)=>lg_split_no a t ca w h ht.short);have YE:=hide (λ (a:Option Addr) (c:M.Ca) (r:List Nat) (ca:Nat) (w:World) hc h hl hca hn=>lg_split a c r ca w hc h hl hca hn);clear h hc hca hn hl ht
 obtain ⟨N,hN⟩ : ∃ N,N=(M.recs l ++ t).length:=⟨_,rfl⟩
 obtain ⟨X,hX⟩ : ∃ X,X=(M.recs l).length:=⟨_,rfl⟩
 rw [←hN] at hm LL ⊢;rw [←hX] at LL ⊢;have EX:=hide hX;clear hN hX
 go_enter Tryz.func91, Tryz.ntmps91
 have e0:N=(M.recs (l.drop 0) ++ t).length:=by rw [List.length_append];show N=(M.recs l).length+_;rw [←EX.out];exact LL
 go_wp2
 have LH:=hide LL;clear LL
 go_loopw [2,3] (λ r v wr => ∃ (j:Nat) (b:Option Addr) (cb:Nat),j<=l.length/\v = .slice b (M.recs (l.drop j) ++ t).length cb/\Hid (RdB wr b (M.recs (l.drop j) ++ t))/\Hid ((M.recs (l.drop j) ++ t).length<=cb/\cb<=9223372036854775807/\(b=none->cb=0))/\Hid (Below w.heap.size w wr)) (λ _ v _=>lenV v)
 case atStart=>exact ⟨0,a,ca,Nat.zero_le _,by rw [e0],R0,C0,Below.refl _ _⟩
 case round =>
  clear R0 C0 e0;obtain ⟨j,b,cb,hj,rfl,RR,CC,KK⟩:=hrel
  by_cases hlt:j<l.length
  · have ok:=HL.out l[j] (List.getElem_mem hlt)
    have er:M.recs (l.drop j) ++ t=M.recL l[j] ++ (M.recs (l.drop (j+1)) ++ t):=by rw [M.recs_drop hlt,List.append_assoc]
    rw [er] at RR CC ⊢;have SP:=hide (YE.out b l[j] _ cb wr ok RR.out CC.out.1 CC.out.2.1 CC.out.2.2)
    have sh:(M.recs (l.drop (j+1)) ++ t).length<(M.recL l[j] ++ (M.recs (l.drop (j+1)) ++ t)).length:=by
     have:=ok.rec_le;have e9:(M.recL l[j] ++ (M.recs (l.drop (j+1)) ++ t)).length=(M.recL l[j]).length+(M.recs (l.drop (j+1)) ++ t).length:=List.length_append;omega
    clear er YE NO CC ok;generalize (M.recL l[j] ++ (M.recs (l.drop (j+1)) ++ t)).length=n0 at *
    obtain ⟨n1,hn1⟩ : ∃ x,x=(M.recs (l.drop (j+1)) ++ t).length:=⟨_,rfl⟩
    rw [←hn1] at sh;simp only [←hn1] at SP;have E1:=hide hn1;clear hn1
    go_wp2_with (go_at_call 62;refine SP.out.mono ?_;rintro e w1 ⟨a1,c1,a2,c2,rfl,rr,q1,q2,q3,q4,q5,q6,b1⟩;have R2:=hide ((rr _ RR.out).2.below b1);have C2:=hide (And.intro q3 (And.intro q4 q5));have K2:=hide (below_on KK.out b1);clear rr q1 q2 q3 q4 q5 q6 b1)
    go_roundw
    case rel=>exact ⟨j+1,a2,c2,hlt,by rw [←E1.out],R2,by unfold Hid;rw [←E1.out];exact C2.out,K2⟩
    case measure=>exact sh
  · have ej:j=l.length:=by omega
    have er:M.recs (l.drop j) ++ t=t:=by rw [ej,List.drop_length];rfl
    rw [er] at RR CC ⊢;have SP:=hide (NO.out b cb wr RR.out);have LL:=LH.out
    have ex:IntKind.i64.wrap ((N:Int)-(t.length:Int))=(X:Int):=by rw [i64_in (by omega) (by omega)];omega
    clear er YE NO RR CC;clear LL LH;generalize t.length=n0 at *
    go_wp2_with (go_at_call 62;refine SP.out.mono ?_;rintro e w1 ⟨rfl,ew⟩;have ew2:=ew.symm;subst ew2)
    go_ret
    exact ⟨rfl,KK.out⟩
theorem own_stay {W W':World} {B n:Nat} {e:TypeId} {size:Nat} {a:Option Addr} {c:Nat} {l:List Value} (h:W.ownsRow B e size (.slice a n c) n l) (hk : ∀ p,a=some p->W'.heap[p.block]? = W.heap[p.block]?):W'.ownsRow B e size (.slice a n c) n l:=by
 refine ⟨h.1, ?_⟩
 rcases h.2 with z | ⟨g,cap,cur,hv,hb,hg,r⟩
 · exact .inl z
 · refine .inr ⟨g,cap,cur,hv,hb, ?_,r⟩
   cases hv;rw [hk _ rfl];exact hg
theorem LA.put {W:World} {f:Nat} {va:Option Addr} {vc:Nat} {L L':M.Lg} (h:LA W f va vc L) {j:Nat} {v:Value} (hb:L'.bytes=L.bytes) (hl:(lgL va vc L).set j v=lgL va vc L') (ok:M.LgOk L'):LA (W.setCell ⟨f,j,none⟩ v) f va vc L'/\StayBut (λ q=>q=f) W (W.setCell ⟨f,j,none⟩ v):=by
 refine ⟨⟨ok, ?_, ?_,h.ne⟩,stay_set rfl⟩
 · have:=h.box.put (j:=j) (v:=v)
   rw [hl] at this;exact this
 · rw [hb]
   exact own_stay h.own (λ p hp=>heap_setCell_other _ _ _ _ (h.ne p hp))
set_option maxHeartbeats 4000000 in
theorem lg_step {W:World} {f:Nat} {va:Option Addr} {vc:Nat} {L:M.Lg} (h:LA W f va vc L) :
 Calls Tryz.prog 88 #[.pointer (some ⟨f,0,none⟩)] W λ e w'=>e = .returned (errV (if M.stpF L=true then 9 else 0))/\LA w' f va vc (M.stpL L)/\StayBut (λ q=>q=f) W w':=by
 have c3:=h.box.cell 3 _ rfl;have c4:=h.box.cell 4 _ rfl;have z3:=h.box.free 3;have z4:=h.box.free 4;have ok':=M.stp_ok h.ok;have i64:=h.ok.ah
 by_cases q:L.ahead=0
 · have F:M.stpF L=true:=by unfold M.stpF;rw [decide_eq_true q,Bool.or_true]
   have P:=hide (h.put (L':=M.stpL L) (j:=4) (v := .bool true) rfl (by unfold lgL M.stpL;rw [if_pos F,F];rfl) ok');rw [if_pos F,err_some (by decide)];rw [q] at c3;have c5:(W.setCell ⟨f,4,none⟩ (.bool true)).cell? ⟨f,4,none⟩=some (.bool true):=cell_set_same c4;clear h ok' i64 F
   go_enter Tryz.func88, Tryz.ntmps88
   go_wp2
   go_ret
   exact ⟨rfl,P.out⟩
 · have q0:(L.ahead == 0)=false:=by rw [beq_eq_false_iff_ne];exact q
   cases hs:L.stop with
   | true =>
     have F:M.stpF L=true:=by unfold M.stpF;rw [hs];rfl
     have P:Hid (LA W f va vc (M.stpL L)):=by
      have e:M.stpL L=L:=by
       unfold M.stpL;rw [if_pos F,F,←hs]
      unfold Hid;rw [e];exact h
     rw [if_pos F,err_some (by decide)];rw [hs] at c4;clear h ok' i64 F hs;generalize L.ahead=ah at *
     go_enter Tryz.func88, Tryz.ntmps88
     go_wp2
     go_ret
     exact ⟨rfl,P.out,StayBut.refl _ _⟩
   | false =>
     have F:M.stpF L=false:=by unfold M.stpF;rw [hs,decide_eq_false q];rfl
     rw [if_neg (by rw [F];decide),err_nil rfl];rw [hs] at c4
     by_cases g:0<L.ahead
     · have P:=hide (h.put (L':=M.stpL L) (j:=3) (v := .int .i64 (L.ahead-1)) rfl (by unfold lgL M.stpL;rw [if_neg (by rw [F];decide),if_pos g,F,hs];rfl) ok')
       have wr:IntKind.i64.wrap (L.ahead-1)=L.ahead-1:=i64_in (by have:=i64.2;omega) (by have:=i64.2;omega);have g0:decide (0<L.ahead)=true:=decide_eq_true g;clear h ok' i64 F hs;generalize M.stpL L=LS at *;generalize L.ahead=ah at *
       go_enter Tryz.func88, Tryz.ntmps88
       go_wp2
       go_ret
       exact ⟨rfl,P.out⟩
     · have P:Hid (LA W f va vc (M.stpL L)):=by
        have e:M.stpL L=L:=by
         unfold M.stpL;rw [if_neg (by rw [F];decide),if_neg g,F,←hs]
        unfold Hid;rw [e];exact h
       have g0:decide (0<L.ahead)=false:=decide_eq_false g;clear h ok' i64 F hs;generalize M.stpL L=LS at *;generalize L.ahead=ah at *
       go_enter Tryz.func88, Tryz.ntmps88
       go_wp2
       go_ret
       exact ⟨rfl,P.out,StayBut.refl _ _⟩
set_option maxHeartbeats 4000000 in
theorem lg_Fail {W:World} {f:Nat} {va:Option Addr} {vc:Nat} {L:M.Lg} (h:LA W f va vc L) (n:Int) (hn:M.I64 n) :
 Calls Tryz.prog 39 #[.pointer (some ⟨f,0,none⟩), .int .i64 n] W λ e w'=>e = .returned (.tuple #[])/\LA w' f va vc ⟨L.calls,L.tail,L.safe,n,L.stop⟩/\StayBut (λ q=>q=f) W w':=by
 have c3:=h.box.cell 3 _ rfl;have z3:=h.box.free 3;have P:=hide (h.put (L':=⟨L.calls,L.tail,L.safe,n,L.stop⟩) (j:=3) (v := .int .i64 n) rfl rfl ⟨h.ok.ok,h.ok.tl,h.ok.wh,h.ok.sf,hn⟩);clear h;generalize L.ahead=ah at *
 go_enter Tryz.func39, Tryz.ntmps39
 go_wp2
 go_end0
 exact ⟨rfl,P.out⟩
theorem lg_New (W:World):Calls Tryz.prog 24 #[] W λ e w' => ∃ f,e = .returned (.pointer (some ⟨f,0,none⟩))/\LA w' f none 0 M.lg0/\Below W.heap.size W w'/\f=W.heap.size:=by
 have FIN:Hid (LA (W.alloc (.cells #[.slice none 0 0, .int .i64 0, .int .i64 0, .int .i64 (-1), .bool false] 114)) W.heap.size none 0 M.lg0/\Below W.heap.size W (W.alloc (.cells #[.slice none 0 0, .int .i64 0, .int .i64 0, .int .i64 (-1), .bool false] 114))) :=
  ⟨⟨M.lg0_ok,bx_new W [.slice none 0 0, .int .i64 0, .int .i64 0, .int .i64 (-1), .bool false] 114,World.ownsRow_nil _ _ _ _,λ p hp=>by cases hp⟩,(Below.refl _ _).alloc (Nat.le_refl _) _⟩
 go_enter Tryz.func24, Tryz.ntmps24
 go_wp2
 go_ret
 exact ⟨_,rfl,FIN.out.1,FIN.out.2,rfl⟩
theorem own_take {W:World} {B n m:Nat} {a:Option Addr} {c:Nat} {l:List Nat} (hm:l.length=m) (h:W.ownsRow B 5 1 (.slice a m c) m (byCells l)) (hn:n<=m):W.ownsRow B 5 1 (.slice a n c) n (byCells (l.take n)):=by
 refine ⟨by rw [byCells_len,List.length_take];omega, ?_⟩
 rcases h.2 with ⟨hv,h0⟩ | ⟨g,cap,cur,hv,hb,hg,h1,h2,h3,h4⟩
 · cases hv
   have:n=0:=by omega
   subst this;exact .inl ⟨rfl,rfl⟩
 · cases hv
   refine .inr ⟨g,c,cur,rfl,hb,hg,by omega,h2,h3, ?_⟩;rw [Nat.mul_one] at h4 ⊢
   have e:byCells (l.take n)=(byCells l).take n:=by unfold byCells;rw [List.map_take]
   rw [e,←h4,List.take_take]
   congr 1
   omega
set_option maxHeartbeats 4000000 in
theorem lg_cut {W:World} {f:Nat} {va:Option Addr} {vc:Nat} {L:M.Lg} (h:LA W f va vc L) (n:Nat) (hn:n<=L.bytes.length) :
 Calls Tryz.prog 56 #[.pointer (some ⟨f,0,none⟩), .int .i64 (n:Int)] W λ e w'=>e = .returned (.tuple #[])/\LA w' f va vc (M.cutG L n)/\StayBut (λ q=>q=f) W w':=by
 have c0:=h.box.cell 0 _ rfl;have c1:=h.box.cell 1 _ rfl;have c2:=h.box.cell 2 _ rfl;have z0:=h.box.free 0;have z1:=h.box.free 1;have z2:=h.box.free 2;obtain ⟨tk,be⟩:=M.cutG_tail h.ok n;have ok':=M.cutG_ok h.ok n hn
 have bl:(M.cutG L n).bytes.length=n:=by rw [be,List.length_take];omega
 obtain ⟨rd,rn,rl,rc⟩:=h.rd;have b2:=(h.box.put (j:=0) (v := .slice va n vc)).put (j:=2) (v := .int .i64 (if n<L.safe then (n:Int) else (L.safe:Int)));have s2:StayBut (λ q=>q=f) W ((W.setCell ⟨f,0,none⟩ (.slice va n vc)).setCell ⟨f,2,none⟩ (.int .i64 (if n<L.safe then (n:Int) else (L.safe:Int)))):=StayBut.trans (K:=λ q=>q=f) (stay_set (K:=λ q=>q=f) rfl) (stay_set (K:=λ q=>q=f) rfl)
 have ow:W.ownsRow 0 5 1 (.slice va n vc) n (byCells (M.cutG L n).bytes):=by rw [be];exact own_take rfl h.own hn
 have NE:=hide h.ne
 have FIN:Hid (∀ w',Bx w' f (lgL va vc (M.cutG L n))->(∀ q,q<W.heap.size->q≠f->w'.heap[q]? = W.heap[q]?)->LA w' f va vc (M.cutG L n)):=λ w' hb hk=>⟨ok',hb,by rw [bl];exact own_stay ow (λ p hp=>hk _ (own_spot ow p hp).2.1 (NE.out p hp)),NE.out⟩
 have EL:Hid (lgL va vc (M.cutG L n) = [.slice va n vc, .int .i64 ((M.cutG L n).whole:Int), .int .i64 (if n<L.safe then (n:Int) else (L.safe:Int)), .int .i64 L.ahead, .bool L.stop]):=by
  unfold Hid lgL;rw [bl]
  have:((M.cutG L n).safe:Int)=(if n<L.safe then (n:Int) else (L.safe:Int)):=by
   show ((min L.safe n:Nat):Int)=_
   split <;> omega
  rw [this];rfl
 have y1:(n:Int)<=(vc:Int):=by omega
 have y2:n<=vc:=by omega
 have f0:f<W.heap.size:=h.box.lt
 obtain ⟨W2,hW2⟩ : ∃ X,X=(W.setCell ⟨f,0,none⟩ (.slice va n vc)).setCell ⟨f,2,none⟩ (.int .i64 (if n<L.safe then (n:Int) else (L.safe:Int))):=⟨_,rfl⟩
 rw [←hW2] at b2 s2;have d1:=b2.cell 1 _ rfl;have d0:=b2.cell 0 _ rfl;have g1:=b2.free 1;have B2:Hid (Bx W2 f [.slice va n vc, .int .i64 (L.whole:Int), .int .i64 (if n<L.safe then (n:Int) else (L.safe:Int)), .int .i64 L.ahead, .bool L.stop]):=b2;have S2:=hide s2
 have WH:Hid (∀ w:World,(∀ p,va=some p->w.heap[p.block]? = W.heap[p.block]?)->W.heap.size<=w.heap.size->Calls Tryz.prog 91 #[.slice va n vc] w λ e w'=>e = .returned (.int .i64 ((M.cutG L n).whole:Int))/\Below w.heap.size w w'):=λ w hk hz=>by
  have:=lg_wholeOf va (M.cutG L n).calls (M.cutG L n).tail vc w ok'.ok ok'.tl (by
   show RdB w va (M.cutG L n).bytes;rw [be]
   exact rdB_keep (rd.take n) (λ _ p hp=>hk p hp) hz) (by show (M.cutG L n).bytes.length<=_;omega) rc rn
  rw [show (M.recs (M.cutG L n).calls ++ (M.cutG L n).tail).length=n from bl] at this;exact this
 have MO:=hide (λ (z:L.whole<=n)=>M.cutG_more h.ok z);clear h be tk ok' ow rd rn rl rc b2 s2 bl hn;generalize M.cutG L n=L1 at *;generalize L.bytes.length=bn at *
 by_cases hw:n<L.whole
 · have t1:decide ((n:Int)<(L.whole:Int))=true:=decide_eq_true (by omega)
   have t2:decide (n<L.whole)=true:=decide_eq_true hw;have WW:=hide (WH.out W2 (λ p hp=>by rw [hW2,heap_setCell_other _ _ _ _ (NE.out p hp),heap_setCell_other _ _ _ _ (NE.out p hp)]) S2.out.size);clear hw MO WH;generalize L.whole=wh at *;generalize L.safe=sf at *
   go_enter Tryz.func56, Tryz.ntmps56
   go_upto_region 2 with fail
   rw [←hW2];clear hW2 c0 c1 c2 z0 z1 z2
   go_upto_region 3 with fail
   have FI:=hide FIN.out
   have KE:Hid (∀ w3,Below W2.heap.size W2 w3->w3.cell? ⟨f,1,none⟩=some (.int .i64 (wh:Int))/\w3.frozen? ⟨f,1,none⟩=false/\LA (w3.setCell ⟨f,1,none⟩ (.int .i64 (L1.whole:Int))) f va vc L1/\StayBut (λ q=>q=f) W (w3.setCell ⟨f,1,none⟩ (.int .i64 (L1.whole:Int)))):=λ w3 hb=>by
    have lt:f<W2.heap.size:=B2.out.lt;have b3:=B2.out.keep (hb.block f lt)
    refine ⟨b3.cell 1 _ rfl,b3.free 1,FI.out _ ?_ ?_,S2.out.trans ((stay_of hb (Nat.le_refl _)).trans (stay_set (K:=λ q=>q=f) rfl))⟩
    · rw [EL.out];exact b3.put (j:=1) (v := .int .i64 (L1.whole:Int))
    · intro q hq hf
      rw [heap_setCell_other _ _ _ _ hf,hb.block q (Nat.lt_of_lt_of_le hq S2.out.size)];exact S2.out.block q hq hf
   clear FI FIN EL B2 S2
   go_wp2_with (go_at_call 91;refine WW.out.mono ?_;rintro e w3 ⟨rfl,hb3⟩;obtain ⟨e1,e2,e3,e4⟩:=KE.out w3 hb3;have E3:=hide e3;have E4:=hide e4;clear e3 e4 hb3)
   all_goals (
    go_end0
    exact ⟨rfl,E3.out,E4.out⟩)
 · have t1:decide ((n:Int)<(L.whole:Int))=false:=decide_eq_false (by omega)
   have t2:decide (n<L.whole)=false:=decide_eq_false hw
   have DONE:Hid (LA W2 f va vc L1/\StayBut (λ q=>q=f) W W2):=by
    refine ⟨FIN.out W2 ?_ (λ q hq hf=>S2.out.block q hq hf),S2.out⟩
    rw [EL.out,MO.out (by omega)];exact B2.out
   clear hw MO WH FIN EL B2 S2;generalize L.whole=wh at *;generalize L.safe=sf at *
   go_enter Tryz.func56, Tryz.ntmps56
   go_upto_region 2 with fail
   rw [←hW2];clear hW2 c0 c1 c2 z0 z1 z2
   go_wp2
   all_goals (
    go_end0
    exact ⟨rfl,DONE.out.1,DONE.out.2⟩)
theorem StayBut.low {f:Nat} {va:Option Addr} {W W':World} (h:StayBut (λ q=>q=f) W W'):StayBut (LB f va) W W':=h.mono (λ q _ e => .inl e)
set_option maxHeartbeats 4000000 in
theorem lg_Sync {W:World} {f:Nat} {va:Option Addr} {vc:Nat} {L:M.Lg} (h:LA W f va vc L) :
 Calls Tryz.prog 54 #[.pointer (some ⟨f,0,none⟩)] W λ e w'=>e = .returned (errV (M.syF L))/\LA w' f va vc (M.syL L)/\StayBut (λ q=>q=f) W w':=by
 have ST:=hide (lg_step h);have ok':=hide (M.sy_ok h.ok);unfold M.syF
 cases hs:M.stpF L with
 | true =>
   rw [if_pos hs] at ST;rw [if_pos rfl]
   have e:M.syL L=M.stpL L:=by unfold M.syL;rw [if_pos hs]
   rw [e];rw [err_some (by decide)] at ST ⊢;clear h ok' e hs
   go_enter Tryz.func54, Tryz.ntmps54
   go_wp2_with (go_at_call 88;refine ST.out.mono ?_;rintro e w1 ⟨rfl,h1,s1⟩;have H1:=hide h1;have S1:=hide s1;clear h1 s1)
   go_ret
   exact ⟨rfl,H1.out,S1.out⟩
 | false =>
   rw [if_neg (by rw [hs];decide)] at ST;rw [if_neg (by decide)];rw [err_nil rfl] at ST ⊢
   have e:M.syL L=⟨L.calls,L.tail,L.bytes.length,(M.stpL L).ahead,false⟩:=by unfold M.syL;rw [if_neg (by rw [hs];decide)]
   have PU:Hid (∀ w1,LA w1 f va vc (M.stpL L)->w1.cell? ⟨f,0,none⟩=some (.slice va L.bytes.length vc)/\(∃ u,w1.cell? ⟨f,2,none⟩=some u)/\w1.frozen? ⟨f,2,none⟩=false/\LA (w1.setCell ⟨f,2,none⟩ (.int .i64 (L.bytes.length:Int))) f va vc (M.syL L)/\StayBut (λ q=>q=f) w1 (w1.setCell ⟨f,2,none⟩ (.int .i64 (L.bytes.length:Int)))):=λ w1 h1=>by
    have p:=h1.put (L':=M.syL L) (j:=2) (v := .int .i64 (L.bytes.length:Int)) (by rw [e];rfl) (by rw [e];unfold lgL;show [_,_,_,_,_] = [_,_,_,_,_];rw [show (M.stpL L).stop=false from hs];rfl) ok'.out
    exact ⟨h1.box.cell 0 _ rfl,⟨_,h1.box.cell 2 _ rfl⟩,h1.box.free 2,p⟩
   clear h ok' e hs;generalize L.bytes.length=bn at *
   go_enter Tryz.func54, Tryz.ntmps54
   go_wp2_with (go_at_call 88;refine ST.out.mono ?_;rintro e w1 ⟨rfl,h1,s1⟩;obtain ⟨e0,⟨u,e1⟩,e2,e3,e4⟩:=PU.out w1 h1;have E3:=hide e3;have E4:=hide (StayBut.trans s1 e4);clear h1 s1 e3 e4)
   go_ret
   exact ⟨rfl,E3.out,E4.out⟩
set_option maxHeartbeats 4000000 in
theorem lg_Crash {W:World} {f:Nat} {va:Option Addr} {vc:Nat} {L:M.Lg} (h:LA W f va vc L) (keep:Int) (hk:M.I64 keep) :
 Calls Tryz.prog 28 #[.pointer (some ⟨f,0,none⟩), .int .i64 keep] W λ e w'=>e = .returned (.tuple #[])/\LA w' f va vc (M.crL L keep)/\StayBut (λ q=>q=f) W w':=by
 have c0:=h.box.cell 0 _ rfl;have c2:=h.box.cell 2 _ rfl;have lb:=h.ok.len;have sf:=h.ok.sf;have cn:=(M.crN_le h.ok keep).2
 have CT:Hid (∀ x:Int,x=(M.crN L keep:Int)->Calls Tryz.prog 56 #[.pointer (some ⟨f,0,none⟩), .int .i64 x] W.drew λ e w'=>e = .returned (.tuple #[])/\LA w' f va vc (M.cutG L (M.crN L keep))/\StayBut (λ q=>q=f) W.drew w'):=λ x hx=>by
  rw [hx];exact lg_cut (h.below ((Below.refl _ _).drew)) _ cn
 have CN:M.crN L keep=L.safe+min keep.toNat (L.bytes.length-L.safe):=rfl;have wr:IntKind.i64.wrap ((L.bytes.length:Int)-(L.safe:Int))=(L.bytes.length:Int)-(L.safe:Int):=i64_in (by omega) (by omega)
 have PU:Hid (∀ w1,LA w1 f va vc (M.cutG L (M.crN L keep))->StayBut (λ q=>q=f) W.drew w1 -> ∃ bl:Nat,w1.cell? ⟨f,0,none⟩=some (.slice va bl vc)/\w1.cell? ⟨f,2,none⟩=some (.int .i64 (L.safe:Int))/\w1.frozen? ⟨f,2,none⟩=false/\(∃ u,w1.cell? ⟨f,3,none⟩=some u)/\w1.frozen? ⟨f,3,none⟩=false/\(∃ u,w1.cell? ⟨f,4,none⟩=some u)/\w1.frozen? ⟨f,4,none⟩=false/\LA (((w1.setCell ⟨f,2,none⟩ (.int .i64 (bl:Int))).setCell ⟨f,3,none⟩ (.int .i64 (-1))).setCell ⟨f,4,none⟩ (.bool false)) f va vc (M.crL L keep)/\StayBut (λ q=>q=f) W (((w1.setCell ⟨f,2,none⟩ (.int .i64 (bl:Int))).setCell ⟨f,3,none⟩ (.int .i64 (-1))).setCell ⟨f,4,none⟩ (.bool false))):=λ w1 h1 s1=>by
  have o:=M.cr_ok h.ok keep
  have c9:w1.cell? ⟨f,2,none⟩=some (.int .i64 (L.safe:Int)):=by
   have:=h1.box.cell 2 _ rfl;rw [show (M.cutG L (M.crN L keep)).safe=L.safe from Nat.min_eq_left (M.crN_le h.ok keep).1] at this;exact this
  generalize hC:M.cutG L (M.crN L keep)=C at h1;have p1:=h1.put (L':=⟨C.calls,C.tail,C.bytes.length,C.ahead,C.stop⟩) (j:=2) (v := .int .i64 (C.bytes.length:Int)) rfl rfl ⟨h1.ok.ok,h1.ok.tl,h1.ok.wh,Nat.le_refl _,h1.ok.ah⟩;have p2:=p1.1.put (L':=⟨C.calls,C.tail,C.bytes.length, -1,C.stop⟩) (j:=3) (v := .int .i64 (-1)) rfl rfl ⟨h1.ok.ok,h1.ok.tl,h1.ok.wh,Nat.le_refl _,⟨(by decide:(-9223372036854775808:Int) <= -1),(by decide:(-1:Int)<=9223372036854775807)⟩⟩
  have eC:M.crL L keep=⟨C.calls,C.tail,C.bytes.length, -1,false⟩:=by unfold M.crL;rw [hC]
  have p3:=p2.1.put (L':=M.crL L keep) (j:=4) (v := .bool false) (by rw [eC];rfl) (by rw [eC];rfl) o;have s0:StayBut (λ q=>q=f) W W.drew:=stay_of ((Below.refl W.heap.size W).drew) (Nat.le_refl _)
  exact ⟨C.bytes.length,h1.box.cell 0 _ rfl,c9,h1.box.free 2,⟨_,h1.box.cell 3 _ rfl⟩,h1.box.free 3,⟨_,h1.box.cell 4 _ rfl⟩,h1.box.free 4,p3.1,s0.trans (s1.trans (p1.2.trans (p2.2.trans p3.2)))⟩
 have lb2:=lb.2;clear h lb;generalize M.cutG L (M.crN L keep)=C at *;generalize M.crN L keep=cr at *;generalize L.bytes.length=bn at *;generalize L.safe=sn at *
 have WX:Hid (∀ x:Int,x=(cr:Int)->IntKind.i64.wrap x=(cr:Int)):=λ x hx=>by rw [hx];exact i64_in (by omega) (by omega)
 have CNH:=hide CN;have SH:=hide (And.intro sf lb2);have kd:W.drew.cell? ⟨f,2,none⟩=some (.int .i64 (sn:Int)):=c2
 by_cases q:keep<0
 · have qa : ¬ ((bn:Int)-(sn:Int)<0):=by omega
   clear sf lb2 cn CN
   go_enter Tryz.func28, Tryz.ntmps28
   go_upto_region 0 with fail
   refine wp_region_held_drew (S:=λ V=>V.cell? ⟨f,2,none⟩=some (.int .i64 (sn:Int))) (by kernel_rfl) kd (λ hHeld => ?_);refine take_lg (i:=0) (d:=some 4) (v := ?v1) rfl rfl (by kernel_rfl) (by kernel_rfl) (by kernel_rfl) (λ _ _ _ h=>h) (Or.inl ⟨by rfl, ?h1⟩) (by assumption) ?r1
   case h1=>(intro V hSw;go_simp;(try with_reducible rfl))
   simp only [Act.put,List.setIfInBounds_toArray,List.set_cons_zero,List.set_cons_succ];refine take_lg (i:=1) (d:=some 5) (v := ?v2) rfl rfl (by kernel_rfl) (by kernel_rfl) (by kernel_rfl) (λ _ _ _ h=>h) (Or.inl ⟨by rfl, ?h2⟩) (by assumption) ?r2
   case h2=>(intro V hSw;go_simp;(try with_reducible rfl))
   simp only [Act.put,List.setIfInBounds_toArray,List.set_cons_zero,List.set_cons_succ];refine take_lg (i:=2) (d:=some 6) (v := ?v3) rfl rfl (by kernel_rfl) (by kernel_rfl) (by kernel_rfl) (λ _ _ _ h=>h) (Or.inl ⟨by rfl, ?h3⟩) (by assumption) ?r3
   case h3=>(intro V hSw;go_simp;(try with_reducible rfl))
   simp only [Act.put,List.setIfInBounds_toArray,List.set_cons_zero,List.set_cons_succ];refine take_lg (i:=3) (d:=some 7) (v := ?v4) rfl rfl (by kernel_rfl) (by kernel_rfl) (by kernel_rfl) (λ _ _ _ h=>h) (Or.inl ⟨by rfl, ?h4⟩) (by assumption) ?r4
   case h4=>(intro V hSw;go_simp;(try with_reducible rfl))
   simp only [Act.put,List.setIfInBounds_toArray,List.set_cons_zero,List.set_cons_succ];refine take_lg (i:=4) (d:=some 8) (v := ?v5) rfl rfl (by kernel_rfl) (by kernel_rfl) (by kernel_rfl) (λ _ _ _ h=>h) (Or.inl ⟨by rfl, ?h5⟩) (by assumption) ?r5
   case h5=>(intro V hSw;go_simp;(try with_reducible rfl))
   simp only [Act.put,List.setIfInBounds_toArray,List.set_cons_zero,List.set_cons_succ];refine take_lg (i:=5) (d:=some 9) (v := ?v6) rfl rfl (by kernel_rfl) (by kernel_rfl) (by kernel_rfl) (λ _ _ _ h=>h) (Or.inl ⟨by rfl, ?h6⟩) (by assumption) ?r6
   case h6=>(intro V hSw;go_simp;(try with_reducible rfl))
   simp only [Act.put,List.setIfInBounds_toArray,List.set_cons_zero,List.set_cons_succ];refine take_lg (i:=6) (d:=some 10) (v := ?v7) rfl rfl (by kernel_rfl) (by kernel_rfl) (by kernel_rfl) (λ _ _ _ h=>h) (Or.inl ⟨by rfl, ?h7⟩) (by assumption) ?r7
   case h7=>(intro V hSw;go_simp;(try with_reducible rfl))
   simp only [Act.put,List.setIfInBounds_toArray,List.set_cons_zero,List.set_cons_succ];refine take_lg (i:=7) (d:=some 11) (v := ?v8) rfl rfl (by kernel_rfl) (by kernel_rfl) (by kernel_rfl) (λ _ _ _ h=>h) (Or.inl ⟨by rfl, ?h8⟩) (by assumption) ?r8
   case h8=>(intro V hSw;go_simp;(try with_reducible rfl))
   simp only [Act.put,List.setIfInBounds_toArray,List.set_cons_zero,List.set_cons_succ];refine take_lg (i:=8) (d:=some 12) (v := ?v9) rfl rfl (by kernel_rfl) (by kernel_rfl) (by kernel_rfl) (λ _ _ _ h=>h) (Or.inl ⟨by rfl, ?h9⟩) (by assumption) ?r9
   case h9=>(intro V hSw;go_simp;(try with_reducible rfl))
   simp only [Act.put,List.setIfInBounds_toArray,List.set_cons_zero,List.set_cons_succ];refine take_lg (i:=9) (d:=some 13) (v := ?v10) rfl rfl (by kernel_rfl) (by kernel_rfl) (by kernel_rfl) (λ _ _ _ h=>h) (Or.inl ⟨by rfl, ?h10⟩) (by assumption) ?r10
   case h10=>(intro V hSw;go_simp;(try with_reducible rfl))
   simp only [Act.put,List.setIfInBounds_toArray,List.set_cons_zero,List.set_cons_succ];refine take_lg (i:=12) (d:=some 16) (v := ?v11) rfl rfl (by kernel_rfl) (by kernel_rfl) (by kernel_rfl) (λ _ _ _ h=>h) (Or.inl ⟨by rfl, ?h11⟩) (by assumption) ?r11
   case h11=>(intro V hSw;go_simp;(try with_reducible rfl))
   simp only [Act.put,List.setIfInBounds_toArray,List.set_cons_zero,List.set_cons_succ];refine take_lg (i:=13) (d:=some 17) (v := ?v12) rfl rfl (by kernel_rfl) (by kernel_rfl) (by kernel_rfl) (λ _ _ _ h=>h) (Or.inl ⟨by rfl, ?h12⟩) (by assumption) ?r12
   case h12=>(intro V hSw;go_simp;(try with_reducible rfl))
   simp only [Act.put,List.setIfInBounds_toArray,List.set_cons_zero,List.set_cons_succ];refine take_lg (i:=14) (d:=some 18) (v := ?v13) rfl rfl (by kernel_rfl) (by kernel_rfl) (by kernel_rfl) (λ _ _ _ h=>h) (Or.inl ⟨by rfl, ?h13⟩) (by assumption) ?r13
   case h13=>(intro V hSw;go_simp;(try with_reducible rfl))
   simp only [Act.put,List.setIfInBounds_toArray,List.set_cons_zero,List.set_cons_succ];refine take_lg (i:=15) (d:=some 19) (v := ?v14) rfl rfl (by kernel_rfl) (by kernel_rfl) (by kernel_rfl) (λ _ _ _ h=>h) (Or.inl ⟨by rfl, ?h14⟩) (by assumption) ?r14
   case h14=>(intro V hSw;go_simp;(try with_reducible rfl))
   simp only [Act.put,List.setIfInBounds_toArray,List.set_cons_zero,List.set_cons_succ];refine wpAnyH_ready (rs := [10]) (by kernel_rfl) (by simp) ?_;refine AllReadyH.cons rfl (λ K hK => ?_) AllReadyH.nil
   go_simp
   refine hK.out _ _ (by assumption) (λ hHeld4 => ?_);clear hK K hHeld4
   try simp only [Act.put,List.setIfInBounds_toArray,List.set_cons_zero,List.set_cons_succ]
   refine take_lg (i:=11) (d:=some 15) (v := ?v15) rfl rfl (by kernel_rfl) (by kernel_rfl) (by kernel_rfl) (λ _ _ _ h=>h) (Or.inl ⟨by rfl, ?h15⟩) (by assumption) ?r15
   case h15=>(intro V hSw;go_simp;(try with_reducible rfl))
   simp only [Act.put,List.setIfInBounds_toArray,List.set_cons_zero,List.set_cons_succ];refine take_lg (i:=16) (d:=some 20) (v := ?v16) rfl rfl (by kernel_rfl) (by kernel_rfl) (by kernel_rfl) (λ _ _ _ h=>h) (Or.inl ⟨by rfl, ?h16⟩) (by assumption) ?r16
   case h16=>(intro V hSw;go_simp;(try with_reducible rfl))
   simp only [Act.put,List.setIfInBounds_toArray,List.set_cons_zero,List.set_cons_succ];refine take_lg (i:=17) (d:=some 21) (v := ?v17) rfl rfl (by kernel_rfl) (by kernel_rfl) (by kernel_rfl) (λ _ _ _ h=>h) (Or.inl ⟨by rfl, ?h17⟩) (by assumption) ?r17
   case h17=>(intro V hSw;go_simp;(try with_reducible rfl))
   simp only [Act.put,List.setIfInBounds_toArray,List.set_cons_zero,List.set_cons_succ];refine take_lg (i:=18) (d:=some 22) (v := ?v18) rfl rfl (by kernel_rfl) (by kernel_rfl) (by kernel_rfl) (λ _ _ _ h=>h) (Or.inl ⟨by rfl, ?h18⟩) (by assumption) ?r18
   case h18=>(intro V hSw;go_simp;(try with_reducible rfl))
   simp only [Act.put,List.setIfInBounds_toArray,List.set_cons_zero,List.set_cons_succ];refine wpAnyH_ready (rs := [19]) (by kernel_rfl) (by simp) ?_;refine AllReadyH.cons rfl (λ K hK => ?_) AllReadyH.nil
   go_simp
   go_at_call 56
   refine (CT.out _ ?hx).mono ?_
   case hx=>(have h1:=CNH.out;have h2:=SH.out;first | (refine WX.out _ ?_;omega) | omega)
   rintro e w1 ⟨rfl,h1,s1⟩;obtain ⟨bl,e0,e2,z2,⟨u3,e3⟩,z3,⟨u4,e4⟩,z4,p1,p2⟩:=PU.out w1 h1 s1;have P1:=hide p1;have P2:=hide p2;clear h1 s1 p1 p2
   try go_wp2_with fail
   refine hK.out _ _ (by assumption) (λ hHeld3 => ?_);clear hK K
   try simp only [Act.put,List.setIfInBounds_toArray,List.set_cons_zero,List.set_cons_succ]
   refine wpAnyH_done (by kernel_rfl) ?_ _
   go_wp2
   go_end0
   exact ⟨rfl,P1.out,P2.out⟩
 · by_cases q2:(bn:Int)-(sn:Int)<keep
   · clear sf lb2 cn CN
     go_enter Tryz.func28, Tryz.ntmps28
     go_upto_region 0 with fail
     refine wp_region_held_drew (S:=λ V=>V.cell? ⟨f,2,none⟩=some (.int .i64 (sn:Int))) (by kernel_rfl) kd (λ hHeld => ?_);refine take_lg (i:=0) (d:=some 4) (v := ?v19) rfl rfl (by kernel_rfl) (by kernel_rfl) (by kernel_rfl) (λ _ _ _ h=>h) (Or.inl ⟨by rfl, ?h19⟩) (by assumption) ?r19
     case h19=>(intro V hSw;go_simp;(try with_reducible rfl))
     simp only [Act.put,List.setIfInBounds_toArray,List.set_cons_zero,List.set_cons_succ];refine take_lg (i:=1) (d:=some 5) (v := ?v20) rfl rfl (by kernel_rfl) (by kernel_rfl) (by kernel_rfl) (λ _ _ _ h=>h) (Or.inl ⟨by rfl, ?h20⟩) (by assumption) ?r20
     case h20=>(intro V hSw;go_simp;(try with_reducible rfl))
     simp only [Act.put,List.setIfInBounds_toArray,List.set_cons_zero,List.set_cons_succ];refine take_lg (i:=2) (d:=some 6) (v := ?v21) rfl rfl (by kernel_rfl) (by kernel_rfl) (by kernel_rfl) (λ _ _ _ h=>h) (Or.inl ⟨by rfl, ?h21⟩) (by assumption) ?r21
     case h21=>(intro V hSw;go_simp;(try with_reducible rfl))
     simp only [Act.put,List.setIfInBounds_toArray,List.set_cons_zero,List.set_cons_succ];refine take_lg (i:=3) (d:=some 7) (v := ?v22) rfl rfl (by kernel_rfl) (by kernel_rfl) (by kernel_rfl) (λ _ _ _ h=>h) (Or.inl ⟨by rfl, ?h22⟩) (by assumption) ?r22
     case h22=>(intro V hSw;go_simp;(try with_reducible rfl))
     simp only [Act.put,List.setIfInBounds_toArray,List.set_cons_zero,List.set_cons_succ];refine take_lg (i:=4) (d:=some 8) (v := ?v23) rfl rfl (by kernel_rfl) (by kernel_rfl) (by kernel_rfl) (λ _ _ _ h=>h) (Or.inl ⟨by rfl, ?h23⟩) (by assumption) ?r23
     case h23=>(intro V hSw;go_simp;(try with_reducible rfl))
     simp only [Act.put,List.setIfInBounds_toArray,List.set_cons_zero,List.set_cons_succ];refine take_lg (i:=5) (d:=some 9) (v := ?v24) rfl rfl (by kernel_rfl) (by kernel_rfl) (by kernel_rfl) (λ _ _ _ h=>h) (Or.inl ⟨by rfl, ?h24⟩) (by assumption) ?r24
     case h24=>(intro V hSw;go_simp;(try with_reducible rfl))
     simp only [Act.put,List.setIfInBounds_toArray,List.set_cons_zero,List.set_cons_succ];refine take_lg (i:=6) (d:=some 10) (v := ?v25) rfl rfl (by kernel_rfl) (by kernel_rfl) (by kernel_rfl) (λ _ _ _ h=>h) (Or.inl ⟨by rfl, ?h25⟩) (by assumption) ?r25
     case h25=>(intro V hSw;go_simp;(try with_reducible rfl))
     simp only [Act.put,List.setIfInBounds_toArray,List.set_cons_zero,List.set_cons_succ];refine take_lg (i:=7) (d:=some 11) (v := ?v26) rfl rfl (by kernel_rfl) (by kernel_rfl) (by kernel_rfl) (λ _ _ _ h=>h) (Or.inl ⟨by rfl, ?h26⟩) (by assumption) ?r26
     case h26=>(intro V hSw;go_simp;(try with_reducible rfl))
     simp only [Act.put,List.setIfInBounds_toArray,List.set_cons_zero,List.set_cons_succ];refine take_lg (i:=8) (d:=some 12) (v := ?v27) rfl rfl (by kernel_rfl) (by kernel_rfl) (by kernel_rfl) (λ _ _ _ h=>h) (Or.inl ⟨by rfl, ?h27⟩) (by assumption) ?r27
     case h27=>(intro V hSw;go_simp;(try with_reducible rfl))
     simp only [Act.put,List.setIfInBounds_toArray,List.set_cons_zero,List.set_cons_succ];refine take_lg (i:=9) (d:=some 13) (v := ?v28) rfl rfl (by kernel_rfl) (by kernel_rfl) (by kernel_rfl) (λ _ _ _ h=>h) (Or.inl ⟨by rfl, ?h28⟩) (by assumption) ?r28
     case h28=>(intro V hSw;go_simp;(try with_reducible rfl))
     simp only [Act.put,List.setIfInBounds_toArray,List.set_cons_zero,List.set_cons_succ];refine take_lg (i:=12) (d:=some 16) (v := ?v29) rfl rfl (by kernel_rfl) (by kernel_rfl) (by kernel_rfl) (λ _ _ _ h=>h) (Or.inl ⟨by rfl, ?h29⟩) (by assumption) ?r29
     case h29=>(intro V hSw;go_simp;(try with_reducible rfl))
     simp only [Act.put,List.setIfInBounds_toArray,List.set_cons_zero,List.set_cons_succ];refine take_lg (i:=13) (d:=some 17) (v := ?v30) rfl rfl (by kernel_rfl) (by kernel_rfl) (by kernel_rfl) (λ _ _ _ h=>h) (Or.inl ⟨by rfl, ?h30⟩) (by assumption) ?r30
     case h30=>(intro V hSw;go_simp;(try with_reducible rfl))
     simp only [Act.put,List.setIfInBounds_toArray,List.set_cons_zero,List.set_cons_succ];refine take_lg (i:=14) (d:=some 18) (v := ?v31) rfl rfl (by kernel_rfl) (by kernel_rfl) (by kernel_rfl) (λ _ _ _ h=>h) (Or.inl ⟨by rfl, ?h31⟩) (by assumption) ?r31
     case h31=>(intro V hSw;go_simp;(try with_reducible rfl))
     simp only [Act.put,List.setIfInBounds_toArray,List.set_cons_zero,List.set_cons_succ];refine take_lg (i:=15) (d:=some 19) (v := ?v32) rfl rfl (by kernel_rfl) (by kernel_rfl) (by kernel_rfl) (λ _ _ _ h=>h) (Or.inl ⟨by rfl, ?h32⟩) (by assumption) ?r32
     case h32=>(intro V hSw;go_simp;(try with_reducible rfl))
     simp only [Act.put,List.setIfInBounds_toArray,List.set_cons_zero,List.set_cons_succ];refine wpAnyH_ready (rs := [10]) (by kernel_rfl) (by simp) ?_;refine AllReadyH.cons rfl (λ K hK => ?_) AllReadyH.nil
     go_simp
     refine hK.out _ _ (by assumption) (λ hHeld4 => ?_);clear hK K hHeld4
     try simp only [Act.put,List.setIfInBounds_toArray,List.set_cons_zero,List.set_cons_succ]
     refine take_lg (i:=11) (d:=some 15) (v := ?v33) rfl rfl (by kernel_rfl) (by kernel_rfl) (by kernel_rfl) (λ _ _ _ h=>h) (Or.inl ⟨by rfl, ?h33⟩) (by assumption) ?r33
     case h33=>(intro V hSw;go_simp;(try with_reducible rfl))
     simp only [Act.put,List.setIfInBounds_toArray,List.set_cons_zero,List.set_cons_succ];refine take_lg (i:=16) (d:=some 20) (v := ?v34) rfl rfl (by kernel_rfl) (by kernel_rfl) (by kernel_rfl) (λ _ _ _ h=>h) (Or.inl ⟨by rfl, ?h34⟩) (by assumption) ?r34
     case h34=>(intro V hSw;go_simp;(try with_reducible rfl))
     simp only [Act.put,List.setIfInBounds_toArray,List.set_cons_zero,List.set_cons_succ];refine take_lg (i:=17) (d:=some 21) (v := ?v35) rfl rfl (by kernel_rfl) (by kernel_rfl) (by kernel_rfl) (λ _ _ _ h=>h) (Or.inl ⟨by rfl, ?h35⟩) (by assumption) ?r35
     case h35=>(intro V hSw;go_simp;(try with_reducible rfl))
     simp only [Act.put,List.setIfInBounds_toArray,List.set_cons_zero,List.set_cons_succ];refine take_lg (i:=18) (d:=some 22) (v := ?v36) rfl rfl (by kernel_rfl) (by kernel_rfl) (by kernel_rfl) (λ _ _ _ h=>h) (Or.inl ⟨by rfl, ?h36⟩) (by assumption) ?r36
     case h36=>(intro V hSw;go_simp;(try with_reducible rfl))
     simp only [Act.put,List.setIfInBounds_toArray,List.set_cons_zero,List.set_cons_succ];refine wpAnyH_ready (rs := [19]) (by kernel_rfl) (by simp) ?_;refine AllReadyH.cons rfl (λ K hK => ?_) AllReadyH.nil
     go_simp
     go_at_call 56
     refine (CT.out _ ?hx).mono ?_
     case hx=>(have h1:=CNH.out;have h2:=SH.out;first | (refine WX.out _ ?_;omega) | omega)
     rintro e w1 ⟨rfl,h1,s1⟩;obtain ⟨bl,e0,e2,z2,⟨u3,e3⟩,z3,⟨u4,e4⟩,z4,p1,p2⟩:=PU.out w1 h1 s1;have P1:=hide p1;have P2:=hide p2;clear h1 s1 p1 p2
     try go_wp2_with fail
     refine hK.out _ _ (by assumption) (λ hHeld3 => ?_);clear hK K
     try simp only [Act.put,List.setIfInBounds_toArray,List.set_cons_zero,List.set_cons_succ]
     refine wpAnyH_done (by kernel_rfl) ?_ _
     go_wp2
     go_end0
     exact ⟨rfl,P1.out,P2.out⟩
   · clear sf lb2 cn CN
     go_enter Tryz.func28, Tryz.ntmps28
     go_upto_region 0 with fail
     refine wp_region_held_drew (S:=λ V=>V.cell? ⟨f,2,none⟩=some (.int .i64 (sn:Int))) (by kernel_rfl) kd (λ hHeld => ?_);refine take_lg (i:=0) (d:=some 4) (v := ?v37) rfl rfl (by kernel_rfl) (by kernel_rfl) (by kernel_rfl) (λ _ _ _ h=>h) (Or.inl ⟨by rfl, ?h37⟩) (by assumption) ?r37
     case h37=>(intro V hSw;go_simp;(try with_reducible rfl))
     simp only [Act.put,List.setIfInBounds_toArray,List.set_cons_zero,List.set_cons_succ];refine take_lg (i:=1) (d:=some 5) (v := ?v38) rfl rfl (by kernel_rfl) (by kernel_rfl) (by kernel_rfl) (λ _ _ _ h=>h) (Or.inl ⟨by rfl, ?h38⟩) (by assumption) ?r38
     case h38=>(intro V hSw;go_simp;(try with_reducible rfl))
     simp only [Act.put,List.setIfInBounds_toArray,List.set_cons_zero,List.set_cons_succ];refine take_lg (i:=2) (d:=some 6) (v := ?v39) rfl rfl (by kernel_rfl) (by kernel_rfl) (by kernel_rfl) (λ _ _ _ h=>h) (Or.inl ⟨by rfl, ?h39⟩) (by assumption) ?r39
     case h39=>(intro V hSw;go_simp;(try with_reducible rfl))
     simp only [Act.put,List.setIfInBounds_toArray,List.set_cons_zero,List.set_cons_succ];refine take_lg (i:=3) (d:=some 7) (v := ?v40) rfl rfl (by kernel_rfl) (by kernel_rfl) (by kernel_rfl) (λ _ _ _ h=>h) (Or.inl ⟨by rfl, ?h40⟩) (by assumption) ?r40
     case h40=>(intro V hSw;go_simp;(try with_reducible rfl))
     simp only [Act.put,List.setIfInBounds_toArray,List.set_cons_zero,List.set_cons_succ];refine take_lg (i:=4) (d:=some 8) (v := ?v41) rfl rfl (by kernel_rfl) (by kernel_rfl) (by kernel_rfl) (λ _ _ _ h=>h) (Or.inl ⟨by rfl, ?h41⟩) (by assumption) ?r41
     case h41=>(intro V hSw;go_simp;(try with_reducible rfl))
     simp only [Act.put,List.setIfInBounds_toArray,List.set_cons_zero,List.set_cons_succ];refine take_lg (i:=5) (d:=some 9) (v := ?v42) rfl rfl (by kernel_rfl) (by kernel_rfl) (by kernel_rfl) (λ _ _ _ h=>h) (Or.inl ⟨by rfl, ?h42⟩) (by assumption) ?r42
     case h42=>(intro V hSw;go_simp;(try with_reducible rfl))
     simp only [Act.put,List.setIfInBounds_toArray,List.set_cons_zero,List.set_cons_succ];refine take_lg (i:=6) (d:=some 10) (v := ?v43) rfl rfl (by kernel_rfl) (by kernel_rfl) (by kernel_rfl) (λ _ _ _ h=>h) (Or.inl ⟨by rfl, ?h43⟩) (by assumption) ?r43
     case h43=>(intro V hSw;go_simp;(try with_reducible rfl))
     simp only [Act.put,List.setIfInBounds_toArray,List.set_cons_zero,List.set_cons_succ];refine take_lg (i:=7) (d:=some 11) (v := ?v44) rfl rfl (by kernel_rfl) (by kernel_rfl) (by kernel_rfl) (λ _ _ _ h=>h) (Or.inl ⟨by rfl, ?h44⟩) (by assumption) ?r44
     case h44=>(intro V hSw;go_simp;(try with_reducible rfl))
     simp only [Act.put,List.setIfInBounds_toArray,List.set_cons_zero,List.set_cons_succ];refine take_lg (i:=8) (d:=some 12) (v := ?v45) rfl rfl (by kernel_rfl) (by kernel_rfl) (by kernel_rfl) (λ _ _ _ h=>h) (Or.inl ⟨by rfl, ?h45⟩) (by assumption) ?r45
     case h45=>(intro V hSw;go_simp;(try with_reducible rfl))
     simp only [Act.put,List.setIfInBounds_toArray,List.set_cons_zero,List.set_cons_succ];refine take_lg (i:=9) (d:=some 13) (v := ?v46) rfl rfl (by kernel_rfl) (by kernel_rfl) (by kernel_rfl) (λ _ _ _ h=>h) (Or.inl ⟨by rfl, ?h46⟩) (by assumption) ?r46
     case h46=>(intro V hSw;go_simp;(try with_reducible rfl))
     simp only [Act.put,List.setIfInBounds_toArray,List.set_cons_zero,List.set_cons_succ];refine take_lg (i:=12) (d:=some 16) (v := ?v47) rfl rfl (by kernel_rfl) (by kernel_rfl) (by kernel_rfl) (λ _ _ _ h=>h) (Or.inl ⟨by rfl, ?h47⟩) (by assumption) ?r47
     case h47=>(intro V hSw;go_simp;(try with_reducible rfl))
     simp only [Act.put,List.setIfInBounds_toArray,List.set_cons_zero,List.set_cons_succ];refine take_lg (i:=13) (d:=some 17) (v := ?v48) rfl rfl (by kernel_rfl) (by kernel_rfl) (by kernel_rfl) (λ _ _ _ h=>h) (Or.inl ⟨by rfl, ?h48⟩) (by assumption) ?r48
     case h48=>(intro V hSw;go_simp;(try with_reducible rfl))
     simp only [Act.put,List.setIfInBounds_toArray,List.set_cons_zero,List.set_cons_succ];refine take_lg (i:=14) (d:=some 18) (v := ?v49) rfl rfl (by kernel_rfl) (by kernel_rfl) (by kernel_rfl) (λ _ _ _ h=>h) (Or.inl ⟨by rfl, ?h49⟩) (by assumption) ?r49
     case h49=>(intro V hSw;go_simp;(try with_reducible rfl))
     simp only [Act.put,List.setIfInBounds_toArray,List.set_cons_zero,List.set_cons_succ];refine take_lg (i:=15) (d:=some 19) (v := ?v50) rfl rfl (by kernel_rfl) (by kernel_rfl) (by kernel_rfl) (λ _ _ _ h=>h) (Or.inl ⟨by rfl, ?h50⟩) (by assumption) ?r50
     case h50=>(intro V hSw;go_simp;(try with_reducible rfl))
     simp only [Act.put,List.setIfInBounds_toArray,List.set_cons_zero,List.set_cons_succ];refine wpAnyH_ready (rs := [10]) (by kernel_rfl) (by simp) ?_;refine AllReadyH.cons rfl (λ K hK => ?_) AllReadyH.nil
     go_simp
     refine hK.out _ _ (by assumption) (λ hHeld4 => ?_);clear hK K hHeld4
     try simp only [Act.put,List.setIfInBounds_toArray,List.set_cons_zero,List.set_cons_succ]
     refine take_lg (i:=11) (d:=some 15) (v := ?v51) rfl rfl (by kernel_rfl) (by kernel_rfl) (by kernel_rfl) (λ _ _ _ h=>h) (Or.inl ⟨by rfl, ?h51⟩) (by assumption) ?r51
     case h51=>(intro V hSw;go_simp;(try with_reducible rfl))
     simp only [Act.put,List.setIfInBounds_toArray,List.set_cons_zero,List.set_cons_succ];refine take_lg (i:=16) (d:=some 20) (v := ?v52) rfl rfl (by kernel_rfl) (by kernel_rfl) (by kernel_rfl) (λ _ _ _ h=>h) (Or.inl ⟨by rfl, ?h52⟩) (by assumption) ?r52
     case h52=>(intro V hSw;go_simp;(try with_reducible rfl))
     simp only [Act.put,List.setIfInBounds_toArray,List.set_cons_zero,List.set_cons_succ];refine take_lg (i:=17) (d:=some 21) (v := ?v53) rfl rfl (by kernel_rfl) (by kernel_rfl) (by kernel_rfl) (λ _ _ _ h=>h) (Or.inl ⟨by rfl, ?h53⟩) (by assumption) ?r53
     case h53=>(intro V hSw;go_simp;(try with_reducible rfl))
     simp only [Act.put,List.setIfInBounds_toArray,List.set_cons_zero,List.set_cons_succ];refine take_lg (i:=18) (d:=some 22) (v := ?v54) rfl rfl (by kernel_rfl) (by kernel_rfl) (by kernel_rfl) (λ _ _ _ h=>h) (Or.inl ⟨by rfl, ?h54⟩) (by assumption) ?r54
     case h54=>(intro V hSw;go_simp;(try with_reducible rfl))
     simp only [Act.put,List.setIfInBounds_toArray,List.set_cons_zero,List.set_cons_succ];refine wpAnyH_ready (rs := [19]) (by kernel_rfl) (by simp) ?_;refine AllReadyH.cons rfl (λ K hK => ?_) AllReadyH.nil
     go_simp
     go_at_call 56
     refine (CT.out _ ?hx).mono ?_
     case hx=>(have h1:=CNH.out;have h2:=SH.out;first | (refine WX.out _ ?_;omega) | omega)
     rintro e w1 ⟨rfl,h1,s1⟩;obtain ⟨bl,e0,e2,z2,⟨u3,e3⟩,z3,⟨u4,e4⟩,z4,p1,p2⟩:=PU.out w1 h1 s1;have P1:=hide p1;have P2:=hide p2;clear h1 s1 p1 p2
     try go_wp2_with fail
     refine hK.out _ _ (by assumption) (λ hHeld3 => ?_);clear hK K
     try simp only [Act.put,List.setIfInBounds_toArray,List.set_cons_zero,List.set_cons_succ]
     refine wpAnyH_done (by kernel_rfl) ?_ _
     go_wp2
     go_end0
     exact ⟨rfl,P1.out,P2.out⟩
end Go.Proofs.YtaijnacghiloaaaGreatDoor
