import Derived.Test.YtaijnacghiloaaaGreatDoorRunT7
import Derived.Test.YtaijnacghiloaaaGreatDoorRunT12
import Derived.Test.YtaijnacghiloaaaGreatDoorRunT1
import Derived.Deep.Cut
import Derived.OwnWalk
import Derived.BigQuiet
import Derived.Deep.QuietTactic
import Derived.Test.YtaijnacghiloaaaGreatDoorRunT8
import Derived.Test.YtaijnacghiloaaaGreatDoorRunT11
import Derived.Test.YtaijnacghiloaaaGreatDoorRunT4
import Derived.Deep.RegionHeld3
import Derived.RegionTactic
namespace Go.Proofs.YtaijnacghiloaaaGreatDoor.M
set_option linter.unusedVariables false
theorem nd_short (n:Nd):(ndL n).length<=5:=by
 unfold ndL
 split <;> simp
theorem nds_short:∀ l:List Nd,(l.flatMap ndL).length<=l.length*5
 | []=>Nat.le_refl _
 | n :: l=>by
   have:=nd_short n;have:=nds_short l;rw [List.flatMap_cons,List.length_append,List.length_cons];omega
theorem trs_short {k:Nat}:∀ {t:List (Int×List Nd)},(∀ x∈t,x.2.length<=k)->(t.flatMap trL).length<=t.length*(2+k*5)
 | [],_=>Nat.zero_le _
 | x :: t,h=>by
   have i:=trs_short (t:=t) λy hy=>h y (List.mem_cons_of_mem _ hy);have a:=nds_short x.2;have b:=h x (List.mem_cons_self ..)
   have e:(trL x).length=2+(x.2.flatMap ndL).length:=by unfold trL;simp only [List.length_cons];omega
   rw [List.flatMap_cons,List.length_append,List.length_cons,e,Nat.succ_mul];omega
theorem boo_short {l:List Sa} {m r d s:Int} (h:booF l m r d s=0) (hr:r<=2) (hd:d<=2):encF (booG l m r d s)=0:=by
 obtain ⟨h1,r0,r8,d1,d4,s1,s2⟩:=boo_ok h;obtain ⟨I,B⟩:=boo_inv h
 have eg:booG l m r d s=boG m (booS l m r d s).1:=by unfold booG;rw [if_pos h]
 have gz:groveF (booG l m r d s)=0:=(boo_rest h).2.2.2;have G:=(good_iff _).1 gz
 have ll:(booS l m r d s).1.length<=3:=by have:=I.tk;omega
 have p:2 ^ (d.toNat+1)<=2 ^ 3:=Nat.pow_le_pow_right (by decide) (by omega)
 have each:∀ t∈gt (booG l m r d s),t.length<=7:=λt ht=>by
  rw [eg] at ht;obtain ⟨T,hT,e⟩:=List.mem_map.1 (show t∈((booS l m r d s).1).map (boL (booS l m r d s).1.length) from ht);have:=(I.each T hT).2.2.2;rw [←e];unfold boL;rw [lay_len,sc_size];omega
 have gl:(gt (booG l m r d s)).length<=3:=by
  rw [eg];show (((booS l m r d s).1).map _).length<=3;rw [List.length_map];exact ll
 have zl:((gs (booG l m r d s)).zip (gt (booG l m r d s))).length<=3:=by rw [List.length_zip];omega
 have t1:=trs_short (k:=7) (t:=(gs (booG l m r d s)).zip (gt (booG l m r d s))) λx hx=>each _ (List.of_mem_zip (a:=x.1) (b:=x.2) hx).2
 have gr:(grL (booG l m r d s)).length<=114:=by
  unfold grL;simp only [List.length_cons];have:((gs (booG l m r d s)).zip (gt (booG l m r d s))).length*(2+7*5)<=3*(2+7*5):=Nat.mul_le_mul_right _ zl;omega
 have f1:I64 (gf (booG l m r d s))/\I64 (gw (booG l m r d s)):=by
  rw [eg];have a:=B.m0;have b:=B.m8
  refine ⟨?_,?_⟩
  · show I64 m;unfold I64;omega
  · show I64 2;unfold I64;omega
 have bl:=bys_len _ (gr_in f1 (zip_ok G) (by omega));unfold encF;rw [if_neg (by rw [gz];simp),if_neg (by unfold encB;omega)]
end Go.Proofs.YtaijnacghiloaaaGreatDoor.M

namespace Go.Proofs.YtaijnacghiloaaaGreatDoor
open Go.ChangeShapes Go.WideShapes Go.ChangeAt Go.RowKit Go.Lib
set_option linter.unusedVariables false
set_option maxHeartbeats 4000000 in
set_option maxRecDepth 10000 in
theorem bsq_any (a:Option Addr) (xs:List Int) (ca:Nat) (w:World) (h:Rd w a xs) (hl:xs.length<=1000) :
 Calls Tryz.prog 75 #[.slice a xs.length ca] w λe w'=>e = .returned (.int .i64 (M.sqF xs))/\Below w.heap.size w w':=by
 have HR:=hide h;obtain ⟨i0,hi,hz0,hz1,hz2⟩:=info_parts info3;have I0:=hide hi;have LL:Hid ((xs.map λx=>M.mulI x x).length=xs.length):=List.length_map ..
 have LA:Hid (∀ k,k<xs.length->(xs.map λx=>M.mulI x x).getD k 0=M.mulI (xs.getD k 0) (xs.getD k 0)):=λk hk=>by
  rw [M.getD_at (by simpa using hk),List.getElem_map,M.getD_at hk]
 have E0:Hid (M.sqF xs=M.totalI (xs.map λx=>M.mulI x x)):=rfl;clear h hi;rw [E0.out];generalize (xs.map λx=>M.mulI x x)=QS at *
 go_enter Tryz.func75,Tryz.ntmps75
 go_wp2_with (at_make;refine wpList_make_full _ rfl (.tmp 7) (.tmp 7) 24 rfl w.heap.size 3 i0 (.int .i64 0) 1 Tryz.underlying24 I0.out hz0 hz1 .i64 .i64 _ _ xs.length rfl rfl (by omega) (by omega) (by rw [hz2];omega) (by unfold maxLen;omega) (Nat.le_refl _) ?_;intro w3 hown hgrow)
 rw [made] at hown;have hb3:Hid (Below w.heap.size w w3):=(Below.refl _ w).grown hgrow (Nat.le_refl _) (λk hk=>by cases hk)
 have HO:Hid (w3.ownsRow w.heap.size 3 1 (.slice (some ⟨w.heap.size,0,none⟩) xs.length xs.length) xs.length ((M.fillK QS 0).map (Value.int .i64))):=by
  unfold Hid;rw [M.fillK_zero,LL.out];exact hown
 clear hown hgrow I0 hz0 hz1 hz2
 go_loopw [11] (λi wr=>∃ k:Nat,k<=xs.length/\i = .int .i64 k/\Hid (wr.ownsRow w.heap.size 3 1 (.slice (some ⟨w.heap.size,0,none⟩) xs.length xs.length) xs.length ((M.fillK QS k).map (Value.int .i64)))/\Hid (Below w.heap.size w wr)) (λi _=>xs.length-(intOf i).toNat)
 case atStart=>exact ⟨0,Nat.zero_le _,rfl,HO,hb3⟩
 case round =>
  clear HO hb3;obtain ⟨k,hk,rfl,HO,K⟩:=hrel
  by_cases hlt:k<xs.length
  · obtain ⟨b,off,rfl,hb,hc⟩:=(HR.out.below K.out).2 (by intro e;rw [e] at hlt;simp at hlt)
    have hx:=hc k hlt
    have kz:(k:Int)<(xs.length:Int):=by omega
    have hkL:k<QS.length:=by rw [LL.out];exact hlt
    have RR:=hide (fillK_own hkL HO.out);obtain ⟨zz,cc⟩:=fillK_cell hkL LL.out HO.out;have fz:=HO.out.frozenAt k;rw [LA.out k hlt] at RR;have MU:=hide (xsq_any (xs.getD k 0));have KB:Hid (∀ v,Below w.heap.size w (wr.setCell ⟨w.heap.size,k,none⟩ v)):=λv=>K.out.setCell (p:=⟨w.heap.size,k,none⟩) (Nat.le_refl _) v;clear hc HO LA;generalize M.mulI (xs.getD k 0) (xs.getD k 0)=z at *;generalize xs.getD k 0=x at *
    go_wp2_with (go_at_call 120;refine (MU.out _).mono ?_;rintro e w1 ⟨rfl,e1⟩;have e2:=e1.symm;subst e2)
    go_roundw
    case rel=>exact ⟨k+1,by omega,by go_num,RR,KB.out _⟩
    case measure=>simp [intOf];omega
  · have ek:k=xs.length:=by omega
    have kz:¬ ((k:Int)<(xs.length:Int)):=by omega
    rw [show M.fillK QS k=QS by rw [ek,←LL.out];exact M.fillK_all QS] at HO
    have ho:wr.ownsRow w.heap.size 3 1 (.slice (some ⟨w.heap.size,0,none⟩) QS.length QS.length) QS.length (QS.map (Value.int .i64)):=by rw [LL.out];exact HO.out
    obtain ⟨pa,pc,hp1,hp2,_⟩:=own_rd ho;cases hp1;have T:=xtotal_any (some ⟨w.heap.size,0,none⟩) QS xs.length wr hp2;rw [LL.out] at T;have HT:=hide T;clear LA HO hp2 ek ho T
    go_wp2_with (go_at_call 80;refine HT.out.mono ?_;rintro e w1 ⟨rfl,e1⟩;have e2:=e1.symm;subst e2)
    go_ret
    exact ⟨rfl,K.out⟩
def tgs (xs:List Sx):List Int:=xs.map (·.2.2.2)
theorem tgs_len (xs:List Sx):(tgs xs).length=xs.length:=by simp [tgs]
theorem tgs_at (xs:List Sx) {k:Nat} (h:k<xs.length):(tgs xs).getD k 0=xs[k].2.2.2:=by
 rw [M.getD_at (by rw [tgs_len];exact h)];simp [tgs]
set_option maxHeartbeats 4000000 in
set_option maxRecDepth 10000 in
theorem btgt_any (a:Option Addr) (xs:List Sx) (ca:Nat) (w:World) (h:RdL w a xs) (hl:xs.length<=1000) :
 Calls Tryz.prog 73 #[.slice a xs.length ca] w λe w'=>e = .returned (.slice (some ⟨w.heap.size,0,none⟩) xs.length xs.length)/\Rd w' (some ⟨w.heap.size,0,none⟩) (tgs xs)/\Below w.heap.size w w':=by
 have HR:=hide h;obtain ⟨i0,hi,hz0,hz1,hz2⟩:=info_parts info3;have I0:=hide hi;have LL:Hid ((tgs xs).length=xs.length):=tgs_len xs;have LA:Hid (∀ k (hk:k<xs.length),(tgs xs).getD k 0=xs[k].2.2.2):=λk hk=>tgs_at xs hk;clear h hi;generalize tgs xs=QS at *
 go_enter Tryz.func73,Tryz.ntmps73
 go_wp2_with (at_make;refine wpList_make_full _ rfl (.tmp 7) (.tmp 7) 24 rfl w.heap.size 3 i0 (.int .i64 0) 1 Tryz.underlying24 I0.out hz0 hz1 .i64 .i64 _ _ xs.length rfl rfl (by omega) (by omega) (by rw [hz2];omega) (by unfold maxLen;omega) (Nat.le_refl _) ?_;intro w3 hown hgrow)
 rw [made] at hown;have hb3:Hid (Below w.heap.size w w3):=(Below.refl _ w).grown hgrow (Nat.le_refl _) (λk hk=>by cases hk)
 have HO:Hid (w3.ownsRow w.heap.size 3 1 (.slice (some ⟨w.heap.size,0,none⟩) xs.length xs.length) xs.length ((M.fillK QS 0).map (Value.int .i64))):=by
  unfold Hid;rw [M.fillK_zero,LL.out];exact hown
 clear hown hgrow I0 hz0 hz1 hz2
 go_loopw [11] (λi wr=>∃ k:Nat,k<=xs.length/\i = .int .i64 k/\Hid (wr.ownsRow w.heap.size 3 1 (.slice (some ⟨w.heap.size,0,none⟩) xs.length xs.length) xs.length ((M.fillK QS k).map (Value.int .i64)))/\Hid (Below w.heap.size w wr)) (λi _=>xs.length-(intOf i).toNat)
 case atStart=>exact ⟨0,Nat.zero_le _,rfl,HO,hb3⟩
 case round =>
  clear HO hb3;obtain ⟨k,hk,rfl,HO,K⟩:=hrel
  by_cases hlt:k<xs.length
  · obtain ⟨b,off,rfl,hb,hc⟩:=(HR.out.below K.out).2.2 (by intro e;rw [e] at hlt;simp at hlt)
    obtain ⟨c0,c1⟩:=hc k hlt;unfold sxV at c0
    have kz:(k:Int)<(xs.length:Int):=by omega
    have hkL:k<QS.length:=by rw [LL.out];exact hlt
    have UA:Below wr.heap.size wr wr:=Below.refl _ wr;have RR:=hide (λW (hW:Below wr.heap.size wr W)=>fillK_own hkL (own_keep HO.out hW));have CC:=hide (λW (hW:Below wr.heap.size wr W)=>fillK_cell hkL LL.out (own_keep HO.out hW));have FZ:=hide (λW (hW:Below wr.heap.size wr W)=>(own_keep HO.out hW).frozenAt k);rw [LA.out k hlt] at RR;have KB:Hid (∀ W v,Below wr.heap.size wr W->Below w.heap.size w (W.setCell ⟨w.heap.size,k,none⟩ v)):=λW v hW=>(below_on K.out hW).setCell (p:=⟨w.heap.size,k,none⟩) (Nat.le_refl _) v;clear hc HO LA;generalize xs[k].2.2.2=t at *;generalize xs[k].2.1.length=rl at *;generalize xs[k].2.2.1=rc at *;generalize xs[k].1=ra at *
    go_upto_region 5 with fail
    obtain ⟨w5,hw5⟩:∃ W,W=wr.alloc (.cells #[.slice ra rl rc,.int .i64 t] 97):=⟨_,rfl⟩
    rw [←hw5]
    have B5:Hid (Below wr.heap.size wr w5):=by unfold Hid;rw [hw5];exact (Below.refl _ wr).alloc (Nat.le_refl _) _
    have y1:w5.cell? ⟨wr.heap.size,1,none⟩=some (.int .i64 t):=(new_kept hw5 (Below.refl _ _)).1 1 _ rfl;obtain ⟨zz,cc⟩:=CC.out w5 B5.out;have fz:=FZ.out w5 B5.out;have R5:=hide (RR.out w5 B5.out);clear hw5 c0 c1 UA CC FZ RR
    go_wp2
    go_roundw
    case rel=>exact ⟨k+1,by omega,by go_num,R5,KB.out _ _ B5.out⟩
    case measure=>simp [intOf];omega
  · have ek:k=xs.length:=by omega
    have kz:¬ ((k:Int)<(xs.length:Int)):=by omega
    rw [show M.fillK QS k=QS by rw [ek,←LL.out];exact M.fillK_all QS] at HO
    have ho:wr.ownsRow w.heap.size 3 1 (.slice (some ⟨w.heap.size,0,none⟩) QS.length QS.length) QS.length (QS.map (Value.int .i64)):=by rw [LL.out];exact HO.out
    obtain ⟨pa,pc,hp1,hp2,_⟩:=own_rd ho;cases hp1;have HP:=hide hp2;clear LA HO hp2 ek ho
    go_wp2
    go_ret
    exact ⟨rfl,HP.out,K.out⟩
theorem fitto_t (n:Int) (w:World) :
 Calls Tryz.prog 76 #[.int .i64 n,.int .i64 1000] w λe w'=>e = .returned (.int .i64 (M.fitT n))/\w'=w:=by
 rcases (show 1000<n∨n < -1000∨(-1000<=n/\n<=1000) from by omega) with h | h | ⟨h1,h2⟩
 · have E:Hid (1000=M.fitT n):=by unfold M.fitT;rw [if_pos h];exact rfl
   go_enter Tryz.func76,Tryz.ntmps76
   go_wp2
   go_ret
   exact ⟨ret_int E.out,rfl⟩
 · have E:Hid (-1000=M.fitT n):=by unfold M.fitT;rw [if_neg (by omega),if_pos h];exact rfl
   go_enter Tryz.func76,Tryz.ntmps76
   go_wp2
   go_ret
   exact ⟨ret_int E.out,rfl⟩
 · have E:Hid (n=M.fitT n):=by unfold M.fitT;rw [if_neg (by omega),if_neg (by omega)];exact rfl
   go_enter Tryz.func76,Tryz.ntmps76
   go_wp2
   go_ret
   exact ⟨ret_int E.out,rfl⟩
theorem fitto_in (n:Int) (w:World) (h1 : -1000000<=n) (h2:n<=1000000) :
 Calls Tryz.prog 76 #[.int .i64 n,.int .i64 1000000] w λe w'=>e = .returned (.int .i64 n)/\w'=w:=by
 go_enter Tryz.func76,Tryz.ntmps76
 go_wp2
 go_ret
 exact ⟨rfl,rfl⟩
set_option maxHeartbeats 4000000 in
set_option maxRecDepth 10000 in
theorem bleft_any (ta:Option Addr) (tn tc:Nat) (a ra:Option Addr) (xs:List Sx) (R V L:List Int) (ca rc:Nat) (w:World) (h:RdL w a xs) (hr:Rd w ra R) (hl:xs.length<=1000) (hR:R.length=xs.length) (hL:L.length=xs.length)
 (hv:∀ k,k<xs.length->L.getD k 0=R.getD k 0-V.getD k 0 /\ -1000000<=R.getD k 0/\R.getD k 0<=1000000 /\ -1000000<=V.getD k 0/\V.getD k 0<=1000000)
 (VC:∀ k (hk:k<xs.length) W,Below w.heap.size w W->Calls Tryz.prog 41 #[.slice ta tn tc,.slice xs[k].1 xs[k].2.1.length xs[k].2.2.1] W λe w'=>e = .returned (.tuple #[.int .i64 (V.getD k 0),.nilIface])/\Below W.heap.size W w') :
 Calls Tryz.prog 72 #[.slice ta tn tc,.slice a xs.length ca,.slice ra xs.length rc] w λe w'=>e = .returned (.tuple #[.slice (some ⟨w.heap.size,0,none⟩) xs.length xs.length,.nilIface])/\w'.ownsRow w.heap.size 3 1 (.slice (some ⟨w.heap.size,0,none⟩) xs.length xs.length) xs.length (L.map (Value.int .i64))/\Below w.heap.size w w':=by
 have HR:=hide h;have HQ:=hide hr;have HB:=hide hv;have VK:=hide VC;have RL:=hide hR;obtain ⟨i0,hi,hz0,hz1,hz2⟩:=info_parts info3;have I0:=hide hi;have LL:=hide hL;clear h hi hr hv VC hR hL
 go_enter Tryz.func72,Tryz.ntmps72
 go_wp2_with (at_make;refine wpList_make_full _ rfl (.tmp 14) (.tmp 14) 24 rfl w.heap.size 3 i0 (.int .i64 0) 1 Tryz.underlying24 I0.out hz0 hz1 .i64 .i64 _ _ xs.length rfl rfl (by omega) (by omega) (by rw [hz2];omega) (by unfold maxLen;omega) (Nat.le_refl _) ?_;intro w3 hown hgrow)
 rw [made] at hown;have hb3:Hid (Below w.heap.size w w3):=(Below.refl _ w).grown hgrow (Nat.le_refl _) (λk hk=>by cases hk)
 have HO:Hid (w3.ownsRow w.heap.size 3 1 (.slice (some ⟨w.heap.size,0,none⟩) xs.length xs.length) xs.length ((M.fillK L 0).map (Value.int .i64))):=by
  unfold Hid;rw [M.fillK_zero,LL.out];exact hown
 clear hown hgrow I0 hz0 hz1 hz2
 go_loopw [18] (λi wr=>∃ k:Nat,k<=xs.length/\i = .int .i64 k/\Hid (wr.ownsRow w.heap.size 3 1 (.slice (some ⟨w.heap.size,0,none⟩) xs.length xs.length) xs.length ((M.fillK L k).map (Value.int .i64)))/\Hid (Below w.heap.size w wr)) (λi _=>xs.length-(intOf i).toNat)
 case atStart=>exact ⟨0,Nat.zero_le _,rfl,HO,hb3⟩
 case round =>
  clear HO hb3;obtain ⟨k,hk,rfl,HO,K⟩:=hrel
  by_cases hlt:k<xs.length
  · obtain ⟨b,off,rfl,hb,hc⟩:=(HR.out.below K.out).2.2 (by intro e;rw [e] at hlt;simp at hlt)
    obtain ⟨c0,c1⟩:=hc k hlt;obtain ⟨b2,off2,rfl,hb2,hc2⟩:=(HQ.out.below K.out).2 (by intro e;have:=RL.out;rw [e] at this;simp at this;omega);have c2:=hc2 k (by rw [RL.out];exact hlt);have C2:Hid (∀ W,Below wr.heap.size wr W->W.cell? ⟨b2,off2+k,none⟩=some (.int .i64 (R.getD k 0))):=λW hW=>(hW.cell (p:=⟨b2,off2+k,none⟩) hb2).trans c2;unfold sxV at c0
    have kz:(k:Int)<(xs.length:Int):=by omega
    have hkL:k<L.length:=by rw [LL.out];exact hlt
    have RR:=hide (λW (hW:Below wr.heap.size wr W)=>fillK_own hkL (own_keep HO.out hW));have CC:=hide (λW (hW:Below wr.heap.size wr W)=>fillK_cell hkL LL.out (own_keep HO.out hW));have FZ:=hide (λW (hW:Below wr.heap.size wr W)=>(own_keep HO.out hW).frozenAt k);obtain ⟨ee,v1,v2,v3,v4⟩:=HB.out k hlt;rw [ee] at RR;have KB:Hid (∀ W v,Below wr.heap.size wr W->Below w.heap.size w (W.setCell ⟨w.heap.size,k,none⟩ v)):=λW v hW=>(below_on K.out hW).setCell (p:=⟨w.heap.size,k,none⟩) (Nat.le_refl _) v;have VV:=hide (λW (hW:Below wr.heap.size wr W)=>VK.out k hlt W (below_on K.out hW));clear hc HO hc2 c2 ee hb2;generalize xs[k].2.2.2=t at *;generalize xs[k].2.1.length=rl at *;generalize xs[k].2.2.1=rcc at *;generalize xs[k].1=raa at *;generalize V.getD k 0=z at *;generalize R.getD k 0=x at *
    go_upto_region 5 with fail
    obtain ⟨w5,hw5⟩:∃ W,W=wr.alloc (.cells #[.slice raa rl rcc,.int .i64 t] 97):=⟨_,rfl⟩
    rw [←hw5]
    have B5:Hid (Below wr.heap.size wr w5):=by unfold Hid;rw [hw5];exact (Below.refl _ wr).alloc (Nat.le_refl _) _
    have y0:w5.cell? ⟨wr.heap.size,0,none⟩=some (.slice raa rl rcc):=(new_kept hw5 (Below.refl _ _)).1 0 _ rfl;have V5:=hide (VV.out w5 B5.out);clear hw5 c0 c1 VV
    go_wp2_with (go_at_call 41;refine V5.out.mono ?_;rintro e w6 ⟨rfl,hb6⟩;have B6:=hide (below_on B5.out hb6);obtain ⟨zz,cc⟩:=CC.out w6 B6.out;have fz:=FZ.out w6 B6.out;have R6:=hide (RR.out w6 B6.out);have c6:=C2.out w6 B6.out;clear hb6)
    go_roundw
    case rel=>exact ⟨k+1,by omega,by go_num,R6,KB.out _ _ B6.out⟩
    case measure=>simp [intOf];omega
  · have ek:k=xs.length:=by omega
    have kz:¬ ((k:Int)<(xs.length:Int)):=by omega
    rw [show M.fillK L k=L by rw [ek,←LL.out];exact M.fillK_all L] at HO;clear ek
    go_wp2
    go_ret2
    exact ⟨rfl,HO.out,K.out⟩
theorem own_ne_none {v:Value} {g:Nat} (h:v.ownBlock=some g):v.ownBlock≠none:=by rw [h];exact λe=>by cases e
def NewG (W w':World) (J:Gr):Prop:=∀ W'':World,w'.heap.size<=W''.heap.size->(∀ b o,W.heap.size<=b->W''.cell? ⟨b,o,none⟩=w'.cell? ⟨b,o,none⟩)->RdG W'' J
theorem ndCells_setV:∀ (ts:List M.Nd) (i:Nat),i<ts.length->∀ v:Int,(ndCells ts).set (i*6+5) (.int .i64 v)=ndCells (ts.set i (M.nf (M.nAt ts i),M.nc (M.nAt ts i),M.nl (M.nAt ts i),M.nr (M.nAt ts i),M.ns (M.nAt ts i),v))
 | [],i,h,v=>by simp at h
 | n :: t,0,h,v=>rfl
 | n :: t,i+1,h,v=>by
   have ih:=ndCells_setV t i (by simpa using h) v
   have e:M.nAt (n :: t) (i+1)=M.nAt t i:=by simp [M.nAt]
   rw [e,List.set_cons_succ,ndCells_cons,ndCells_cons,←ih,show (i+1)*6+5=(i*6+5)+1+1+1+1+1+1 by omega];simp only [List.set_cons_succ]
def scK (f:Int->Int) (ts:List M.Nd) (k:Nat):List M.Nd:=(ts.take k).map (M.scN f) ++ ts.drop k
theorem scK_len (f:Int->Int) (ts:List M.Nd) (k:Nat):(scK f ts k).length=ts.length:=by
 unfold scK;rw [List.length_append,List.length_map,List.length_take,List.length_drop];omega
theorem scK_zero (f:Int->Int) (ts:List M.Nd):scK f ts 0=ts:=by unfold scK;simp
theorem scK_all (f:Int->Int) (ts:List M.Nd):scK f ts ts.length=ts.map (M.scN f):=by unfold scK;simp
theorem nAt_in (ts:List M.Nd) {k:Nat} (h:k<ts.length):M.nAt ts k=ts[k]:=by unfold M.nAt;rw [M.getD_at h]
theorem scK_at (f:Int->Int) (ts:List M.Nd) {k:Nat} (h:k<ts.length):M.nAt (scK f ts k) k=M.nAt ts k:=by
 rw [nAt_in _ (by rw [scK_len];exact h),nAt_in _ h];unfold scK;rw [List.getElem_append_right (by simp;omega)];simp [List.length_take,Nat.min_eq_left (Nat.le_of_lt h)]
theorem scK_next (f:Int->Int) (ts:List M.Nd) {k:Nat} (h:k<ts.length):(scK f ts k).set k (M.scN f (M.nAt ts k))=scK f ts (k+1):=by
 unfold scK
 have l:((ts.take k).map (M.scN f)).length=k:=by rw [List.length_map,List.length_take];omega
 rw [List.set_append_right _ _ (by omega),l,Nat.sub_self,List.drop_eq_getElem_cons h,List.set_cons_zero,List.take_succ_eq_append_getElem h,List.map_append,nAt_in _ h];simp
theorem scK_cells (f:Int->Int) (ts:List M.Nd) {k:Nat} (h:k<ts.length):(ndCells (scK f ts k)).set (k*6+5) (.int .i64 (f (M.nv (M.nAt ts k))))=ndCells (scK f ts (k+1)):=by
 rw [ndCells_setV _ k (by rw [scK_len];exact h),scK_at f ts h];rw [←scK_next f ts h];rfl
structure Mix (f:Int->Int) (C D:List Tc) (i k:Nat):Prop where
 len:D.length=C.length
 at':∀ j (h:j<C.length) (h':j<D.length),D[j].1=C[j].1/\D[j].2.2=C[j].2.2/\D[j].2.1=if j<i then C[j].2.1.map (M.scN f) else if j=i then scK f C[j].2.1 k else C[j].2.1
theorem Mix.start (f:Int->Int) (C:List Tc):Mix f C C 0 0:=⟨rfl,λj h h'=>⟨rfl,rfl,by rw [if_neg (Nat.not_lt_zero _)];split;rw [scK_zero];rfl⟩⟩
theorem Mix.next {f:Int->Int} {C D:List Tc} {i k:Nat} (h:Mix f C D i k) (hi:i<C.length) (hk:k=C[i].2.1.length):Mix f C D (i+1) 0:=⟨h.len,λj hj hj'=>by
 obtain ⟨a,b,c⟩:=h.at' j hj hj'
 refine ⟨a,b,?_⟩
 rw [c]
 by_cases e:j<i
 · rw [if_pos e,if_pos (by omega)]
 · rw [if_neg e]
   by_cases e2:j=i
   · subst e2;rw [if_pos rfl,if_pos (by omega),hk,scK_all]
   · rw [if_neg e2,if_neg (by omega)]
     split
     · rw [scK_zero]
     · rfl⟩
theorem Mix.tree {f:Int->Int} {C D:List Tc} {i k:Nat} (h:Mix f C D i k) (hi:i<C.length) (hd:i<D.length):D[i].1=C[i].1/\D[i].2.2=C[i].2.2/\D[i].2.1=scK f C[i].2.1 k:=by
 obtain ⟨a,b,c⟩:=h.at' i hi hd
 exact ⟨a,b,by rw [c,if_neg (Nat.lt_irrefl _),if_pos rfl]⟩
theorem Mix.turn {f:Int->Int} {C D:List Tc} {i k:Nat} (h:Mix f C D i k) (hi:i<C.length) (hd:i<D.length):Mix f C (D.set i (D[i].1,scK f C[i].2.1 (k+1),D[i].2.2)) i (k+1):=⟨by rw [List.length_set];exact h.len,λj hj hj'=>by
 rw [List.length_set] at hj';obtain ⟨a,b,c⟩:=h.at' j hj hj'
 by_cases e:i=j
 · subst e
   rw [List.getElem_set_self]
   exact ⟨a,b,by rw [if_neg (Nat.lt_irrefl _),if_pos rfl]⟩
 · rw [List.getElem_set_ne e]
   refine ⟨a,b,?_⟩
   rw [c]
   by_cases q:j<i
   · rw [if_pos q,if_pos q]
   · rw [if_neg q,if_neg q,if_neg (λz=>e z.symm),if_neg (λz=>e z.symm)]⟩
theorem Mix.fin {f:Int->Int} {C D:List Tc} (h:Mix f C D C.length 0):tl D=(tl C).map λt=>t.map (M.scN f):=by
 unfold tl;refine List.ext_getElem (by simp [h.len]) λj h1 h2=>?_;rw [List.length_map] at h1
 have hj:j<C.length:=by rw [←h.len];exact h1
 have:=(h.at' j hj h1).2.2;rw [if_pos hj] at this;simp [this]
theorem keep_row {W:World} {base e size n q o:Nat} {v u:Value} {l:List Value} (h:W.ownsRow base e size v n l) (hq:v.ownBlock≠some q):(W.setCell ⟨q,o,none⟩ u).ownsRow base e size v n l:=h.kept grown_set (.inr hq)
theorem own_beyond {w W:World} {base e size n B:Nat} {v:Value} {l:List Value} (h:w.ownsRow base e size v n l) (hB:B<=base) (hs:w.heap.size<=W.heap.size) (hc:∀ b o,B<=b->W.cell? ⟨b,o,none⟩=w.cell? ⟨b,o,none⟩):(v = .slice none 0 0/\n=0) ∨ ∃ g cap,v = .slice (some ⟨g,0,none⟩) n cap/\g<W.heap.size/\∀ i,i<n*size->W.cell? ⟨g,i,none⟩=l[i]? := by
 rcases h.2 with h0 | ⟨g,cap,cur,hv,hb,hg,h1,h2,h3,h4⟩
 · exact .inl h0
 · refine .inr ⟨g,cap,hv,Nat.lt_of_lt_of_le (Array.getElem?_eq_some_iff.1 hg).1 hs,λi hi=>?_⟩
   rw [hc g i (by omega)];subst hv;exact h.cellAt i hi
theorem M.lay_in {B:Int} (hB:0<=B):∀ (T:M.BT) (k:Nat),M.inV B T->∀ n∈M.lay T k, -B<=M.nv n/\M.nv n<=B
 | .lf v,k,h,n,hn=>by
   have e:n=(-1,0,0,0,false,v):=by
    have:n ∈ [((-1:Int),(0:Int),(0:Int),(0:Int),false,v)]:=hn
    simpa using this
   subst e;exact h
 | .nd f c s l r,k,h,n,hn=>by
   have:n∈(f,c,((k+1:Nat):Int),((k+1+l.size:Nat):Int),s,(0:Int)) :: (M.lay l (k+1) ++ M.lay r (k+1+l.size)):=hn
   rcases List.mem_cons.1 this with e | e
   · subst e
     exact ⟨show -B<=0 by omega,hB⟩
   · rcases List.mem_append.1 e with z | z
     · exact M.lay_in hB l _ h.1 n z
     · exact M.lay_in hB r _ h.2 n z
def LayC (C:List Tc) (L:List M.BT):Prop:=C.map (λt=>t.2.1)=L.map (λT=>M.lay T 0)
def GroOwnGives:Prop:=∀ (a:Option Addr) (xs:List Sx) (ca:Nat) (m depth least:Int) (W:World),RdL W a xs->M.grwF (sms xs) m depth least=0->Calls Tryz.prog 40 #[.slice a xs.length ca,.int .i64 m,.int .i64 depth,.int .i64 least] W λe w'=>∃ g c,e = .returned (.tuple #[.slice (some ⟨g,0,none⟩) (M.grwT (sms xs) m depth least).length c,.nilIface])/\w'.ownsRow W.heap.size 26 6 (.slice (some ⟨g,0,none⟩) (M.grwT (sms xs) m depth least).length c) (M.grwT (sms xs) m depth least).length (ndCells (M.grwT (sms xs) m depth least))/\Below W.heap.size W w'
def lefX:List Sx->List Int->List Sx
 | x :: xs,r :: R=>(x.1,x.2.1,x.2.2.1,M.fitT r) :: lefX xs R
 | _,_ => []
theorem lefX_len:∀ (xs:List Sx) (R:List Int),R.length=xs.length->(lefX xs R).length=xs.length
 | [], [],_=>rfl
 | x :: xs,r :: R,h=>by
   show (lefX xs R).length+1=xs.length+1;rw [lefX_len xs R (by simpa using h)]
 | [],_ :: _,h=>by simp at h
 | _ :: _, [],h=>by simp at h
theorem lefX_sms:∀ (xs:List Sx) (R:List Int),sms (lefX xs R)=M.lesS (sms xs) R
 | [],R=>by cases R <;> rfl
 | x :: xs, []=>rfl
 | x :: xs,r :: R=>by
   show sm (x.1,x.2.1,x.2.2.1,M.fitT r) :: sms (lefX xs R)=((sm x).1,M.fitT r) :: M.lesS (sms xs) R;rw [lefX_sms xs R];rfl
theorem lefX_at:∀ (xs:List Sx) (R:List Int),R.length=xs.length->∀ k (hk:k<xs.length) (h':k<(lefX xs R).length),(lefX xs R)[k]=(xs[k].1,xs[k].2.1,xs[k].2.2.1,M.fitT (R.getD k 0))
 | [],R,h,k,hk,_=>by simp at hk
 | x :: xs, [],h,k,hk,_=>by simp at h
 | x :: xs,r :: R,h,0,hk,_=>rfl
 | x :: xs,r :: R,h,k+1,hk,h'=>by
   have:=lefX_at xs R (by simpa using h) k (by simpa using hk) (by simpa [lefX] using h')
   simpa [lefX] using this
theorem saCells_setS:∀ (ys:List Sx) (k:Nat),k<ys.length->∀ v:Sx,((saCells ys).set (k*2) (sxV v)).set (k*2+1) (.int .i64 v.2.2.2)=saCells (ys.set k v)
 | [],k,h,v=>by simp at h
 | x :: t,0,h,v=>rfl
 | x :: t,k+1,h,v=>by
   have ih:=saCells_setS t k (by simpa using h) v;have e:saCells (x :: t)=sxV x :: .int .i64 x.2.2.2 :: saCells t:=rfl;rw [e,List.set_cons_succ,show saCells (x :: t.set k v)=sxV x :: .int .i64 x.2.2.2 :: saCells (t.set k v) from rfl,←ih,show (k+1)*2=k*2+1+1 by omega];simp only [List.set_cons_succ]
def fillY (ys:List Sx) (k:Nat):List Sx:=ys.take k ++ List.replicate (ys.length-k) (none, [],0,0)
theorem fillY_len (ys:List Sx) {k:Nat} (h:k<=ys.length):(fillY ys k).length=ys.length:=by unfold fillY;simp;omega
theorem fillY_zero (ys:List Sx):fillY ys 0=List.replicate ys.length (none, [],0,0):=by unfold fillY;simp
theorem fillY_all (ys:List Sx):fillY ys ys.length=ys:=by unfold fillY;simp
theorem fillY_set (ys:List Sx) {k:Nat} (h:k<ys.length):(fillY ys k).set k ys[k]=fillY ys (k+1):=by
 apply List.ext_getElem?;intro i;unfold fillY
 by_cases e:i=k
 · subst e
   rw [List.getElem?_set_self (by simp;omega),List.getElem?_append_left (by simp;omega),List.getElem?_take_of_lt (by omega),List.getElem?_eq_getElem h]
 · rw [List.getElem?_set_ne (λc=>e c.symm)]
   by_cases q:i<k
   · rw [List.getElem?_append_left (by simp;omega),List.getElem?_append_left (by simp;omega),List.getElem?_take_of_lt q,List.getElem?_take_of_lt (by omega)]
   · rw [List.getElem?_append_right (by simp;omega),List.getElem?_append_right (by simp;omega)]
     simp only [List.length_take,List.getElem?_replicate];rw [Nat.min_eq_left (by omega),Nat.min_eq_left (by omega)]
     by_cases q2:i<ys.length
     · rw [if_pos (by omega),if_pos (by omega)]
     · rw [if_neg (by omega),if_neg (by omega)]
theorem madeSa (n:Nat):(madeCells (Value.cells (.agg #[.slice none 0 0,.int .i64 0])) (n*2)).toList=saCells (List.replicate n (none, [],0,0)):=by
 rw [show Value.cells (.agg #[.slice none 0 0,.int .i64 0])=#[.slice none 0 0,.int .i64 0] by simp [Value.cells]];unfold madeCells
 induction n with
 | zero=>simp [saCells]
 | succ k ih =>
   have e:(Array.range ((k+1)*2)).toList=(Array.range (k*2)).toList ++ [k*2,k*2+1]:=by
    rw [Array.toList_range,Array.toList_range,show (k+1)*2=k*2+1+1 by omega,List.range_succ,List.range_succ];simp
   rw [Array.toList_map] at ih ⊢;rw [e,List.map_append,ih,List.replicate_succ',saCells_snoc]
   congr 1
   have a0:k*2 % 2=0:=by omega
   have a1:(k*2+1) % 2=1:=by omega
   simp [a0,a1,sxV]
theorem saCells_len (ys:List Sx):(saCells ys).length=ys.length*2:=by
 induction ys with
 | nil=>rfl
 | cons x t ih=>rw [show saCells (x :: t)=sxV x :: .int .i64 x.2.2.2 :: saCells t from rfl];simp only [List.length_cons,ih];omega
theorem M.boT_lay (m dp:Nat) (s:Int) (l:List M.Sa) (R:List Int):M.lay (M.boT m dp s l R) 0=(M.lay (M.growT m 1 dp (M.lesS l R)) 0).map (M.scN (M.shrI s)):=by
 unfold M.boT;exact M.sc_lay (M.shr_zero s) _ 0
theorem M.sh_in {s:Int} (h1:1<=s) (h2:s<=100) {v:Int} (a : -1000<=v) (b:v<=1000) : -100000<=v*s/\v*s<=100000:=by
 have e1:v*s<=1000*s:=Int.mul_le_mul_of_nonneg_right b (by omega);have e2 : -1000*s<=v*s:=Int.mul_le_mul_of_nonneg_right a (by omega);omega
set_option maxHeartbeats 8000000 in
set_option maxRecDepth 10000 in
theorem btree_any (GO:GroOwnGives) (a ra:Option Addr) (xs:List Sx) (R:List Int) (ca rc mn dn:Nat) (s:Int) (w:World) (h:RdL w a xs) (hr:Rd w ra R) (h0:0<xs.length) (hR:R.length=xs.length) (G:M.GoodS (sms xs) mn) (hS:M.grwF (M.lesS (sms xs) R) (mn:Int) (dn:Int) 1=0) (hs1:1<=s) (hs2:s<=100) (hd:dn<=4) :
 Calls Tryz.prog 74 #[.slice a xs.length ca,.slice ra xs.length rc,.int .i64 (mn:Int),.int .i64 (dn:Int),.int .i64 s] w λe w'=>∃ g c,e = .returned (.tuple #[.slice (some ⟨g,0,none⟩) (M.boT mn dn s (sms xs) R).size c,.nilIface])/\w'.ownsRow w.heap.size 26 6 (.slice (some ⟨g,0,none⟩) (M.boT mn dn s (sms xs) R).size c) (M.boT mn dn s (sms xs) R).size (ndCells (M.lay (M.boT mn dn s (sms xs) R) 0))/\Below w.heap.size w w':=by
 have l60:xs.length<=60:=by have:=G.le;rw [sms_len] at this;exact this
 have YL:(lefX xs R).length=xs.length:=lefX_len xs R hR;have YS:sms (lefX xs R)=M.lesS (sms xs) R:=lefX_sms xs R;have YA:Hid (∀ k (hk:k<xs.length) (h':k<(lefX xs R).length),(lefX xs R)[k]=(xs[k].1,xs[k].2.1,xs[k].2.2.1,M.fitT (R.getD k 0))):=λk hk h'=>lefX_at xs R hR k hk h'
 have Y1:Hid (∀ W,Below w.heap.size w W->∀ y∈lefX xs R,Rd W y.1 y.2.1):=λW hW y hy=>by
  obtain ⟨k,hk,rfl⟩:=List.getElem_of_mem hy
  have hk':k<xs.length:=by rw [←YL];exact hk
  rw [lefX_at xs R hR k hk' hk];exact (h.2.1 _ (List.getElem_mem hk')).below hW
 have rl:R.length=(sms xs).length:=by rw [sms_len];exact hR
 have G2:=M.les_good G rl
 have ll:0<(M.lesS (sms xs) R).length:=by rw [M.les_len _ _ rl,sms_len];exact h0
 have gi:=M.grow_in (m:=mn) (least:=1) (Int.le_refl _) dn G2 ll
 have ET:M.grwT (M.lesS (sms xs) R) (mn:Int) (dn:Int) 1=M.lay (M.growT mn 1 dn (M.lesS (sms xs) R)) 0:=by
  unfold M.grwT;rw [if_pos hS,Int.toNat_natCast,Int.toNat_natCast]
 have GF:Hid (∀ W ya yc,RdL W ya (lefX xs R)->Calls Tryz.prog 40 #[.slice ya xs.length yc,.int .i64 (mn:Int),.int .i64 (dn:Int),.int .i64 1] W λe w'=>∃ g c,e = .returned (.tuple #[.slice (some ⟨g,0,none⟩) (M.lay (M.growT mn 1 dn (M.lesS (sms xs) R)) 0).length c,.nilIface])/\w'.ownsRow W.heap.size 26 6 (.slice (some ⟨g,0,none⟩) (M.lay (M.growT mn 1 dn (M.lesS (sms xs) R)) 0).length c) (M.lay (M.growT mn 1 dn (M.lesS (sms xs) R)) 0).length (ndCells (M.lay (M.growT mn 1 dn (M.lesS (sms xs) R)) 0))/\Below W.heap.size W w'):=λW ya yc hy=>by
  have:=GO ya (lefX xs R) yc (mn:Int) (dn:Int) 1 W hy (by rw [YS];exact hS);rw [YS,ET,YL] at this;exact this
 have VB:Hid (∀ k,k<(M.lay (M.growT mn 1 dn (M.lesS (sms xs) R)) 0).length -> -1000<=M.nv (M.nAt (M.lay (M.growT mn 1 dn (M.lesS (sms xs) R)) 0) k)/\M.nv (M.nAt (M.lay (M.growT mn 1 dn (M.lesS (sms xs) R)) 0) k)<=1000):=λk hk=>by
  rw [nAt_in _ hk];exact M.lay_in (by decide) _ 0 gi _ (List.getElem_mem hk)
 have EL:Hid (M.lay (M.boT mn dn s (sms xs) R) 0=(M.lay (M.growT mn 1 dn (M.lesS (sms xs) R)) 0).map (M.scN (M.shrI s))):=M.boT_lay ..
 have ES:Hid ((M.boT mn dn s (sms xs) R).size=(M.lay (M.growT mn 1 dn (M.lesS (sms xs) R)) 0).length):=by unfold Hid M.boT;rw [M.sc_size,M.lay_len]
 have g2:=(M.grow_deep mn 1 dn (M.lesS (sms xs) R)).2;have p2:2 ^ (dn+1)<=2 ^ 5:=Nat.pow_le_pow_right (by decide) (by omega)
 have T6:(M.lay (M.growT mn 1 dn (M.lesS (sms xs) R)) 0).length<=63:=by rw [M.lay_len];omega
 have HR:=hide h;have HQ:=hide hr;have RL:=hide hR;have LL:=hide YL;obtain ⟨i0,hi,hz0,hz1,hz2⟩:=info_parts infoSam;have I0:=hide hi;rw [EL.out,ES.out];clear h hr hR YL YS G rl G2 ll gi ET hi g2 p2 hS GO EL ES;generalize M.lay (M.growT mn 1 dn (M.lesS (sms xs) R)) 0=TL at *;generalize lefX xs R=YY at *
 go_enter Tryz.func74,Tryz.ntmps74
 go_wp2_with (at_make;refine wpList_make_full _ rfl (.tmp 19) (.tmp 19) 60 rfl w.heap.size 97 i0 (.agg #[.slice none 0 0,.int .i64 0]) 2 Tryz.underlying60 I0.out hz0 hz1 .i64 .i64 _ _ xs.length rfl rfl (by omega) (by omega) (by rw [hz2];omega) (by unfold maxLen;omega) (Nat.le_refl _) ?_;intro w3 hown hgrow)
 rw [madeSa] at hown;have hb3:Hid (Below w.heap.size w w3):=(Below.refl _ w).grown hgrow (Nat.le_refl _) (λk hk=>by cases hk)
 have HO:Hid (w3.ownsRow w.heap.size 97 2 (.slice (some ⟨w.heap.size,0,none⟩) xs.length xs.length) xs.length (saCells (fillY YY 0))):=by
  unfold Hid;rw [fillY_zero,LL.out];exact hown
 clear hown hgrow I0 hz0 hz1 hz2
 go_loopw [23] (λi wr=>∃ k:Nat,k<=xs.length/\i = .int .i64 k/\Hid (wr.ownsRow w.heap.size 97 2 (.slice (some ⟨w.heap.size,0,none⟩) xs.length xs.length) xs.length (saCells (fillY YY k)))/\Hid (Below w.heap.size w wr)) (λi _=>xs.length-(intOf i).toNat)
 case atStart=>exact ⟨0,Nat.zero_le _,rfl,HO,hb3⟩
 case round =>
  clear HO hb3;obtain ⟨k,hk,rfl,HO,K⟩:=hrel
  by_cases hlt:k<xs.length
  · obtain ⟨b,off,rfl,hb,hc⟩:=(HR.out.below K.out).2.2 (by intro e;rw [e] at hlt;simp at hlt)
    obtain ⟨c0,c1⟩:=hc k hlt;obtain ⟨b2,off2,rfl,hb2,hc2⟩:=(HQ.out.below K.out).2 (by intro e;have:=RL.out;rw [e] at this;simp at this;omega);have c2:=hc2 k (by rw [RL.out];exact hlt);unfold sxV at c0
    have kz:(k:Int)<(xs.length:Int):=by omega
    have hkL:k<YY.length:=by rw [LL.out];exact hlt
    have hkF:k<(fillY YY k).length:=by rw [fillY_len YY (by omega)];exact hkL
    have RR:Hid (∀ W,Below wr.heap.size wr W->((W.setCell ⟨w.heap.size,k*2,none⟩ (.slice xs[k].1 xs[k].2.1.length xs[k].2.2.1)).setCell ⟨w.heap.size,k*2+1,none⟩ (.int .i64 (M.fitT (R.getD k 0)))).ownsRow w.heap.size 97 2 (.slice (some ⟨w.heap.size,0,none⟩) xs.length xs.length) xs.length (saCells (fillY YY (k+1)))):=λW hW=>by
     have r1:=(((own_up HO.out hW).stored (k*2) (sxV YY[k])).1.stored (k*2+1) (.int .i64 YY[k].2.2.2)).1;rw [saCells_setS _ k hkF,fillY_set YY hkL,YA.out k hlt hkL] at r1;exact r1
    have sl:=saCells_len (fillY YY k);rw [fillY_len YY (by omega),LL.out] at sl;obtain ⟨q0,q1⟩:=saCells_at (fillY YY k) k hkF;have g0:=(HO.out.cellAt (k*2) (by omega)).trans q0;have g1:=(HO.out.cellAt (k*2+1) (by omega)).trans q1;unfold sxV at g0;have z0:=HO.out.frozenAt (k*2);have z1:=HO.out.frozenAt (k*2+1);have FT:=hide (fitto_t (R.getD k 0));have lg:w.heap.size<wr.heap.size:=block_lt_of_cell g0;clear hc HO hc2 sl q0 q1 VB GF Y1 HQ HR RL YA;generalize (fillY YY k)[k].2.2.2=u0 at *;generalize (fillY YY k)[k].2.1.length=u1 at *;generalize (fillY YY k)[k].2.2.1=u2 at *;generalize (fillY YY k)[k].1=u3 at *;generalize xs[k].2.2.2=t at *;generalize xs[k].2.1.length=rl at *;generalize xs[k].2.2.1=rcc at *;generalize xs[k].1=raa at *;generalize M.fitT (R.getD k 0)=z at *;generalize R.getD k 0=x at *
    go_upto_region 5 with fail
    obtain ⟨w5,hw5⟩:∃ W,W=wr.alloc (.cells #[.slice raa rl rcc,.int .i64 t] 97):=⟨_,rfl⟩
    rw [←hw5]
    have B5:Below wr.heap.size wr w5:=by rw [hw5];exact (Below.refl _ wr).alloc (Nat.le_refl _) _
    have y0:w5.cell? ⟨wr.heap.size,0,none⟩=some (.slice raa rl rcc):=(new_kept hw5 (Below.refl _ _)).1 0 _ rfl;have y2:=(B5.cell (p:=⟨b2,off2+k,none⟩) hb2).trans c2;have y3:=(B5.cell (p:=⟨w.heap.size,k*2,none⟩) lg).trans g0;have y4:=(B5.cell (p:=⟨w.heap.size,k*2+1,none⟩) lg).trans g1;have y5:=(B5.frozen (p:=⟨w.heap.size,k*2,none⟩) lg).trans z0;have y6:=(B5.frozen (p:=⟨w.heap.size,k*2+1,none⟩) lg).trans z1;have R5:=RR.out w5 B5;have R6:Hid ((((w5.setCell ⟨w.heap.size,k*2,none⟩ (.slice raa rl rcc)).setCell ⟨w.heap.size,k*2+1,none⟩ (.int .i64 z)).drew).ownsRow w.heap.size 97 2 (.slice (some ⟨w.heap.size,0,none⟩) xs.length xs.length) xs.length (saCells (fillY YY (k+1)))):=R5.drew
    have K6:Hid (Below w.heap.size w (((w5.setCell ⟨w.heap.size,k*2,none⟩ (.slice raa rl rcc)).setCell ⟨w.heap.size,k*2+1,none⟩ (.int .i64 z)).drew)) :=
     (((below_on K.out B5).setCell (p:=⟨w.heap.size,k*2,none⟩) (Nat.le_refl _) _).setCell (p:=⟨w.heap.size,k*2+1,none⟩) (Nat.le_refl _) _).drew
    clear R5 RR hw5 c0 c1 c2 g0 g1 z0 z1 B5
    go_region_with (go_at_call 76;refine (FT.out _).mono ?_;rintro e w6 ⟨rfl,e6⟩;have e7:=e6.symm;subst e7)
    all_goals (
     go_wp2
     go_roundw
     case rel=>exact ⟨k+1,by omega,by go_num,R6,K6⟩
     case measure=>simp [intOf];omega)
  · have ek:k=xs.length:=by omega
    have kz:¬ ((k:Int)<(xs.length:Int)):=by omega
    rw [show fillY YY k=YY by rw [ek,←LL.out];exact fillY_all YY] at HO;obtain ⟨pa,pc,hp1,hp2⟩:=own_rdL LL.out (by unfold maxLen;omega) HO.out (Y1.out wr K.out);cases hp1;have F1:=hide (GF.out wr _ xs.length hp2);clear HO hp2 ek GF Y1 HR HQ YA
    go_wp2_with (go_at_call 40;refine F1.out.mono ?_;rintro e w6 ⟨g,c,rfl,ho6,hb6⟩;have O6:=hide ho6;have K6:=hide (below_on K.out hb6);have s6:=hb6.size;clear hb6;have l6:Hid (w.heap.size<=wr.heap.size):=K.out.size;have E6:Hid (ndCells TL=ndCells (scK (M.shrI s) TL 0)):=(by unfold Hid;rw [scK_zero]);clear ho6)
    have O7:Hid (w6.ownsRow w.heap.size 26 6 (.slice (some ⟨g,0,none⟩) TL.length c) TL.length (ndCells (scK (M.shrI s) TL 0))):=by
     unfold Hid;rw [←E6.out];exact own_low l6.out O6.out
    have gp:Hid (w.heap.size<=g):=(O7.out.lt g rfl).1;clear O6 E6 l6 K F1 s6
    go_loopw [52] (λi wr=>∃ k:Nat,k<=TL.length/\i = .int .i64 k/\Hid (wr.ownsRow w.heap.size 26 6 (.slice (some ⟨g,0,none⟩) TL.length c) TL.length (ndCells (scK (M.shrI s) TL k)))/\Hid (Below w.heap.size w wr)) (λi _=>TL.length-(intOf i).toNat)
    case atStart=>exact ⟨0,Nat.zero_le _,rfl,O7,K6⟩
    case round =>
     clear O7 K6;obtain ⟨j,hj,rfl,HO,K⟩:=hrel
     by_cases hjt:j<TL.length
     · have jz:(j:Int)<(TL.length:Int):=by omega
       obtain ⟨v1,v2⟩:=VB.out j hjt;obtain ⟨p1,p2⟩:=M.sh_in hs1 hs2 v1 v2;have r1:=(HO.out.stored (j*6+5) (.int .i64 (M.shrI s (M.nv (M.nAt TL j))))).1;rw [scK_cells (M.shrI s) TL hjt] at r1;have RR:=hide r1;have RK:Hid (Below w.heap.size w (wr.setCell ⟨g,j*6+5,none⟩ (.int .i64 (M.shrI s (M.nv (M.nAt TL j)))))):=K.out.setCell (p:=⟨g,j*6+5,none⟩) gp.out _;have sl:=ndCells_len (scK (M.shrI s) TL j);rw [scK_len] at sl;have q:=(ndCells_at (scK (M.shrI s) TL j) j (by rw [scK_len];exact hjt)).2.2.2.2.2;rw [scK_at (M.shrI s) TL hjt] at q;have g0:=(HO.out.cellAt (j*6+5) (by omega)).trans q;have z0:=HO.out.frozenAt (j*6+5);unfold M.shrI at RR RK;clear r1 HO K sl q VB;generalize M.nv (M.nAt TL j)=v at *
       go_wp2
       go_roundw
       case rel=>exact ⟨j+1,by omega,by go_num,RR,RK⟩
       case measure=>simp [intOf];omega
     · have ej:j=TL.length:=by omega
       have jz:¬ ((j:Int)<(TL.length:Int)):=by omega
       rw [show scK (M.shrI s) TL j=TL.map (M.scN (M.shrI s)) by rw [ej];exact scK_all _ _] at HO;clear ej VB
       go_wp2
       go_ret2
       exact ⟨g,c,rfl,HO.out,K.out⟩
end Go.Proofs.YtaijnacghiloaaaGreatDoor
