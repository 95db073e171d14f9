import Derived.Test.YtaijnacghiloaaaGreatDoorRunT13
import Derived.Test.YtaijnacghiloaaaGreatDoorRunT14
import Derived.Test.YtaijnacghiloaaaGreatDoorRunT40
import Derived.Test.YtaijnacghiloaaaGreatDoorRunT21
import Derived.Deep.CutBlock
import Derived.Deep.AppendLies
namespace Go.Proofs.YtaijnacghiloaaaGreatDoor
open Go.ChangeShapes Go.WideShapes Go.ChangeAt Go.RowKit Go.Lib
set_option linter.unusedVariables false
theorem M.sam_good {l:List M.Sa} {m:Nat} (h:M.GoodS l m) (hl:0<l.length):(M.samF l (m:Int)).2=0:=by
 have:=M.sam_all (l:=l) (m:=(m:Int)) h.le hl ⟨by omega,by have:=h.m8;omega⟩ λj hj=>by
  have e:M.sAt l j=l[j]:=by unfold M.sAt;rw [M.getD_at hj]
  rw [e];obtain ⟨z1,z2,z3,z4⟩:=h.each l[j] (List.getElem_mem hj);unfold M.sa1F;rw [if_neg (by simp [z1]),if_neg (by omega)];simp [z2,z4]
 rw [this]
theorem lf_less (v:Int):∀ xs:List Sx,M.lessL (.lf v) (sms xs) (tgs xs)=(sms xs).map (λs=>s.2-v)
 | []=>rfl
 | x :: xs=>by
   show (x.2.2.2-v) :: M.lessL (.lf v) (sms xs) (tgs xs)=(x.2.2.2-v) :: (sms xs).map (λs=>s.2-v);rw [lf_less v xs]
theorem bleft_tree (T:M.BT) (ta:Option Addr) (tc:Nat) (a ra:Option Addr) (xs:List Sx) (R:List Int) (ca rc mn:Nat) (w:World) (h:RdL w a xs) (hr:Rd w ra R) (G:M.GoodS (sms xs) mn) (hR:R.length=xs.length) (hb:∀ x∈R, -10000<=x/\x<=10000) (ok:M.okB (mn:Int) T) (hi:M.inV 1000 T) (hs:T.size<=63) (hd:T.deep<=10) (ht:RdN w ta (M.lay T 0)) :
 Calls Tryz.prog 72 #[.slice ta T.size tc,.slice a xs.length ca,.slice ra xs.length rc] w λe w'=>e = .returned (.tuple #[.slice (some ⟨w.heap.size,0,none⟩) xs.length xs.length,.nilIface])/\w'.ownsRow w.heap.size 3 1 (.slice (some ⟨w.heap.size,0,none⟩) xs.length xs.length) xs.length ((M.lessL T (sms xs) R).map (Value.int .i64))/\Below w.heap.size w w':=by
 have x60:xs.length<=60:=by have:=G.le;rw [sms_len] at this;exact this
 have m8:=G.m8;have tr:(M.treeF (M.lay T 0) (mn:Int)).2=0:=M.lay_tree ok (by omega) (by omega) hs hd
 have rl:R.length=(sms xs).length:=by rw [sms_len];exact hR
 have V:∀ k (hk:k<xs.length),(xs.map λx=>M.evB T x.2.1).getD k 0=M.evB T xs[k].2.1:=λk hk=>by
  rw [M.getD_at (by simpa using hk),List.getElem_map]
 refine bleft_any ta T.size tc a ra xs R (xs.map λx=>M.evB T x.2.1) (M.lessL T (sms xs) R) ca rc w h hr (by omega) hR (by rw [M.less_len T _ _ rl,sms_len]) (λk hk=>?_) (λk hk W hW=>?_)
 · have e:=M.less_at T (sms xs) R rl k (by rw [sms_len];exact hk)
   rw [sms_at xs hk] at e;rw [V k hk,M.getD_at (show k<R.length by omega)] at *;have:=hb R[k] (List.getElem_mem _);have:=M.in_ev xs[k].2.1 T hi
   exact ⟨e,by omega,by omega,by omega,by omega⟩
 · have g:=G.each (sm xs[k]) (List.mem_map.2 ⟨_,List.getElem_mem hk,rfl⟩)
   have g1:M.rowF xs[k].2.1=0:=g.1;have g2:xs[k].2.1.length=mn:=g.2.1;have q:=M.lay_eval (T:=T) (r:=xs[k].2.1) (by rw [g2];exact ok) (by rw [g2];exact tr) g1;have z:=eval_any ta xs[k].1 (M.lay T 0) xs[k].2.1 tc xs[k].2.2.1 W (ht.below hW) ((h.2.1 _ (List.getElem_mem hk)).below hW);rw [q.1,q.2,err_nil rfl,M.lay_len] at z;rw [V k hk];exact z
set_option maxHeartbeats 16000000 in
set_option maxRecDepth 10000 in
theorem btbt_any (a:Option Addr) (xs:List Sx) (ca mn dn:Nat) (r s:Int) (w:World) (h:RdL w a xs) (hB:M.booF (sms xs) (mn:Int) r (dn:Int) s=0) :
 Calls Tryz.prog 44 #[.slice a xs.length ca,.int .i64 (mn:Int),.int .i64 r,.int .i64 (dn:Int),.int .i64 s] w λe w'=>∃ bx tc C,e = .returned (.tuple #[.slice (some ⟨bx,0,none⟩) (List.length (α:=Tc) C) tc,.nilIface])/\MO w w.heap.size (.slice (some ⟨bx,0,none⟩) C.length tc) C w'/\LayC C (M.boR mn dn s (sms xs) r.toNat).1:=by
 obtain ⟨gk,r0,r8,d1,d4,s1,s2⟩:=M.boo_ok hB;obtain ⟨G,hp,hm,_⟩:=M.sam_ok gk;rw [Int.toNat_natCast] at G;rw [sms_len] at hp
 have x60:xs.length<=60:=by have:=G.le;rw [sms_len] at this;exact this
 have hps:0<(sms xs).length:=by rw [sms_len];exact hp
 have d4':dn<=4:=by omega
 have HL:=hide h;have HG:=hide G;have mi:=M.mean_in G hps;have okf:M.okB (mn:Int) (.lf (M.meanS (sms xs))):=M.out_in (by omega) (by omega)
 have F1:Hid (Calls Tryz.prog 40 #[.slice a xs.length ca,.int .i64 (mn:Int),.int .i64 0,.int .i64 1] w λe w'=>∃ g c,e = .returned (.tuple #[.slice (some ⟨g,0,none⟩) 1 c,.nilIface])/\w'.ownsRow w.heap.size 26 6 (.slice (some ⟨g,0,none⟩) 1 c) 1 (ndCells (M.lay (.lf (M.meanS (sms xs))) 0))/\Below w.heap.size w w'):=by
  have e0:M.grwF (sms xs) (mn:Int) 0 1=0:=M.grwF_ok gk (by omega)
  have e1:M.grwT (sms xs) (mn:Int) 0 1=M.lay (.lf (M.meanS (sms xs))) 0:=by
   unfold M.grwT;rw [if_pos e0];rfl
  have:=grofit_own a xs ca (mn:Int) 0 1 w h e0;rw [e1] at this;exact this
 have F2:Hid (∀ W,Below w.heap.size w W->Calls Tryz.prog 73 #[.slice a xs.length ca] W λe w'=>e = .returned (.slice (some ⟨W.heap.size,0,none⟩) xs.length xs.length)/\Rd w' (some ⟨W.heap.size,0,none⟩) (tgs xs)/\Below W.heap.size W w'):=λW hW=>btgt_any a xs ca W (h.below hW) (by omega)
 have tb:∀ x∈tgs xs, -10000<=x/\x<=10000:=λx hx=>by
  obtain ⟨y,hy,rfl⟩:=List.mem_map.1 hx;have:=(G.each (sm y) (List.mem_map.2 ⟨y,hy,rfl⟩)).2.2.1;have t1 : -1000<=y.2.2.2/\y.2.2.2<=1000:=this;omega
 have F3:Hid (∀ W ta tc rb,Below w.heap.size w W->RdN W ta (M.lay (.lf (M.meanS (sms xs))) 0)->Rd W (some ⟨rb,0,none⟩) (tgs xs)->Calls Tryz.prog 72 #[.slice ta 1 tc,.slice a xs.length ca,.slice (some ⟨rb,0,none⟩) xs.length xs.length] W λe w'=>e = .returned (.tuple #[.slice (some ⟨W.heap.size,0,none⟩) xs.length xs.length,.nilIface])/\w'.ownsRow W.heap.size 3 1 (.slice (some ⟨W.heap.size,0,none⟩) xs.length xs.length) xs.length ((M.bo0 (sms xs)).2.1.map (Value.int .i64))/\Below W.heap.size W w'):=λW ta tc rb hW ht hr=>by
  have:=bleft_tree (.lf (M.meanS (sms xs))) ta tc a (some ⟨rb,0,none⟩) xs (tgs xs) ca xs.length mn W (h.below hW) hr G (tgs_len xs) tb okf mi (show 1<=63 by decide) (Nat.zero_le _) ht;rw [lf_less] at this;exact this
 obtain ⟨i1,hi1,jz0,jz1,jz2⟩:=info_parts (show (Tryz.prog.info? 27).map (λi=>(i.zero,i.size,i.bytes))=some (some (.slice none 0 0),1,24) by kernel_rfl);have I1:=hide hi1;have E0:Hid (M.boR mn dn s (sms xs) 0=([.lf (M.meanS (sms xs))],(M.bo0 (sms xs)).2.1,false)):=rfl;have LN:Hid ((M.lay (.lf (M.meanS (sms xs))) 0).length=1):=rfl;clear h G hi1 gk okf tb hm mi hB;generalize (M.bo0 (sms xs)).2.1=R0 at *;generalize M.meanS (sms xs)=mv at *
 go_enter Tryz.func44,Tryz.ntmps44
 go_upto_region 7 with (first
  | (go_at_call 40;refine F1.out.mono ?_;rintro e w1 ⟨g1,c1,rfl,ho1,hb1⟩;have O1:=hide ho1;have K1:=hide hb1;clear ho1 hb1)
  | (go_at_call 73;refine (F2.out _ K1.out).mono ?_;rintro e w2 ⟨rfl,hr2,hb2⟩;have R2:=hide hr2;have J2:=hide hb2;have K2:=hide (below_on K1.out hb2);clear hr2 hb2)
  | (go_at_call 72;obtain ⟨pa,pc,pe,pr,_⟩:=own_rdN LN.out (by unfold maxLen;omega) (own_up O1.out J2.out);rw [Value.slice.injEq] at pe;refine (F3.out w2 _ c1 _ K2.out (by rw [pe.1];exact pr) R2.out).mono ?_;rintro e w3 ⟨rfl,ho3,hb3⟩;have O3:=hide ho3;have J3:=hide hb3;have K3:=hide (below_on K2.out hb3);clear ho3 hb3 pe pr))
 have T3:Hid (w3.ownsRow w.heap.size 26 6 (tV (some ⟨g1,0,none⟩,M.lay (.lf mv) 0,c1)) (M.lay (.lf mv) 0).length (ndCells (M.lay (.lf mv) 0))):=own_up (own_up O1.out J2.out) J3.out
 go_upto_block 0 with fail
 obtain ⟨w4,hw4⟩:∃ V,V=w3.alloc (.cells #[.slice (some ⟨g1,0,none⟩) 1 c1] 27):=⟨_,rfl⟩
 have S4:Hid (MO w w.heap.size (.slice (some ⟨w3.heap.size,0,none⟩) 1 1) [(some ⟨g1,0,none⟩,M.lay (.lf mv) 0,c1)] w4):=by
  unfold Hid;rw [hw4];exact MO.one K3.out (Nat.le_refl _) K3.out.size T3.out (q:=g1) rfl _ rfl
 have O4:Hid (w4.ownsRow w.heap.size 3 1 (.slice (some ⟨w2.heap.size,0,none⟩) xs.length xs.length) xs.length (R0.map (Value.int .i64))):=by
  unfold Hid;rw [hw4];exact own_up (own_low K2.out.size O3.out) ((Below.refl _ w3).alloc (Nat.le_refl _) _)
 have N4:Hid (w3.heap.size≠w2.heap.size):=λe=>by
  have:=(O3.out.lt w2.heap.size rfl).2;omega
 have C4:Hid (LayC [(some ⟨g1,0,none⟩,M.lay (.lf mv) 0,c1)] [.lf mv]):=rfl;rw [←hw4];clear hw4 T3 O1 O3 R2 J2 J3 K1 K2 K3 F1 F2 F3 LN
 go_cut [14,15] from 16 to 76 (λ_ v wx=>∃ (bx tc:Nat) (C:List Tc),v = .slice (some ⟨bx,0,none⟩) C.length tc/\Hid (LayC C (M.boR mn dn s (sms xs) r.toNat).1)/\Hid (MO w w.heap.size (.slice (some ⟨bx,0,none⟩) C.length tc) C wx))
 case first =>
  go_wp2
  go_loopw [14,15,42] (λu v i wq=>∃ (k lb bx tc:Nat) (L:List M.BT) (R:List Int) (C:List Tc),(k:Int)<=r/\i = .int .i64 k/\u = .slice (some ⟨lb,0,none⟩) xs.length xs.length/\v = .slice (some ⟨bx,0,none⟩) C.length tc/\Hid (M.boR mn dn s (sms xs) k=(L,R,false))/\Hid (LayC C L)/\Hid (MO w w.heap.size (.slice (some ⟨bx,0,none⟩) C.length tc) C wq)/\Hid (wq.ownsRow w.heap.size 3 1 (.slice (some ⟨lb,0,none⟩) xs.length xs.length) xs.length (R.map (Value.int .i64)))/\Hid (bx≠lb)) (λ_ _ i _=>r.toNat-(intOf i).toNat)
  case atStart=>exact ⟨0,_,_,_,_,R0,_,by simpa using r0,rfl,rfl,rfl,E0,C4,S4,O4,N4⟩
  case round =>
   clear E0 C4 S4 O4 N4;obtain ⟨k,lb,bx,tc,L,R,C,hk,rfl,rfl,rfl,EB,LC,S,O,NB⟩:=hrel
   by_cases hlt:(k:Int)<r
   · have t1:decide ((k:Int)<r)=true:=decide_eq_true hlt
     have I:=M.bo_all (m:=mn) (dp:=dn) (share:=s) HG.out (by rw [sms_len];exact hp) s1 s2 k
     have len:R.length=xs.length:=by have:=I.len;rw [EB.out,sms_len] at this;exact this
     have ir:=I;rw [EB.out] at ir;have br:=M.bo_round (share:=s) HG.out (by rw [sms_len];exact hp) s1 s2 (by omega) (by omega) ir
     have C9:C.length<=9:=by
      have e1:=congrArg List.length LC.out;rw [List.length_map,List.length_map] at e1;have e3:L.length<=k+1:=ir.tk;omega
     have rls:R.length=(sms xs).length:=by rw [sms_len];exact len
     have G2:=M.les_good HG.out rls
     have ll:0<(M.lesS (sms xs) R).length:=by rw [M.les_len _ _ rls];exact hps
     have gi:=M.grow_in (m:=mn) (least:=1) (Int.le_refl _) dn G2 ll;have gok:=M.grow_ok (m:=mn) (least:=1) (Int.le_refl _) dn G2 ll;have gd:=M.grow_deep mn 1 dn (M.lesS (sms xs) R);have bi:M.inV 1000 (M.boT mn dn s (sms xs) R):=M.sc_in (λv a b=>M.shr_in s1 s2 v a b) _ gi;have bo:M.okB (mn:Int) (M.boT mn dn s (sms xs) R):=M.sc_ok (λv a b=>by have:=M.shr_in s1 s2 v a b;exact M.out_in (by omega) (by omega)) _ gok gi
     have bd:(M.boT mn dn s (sms xs) R).deep<=10:=by unfold M.boT;rw [M.sc_deep];have:=gd.1;omega
     have hS:M.grwF (M.lesS (sms xs) R) (mn:Int) (dn:Int) 1=0:=M.grwF_ok (M.sam_good G2 ll) (by omega)
     have RDR:Rd wr (some ⟨lb,0,none⟩) R:=by
      have ho:=O.out;rw [←len] at ho;obtain ⟨pa,pc,hp1,hp2,_⟩:=own_rd ho;cases hp1;exact hp2
     have KS:=S.out.below;have P1:=hide (btree_any grofit_own a (some ⟨lb,0,none⟩) xs R ca xs.length mn dn s wr (HL.out.below KS) RDR hp len HG.out hS s1 s2 d4')
     have P2:Hid (∀ W ta tc,Below wr.heap.size wr W->RdN W ta (M.lay (M.boT mn dn s (sms xs) R) 0)->Calls Tryz.prog 72 #[.slice ta (M.boT mn dn s (sms xs) R).size tc,.slice a xs.length ca,.slice (some ⟨lb,0,none⟩) xs.length xs.length] W λe w'=>e = .returned (.tuple #[.slice (some ⟨W.heap.size,0,none⟩) xs.length xs.length,.nilIface])/\w'.ownsRow W.heap.size 3 1 (.slice (some ⟨W.heap.size,0,none⟩) xs.length xs.length) xs.length ((M.lessL (M.boT mn dn s (sms xs) R) (sms xs) R).map (Value.int .i64))/\Below W.heap.size W w'):=λW ta tc hW ht =>
      bleft_tree (M.boT mn dn s (sms xs) R) ta tc a (some ⟨lb,0,none⟩) xs R ca xs.length mn W (HL.out.below (below_on KS hW)) (RDR.below hW) HG.out len br.2.1 bo bi (by have:=br.2.2.1;omega) bd ht
     have nl:(M.lessL (M.boT mn dn s (sms xs) R) (sms xs) R).length=xs.length:=by rw [M.less_len _ _ _ rls,sms_len]
     have ni:=M.less_in (T:=M.boT mn dn s (sms xs) R) (l:=sms xs) rls br.2.1 (λq hq=>M.in_ev q.1 _ bi)
     have P3:Hid (∀ W nb,W.ownsRow w.heap.size 3 1 (.slice (some ⟨nb,0,none⟩) xs.length xs.length) xs.length ((M.lessL (M.boT mn dn s (sms xs) R) (sms xs) R).map (Value.int .i64))->Calls Tryz.prog 75 #[.slice (some ⟨nb,0,none⟩) xs.length xs.length] W λe w'=>e = .returned (.int .i64 (M.sqs (M.lessL (M.boT mn dn s (sms xs) R) (sms xs) R)))/\Below W.heap.size W w'):=λW nb ho=>by
      rw [←nl] at ho;obtain ⟨pa,pc,hp1,hp2,_⟩:=own_rd ho;cases hp1;have z:=bsq_any (some ⟨nb,0,none⟩) _ xs.length W hp2 (by omega);rw [M.sqF_in ni (by omega),nl] at z;exact z
     have P4:Hid (∀ W,Below wr.heap.size wr W->Calls Tryz.prog 75 #[.slice (some ⟨lb,0,none⟩) xs.length xs.length] W λe w'=>e = .returned (.int .i64 (M.sqs R))/\Below W.heap.size W w'):=λW hW=>by
      have z:=bsq_any (some ⟨lb,0,none⟩) R xs.length W (RDR.below hW) (by omega);rw [M.sqF_in (λx hx=>by have:=br.2.1 x hx;omega) (by omega),len] at z;exact z
     have LB:Hid ((M.lay (M.boT mn dn s (sms xs) R) 0).length=(M.boT mn dn s (sms xs) R).size):=M.lay_len _ 0;have bs:(M.boT mn dn s (sms xs) R).size<=31:=br.2.2.1;have EN:=hide (λhq=>M.bo_end EB.out (show M.sqs R<=M.sqs (M.lessL (M.boT mn dn s (sms xs) R) (sms xs) R) from hq));have EO:=hide (λhq=>M.bo_on EB.out (show ¬ M.sqs R<=M.sqs (M.lessL (M.boT mn dn s (sms xs) R) (sms xs) R) from hq));clear I len ir br rls G2 ll gi gok gd bi bo bd hS RDR KS nl ni;generalize M.lessL (M.boT mn dn s (sms xs) R) (sms xs) R=NX at *;generalize M.boT mn dn s (sms xs) R=BT at *
     by_cases hq:M.sqs R<=M.sqs NX
     · have t2:decide (M.sqs R<=M.sqs NX)=true:=decide_eq_true hq
       have EE:Hid (LayC C (M.boR mn dn s (sms xs) r.toNat).1):=by
        have e1:=EN.out hq;have e2:=M.bo_stay (by rw [e1]) (r.toNat-(k+1));rw [e1] at e2
        have e3:k+1+(r.toNat-(k+1))=r.toNat:=by omega
        rw [e3] at e2
        unfold Hid;rw [e2];exact LC.out
       clear hq EN EO EB LC;generalize M.sqs R=qr at *;generalize M.sqs NX=qn at *
       go_wp2_with (first
        | (go_at_call 74;refine P1.out.mono ?_;rintro e w5 ⟨g5,c5,rfl,ho5,hb5⟩;have O5:=hide ho5;have K5:=hide hb5;clear ho5 hb5)
        | (go_at_call 72;obtain ⟨pa,pc,pe,pr,_⟩:=own_rdN LB.out (by unfold maxLen;omega) O5.out;rw [Value.slice.injEq] at pe;refine (P2.out w5 _ c5 K5.out (by rw [pe.1];exact pr)).mono ?_;rintro e w6 ⟨rfl,ho6,hb6⟩;have O6:=hide (own_low (below_on S.out.below K5.out).size ho6);have J6:=hide hb6;have K6:=hide (below_on K5.out hb6);clear ho6 hb6 pe pr)
        | (go_at_call 75;have lean:=K7;refine (P4.out _ K7.out).mono ?_;rintro e w8 ⟨rfl,h8⟩;have J8:=hide (below_on J7.out h8);have K8:=hide (below_on K7.out h8);clear h8)
        | (go_at_call 75;refine (P3.out w6 _ O6.out).mono ?_;rintro e w7 ⟨rfl,h7⟩;have J7:=hide h7;have K7:=hide (below_on K6.out h7);clear h7))
       have S8:=hide (S.out.up K8.out);clear P1 P2 P3 P4 O5 O6 J6 J7 J8 K5 K6 K7 K8 S O
       go_meet
       case rel=>exact ⟨bx,tc,C,rfl,EE,S8⟩
     · have t2:decide (M.sqs R<=M.sqs NX)=false:=decide_eq_false hq
       have EE:Hid (M.boR mn dn s (sms xs) (k+1)=(L ++ [BT],NX,false)):=EO.out hq;clear hq EN EO EB;generalize M.sqs R=qr at *;generalize M.sqs NX=qn at *
       go_upto_region 17 with (first
        | (go_at_call 74;refine P1.out.mono ?_;rintro e w5 ⟨g5,c5,rfl,ho5,hb5⟩;have O5:=hide ho5;have K5:=hide hb5;clear ho5 hb5)
        | (go_at_call 72;obtain ⟨pa,pc,pe,pr,_⟩:=own_rdN LB.out (by unfold maxLen;omega) O5.out;rw [Value.slice.injEq] at pe;refine (P2.out w5 _ c5 K5.out (by rw [pe.1];exact pr)).mono ?_;rintro e w6 ⟨rfl,ho6,hb6⟩;have O6:=hide (own_low (below_on S.out.below K5.out).size ho6);have J6:=hide hb6;have K6:=hide (below_on K5.out hb6);clear ho6 hb6 pe pr)
        | (go_at_call 75;have lean:=K7;refine (P4.out _ K7.out).mono ?_;rintro e w8 ⟨rfl,h8⟩;have J8:=hide (below_on J7.out h8);have K8:=hide (below_on K7.out h8);clear h8)
        | (go_at_call 75;refine (P3.out w6 _ O6.out).mono ?_;rintro e w7 ⟨rfl,h7⟩;have J7:=hide h7;have K7:=hide (below_on K6.out h7);clear h7))
       have TX:Hid (∀ g,tV (some ⟨g,0,none⟩,M.lay BT 0,c5) = .slice (some ⟨g,0,none⟩) BT.size c5):=λg=>by unfold tV;rw [LB.out]
       have LC2:Hid (LayC (C ++ [(some ⟨g5,0,none⟩,M.lay BT 0,c5)]) (L ++ [BT])):=by
        have e1:=LC.out;unfold LayC at e1;unfold Hid LayC
        rw [List.map_append,List.map_append,e1];rfl
       have xlt:bx<wr.heap.size:=(S.out.own.lt bx rfl).2;have llt:lb<wr.heap.size:=(O.out.lt lb rfl).2;have g5w:wr.heap.size<=g5:=(O5.out.lt g5 rfl).1;have g5l:g5<w5.heap.size:=(O5.out.lt g5 rfl).2;have n6:w5.heap.size<w6.heap.size:=(O6.out.lt w5.heap.size rfl).2;have s8:=K8.out.size;have j8:=J8.out.size;have S8:=hide (S.out.up K8.out);have O8:=hide (own_up (own_up (own_low S.out.below.size O5.out) J6.out) J8.out);have N8:=hide (own_up O6.out J8.out);have WO:=hide S8.out.own;have ws8:w.heap.size<=w8.heap.size:=S8.out.below.size
       have FS:Hid (∀ (o:Obj) (w9:World) (g cap:Nat),w9.ownsRow w.heap.size 27 1 (.slice (some ⟨g,0,none⟩) (C.length+1) cap) (C.length+1) (C.map tV ++ [.slice (some ⟨g5,0,none⟩) BT.size c5])->(w8.alloc o).grownBy w9 (some bx)->(some bx=some g∨g=w8.heap.size+1)->MO w w.heap.size (.slice (some ⟨g,0,none⟩) (C.length+1) cap) (C ++ [(some ⟨g5,0,none⟩,M.lay BT 0,c5)]) w9/\w9.ownsRow w.heap.size 3 1 (.slice (some ⟨w5.heap.size,0,none⟩) xs.length xs.length) xs.length (NX.map (Value.int .i64))/\g≠w5.heap.size):=λo w9 g cap h1 h2 h3=>by
        refine ⟨?_,?_,?_⟩
        · refine S8.out.more (t:=(some ⟨g5,0,none⟩,M.lay BT 0,c5)) (q:=g5) ?_ ?_ ?_ ?_ (o:=o) ?_ h2 h3
          · rw [TX.out,LB.out];exact O8.out
          · rw [TX.out];rfl
          · intro e
            have e':bx=g5:=by simpa [Value.ownBlock] using e
            omega
          · intro i hi e
            have:=((S.out.trees i hi).lt g5 e).2;omega
          · rw [TX.out];exact h1
        · have hgr:w8.grownBy w9 (some bx):=grown_trans (World.grownBy_alloc w8 o _) h2 (.inl rfl)
          refine N8.out.kept hgr (.inr λe=>?_)
          have e':w5.heap.size=bx:=by simpa [Value.ownBlock] using e
          omega
        · rcases h3 with z | z
          · have z':bx=g:=by simpa using z
            omega
          · omega
       clear P1 P2 P3 P4 O5 O6 J6 J7 J8 K5 K6 K7 K8 S O S8 O8 N8 LC TX xlt llt g5w g5l n6 s8 j8 LB
       go_wp2_with (at_builtin;refine wpList_append_lies _ rfl (.tmp 71) (.tmp 73) 33 rfl w.heap.size 27 i1 (.slice none 0 0) 1 24 Tryz.underlying33 I1.out jz0 jz1 jz2 rfl (by omega) (.slice (some ⟨bx,0,none⟩) C.length tc) C.length (C.map tV) rfl (WO.out.alloc _) ⟨w8.heap.size,0,none⟩ 1 1 [.slice (some ⟨g5,0,none⟩) BT.size c5] rfl rfl (World.news_of_block (heap_alloc_new _ _)) (by simp [Value.oneCell']) (by omega) (by unfold maxLen;omega) (by omega) (by simp;omega) (w8.heap.size+1) (by simp) ?_;intro g9 c9 w9 hov hgrow hat hlt9;have F9:=hide (FS.out _ w9 g9 c9 hov hgrow hat);clear hov hgrow hat)
       go_roundw
       case rel=>exact ⟨k+1,_,g9,c9,L ++ [BT],NX,C ++ [(some ⟨g5,0,none⟩,M.lay BT 0,c5)],by omega,by go_num,rfl,by simp,EE,LC2,by unfold Hid;rw [List.length_append];exact F9.out.1,F9.out.2.1,F9.out.2.2⟩
       case measure=>simp [intOf];omega
   · have t1:decide ((k:Int)<r)=false:=decide_eq_false hlt
     have kr:Hid (r.toNat=k):=by unfold Hid;omega
     have LC2:Hid (LayC C (M.boR mn dn s (sms xs) r.toNat).1):=by unfold Hid;rw [kr.out,EB.out];exact LC.out
     clear EB LC O NB kr
     go_wp2
     go_meet
     case rel=>exact ⟨bx,tc,C,rfl,LC2,S⟩
 case rest =>
  obtain ⟨bx,tc,C,rfl,LC,S⟩:=hcut
  go_wp2
  go_ret2
  exact ⟨bx,tc,C,rfl,S.out,LC.out⟩
theorem isfrom_any (n lo hi:Int) (w:World) :
 Calls Tryz.prog 43 #[.int .i64 n,.int .i64 lo,.int .i64 hi] w λe w'=>e = .returned (.bool (decide (lo<=n/\n<=hi)))/\w'=w:=by
 by_cases h1:lo<=n
 · have E:Hid (decide (n<=hi)=decide (lo<=n/\n<=hi)):=by unfold Hid;rw [Bool.eq_iff_iff,decide_eq_true_eq,decide_eq_true_eq];omega
   have q:decide (lo<=n)=true:=decide_eq_true h1;clear h1
   go_enter Tryz.func43,Tryz.ntmps43
   go_wp2
   go_ret
   exact ⟨ret_bool E.out,rfl⟩
 · have E:Hid (false=decide (lo<=n/\n<=hi)):=by unfold Hid;rw [decide_eq_false (by omega)]
   have q:decide (lo<=n)=false:=decide_eq_false h1;clear h1
   go_enter Tryz.func43,Tryz.ntmps43
   go_wp2
   go_ret
   exact ⟨ret_bool E.out,rfl⟩
theorem isfrom_is (n lo hi:Int) (b:Bool) (w:World) (h:decide (lo<=n/\n<=hi)=b) :
 Calls Tryz.prog 43 #[.int .i64 n,.int .i64 lo,.int .i64 hi] w λe w'=>e = .returned (.bool b)/\w'=w:=by
 subst h;exact isfrom_any n lo hi w
def nilGr:Gr:=⟨0,0,none, [],0,none, [],0⟩
theorem nilGr_rdg (w:World):RdG w nilGr:=⟨⟨Nat.zero_le _,λh=>absurd rfl h⟩,⟨Nat.zero_le _,(λk hk=>by cases hk),λh=>absurd rfl h⟩⟩
theorem M.booF_sam {l:List M.Sa} {m r d s:Int} (h:(M.samF l m).2≠0):M.booF l m r d s=(M.samF l m).2:=by unfold M.booF;rw [if_pos h]
theorem M.booF_num {l:List M.Sa} {m r d s:Int} (h:(M.samF l m).2=0) (k:r<0∨8<r∨d<1∨4<d∨s<1∨100<s):M.booF l m r d s=1:=by unfold M.booF;rw [if_neg (by simp [h]),if_pos k]
theorem M.booG_no {l:List M.Sa} {m r d s:Int} (h:M.booF l m r d s≠0):M.booG l m r d s=(0,0, [], []):=by unfold M.booG;rw [if_neg h]
theorem kept4 {w w0 W:World} {a0 a1 a2 a3:Value} {t:TypeId} (e:w0=w.alloc (.cells #[a0,a1,a2,a3] t)) (h:Below w0.heap.size w0 W):(W.cell? ⟨w.heap.size,0,none⟩=some a0/\W.cell? ⟨w.heap.size,1,none⟩=some a1/\W.cell? ⟨w.heap.size,2,none⟩=some a2/\W.cell? ⟨w.heap.size,3,none⟩=some a3)/\∀ i,W.frozen? ⟨w.heap.size,i,none⟩=false:=by
 have N:=new_kept e h
 exact ⟨⟨N.1 0 _ rfl,N.1 1 _ rfl,N.1 2 _ rfl,N.1 3 _ rfl⟩,N.2⟩
set_option maxHeartbeats 8000000 in
set_option maxRecDepth 10000 in
theorem boofit_bad (a:Option Addr) (xs:List Sx) (ca:Nat) (m r d s:Int) (w:World) (h:RdL w a xs) (hB:M.booF (sms xs) m r d s≠0) :
 Calls Tryz.prog 19 #[.slice a xs.length ca,.int .i64 m,.int .i64 r,.int .i64 d,.int .i64 s] w λe w'=>e = .returned (.tuple #[nilGr.v,errV (M.booF (sms xs) m r d s)])/\Below w.heap.size w w':=by
 have CK:=hide (λW (hW:Below w.heap.size w W)=>grochk_any a xs ca m W (h.below hW));have B0:Hid (∀ o,Below w.heap.size w (w.alloc o)):=λo=>(Below.refl _ w).alloc (Nat.le_refl _) o
 obtain ⟨w0,hw0⟩:∃ V,V=w.alloc (.cells #[.int .i64 0,.int .i64 0,.slice none 0 0,.slice none 0 0] 35):=⟨_,rfl⟩
 have K0:Hid (Below w.heap.size w w0):=by unfold Hid;rw [hw0];exact B0.out _
 have KP:=hide (λW (hW:Below w0.heap.size w0 W)=>kept4 hw0 hW);have C0:=hide (CK.out w0 K0.out);unfold Gr.v nilGr
 by_cases h1:(M.samF (sms xs) m).2=0
 · by_cases k:r<0∨8<r∨d<1∨4<d∨s<1∨100<s
   · rw [M.booF_num h1 k,err_some (by decide)]
     rw [h1,err_nil rfl] at C0;clear CK B0 h h1 hB;generalize (M.samF (sms xs) m).1=sp at *;generalize xs.length=n at *
     by_cases k1:0<=r/\r<=8
     · have F1:Hid (decide (0<=r/\r<=8)=true):=decide_eq_true k1
       by_cases k2:1<=d/\d<=4
       · have F2:Hid (decide (1<=d/\d<=4)=true):=decide_eq_true k2
         have F3:Hid (decide (1<=s/\s<=100)=false):=decide_eq_false (by omega);clear k k1 k2
         go_enter Tryz.func19,Tryz.ntmps19
         go_upto_region 1 with fail
         rw [←hw0];clear hw0
         go_wp2_with (first
          | (go_at_call 42;refine C0.out.mono ?_;rintro e w1 ⟨rfl,hb1⟩;have K1:=hide hb1;obtain ⟨⟨y0,y1,y2,y3⟩,yf⟩:=KP.out w1 hb1;have f0:=yf 0;have f1:=yf 1;have f2:=yf 2;have f3:=yf 3;clear hb1 yf)
          | (go_at_call 43;refine (isfrom_is _ _ _ _ _ (by first | exact F1.out | exact F2.out | exact F3.out)).mono ?_;rintro e w2 ⟨rfl,e2⟩;have e2':=e2.symm;subst e2'))
         obtain ⟨e0,e1,e2,e3⟩:=put4_at (x0 := .int .i64 0) (x1 := .int .i64 0) (x2 := .slice none 0 0) (x3 := .slice none 0 0) y0 y1 y2 y3;refine bodyPost_ret (v := .tuple #[.agg #[.int .i64 0,.int .i64 0,.slice none 0 0,.slice none 0 0],.iface 69 (.int .i64 1)]) (by simp [results,Tryz.results19,go_sem,e0,e1,e2,e3]) rfl ?_
         exact ⟨rfl,lay4 (below_on K0.out K1.out) (Nat.le_refl _)⟩
       · have F2:Hid (decide (1<=d/\d<=4)=false):=decide_eq_false k2
         clear k k1 k2
         go_enter Tryz.func19,Tryz.ntmps19
         go_upto_region 1 with fail
         rw [←hw0];clear hw0
         go_wp2_with (first
          | (go_at_call 42;refine C0.out.mono ?_;rintro e w1 ⟨rfl,hb1⟩;have K1:=hide hb1;obtain ⟨⟨y0,y1,y2,y3⟩,yf⟩:=KP.out w1 hb1;have f0:=yf 0;have f1:=yf 1;have f2:=yf 2;have f3:=yf 3;clear hb1 yf)
          | (go_at_call 43;refine (isfrom_is _ _ _ _ _ (by first | exact F1.out | exact F2.out | exact F3.out)).mono ?_;rintro e w2 ⟨rfl,e2⟩;have e2':=e2.symm;subst e2'))
         obtain ⟨e0,e1,e2,e3⟩:=put4_at (x0 := .int .i64 0) (x1 := .int .i64 0) (x2 := .slice none 0 0) (x3 := .slice none 0 0) y0 y1 y2 y3;refine bodyPost_ret (v := .tuple #[.agg #[.int .i64 0,.int .i64 0,.slice none 0 0,.slice none 0 0],.iface 69 (.int .i64 1)]) (by simp [results,Tryz.results19,go_sem,e0,e1,e2,e3]) rfl ?_
         exact ⟨rfl,lay4 (below_on K0.out K1.out) (Nat.le_refl _)⟩
     · have F1:Hid (decide (0<=r/\r<=8)=false):=decide_eq_false k1
       clear k k1
       go_enter Tryz.func19,Tryz.ntmps19
       go_upto_region 1 with fail
       rw [←hw0];clear hw0
       go_wp2_with (first
        | (go_at_call 42;refine C0.out.mono ?_;rintro e w1 ⟨rfl,hb1⟩;have K1:=hide hb1;obtain ⟨⟨y0,y1,y2,y3⟩,yf⟩:=KP.out w1 hb1;have f0:=yf 0;have f1:=yf 1;have f2:=yf 2;have f3:=yf 3;clear hb1 yf)
        | (go_at_call 43;refine (isfrom_is _ _ _ _ _ (by first | exact F1.out | exact F2.out | exact F3.out)).mono ?_;rintro e w2 ⟨rfl,e2⟩;have e2':=e2.symm;subst e2'))
       obtain ⟨e0,e1,e2,e3⟩:=put4_at (x0 := .int .i64 0) (x1 := .int .i64 0) (x2 := .slice none 0 0) (x3 := .slice none 0 0) y0 y1 y2 y3;refine bodyPost_ret (v := .tuple #[.agg #[.int .i64 0,.int .i64 0,.slice none 0 0,.slice none 0 0],.iface 69 (.int .i64 1)]) (by simp [results,Tryz.results19,go_sem,e0,e1,e2,e3]) rfl ?_
       exact ⟨rfl,lay4 (below_on K0.out K1.out) (Nat.le_refl _)⟩
   · exfalso
     refine hB ?_;unfold M.booF;rw [if_neg (by simp [h1]),if_neg k]
 · rw [M.booF_sam h1,err_some h1]
   rw [err_some h1] at C0;clear CK B0 h h1 hB;generalize (M.samF (sms xs) m).1=sp at *;generalize (M.samF (sms xs) m).2=sf at *;generalize xs.length=n at *
   go_enter Tryz.func19,Tryz.ntmps19
   go_upto_region 1 with fail
   rw [←hw0];clear hw0
   go_wp2_with (go_at_call 42;refine C0.out.mono ?_;rintro e w1 ⟨rfl,hb1⟩;have K1:=hide hb1;obtain ⟨⟨y0,y1,y2,y3⟩,yf⟩:=KP.out w1 hb1;have f0:=yf 0;have f1:=yf 1;have f2:=yf 2;have f3:=yf 3;clear hb1 yf)
   obtain ⟨e0,e1,e2,e3⟩:=put4_at (x0 := .int .i64 0) (x1 := .int .i64 0) (x2 := .slice none 0 0) (x3 := .slice none 0 0) y0 y1 y2 y3;refine bodyPost_ret (v := .tuple #[.agg #[.int .i64 0,.int .i64 0,.slice none 0 0,.slice none 0 0],.iface 69 (.int .i64 sf)]) (by simp [results,Tryz.results19,go_sem,e0,e1,e2,e3]) rfl ?_
   exact ⟨rfl,lay4 (below_on K0.out K1.out) (Nat.le_refl _)⟩
theorem map_map_lay (n:Nat) (C:List Tc) (L:List M.BT) (h:LayC C L):(tl C).map (λt=>t.map (M.scN (M.tmN n)))=L.map (M.boL n):=by
 have h':tl C=L.map (λT=>M.lay T 0):=h;rw [h',List.map_map];refine List.map_congr_left λT hT=>?_;show (M.lay T 0).map (M.scN (M.tmN n))=M.lay (M.scB (M.tmN n) T) 0;rw [M.sc_lay (M.tm_zero n)]
set_option maxHeartbeats 8000000 in
set_option maxRecDepth 10000 in
theorem boofit_any:BooFitGives:=by
 intro a xs ca m r d s w h
 by_cases hB:M.booF (sms xs) m r d s=0
 · obtain ⟨gk,r0,r8,d1,d4,s1,s2⟩:=M.boo_ok hB
   obtain ⟨GS,hp,hm,_⟩:=M.sam_ok gk;obtain ⟨I,BL⟩:=M.boo_inv hB
   obtain ⟨mn,rfl⟩:∃ mn:Nat,m=(mn:Int):=⟨m.toNat,hm.symm⟩
   obtain ⟨dn,rfl⟩:∃ dn:Nat,d=(dn:Int):=⟨d.toNat,by omega⟩
   have eg:M.booG (sms xs) (mn:Int) r (dn:Int) s=M.boG (mn:Int) (M.booS (sms xs) (mn:Int) r (dn:Int) s).1:=by unfold M.booG;rw [if_pos hB]
   have es:M.booS (sms xs) (mn:Int) r (dn:Int) s=M.boR mn dn s (sms xs) r.toNat:=by unfold M.booS;rw [Int.toNat_natCast,Int.toNat_natCast]
   rw [es] at eg BL;have B0:Hid (∀ o,Below w.heap.size w (w.alloc o)):=λo=>(Below.refl _ w).alloc (Nat.le_refl _) o
   obtain ⟨w0,hw0⟩:∃ V,V=w.alloc (.cells #[.int .i64 0,.int .i64 0,.slice none 0 0,.slice none 0 0] 35):=⟨_,rfl⟩
   have K0:Hid (Below w.heap.size w w0):=by unfold Hid;rw [hw0];exact B0.out _
   have z0:Hid (w0.heap.size=w.heap.size+1):=by unfold Hid;rw [hw0];simp
   have KP:=hide (λW (hW:Below w0.heap.size w0 W)=>kept4 hw0 hW);have C0:=hide (grochk_any a xs ca (mn:Int) w0 (h.below K0.out));rw [gk,err_nil rfl] at C0;have TB:=hide (λW (hW:Below w0.heap.size w0 W)=>btbt_any a xs ca mn dn r s W (h.below (below_on K0.out hW)) hB)
   have MN:Hid (∀ W V bx tc (C:List Tc),MO V V.heap.size (.slice (some ⟨bx,0,none⟩) C.length tc) C W->LayC C (M.boR mn dn s (sms xs) r.toNat).1->Calls Tryz.prog 45 #[.slice (some ⟨bx,0,none⟩) C.length tc,.int .i64 (mn:Int)] W λe w'=>∃ J:Gr,e = .returned J.v/\J.m=M.booG (sms xs) (mn:Int) r (dn:Int) s/\NewG V w' J/\Below V.heap.size V w'):=λW V bx tc C hM hL=>by
    have cl:C.length=(M.boR mn dn s (sms xs) r.toNat).1.length:=by have:=congrArg List.length hL;simpa using this
    have ct:∀ i (hi:i<C.length),∃ T∈(M.boR mn dn s (sms xs) r.toNat).1,C[i].2.1=M.lay T 0:=λi hi=>by
     have hL':i<(M.boR mn dn s (sms xs) r.toNat).1.length:=by omega
     have h1:(C.map (λt=>t.2.1))[i]'(by simpa using hi)=((M.boR mn dn s (sms xs) r.toNat).1.map (λT=>M.lay T 0))[i]'(by simpa using hL'):=by
      have:=hL;unfold LayC at this;simp only [this]
     rw [List.getElem_map,List.getElem_map] at h1
     exact ⟨_,List.getElem_mem hL',h1⟩
    have:=bmean_any V V.heap.size bx tc C (mn:Int) W hM (by rw [cl];exact BL.t9) (λi hi=>by
     obtain ⟨T,hT,e⟩:=ct i hi;rw [e,M.lay_len];have:=(BL.each T hT).2.2.2
     omega) (λi hi t ht=>by
     obtain ⟨T,hT,e⟩:=ct i hi;rw [nAt_in _ ht]
     have mem:C[i].2.1[t]∈M.lay T 0:=by rw [←e];exact List.getElem_mem ht
     exact M.lay_in (by decide) T 0 (BL.each T hT).2.1 _ mem)
    refine this.mono ?_;rintro e w' ⟨J,rfl,hJ,hn,hb⟩
    refine ⟨J,rfl,?_,hn,hb⟩
    rw [hJ,eg,map_map_lay _ C _ hL,cl];rfl
   have F1:Hid (decide (0<=r/\r<=8)=true):=decide_eq_true ⟨r0,r8⟩;have F2:Hid (decide (1<=(dn:Int)/\(dn:Int)<=4)=true):=decide_eq_true ⟨d1,d4⟩;have F3:Hid (decide (1<=s/\s<=100)=true):=decide_eq_true ⟨s1,s2⟩;rw [hB,err_nil rfl];clear h hB gk GS hp hm I BL eg es B0 r0 r8 d1 d4 s1 s2;generalize M.booG (sms xs) (mn:Int) r (dn:Int) s=GG at *;generalize (M.boR mn dn s (sms xs) r.toNat).1=LL at *;generalize (M.samF (sms xs) (mn:Int)).1=sp at *;generalize xs.length=n at *
   go_enter Tryz.func19,Tryz.ntmps19
   go_upto_region 1 with fail
   rw [←hw0];clear hw0
   go_wp2_with (first
    | (go_at_call 42;refine C0.out.mono ?_;rintro e w1 ⟨rfl,hb1⟩;have K1:=hide hb1;clear hb1)
    | (go_at_call 43;refine (isfrom_is _ _ _ _ _ (by first | exact F1.out | exact F2.out | exact F3.out)).mono ?_;rintro e w2 ⟨rfl,e2⟩;have e2':=e2.symm;subst e2')
    | (go_at_call 44;refine (TB.out _ K1.out).mono ?_;rintro e w3 ⟨bx,tc,C,rfl,hM,hL⟩;have M3:=hide hM;have L3:=hide hL;clear hM hL)
    | (go_at_call 45;refine (MN.out _ _ _ _ C M3.out L3.out).mono ?_;rintro e w4 ⟨J,rfl,hJ,hn,hb4⟩;have HJ:=hide hJ;have HN:=hide hn;have K4:=hide (below_on K1.out hb4);obtain ⟨⟨y0,y1,y2,y3⟩,yf⟩:=KP.out w4 K4.out;have f0:=yf 0;have f1:=yf 1;have f2:=yf 2;have f3:=yf 3;unfold Gr.v;clear hJ hn hb4 yf))
   obtain ⟨e0,e1,e2,e3⟩:=put4_at (x0 := .int .i64 J.f) (x1 := .int .i64 J.w) (x2 := .slice J.wa J.ws.length J.wc) (x3 := .slice J.ta J.ks.length J.tc) y0 y1 y2 y3;refine bodyPost_ret (v := .tuple #[.agg #[.int .i64 J.f,.int .i64 J.w,.slice J.wa J.ws.length J.wc,.slice J.ta J.ks.length J.tc],.nilIface]) (by simp [results,Tryz.results19,go_sem,e0,e1,e2,e3]) rfl ?_
   refine ⟨J,rfl,HJ.out,?_,lay4 (below_on K0.out K4.out) (Nat.le_refl _)⟩
   have l1:=K1.out.size;have l0:=z0.out;have cn:∀ (V:World) (b o i:Nat) (v:Value),w.heap.size<b->(V.setCell ⟨w.heap.size,i,none⟩ v).cell? ⟨b,o,none⟩=V.cell? ⟨b,o,none⟩:=λV b o i v hb=>World.cell?_setCell_other _ _ _ _ (by intro e;cases e;omega);refine HN.out _ (by simp) λb o hb=>?_;rw [cn _ _ _ _ _ (by omega),cn _ _ _ _ _ (by omega),cn _ _ _ _ _ (by omega),cn _ _ _ _ _ (by omega)]
 · have e:=M.booG_no hB
   refine (boofit_bad a xs ca m r d s w h hB).mono ?_;rintro e' w' ⟨rfl,hb⟩
   exact ⟨nilGr,rfl,by rw [e];rfl,nilGr_rdg _,hb⟩
end Go.Proofs.YtaijnacghiloaaaGreatDoor
