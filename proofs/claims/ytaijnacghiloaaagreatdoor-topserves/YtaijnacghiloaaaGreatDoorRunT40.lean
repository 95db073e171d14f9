import Derived.Test.YtaijnacghiloaaaGreatDoorRunT9
import Derived.Test.YtaijnacghiloaaaGreatDoorRunT39
import Derived.Test.YtaijnacghiloaaaGreatDoorRunT21
import Derived.Test.YtaijnacghiloaaaGreatDoorRunT8
import Derived.BigQuiet
import Derived.Deep.QuietTactic
namespace Go.Proofs.YtaijnacghiloaaaGreatDoor
open Go.ChangeShapes Go.WideShapes Go.ChangeAt Go.RowKit Go.Lib
set_option linter.unusedVariables false
theorem ris_pos {l:List M.Sa} {f:Nat} (h:0<l.length):0<(M.risL l f).length:=by
 rcases hr:M.risL l f with _ | ⟨v,t⟩
 · exfalso
   have e:M.colA (M.sAt l 0) f∈M.risL l f:=(M.ris_mem l f _).2 ((M.col_at l f _).2 ⟨0,h,rfl⟩);rw [hr] at e;cases e
 · simp
theorem drop_rd {w:World} {base g cap:Nat} {V:List Int} (h:w.ownsRow base 3 1 (.slice (some ⟨g,0,none⟩) V.length cap) V.length (V.map (Value.int .i64))) (ag:Option Addr) (ha:V.length≠1->ag=some ⟨g,1,none⟩) (h0:0<V.length):Rd w ag (V.drop 1):=by
 obtain ⟨a2,c2,e2,hr,_⟩:=own_rd h;rw [Value.slice.injEq] at e2;have e2':=e2.1;subst e2'
 refine ⟨by rw [List.length_drop];have:=hr.1;omega,λhn=>?_⟩
 have hl:1<V.length:=by
  have:0<(V.drop 1).length:=List.length_pos_iff.2 hn;rw [List.length_drop] at this;omega
 obtain ⟨b,off,e,hb,hc⟩:=hr.2 (by intro e;rw [e] at h0;simp at h0);have ea:=ha (by omega);cases e
 refine ⟨g,1,ea,hb,λi hi=>?_⟩
 rw [List.length_drop] at hi;have:=hc (i+1) (by omega);rw [show 0+(i+1)=1+i by omega] at this;rw [this];simp [List.getD]
theorem own_room {w:World} {base g n cap:Nat} {l:List Value} (h:w.ownsRow base 3 1 (.slice (some ⟨g,0,none⟩) n cap) n l):n<=cap/\cap<=9223372036854775807:=by
 rcases h.2 with ⟨h0,_⟩ | ⟨g',cap',cur,hv,hb,hg,h1,h2,h3⟩
 · cases h0
 · cases hv
   unfold maxLen at h2
   exact ⟨h1,h2⟩
set_option maxHeartbeats 4000000 in
set_option maxRecDepth 10000 in
theorem gcuts_any:GCutsGives:=by
 intro a xs ca m f w h A hf hp;have HL:=hide h;have AA:=hide A;have l60:=A.le;obtain ⟨i0,hi,hz0,hz1,hz2⟩:=info_parts info3
 have CA:Hid (∀ k (hk:k<xs.length) (hk':k<(M.colL (sms xs) f).length),(M.colL (sms xs) f)[k]'hk'=xs[k].2.1.getD f 0):=λk hk hk'=>by simp [M.colL,sms,M.colA,sm]
 have CL:Hid ((M.colL (sms xs) f).length=xs.length):=by unfold Hid;rw [M.colL_len,sms_len]
 have RP:Hid (0<(M.risL (sms xs) f).length):=ris_pos (by rw [sms_len];exact hp)
 have RL:Hid ((M.risL (sms xs) f).length<=60):=by
  unfold Hid M.risL;have e1:=compact_le (M.sortI (M.colL (sms xs) f));rw [M.sort_length,CL.out] at e1;omega
 have RD:Hid (Lib.compact (M.sortI (M.colL (sms xs) f))=M.risL (sms xs) f):=rfl;have SO:=hide (λv F W h h1 h2=>sort_own w.heap.size v F W h h1 h2);have CO:=hide (λv F W h h1 h2=>compact_own w.heap.size v F W h h1 h2);have SL:=hide (M.sort_length (M.colL (sms xs) f));have EC:Hid (M.cutP (sms xs) f=(M.risL (sms xs) f).drop 1):=rfl
 obtain ⟨CP,hCP⟩:∃ C,C=M.cutP (sms xs) f:=⟨_,rfl⟩
 rw [←hCP] at EC ⊢;clear h A hCP;generalize M.risL (sms xs) f=R at *;generalize M.colL (sms xs) f=F at *
 go_enter Tryz.func142,Tryz.ntmps142
 go_wp2_with (at_make;refine wpList_make_full _ rfl (.tmp 9) (.tmp 9) 24 rfl w.heap.size 3 i0 (.int .i64 0) 1 Tryz.underlying24 hi hz0 hz1 .i64 .i64 _ _ xs.length rfl rfl (by omega) (by omega) (by rw [hz2];omega) (by unfold maxLen;omega) (Nat.le_refl _) ?_;intro w2 hown hgrow)
 rw [made] at hown;have hB:Hid (Below w.heap.size w w2):=(Below.refl _ w).grown hgrow (Nat.le_refl _) (λk hk=>by cases hk)
 have ho:Hid (w2.ownsRow w.heap.size 3 1 (.slice (some ⟨w.heap.size,0,none⟩) xs.length xs.length) xs.length ((M.fillI F 0).map (Value.int .i64))):=by
  unfold Hid;rw [M.fill_zero,CL.out];exact hown
 clear hown hgrow hi hz0 hz1 hz2
 go_loopw [13] (λi wr=>∃ k:Nat,k<=xs.length/\i = .int .i64 k/\Hid (wr.ownsRow w.heap.size 3 1 (.slice (some ⟨w.heap.size,0,none⟩) xs.length xs.length) xs.length ((M.fillI F k).map (Value.int .i64)))/\Hid (Below w.heap.size w wr)) (λi _=>xs.length-(intOf i).toNat)
 case atStart=>exact ⟨0,Nat.zero_le _,rfl,ho,hB⟩
 case round =>
  obtain ⟨k,hk,rfl,HO,K⟩:=hrel;clear ho hB
  by_cases hlt:k<xs.length
  · obtain ⟨bl,ol,rfl,hbl,hcl⟩:=(HL.out.below K.out).2.2 (by intro e;rw [e] at hlt;simp at hlt)
    obtain ⟨c0,c1⟩:=hcl k hlt;have hr:=AA.out.row xs[k] (List.getElem_mem hlt)
    have fr:f<xs[k].2.1.length:=by omega
    obtain ⟨bx,ox,ex,hbx,hcx⟩:=((HL.out.below K.out).2.1 xs[k] (List.getElem_mem hlt)).2 (by intro e;rw [e] at fr;simp at fr);have hx:=hcx f fr
    have kl:k<F.length:=by rw [CL.out];exact hlt
    have UA:Hid (∀ o,Below wr.heap.size wr (wr.alloc o)):=λo=>(Below.refl _ wr).alloc (Nat.le_refl _) o;have OA:Hid (∀ o,(wr.alloc o).ownsRow w.heap.size 3 1 (.slice (some ⟨w.heap.size,0,none⟩) xs.length xs.length) xs.length ((M.fillI F k).map (Value.int .i64))):=λo=>own_up HO.out (UA.out o)
    have hlen:k<((M.fillI F k).map (Value.int .i64)).length:=by rw [List.length_map,M.fill_len _ _ (by omega)];exact kl
    have FZ:∀ o,(wr.alloc o).frozen? ⟨w.heap.size,k,none⟩=false:=λo=>(OA.out o).frozenAt k
    have CZ:∀ o,(wr.alloc o).cell? ⟨w.heap.size,k,none⟩=some (((M.fillI F k).map (Value.int .i64))[k]'hlen):=λo=>by
     rw [(OA.out o).cellAt k (by omega),List.getElem?_eq_getElem hlen]
    have GX:∀ o,(wr.alloc o).cell? ⟨bx,ox+f,none⟩=some (.int .i64 (xs[k].2.1.getD f 0)):=λo=>((UA.out o).cell (p:=⟨bx,ox+f,none⟩) hbx).trans hx
    have HR:Hid (∀ o,((wr.alloc o).setCell ⟨w.heap.size,k,none⟩ (.int .i64 (xs[k].2.1.getD f 0))).ownsRow w.heap.size 3 1 (.slice (some ⟨w.heap.size,0,none⟩) xs.length xs.length) xs.length ((M.fillI F (k+1)).map (Value.int .i64))/\Below w.heap.size w ((wr.alloc o).setCell ⟨w.heap.size,k,none⟩ (.int .i64 (xs[k].2.1.getD f 0)))):=λo =>
     fill_step (w:=w) (x:=xs[k].2.1.getD f 0) CL.out hlt (CA.out k hlt kl).symm (OA.out o) (below_on K.out (UA.out o))
    have kz:(k:Int)<(xs.length:Int):=by omega
    have fz:(f:Int)<(xs[k].2.1.length:Int):=by omega
    unfold sxV at c0;rw [ex] at c0;clear hcl hcx HL AA CA HO OA UA kl SO CO SL RD RP RL EC fr hr hx ex;generalize xs[k].2.1.getD f 0=v at *;generalize xs[k].2.2.2=t at *;generalize xs[k].2.1.length=rl at *;generalize xs[k].2.2.1=rc at *;generalize ((M.fillI F k).map (Value.int .i64))[k]'hlen=z at *;clear hlen
    go_wp2
    go_roundw
    case rel=>exact ⟨k+1,by omega,by go_num,(HR.out _).1,(HR.out _).2⟩
    case measure=>simp [intOf];omega
  · have ke:k=F.length:=by rw [CL.out];omega
    have ho:=HO.out;rw [ke,M.fill_all] at ho;rw [←CL.out] at ho;have S1:=hide (SO.out (.slice (some ⟨w.heap.size,0,none⟩) F.length F.length) F wr ho (by rw [CL.out];omega) K.out.size);have C1:=hide (λW=>CO.out (.slice (some ⟨w.heap.size,0,none⟩) F.length F.length) (M.sortI F) W);rw [SL.out,RD.out] at C1;rw [CL.out] at S1 C1;have rp:=RP.out;have rl:=RL.out;clear ke ho HO HL AA CA SO CO SL RD RP RL CL;generalize M.sortI F=SI at *
    go_upto_region 8 with (go_at_call 158;refine S1.out.mono ?_;rintro e w3 ⟨rfl,ho3,hb3⟩;have K3:=hide (K.out.trans hb3);have C3:=hide (C1.out w3 ho3 (by omega) K3.out.size);clear ho3 hb3)
    clear S1 C1
    have r1:(1:Int)<=(R.length:Int):=by omega
    go_wp2_with (go_at_call 159;refine C3.out.mono ?_;rintro e w4 ⟨v4,rfl,ho4,hb4⟩;obtain ⟨g,cap,rfl,hg1,hg2⟩:=own_shape ho4 rp;have hcap:=(own_room ho4).1;have hcap2:=(own_room ho4).2;have HC:=hide hcap;have O4:=hide ho4;have K4:=hide (K3.out.trans hb4);have G1:=hide hg1;clear ho4 hb4 hg1 hg2)
    all_goals (
     go_ret
     have e1:=EC.out;have hc:=HC.out;subst e1
     first
      | exact ⟨_,⟨_,by rw [List.length_drop];rfl⟩,drop_rd O4.out _ (λ_=>rfl) rp,K4.out,λp hp=>by cases hp;exact G1.out⟩
      | exact ⟨_,⟨_,by rw [List.length_drop];rfl⟩,drop_rd O4.out _ (λq=>absurd (by omega) q) rp,K4.out,λp hp=>by cases hp;exact G1.out⟩)
set_option maxHeartbeats 8000000 in
set_option maxRecDepth 10000 in
theorem glay_leaf (m:Nat) (least:Int) (h1:1<=least) (m8:m<=8) (B d:Nat) (xs:List Sx) (a:Option Addr) (ca:Nat) (O:List M.Nd) (va:Option Addr) (vc:Nat) (w:World) (hq:d=0∨(M.spV (sms xs) m least).2.2.2.2=false) (hr:RdL w a xs) (A:Ask xs m) (hp:0<xs.length) (hv:w.ownsRow B 26 6 (.slice va O.length vc) O.length (ndCells O)) (hB:B<=w.heap.size) (hsz:O.length+1<=1000) :
 Calls Tryz.prog 69 #[.slice va O.length vc,.slice a xs.length ca,.int .i64 (m:Nat),.int .i64 (d:Nat),.int .i64 least] w λe w'=>∃ g c,e = .returned (.slice (some ⟨g,0,none⟩) (O.length+1) c)/\w'.ownsRow B 26 6 (.slice (some ⟨g,0,none⟩) (O.length+1) c) (O.length+1) (ndCells (O ++ [(-1,0,0,0,false,M.meanS (sms xs))]))/\w.grownBy w' (Value.slice va O.length vc).ownBlock/\((Value.slice va O.length vc).ownBlock=some g∨w.heap.size<=g):=by
 have l60:=A.le;have RS:=hide (best_any gcuts_any a xs ca m least w hr A m8 hp h1);have LF:=hide (λW (hW:Below w.heap.size w W)=>leafof_any a xs ca m W (hr.below hW) A hp);obtain ⟨j0,hj,hy0,hy1,hy2⟩:=info_parts infoN;have J0:=hide hj;have HV:=hide hv;have NC0:Hid (∀ v:Int,ndCells [(-1,0,0,0,false,v)] = [.int .i64 (-1),.int .i64 0,.int .i64 0,.int .i64 0,.bool false,.int .i64 v]):=λv=>rfl
 obtain ⟨dz,hdz⟩:∃ dz,dz=((d:Int) == 0):=⟨_,rfl⟩
 have q1:((d:Int) == 0)=dz:=hdz.symm
 obtain ⟨V,hV⟩:∃ V,V=M.spV (sms xs) m least:=⟨_,rfl⟩
 rw [←hV] at RS hq
 have HQ:Hid (dz=true∨V.2.2.2.2=false):=by
  rcases hq with e | e
  · left;rw [hdz,e];rfl
  · exact .inr e
 clear hr A hv hj hdz hq hV;obtain ⟨V1,V2,V3,V4,V5⟩:=V;dsimp only at RS HQ;have oB:=HV.out.lt;have OB:=hide oB;clear oB;generalize M.meanS (sms xs)=mv at *
 cases dz with
 | true =>
   clear HQ RS;have LW:=hide (LF.out w (Below.refl _ _));clear LF
   go_enter Tryz.func69,Tryz.ntmps69
   go_wp2_with (first
    | (go_at_call 114;refine LW.out.mono ?_;rintro e w2 ⟨rfl,hb2⟩;have K2:=hide hb2;have HV2:=hide (own_up HV.out hb2);have sz2:=hb2.size;clear hb2)
    | (at_builtin;refine wpList_append_lies _ rfl (.tmp 18) (.tmp 21) 27 rfl B 26 j0 (.agg #[.int .i64 0,.int .i64 0,.int .i64 0,.int .i64 0,.bool false,.int .i64 0]) 6 48 Tryz.underlying27 J0.out hy0 hy1 hy2 rfl (by omega) (.slice va O.length vc) O.length (ndCells O) rfl (HV2.out.alloc _) ⟨w2.heap.size,0,none⟩ 1 1 [.int .i64 (-1),.int .i64 0,.int .i64 0,.int .i64 0,.bool false,.int .i64 mv] rfl rfl (World.news_of_block (heap_alloc_new _ _)) (by simp [Value.oneCell']) (by omega) (by unfold maxLen;omega) (by omega) (by simp;omega) (w2.heap.size+1) (by simp) ?_))
   intro g1 c1 w1 hov hgrow hat hlt1
   have HO1:Hid (w1.ownsRow B 26 6 (.slice (some ⟨g1,0,none⟩) (O.length+1) c1) (O.length+1) (ndCells (O ++ [(-1,0,0,0,false,mv)]))):=by
    unfold Hid;rw [ndCells_app,NC0.out];exact hov
   have G1:Hid (w.grownBy w1 (Value.slice va O.length vc).ownBlock):=grown_trans (grown_of K2.out _) (grown_trans (World.grownBy_alloc w2 _ _) hgrow (.inl rfl)) (.inl rfl)
   have A1:Hid ((Value.slice va O.length vc).ownBlock=some g1∨w.heap.size<=g1):=by
    rcases hat with q | q
    · exact .inl q
    · exact .inr (by omega)
   clear hov hgrow hat HV HV2
   go_wp2
   go_ret
   exact ⟨g1,c1,rfl,HO1.out,G1.out,A1.out⟩
 | false =>
   have v5:V5=false:=HQ.out.elim (λq=>by cases q) id;subst v5;clear HQ;have UA:Hid (∀ W o,Below w.heap.size w W->Below w.heap.size w (W.alloc o)):=λW o hW=>below_on hW ((Below.refl _ W).alloc (Nat.le_refl _) o)
   go_enter Tryz.func69,Tryz.ntmps69
   go_upto_region 5 with (go_at_call 115;refine RS.out.mono ?_;rintro e w3 ⟨rfl,hb3⟩;have K3:=hide hb3;clear hb3)
   obtain ⟨w4,hw4⟩:∃ W,W=w3.alloc (.cells #[.int .i64 (V3:Nat),.int .i64 V4] 200):=⟨_,rfl⟩
   rw [←hw4]
   have K4:Hid (Below w.heap.size w w4):=by unfold Hid;rw [hw4];exact UA.out _ _ K3.out
   have LW:=hide (LF.out w4 K4.out);clear LF hw4 RS UA K3
   go_wp2_with (first
    | (go_at_call 114;refine LW.out.mono ?_;rintro e w2 ⟨rfl,hb2⟩;have K2:=hide (below_on K4.out hb2);have HV2:=hide (own_up HV.out K2.out);have sz2:=K2.out.size;clear hb2)
    | (at_builtin;refine wpList_append_lies _ rfl (.tmp 32) (.tmp 35) 27 rfl B 26 j0 (.agg #[.int .i64 0,.int .i64 0,.int .i64 0,.int .i64 0,.bool false,.int .i64 0]) 6 48 Tryz.underlying27 J0.out hy0 hy1 hy2 rfl (by omega) (.slice va O.length vc) O.length (ndCells O) rfl (HV2.out.alloc _) ⟨w2.heap.size,0,none⟩ 1 1 [.int .i64 (-1),.int .i64 0,.int .i64 0,.int .i64 0,.bool false,.int .i64 mv] rfl rfl (World.news_of_block (heap_alloc_new _ _)) (by simp [Value.oneCell']) (by omega) (by unfold maxLen;omega) (by omega) (by simp;omega) (w2.heap.size+1) (by simp) ?_))
   intro g1 c1 w1 hov hgrow hat hlt1
   have HO1:Hid (w1.ownsRow B 26 6 (.slice (some ⟨g1,0,none⟩) (O.length+1) c1) (O.length+1) (ndCells (O ++ [(-1,0,0,0,false,mv)]))):=by
    unfold Hid;rw [ndCells_app,NC0.out];exact hov
   have G1:Hid (w.grownBy w1 (Value.slice va O.length vc).ownBlock):=grown_trans (grown_of K2.out _) (grown_trans (World.grownBy_alloc w2 _ _) hgrow (.inl rfl)) (.inl rfl)
   have A1:Hid ((Value.slice va O.length vc).ownBlock=some g1∨w.heap.size<=g1):=by
    rcases hat with q | q
    · exact .inl q
    · exact .inr (by omega)
   clear hov hgrow hat HV HV2
   go_wp2
   go_ret
   exact ⟨g1,c1,rfl,HO1.out,G1.out,A1.out⟩
set_option maxHeartbeats 16000000 in
set_option maxRecDepth 10000 in
theorem glay_any (m:Nat) (least:Int) (h1:1<=least) (m8:m<=8) (B:Nat):∀ (d:Nat) (xs:List Sx) (a:Option Addr) (ca:Nat) (O:List M.Nd) (va:Option Addr) (vc:Nat) (w:World),d<=1000->RdL w a xs->M.GoodS (sms xs) m->0<xs.length->Away (Value.slice va O.length vc).ownBlock a xs->w.ownsRow B 26 6 (.slice va O.length vc) O.length (ndCells O)->B<=w.heap.size->O.length+(M.growT m least d (sms xs)).size<=1000 ->
 Calls Tryz.prog 69 #[.slice va O.length vc,.slice a xs.length ca,.int .i64 (m:Nat),.int .i64 (d:Nat),.int .i64 least] w λe w'=>∃ g c,e = .returned (.slice (some ⟨g,0,none⟩) (O.length+(M.growT m least d (sms xs)).size) c)/\w'.ownsRow B 26 6 (.slice (some ⟨g,0,none⟩) (O.length+(M.growT m least d (sms xs)).size) c) (O.length+(M.growT m least d (sms xs)).size) (ndCells (O ++ M.lay (M.growT m least d (sms xs)) O.length))/\w.grownBy w' (Value.slice va O.length vc).ownBlock/\((Value.slice va O.length vc).ownBlock=some g∨w.heap.size<=g)
 | 0,xs,a,ca,O,va,vc,w=>by
   intro hd hr hG hp hA hv hB hsz;exact glay_leaf m least h1 m8 B 0 xs a ca O va vc w (.inl rfl) hr (Ask.of hG) hp hv hB hsz
 | d+1,xs,a,ca,O,va,vc,w=>by
   intro hd hr hG hp hA hv hB hsz
   cases hfo:(M.spV (sms xs) m least).2.2.2.2 with
   | false =>
     have e:M.growT m least (d+1) (sms xs) = .lf (M.meanS (sms xs)):=by unfold M.growT;rw [if_neg (by rw [hfo];decide)]
     rw [e] at hsz ⊢;exact glay_leaf m least h1 m8 B (d+1) xs a ca O va vc w (.inr hfo) hr (Ask.of hG) hp hv hB hsz
   | true =>
     have hls:0<(sms xs).length:=by rw [sms_len];exact hp
     obtain ⟨s1,_,s3,s4,_⟩:=M.grow_sides h1 hls hfo;have A:=Ask.of hG;have RS:=hide (best_any gcuts_any a xs ca m least w hr A m8 hp h1);rw [hfo] at RS
     have ET:M.growT m least (d+1) (sms xs) = .nd ((M.spV (sms xs) m least).2.2.1:Nat) (M.spV (sms xs) m least).2.2.2.1 (decide (M.nB (sms xs) (M.spV (sms xs) m least).2.2.1 (M.spV (sms xs) m least).2.2.2.1 false<M.nB (sms xs) (M.spV (sms xs) m least).2.2.1 (M.spV (sms xs) m least).2.2.2.1 true)) (M.growT m least d (M.partS (sms xs) (M.spV (sms xs) m least).2.2.1 (M.spV (sms xs) m least).2.2.2.1 true)) (M.growT m least d (M.partS (sms xs) (M.spV (sms xs) m least).2.2.1 (M.spV (sms xs) m least).2.2.2.1 false)):=by
      rw [show M.growT m least (d+1) (sms xs)=(if (M.spV (sms xs) m least).2.2.2.2=true then _ else _) from rfl,if_pos hfo]
     generalize (M.spV (sms xs) m least).2.2.1=f at *;generalize (M.spV (sms xs) m least).2.2.2.1=cu at *
     have GA:M.GoodS (sms (partX xs f cu true)) m:=by rw [partX_sms];exact hG.part f cu true
     have GB:M.GoodS (sms (partX xs f cu false)) m:=by rw [partX_sms];exact hG.part f cu false
     rw [←partX_sms,←partX_sms,←partX_len,←partX_len] at ET;rw [←partX_len] at s3 s4
     have PA0:0<(partX xs f cu true).length:=by omega
     have PB0:0<(partX xs f cu false).length:=by omega
     have hm:0<m:=by omega
     have PC1:=hide (λW (hW:Below w.heap.size w W)=>part_any a xs ca m f cu W (hr.below hW) A s1);have IA:=hide (glay_any m least h1 m8 B d (partX xs f cu true));have IB:=hide (glay_any m least h1 m8 B d (partX xs f cu false));have AKA:=hide (A.part f cu true);have AKB:=hide (A.part f cu false);have oB:=hv.lt;have HA1:Hid (∀ ag,(∀ p,ag=some p->w.heap.size<=p.block)->Away (Value.slice va O.length vc).ownBlock ag (partX xs f cu true)):=λag hf=>away_part hA (λq hq=>(oB q hq).2) hf;have HA2:Hid (∀ ag,(∀ p,ag=some p->w.heap.size<=p.block)->Away (Value.slice va O.length vc).ownBlock ag (partX xs f cu false)):=λag hf=>away_part hA (λq hq=>(oB q hq).2) hf;have HGA:=hide GA;have HGB:=hide GB;have l60:=A.le;have la:(partX xs f cu true).length<=60:=(A.part f cu true).le;have lb:(partX xs f cu false).length<=60:=(A.part f cu false).le
     obtain ⟨TA,hTA⟩:∃ T,T=M.growT m least d (sms (partX xs f cu true)):=⟨_,rfl⟩
     obtain ⟨TB,hTB⟩:∃ T,T=M.growT m least d (sms (partX xs f cu false)):=⟨_,rfl⟩
     rw [←hTA,←hTB] at ET;rw [←hTA] at IA;rw [←hTB] at IB
     have ES:(M.growT m least (d+1) (sms xs)).size=1+TA.size+TB.size:=by rw [ET];rfl
     have EL:M.lay (M.growT m least (d+1) (sms xs)) O.length=(((f:Nat):Int),cu,((O.length+1:Nat):Int),((O.length+1+TA.size:Nat):Int),decide (((partX xs f cu false).length:Int)<((partX xs f cu true).length:Int)),0) :: (M.lay TA (O.length+1) ++ M.lay TB (O.length+1+TA.size)):=by rw [ET];rfl
     have LA:Hid (∀ k,(M.lay TA k).length=TA.size):=λk=>M.lay_len _ k;rw [ES] at hsz
     have cz1:((O.length+1:Nat):Int)=(O.length:Int)+1:=by omega
     have cz2:((O.length+1+TA.size:Nat):Int)=(O.length:Int)+1+(TA.size:Int):=by omega
     rw [ES,EL,cz1,cz2,show O.length+(1+TA.size+TB.size)=O.length+1+TA.size+TB.size by omega];obtain ⟨j0,hj,hy0,hy1,hy2⟩:=info_parts infoN;have J0:=hide hj;have HV:=hide hv
     have ol:O.length<=1000:=by omega
     obtain ⟨ls,hls'⟩:∃ ls,ls=decide (((partX xs f cu false).length:Int)<((partX xs f cu true).length:Int)):=⟨_,rfl⟩
     rw [←hls'];have t1:decide (((partX xs f cu false).length:Int)<((partX xs f cu true).length:Int))=ls:=hls'.symm
     have t2:decide ((partX xs f cu false).length<(partX xs f cu true).length)=ls:=by rw [hls',Bool.eq_iff_iff,decide_eq_true_eq,decide_eq_true_eq];omega
     have NC0:Hid (ndCells [((f:Int),cu,(0:Int),(0:Int),ls,(0:Int))] = [.int .i64 (f:Int),.int .i64 cu,.int .i64 0,.int .i64 0,.bool ls,.int .i64 0]):=rfl
     have d0:(((d+1:Nat):Int) == 0)=false:=by rw [beq_eq_false_iff_ne];omega
     have dz:IntKind.i64.wrap (((d+1:Nat):Int)-1)=(d:Int)∨True := .inr trivial;clear hv hj hA hG GA GB s1 s3 s4 hls A cz1 cz2 ES EL ET hTA hTB hfo oB dz hls';have PLA:Hid (0<(partX xs f cu true).length):=PA0;have PLB:Hid (0<(partX xs f cu false).length):=PB0;have HM0:=hide hm;clear PA0 PB0 hm hr;generalize partX xs f cu true=XA at *;generalize partX xs f cu false=XB at *
     go_enter Tryz.func69,Tryz.ntmps69
     go_upto_region 4 with (go_at_call 115;refine RS.out.mono ?_;rintro e w0 ⟨rfl,hb0⟩;have K0:=hide hb0;clear hb0)
     obtain ⟨w1,hw1⟩:∃ W,W=w0.alloc (.cells #[.int .i64 (f:Nat),.int .i64 cu] 200):=⟨_,rfl⟩
     rw [←hw1]
     have K1:Hid (Below w.heap.size w w1):=by unfold Hid;rw [hw1];exact below_on K0.out ((Below.refl _ w0).alloc (Nat.le_refl _) _)
     have N1:Hid (∀ W,Below w1.heap.size w1 W->W.cell? ⟨w0.heap.size,0,none⟩=some (.int .i64 (f:Nat))/\W.cell? ⟨w0.heap.size,1,none⟩=some (.int .i64 cu)):=λW hW=>⟨(new_kept hw1 hW).1 0 _ rfl,(new_kept hw1 hW).1 1 _ rfl⟩
     obtain ⟨y0,y1⟩:=N1.out w1 (Below.refl _ _);have PCW:=hide (PC1.out w1 K1.out);have WS1:=hide K1.out.size;clear hw1 RS PC1 K0
     go_upto_region 7 with (go_at_call 116;refine PCW.out.mono ?_;rintro e w2 ⟨pa,pac,pb,pbc,rfl,hra,hrb,hb2,hfa,hfb⟩;have k2:=hide (below_on K1.out hb2);have RA2:=hide hra;have RB:=hide hrb;have FA:Hid (∀ p,pa=some p->w.heap.size<=p.block):=(λp hp=>Nat.le_trans WS1.out (hfa p hp));have FB:Hid (∀ p,pb=some p->w.heap.size<=p.block):=(λp hp=>Nat.le_trans WS1.out (hfb p hp));obtain ⟨x0,x1⟩:=N1.out w2 hb2;clear hra hrb hb2 hfa hfb)
     have HV2:=hide (own_up HV.out k2.out);have w2s:=k2.out.size
     have o60:O.length+1<=1000:=by omega
     clear y0 y1 N1 PCW WS1
     go_wp2_with (at_builtin;refine wpList_append_lies _ rfl (.tmp 45) (.tmp 56) 27 rfl B 26 j0 (.agg #[.int .i64 0,.int .i64 0,.int .i64 0,.int .i64 0,.bool false,.int .i64 0]) 6 48 Tryz.underlying27 J0.out hy0 hy1 hy2 rfl (by omega) (.slice va O.length vc) O.length (ndCells O) rfl (HV2.out.alloc _) ⟨w2.heap.size,0,none⟩ 1 1 [.int .i64 (f:Int),.int .i64 cu,.int .i64 0,.int .i64 0,.bool ls,.int .i64 0] rfl rfl (World.news_of_block (heap_alloc_new _ _)) (by simp [Value.oneCell']) (by omega) (by unfold maxLen;omega) (by omega) (by simp;omega) (w2.heap.size+1) (by simp) ?_)
     intro g1 c1 wz hov hgrow hat hlt1
     have HOz:Hid (wz.ownsRow B 26 6 (.slice (some ⟨g1,0,none⟩) (O.length+1) c1) (O.length+1) (ndCells (O ++ [((f:Int),cu,(0:Int),(0:Int),ls,(0:Int))]))):=by
      unfold Hid;rw [ndCells_app,NC0.out];exact hov
     have G2z:Hid (w2.grownBy wz (Value.slice va O.length vc).ownBlock):=grown_trans (World.grownBy_alloc w2 _ _) hgrow (.inl rfl)
     have A1:Hid ((Value.slice va O.length vc).ownBlock=some g1∨w2.heap.size<=g1):=by
      rcases hat with q | q
      · exact .inl q
      · exact .inr (by omega)
     have Lz:O.length<(O ++ [((f:Int),cu,(0:Int),(0:Int),ls,(0:Int))]).length:=by simp
     obtain ⟨n0,n1,n2,n3,n4,n5⟩:=ndCells_at _ O.length Lz;have q2:=(HOz.out.cellAt (O.length*6+2) (by omega)).trans n2;have fz2:=HOz.out.frozenAt (O.length*6+2)
     have oz2:((O.length:Nat):Int)<((O.length+1:Nat):Int):=by omega
     clear n0 n1 n2 n3 n4 n5 Lz hov hgrow hat x0 x1
     go_upto_region 10 with fail
     obtain ⟨w3,hw3⟩:∃ W,W=wz.setCell ⟨g1,O.length*6+2,none⟩ (.int .i64 ((O.length:Int)+1)):=⟨_,rfl⟩
     rw [←hw3]
     have HO1:Hid (w3.ownsRow B 26 6 (.slice (some ⟨g1,0,none⟩) (O.length+1) c1) (O.length+1) (ndCells (O ++ [((f:Int),cu,(O.length:Int)+1,(0:Int),ls,(0:Int))]))):=by
      have st:=(HOz.out.stored (O.length*6+2) (.int .i64 ((O.length:Int)+1))).1;rw [ndCells_setL _ O.length (by simp),nAt_snoc,set_snoc] at st;rw [hw3];exact st
     have g1z:Hid ((some g1:Option Nat)=(Value.slice va O.length vc).ownBlock ∨ ∀ q,(some g1:Option Nat)=some q->w2.heap.size<=q):=by
      rcases A1.out with q | q
      · exact .inl q.symm
      · exact .inr (λz hz=>by cases hz;exact q)
     have G23:Hid (w2.grownBy w3 (Value.slice va O.length vc).ownBlock):=by
      unfold Hid;rw [hw3];exact grown_trans G2z.out grown_set g1z.out
     have G1:Hid (w.grownBy w3 (Value.slice va O.length vc).ownBlock):=grown_trans (grown_of k2.out _) G23.out (.inl rfl);clear hw3 HOz q2 fz2 G2z
     have AWA:Hid (∀ g,(Value.slice va O.length vc).ownBlock=some g∨w2.heap.size<=g->Away (some g) pa XA):=λg hg=>by
      rcases hg with q | q
      · rw [←q];exact HA1.out pa FA.out
      · exact away_new RA2.out AKA.out HM0.out PLA.out q
     have AWB:Hid (∀ g,(Value.slice va O.length vc).ownBlock=some g∨w2.heap.size<=g->Away (some g) pb XB):=λg hg=>by
      rcases hg with q | q
      · rw [←q];exact HA2.out pb FB.out
      · exact away_new RB.out AKB.out HM0.out PLB.out q
     have RA3:=hide (RA2.out.grown (HA1.out pa FA.out) G23.out);have RB3:=hide (RB.out.grown (HA2.out pb FB.out) G23.out)
     have g1s:Hid ((some g1:Option Nat)=(Value.slice va O.length vc).ownBlock ∨ ∀ q,(some g1:Option Nat)=some q->w.heap.size<=q):=by
      rcases A1.out with q | q
      · exact .inl q.symm
      · exact .inr (λz hz=>by cases hz;omega)
     have w3s:Hid (w2.heap.size<=w3.heap.size):=G23.out.size;have I1:=IA.out pa pac (O ++ [((f:Int),cu,(O.length:Int)+1,(0:Int),ls,(0:Int))]) (some ⟨g1,0,none⟩) c1 w3 (by omega) RA3.out HGA.out PLA.out (AWA.out g1 A1.out) (by rw [List.length_append];exact HO1.out) (Nat.le_trans hB (Nat.le_trans w2s w3s.out)) (by rw [List.length_append];simp;omega);rw [show (O ++ [((f:Int),cu,(O.length:Int)+1,(0:Int),ls,(0:Int))]).length=O.length+1 by simp] at I1;have HI1:=hide I1;clear HV HV2 I1 IA RA2 RB k2 HA1 HA2
     go_upto_region 11 with (go_at_call 69;refine HI1.out.mono ?_;rintro e w4 ⟨g3,c3,rfl,ho3,hg3,ha3⟩)
     have G3:Hid (w.grownBy w4 (Value.slice va O.length vc).ownBlock):=grown_trans G1.out hg3 g1s.out
     have A3:Hid ((Value.slice va O.length vc).ownBlock=some g3∨w2.heap.size<=g3):=by
      rcases ha3 with q | q
      · have e:g1=g3:=by simpa [Value.ownBlock] using q
        rw [←e];exact A1.out
      · exact .inr (Nat.le_trans w3s.out q)
     have HO3:Hid (w4.ownsRow B 26 6 (.slice (some ⟨g3,0,none⟩) (O.length+1+TA.size) c3) (O.length+1+TA.size) (ndCells (O ++ ((f:Int),cu,(O.length:Int)+1,(0:Int),ls,(0:Int)) :: M.lay TA (O.length+1)))):=by
      have:=ho3;rw [List.append_assoc] at this;exact this
     have RB4:=hide (RB3.out.grown (AWB.out g1 A1.out) hg3)
     have L3:O.length<(O ++ ((f:Int),cu,(O.length:Int)+1,(0:Int),ls,(0:Int)) :: M.lay TA (O.length+1)).length:=by simp
     obtain ⟨x0,x1,x2,x3,x4,x5⟩:=ndCells_at _ O.length L3;have q3:=(HO3.out.cellAt (O.length*6+3) (by omega)).trans x3;have fz3:=HO3.out.frozenAt (O.length*6+3)
     have oz3:((O.length:Nat):Int)<((O.length+1+TA.size:Nat):Int):=by omega
     clear ho3 ha3 x0 x1 x2 x3 x4 x5 L3 HI1 RA3 RB3 AWA HO1
     go_upto_region 12 with fail
     obtain ⟨w5,hw5⟩:∃ W,W=w4.setCell ⟨g3,O.length*6+3,none⟩ (.int .i64 ((O.length:Int)+1+(TA.size:Int))):=⟨_,rfl⟩
     rw [←hw5]
     have g3s:Hid ((some g3:Option Nat)=(Value.slice va O.length vc).ownBlock ∨ ∀ q,(some g3:Option Nat)=some q->w.heap.size<=q):=by
      rcases A3.out with q | q
      · exact .inl q.symm
      · exact .inr (λz hz=>by cases hz;omega)
     have HO4:Hid (w5.ownsRow B 26 6 (.slice (some ⟨g3,0,none⟩) (O.length+1+TA.size) c3) (O.length+1+TA.size) (ndCells (O ++ ((f:Int),cu,(O.length:Int)+1,(O.length:Int)+1+(TA.size:Int),ls,(0:Int)) :: M.lay TA (O.length+1)))):=by
      have st:=(HO3.out.stored (O.length*6+3) (.int .i64 ((O.length:Int)+1+(TA.size:Int)))).1;rw [ndCells_setR _ O.length (by simp),nAt_snoc,set_snoc] at st;rw [hw5];exact st
     have G4:Hid (w.grownBy w5 (Value.slice va O.length vc).ownBlock):=by
      rw [hw5];exact grown_trans G3.out grown_set g3s.out
     have RB5:Hid (RdL w5 pb XB):=by
      unfold Hid;rw [hw5];exact RB4.out.grown (AWB.out g3 A3.out) grown_set
     have w5s:Hid (w.heap.size<=w5.heap.size):=G4.out.size
     have len4:(O ++ ((f:Int),cu,(O.length:Int)+1,(O.length:Int)+1+(TA.size:Int),ls,(0:Int)) :: M.lay TA (O.length+1)).length=O.length+1+TA.size:=by
      rw [List.length_append,List.length_cons,LA.out];omega
     have I2:=IB.out pb pbc (O ++ ((f:Int),cu,(O.length:Int)+1,(O.length:Int)+1+(TA.size:Int),ls,(0:Int)) :: M.lay TA (O.length+1)) (some ⟨g3,0,none⟩) c3 w5 (by omega) RB5.out HGB.out PLB.out (AWB.out g3 A3.out) (by rw [len4];exact HO4.out) (Nat.le_trans hB w5s.out) (by rw [len4];omega);rw [len4] at I2;have HI2:=hide I2;clear hw5 I2 HO3 q3 fz3 len4 IB NC0 RB4
     go_wp2_with (go_at_call 69;refine HI2.out.mono ?_;rintro e w6 ⟨g5,c5,rfl,ho5,hg5,ha5⟩)
     go_ret
     refine ⟨g5,c5,rfl,?_,grown_trans G4.out hg5 g3s.out,?_⟩
     · rw [List.append_assoc,List.cons_append] at ho5
       exact ho5
     · rcases ha5 with q | q
       · have e:g3=g5:=by simpa [Value.ownBlock] using q
         rw [←e]
         rcases A3.out with z | z
         · exact .inl z
         · exact .inr (by omega)
       · exact .inr (Nat.le_trans w5s.out q)
theorem isleast_any (n:Int) (w:World) :
 Calls Tryz.prog 68 #[.int .i64 n] w λe w'=>e = .returned (.bool (decide (1<=n/\n<=60)))/\w'=w:=by
 by_cases h1:1<=n
 · have E:Hid (decide (n<=60)=decide (1<=n/\n<=60)):=by unfold Hid;rw [Bool.eq_iff_iff,decide_eq_true_eq,decide_eq_true_eq];omega
   have q:decide (1<=n)=true:=decide_eq_true h1;clear h1
   go_enter Tryz.func68,Tryz.ntmps68
   go_wp2
   go_ret
   exact ⟨ret_bool E.out,rfl⟩
 · have E:Hid (false=decide (1<=n/\n<=60)):=by unfold Hid;rw [decide_eq_false (by omega)]
   have q:decide (1<=n)=false:=decide_eq_false h1;clear h1
   go_enter Tryz.func68,Tryz.ntmps68
   go_wp2
   go_ret
   exact ⟨ret_bool E.out,rfl⟩
theorem M.grwF_sam {l:List M.Sa} {m depth least:Int} (h:(M.samF l m).2≠0):M.grwF l m depth least=(M.samF l m).2:=by unfold M.grwF;rw [if_pos h]
theorem M.grwF_num {l:List M.Sa} {m depth least:Int} (h:(M.samF l m).2=0) (h2:depth<0∨5<depth∨least<1∨60<least):M.grwF l m depth least=1:=by unfold M.grwF;rw [if_neg (by simp [h]),if_pos h2]
theorem M.grwF_ok {l:List M.Sa} {m depth least:Int} (h:(M.samF l m).2=0) (h2:¬ (depth<0∨5<depth∨least<1∨60<least)):M.grwF l m depth least=0:=by unfold M.grwF;rw [if_neg (by simp [h]),if_neg h2]
theorem M.grwT_no {l:List M.Sa} {m depth least:Int} (h:M.grwF l m depth least≠0):M.grwT l m depth least = []:=by unfold M.grwT;rw [if_neg h]
theorem nil_rdN (w:World):RdN w none []:=by
 refine ⟨Nat.zero_le _,λh=>absurd rfl h⟩
theorem M.grwF_zero {l:List M.Sa} {m depth least:Int} (h:M.grwF l m depth least=0):(M.samF l m).2=0/\¬ (depth<0∨5<depth∨least<1∨60<least):=by
 by_cases h1:(M.samF l m).2=0
 · refine ⟨h1,λh2=>?_⟩
   rw [M.grwF_num h1 h2] at h;cases h
 · rw [M.grwF_sam h1] at h
   exact absurd h h1
theorem M.grwT_len {l:List M.Sa} {m depth least:Int} (hl:0<l.length) (h:M.grwF l m depth least=0):(M.grwT l m depth least).length<=63:=by
 obtain ⟨h1,h2⟩:=M.grwF_zero h;have g2:=(M.grow_deep m.toNat least depth.toNat l).2;have p:2 ^ (depth.toNat+1)<=2 ^ 6:=Nat.pow_le_pow_right (by decide) (by omega);unfold M.grwT;rw [if_pos h,M.lay_len];omega
set_option maxHeartbeats 8000000 in
set_option maxRecDepth 10000 in
theorem grofit_own (a:Option Addr) (xs:List Sx) (ca:Nat) (m depth least:Int) (w:World) (h:RdL w a xs) (hF:M.grwF (sms xs) m depth least=0) :
 Calls Tryz.prog 40 #[.slice a xs.length ca,.int .i64 m,.int .i64 depth,.int .i64 least] w λe w'=>∃ g c,e = .returned (.tuple #[.slice (some ⟨g,0,none⟩) (M.grwT (sms xs) m depth least).length c,.nilIface])/\w'.ownsRow w.heap.size 26 6 (.slice (some ⟨g,0,none⟩) (M.grwT (sms xs) m depth least).length c) (M.grwT (sms xs) m depth least).length (ndCells (M.grwT (sms xs) m depth least))/\Below w.heap.size w w':=by
 obtain ⟨h1,h2⟩:=M.grwF_zero hF;have CK:=hide (grochk_any a xs ca m w h);obtain ⟨G,hl,hm,hz⟩:=M.sam_ok h1;rw [h1,err_nil rfl] at CK;have EF:Hid (M.grwF (sms xs) m depth least=0):=M.grwF_ok h1 h2
 obtain ⟨mn,rfl⟩:∃ mn:Nat,m=(mn:Int):=⟨m.toNat,hm.symm⟩
 obtain ⟨dn,rfl⟩:∃ dn:Nat,depth=(dn:Int):=⟨depth.toNat,by omega⟩
 rw [Int.toNat_natCast] at G
 have ET:M.grwT (sms xs) (mn:Int) (dn:Int) least=M.lay (M.growT mn least dn (sms xs)) 0:=by
  unfold M.grwT;rw [if_pos EF.out,Int.toNat_natCast,Int.toNat_natCast]
 have g2:=(M.grow_deep mn least dn (sms xs)).2;have p:2 ^ (dn+1)<=2 ^ 6:=Nat.pow_le_pow_right (by decide) (by omega)
 have lp:0<xs.length:=by rw [←sms_len];exact hl
 have LB:Hid (∀ W,Below w.heap.size w W->Calls Tryz.prog 69 #[.slice none 0 0,.slice a xs.length ca,.int .i64 (mn:Nat),.int .i64 (dn:Nat),.int .i64 least] W λe w'=>∃ g c,e = .returned (.slice (some ⟨g,0,none⟩) (M.growT mn least dn (sms xs)).size c)/\w'.ownsRow W.heap.size 26 6 (.slice (some ⟨g,0,none⟩) (M.growT mn least dn (sms xs)).size c) (M.growT mn least dn (sms xs)).size (ndCells (M.lay (M.growT mn least dn (sms xs)) 0))/\Below W.heap.size W w'):=λW hW=>by
  have:=glay_any mn least (by omega) G.m8 W.heap.size dn xs a ca [] none 0 W (by omega) (h.below hW) G lp ⟨λp hp e=>(by cases e),λx hx p hp e=>(by cases e)⟩ (World.ownsRow_nil _ _ _ _) (Nat.le_refl _) (by show 0+_<=1000;omega);refine this.mono ?_;rintro e w' ⟨g,c,rfl,ho,hg,_⟩;rw [show ([]:List M.Nd).length+(M.growT mn least dn (sms xs)).size=(M.growT mn least dn (sms xs)).size by simp,List.nil_append] at ho
  refine ⟨g,c,by simp,ho,?_⟩
  exact ⟨hg.os,hg.tape,hg.output,hg.size,λq hq=>hg.block q hq (by simp [Value.ownBlock])⟩
 have LL:(M.lay (M.growT mn least dn (sms xs)) 0).length=(M.growT mn least dn (sms xs)).size:=M.lay_len _ 0;rw [ET];have q1:decide ((dn:Int)<0)=false:=decide_eq_false (by omega);have q2:decide (5<(dn:Int))=false:=decide_eq_false (by omega);have LS:=hide (isleast_any least);rw [decide_eq_true (by omega)] at LS;have HLL:=hide LL
 have sz:(M.growT mn least dn (sms xs)).size<=63:=by omega
 rw [LL];clear h h1 h2 hF EF ET G hl hm hz LL g2 p;generalize M.growT mn least dn (sms xs)=T at *;generalize hLT:M.lay T 0=L at *;generalize T.size=ts at *;clear hLT
 go_enter Tryz.func40,Tryz.ntmps40
 go_wp2_with (first
  | (go_at_call 42;refine CK.out.mono ?_;rintro e w1 ⟨rfl,hb1⟩;have K1:=hide hb1;clear hb1)
  | (go_at_call 68;refine (LS.out _).mono ?_;rintro e w2 ⟨rfl,e2⟩;have e2':=e2.symm;subst e2')
  | (go_at_call 69;refine (LB.out _ K1.out).mono ?_;rintro e w3 ⟨g,c,rfl,ho,hb3⟩;have HO:=hide ho;have K3:=hide (below_on K1.out hb3);clear ho hb3))
 go_ret2
 exact ⟨_,_,rfl,own_low K1.out.size HO.out,K3.out⟩
set_option maxHeartbeats 8000000 in
set_option maxRecDepth 10000 in
theorem grofit_any:GroFitGives:=by
 intro a xs ca m depth least w h;have CK:=hide (grochk_any a xs ca m w h)
 by_cases h1:(M.samF (sms xs) m).2=0
 · obtain ⟨G,hl,hm,hz⟩:=M.sam_ok h1
   rw [h1,err_nil rfl] at CK
   by_cases h2:depth<0∨5<depth∨least<1∨60<least
   · have EF:Hid (M.grwF (sms xs) m depth least=1):=M.grwF_num h1 h2
     have ET:Hid (M.grwT (sms xs) m depth least = []):=M.grwT_no (by rw [EF.out];decide);rw [ET.out,EF.out,err_some (by decide)]
     by_cases h3:depth<0
     · have q1:decide (depth<0)=true:=decide_eq_true h3
       clear h h1 h2 h3 EF ET G hl hm hz;generalize xs.length=n at *
       go_enter Tryz.func40,Tryz.ntmps40
       go_wp2_with (go_at_call 42;refine CK.out.mono ?_;rintro e w1 ⟨rfl,hb1⟩;have K1:=hide hb1;clear hb1)
       go_ret2
       exact ⟨none,0,rfl,nil_rdN _,K1.out⟩
     · have q1:decide (depth<0)=false:=decide_eq_false h3
       by_cases h4:5<depth
       · have q2:decide (5<depth)=true:=decide_eq_true h4
         clear h h1 h2 h3 h4 EF ET G hl hm hz;generalize xs.length=n at *
         go_enter Tryz.func40,Tryz.ntmps40
         go_wp2_with (go_at_call 42;refine CK.out.mono ?_;rintro e w1 ⟨rfl,hb1⟩;have K1:=hide hb1;clear hb1)
         go_ret2
         exact ⟨none,0,rfl,nil_rdN _,K1.out⟩
       · have q2:decide (5<depth)=false:=decide_eq_false h4
         have LS:=hide (isleast_any least);rw [decide_eq_false (by omega)] at LS;clear h h1 h2 h3 h4 EF ET G hl hm hz;generalize xs.length=n at *
         go_enter Tryz.func40,Tryz.ntmps40
         go_wp2_with (first
          | (go_at_call 42;refine CK.out.mono ?_;rintro e w1 ⟨rfl,hb1⟩;have K1:=hide hb1;clear hb1)
          | (go_at_call 68;refine (LS.out _).mono ?_;rintro e w2 ⟨rfl,e2⟩;have e2':=e2.symm;subst e2'))
         go_ret2
         exact ⟨none,0,rfl,nil_rdN _,K1.out⟩
   · have EF:M.grwF (sms xs) m depth least=0:=M.grwF_ok h1 h2
     have LT:=M.grwT_len hl EF;rw [EF,err_nil rfl];refine (grofit_own a xs ca m depth least w h EF).mono ?_;rintro e w' ⟨g,c,rfl,ho,hb⟩;obtain ⟨pa,pc,e,hr,_⟩:=own_rdN rfl (by unfold maxLen;omega) ho;rw [Value.slice.injEq] at e
     exact ⟨_,_,rfl,by rw [e.1];exact hr,hb⟩
 · have EF:Hid (M.grwF (sms xs) m depth least=(M.samF (sms xs) m).2):=M.grwF_sam h1
   have ET:Hid (M.grwT (sms xs) m depth least = []):=M.grwT_no (by rw [EF.out];exact h1);rw [ET.out,EF.out,err_some h1];rw [err_some h1] at CK;clear h h1 EF ET;generalize (M.samF (sms xs) m).2=er at *;generalize (M.samF (sms xs) m).1=ep at *;generalize xs.length=n at *
   go_enter Tryz.func40,Tryz.ntmps40
   go_wp2_with (go_at_call 42;refine CK.out.mono ?_;rintro e w1 ⟨rfl,hb1⟩;have K1:=hide hb1;clear hb1)
   go_ret2
   exact ⟨none,0,rfl,nil_rdN _,K1.out⟩
end Go.Proofs.YtaijnacghiloaaaGreatDoor
