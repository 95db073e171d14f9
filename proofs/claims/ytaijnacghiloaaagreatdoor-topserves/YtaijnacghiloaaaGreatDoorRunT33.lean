/-
  Several texts as one: GEach.
-/
import Derived.Test.YtaijnacghiloaaaGreatDoorRunT11
import Derived.Test.YtaijnacghiloaaaGreatDoorRunT21
import Derived.Test.YtaijnacghiloaaaGreatDoorRunT23
import Derived.Test.YtaijnacghiloaaaGreatDoorRunT12
import Derived.OwnWalk
namespace Go.Proofs.YtaijnacghiloaaaGreatDoor
open Go.ChangeShapes Go.WideShapes Go.ChangeAt Go.RowKit Go.Lib
set_option linter.unusedVariables false
set_option maxHeartbeats 4000000 in
theorem gstand_any (G:Gr) (b:Option Addr) (xs:List Int) (cb:Nat) (w:World) (h:RdG w G) (hr:Rd w b xs) :
 Calls Tryz.prog 77 #[G.v, .slice b xs.length cb] w λ e w'=>e = .returned (errV (M.standF G.m xs))/\Below w.heap.size w w':=by
 have C1:=hide (λ W (hW:Below w.heap.size w W)=>gcheck_any G W (h.below hW));have C2:=hide (λ W (hW:Below w.heap.size w W)=>rcheck_any b xs cb W (hr.below hW));have hm2:xs.length<=9223372036854775807:=hr.1;have B0:Hid (∀ o,Below w.heap.size w (w.alloc o)):=λ o=>(Below.refl _ w).alloc (Nat.le_refl _) o;have gfe:M.gf G.m=G.f:=rfl;unfold Gr.v at C1 ⊢;clear h hr
 by_cases h1:M.groveF G.m=0
 · by_cases h2:M.rowF xs=0
   · by_cases h3:(xs.length:Int)=G.f
     · have E:Hid (M.standF G.m xs=0):=by unfold Hid M.standF;rw [if_neg (by simp [h1]),if_neg (by simp [h2]),if_neg (by rw [gfe];simp [h3])]
       have q:((xs.length:Int) != G.f)=false:=by rw [bne_eq_false_iff_eq];exact h3
       rw [E.out];rw [h1,err_nil rfl] at C1;rw [h2,err_nil rfl] at C2;clear h1 h2 h3 E gfe
       go_enter Tryz.func77, Tryz.ntmps77
       go_wp2_with (first
        | (go_at_call 21;refine (C1.out _ (B0.out _)).mono ?_;rintro e w1 ⟨rfl,hb1⟩;have k1:=below_on (B0.out _) hb1;have z0:=(kept_box hb1).1;have z2:Hid (Below w.heap.size w w1/\w1.cell? ⟨w.heap.size,0,none⟩=some (.int .i64 G.f)/\w.heap.size<w1.heap.size):=⟨k1,z0,block_lt_of_cell z0⟩)
        | (go_at_call 97;refine (C2.out _ k1).mono ?_;rintro e w2 ⟨rfl,hb2⟩;have k2:=below_on k1 hb2;have z1:=(hb2.cell (p:=⟨w.heap.size,0,none⟩) z2.out.2.2).trans z0))
       go_ret
       exact ⟨err_none rfl,k2⟩
     · have E:Hid (M.standF G.m xs=3):=by unfold Hid M.standF;rw [if_neg (by simp [h1]),if_neg (by simp [h2]),if_pos (by rw [gfe];exact h3)]
       have q:((xs.length:Int) != G.f)=true:=by rw [bne_iff_ne];exact h3
       rw [E.out];rw [h1,err_nil rfl] at C1;rw [h2,err_nil rfl] at C2;clear h1 h2 h3 E gfe
       go_enter Tryz.func77, Tryz.ntmps77
       go_wp2_with (first
        | (go_at_call 21;refine (C1.out _ (B0.out _)).mono ?_;rintro e w1 ⟨rfl,hb1⟩;have k1:=below_on (B0.out _) hb1;have z0:=(kept_box hb1).1;have z2:Hid (Below w.heap.size w w1/\w1.cell? ⟨w.heap.size,0,none⟩=some (.int .i64 G.f)/\w.heap.size<w1.heap.size):=⟨k1,z0,block_lt_of_cell z0⟩)
        | (go_at_call 97;refine (C2.out _ k1).mono ?_;rintro e w2 ⟨rfl,hb2⟩;have k2:=below_on k1 hb2;have z1:=(hb2.cell (p:=⟨w.heap.size,0,none⟩) z2.out.2.2).trans z0))
       go_ret
       exact ⟨err_num 3 (by decide),k2⟩
   · have E:Hid (M.rowF xs=M.standF G.m xs):=by unfold Hid M.standF;rw [if_neg (by simp [h1]),if_pos h2]
     have HZ:=hide h2;rw [h1,err_nil rfl] at C1;rw [err_some h2] at C2;clear h1 h2 gfe;generalize M.standF G.m xs=sf at *;generalize M.rowF xs=rf at *
     go_enter Tryz.func77, Tryz.ntmps77
     go_wp2_with (first
      | (go_at_call 21;refine (C1.out _ (B0.out _)).mono ?_;rintro e w1 ⟨rfl,hb1⟩;have k1:=below_on (B0.out _) hb1)
      | (go_at_call 97;refine (C2.out _ k1).mono ?_;rintro e w2 ⟨rfl,hb2⟩;have k2:=below_on k1 hb2))
     go_ret
     exact ⟨err_is E.out HZ.out,k2⟩
 · have E:Hid (M.groveF G.m=M.standF G.m xs):=by unfold Hid M.standF;rw [if_pos h1]
   have HZ:=hide h1;rw [err_some h1] at C1;clear h1 gfe;generalize M.standF G.m xs=sf at *;generalize M.groveF G.m=gF at *
   go_enter Tryz.func77, Tryz.ntmps77
   go_wp2_with (go_at_call 21;refine (C1.out _ (B0.out _)).mono ?_;rintro e w1 ⟨rfl,hb1⟩;have k1:=below_on (B0.out _) hb1)
   go_ret
   exact ⟨err_is E.out HZ.out,k1⟩
set_option maxHeartbeats 8000000 in
set_option maxRecDepth 10000 in
theorem geach_any:EachGives:=by
 intro G b xs cb w h hr;have C1:=hide (λ W (hW:Below w.heap.size w W)=>gstand_any G b xs cb W (h.below hW) (hr.below hW));have B0:Hid (∀ o,Below w.heap.size w (w.alloc o)):=λ o=>(Below.refl _ w).alloc (Nat.le_refl _) o
 have RN : ∀ W,Rd W none []:=λ W=>⟨Nat.zero_le _,λ h=>absurd rfl h⟩
 by_cases hs:M.standF G.m xs=0
 · obtain ⟨K,_,_⟩:=M.stand_ok hs
   have tlen:(M.gt G.m).length=G.ks.length:=tl_len G.ks
   have n0:0<G.ks.length:=by rw [←tlen];exact K.t0
   have n12:G.ks.length<=12:=by rw [←tlen];exact K.t12
   have EV:Hid (M.eachV G.m xs=M.eachL G.m xs):=by unfold Hid M.eachV;rw [if_pos hs]
   have LL:Hid ((M.eachL G.m xs).length=G.ks.length):=(M.each_len G.m xs).trans tlen
   have LA:Hid (∀ k (hk:k<G.ks.length),(M.eachL G.m xs).getD k 0=M.evalV G.ks[k].2.1 xs):=λ k hk=>by
    rw [M.each_at G.m xs (by rw [tlen];exact hk)];show M.evalV ((tl G.ks).getD k []) xs=_;rw [tl_at G.ks hk]
   have RD:Hid (∀ k (hk:k<G.ks.length),M.readyF G.ks[k].2.1 xs=0):=λ k hk=>by
    refine M.stand_ready hs ?_;show _∈tl G.ks;unfold tl;exact List.mem_map.2 ⟨_,List.getElem_mem hk,rfl⟩
   have RT:Hid (∀ W,Below w.heap.size w W -> ∀ k (hk:k<G.ks.length),RdN W G.ks[k].1 G.ks[k].2.1):=λ W hW k hk=>(h.below hW).2.2.1 _ (List.getElem_mem hk);obtain ⟨bt,ot,eta,hbt,hct0⟩:=h.2.2.2 (by intro e;rw [e] at n0;simp at n0);have HCT:Hid (∀ W,Below w.heap.size w W -> ∀ i (hi:i<G.ks.length),W.cell? ⟨bt,ot+i,none⟩=some (tV G.ks[i])):=λ W hW i hi=>(hW.cell (p:=⟨bt,ot+i,none⟩) hbt).trans (hct0 i hi);have HR:=hide (λ W (hW:Below w.heap.size w W)=>hr.below hW);obtain ⟨i0,hi,hz0,hz1,hz2⟩:=info_parts info3;have ES:Hid (errV (M.standF G.m xs) = .nilIface):=err_nil hs;rw [err_nil hs] at C1;unfold Gr.v at C1 ⊢;rw [eta] at C1 ⊢;clear hs K tlen hct0 hbt eta h hr;generalize errV (M.standF G.m xs)=er at *;generalize M.eachV G.m xs=EVV at *;generalize M.eachL G.m xs=L at *
   go_enter Tryz.func46, Tryz.ntmps46
   go_wp2_with (first
    | (go_at_call 77;refine (C1.out _ (B0.out _)).mono ?_;rintro e w1 ⟨rfl,hb1⟩;have hb1':=below_on (B0.out _) hb1;have c3:=(kept_box hb1).2.2.2)
    | (at_make;refine wpList_make_full _ rfl (.tmp 20) (.tmp 20) 24 rfl w.heap.size 3 i0 (.int .i64 0) 1 Tryz.underlying24 hi hz0 hz1 .i64 .i64 _ _ G.ks.length rfl rfl (by omega) (by omega) (by rw [hz2];omega) (by unfold maxLen;omega) hb1'.size ?_;intro w3 hown hgrow;have c33:=(((Below.refl _ w1).grown hgrow (Nat.le_refl _) (λ k hk=>by cases hk)).cell (p:=⟨w.heap.size,3,none⟩) (block_lt_of_cell c3)).trans c3))
   rw [made] at hown;have hb3:Below w.heap.size w w3:=hb1'.grown hgrow hb1'.size (λ k hk=>by cases hk);have hg1:w.heap.size<=w1.heap.size:=hb1'.size;clear hgrow hi hz0 hz1 hz2 C1 c3;generalize w1.heap.size=g at *
   have ho:w3.ownsRow w.heap.size 3 1 (.slice (some ⟨g,0,none⟩) G.ks.length G.ks.length) G.ks.length ((M.fillK L 0).map (Value.int .i64)):=by
    rw [M.fillK_zero,LL.out];exact hown
   clear hown c33
   go_loopw [25] (λ i wr => ∃ k:Nat,k<=G.ks.length/\i = .int .i64 k/\wr.ownsRow w.heap.size 3 1 (.slice (some ⟨g,0,none⟩) G.ks.length G.ks.length) G.ks.length ((M.fillK L k).map (Value.int .i64))/\Below w.heap.size w wr) (λ i _=>G.ks.length-(intOf i).toNat)
   case atStart=>exact ⟨0,Nat.zero_le _,rfl,ho,hb3⟩
   case round =>
    clear ho hb3 hb1 hb1';obtain ⟨k,hk,rfl,hown,hbl⟩:=hrel
    by_cases hlt:k<G.ks.length
    · have ct:=HCT.out wr hbl k hlt
      have kz:(k:Int)<(G.ks.length:Int):=by omega
      have hkL:k<L.length:=by rw [LL.out];exact hlt
      have EC:=hide (eval_any G.ks[k].1 b G.ks[k].2.1 xs G.ks[k].2.2 cb wr (RT.out wr hbl k hlt) (HR.out wr hbl));rw [RD.out k hlt,err_nil rfl] at EC;have R:=hide (λ W (hW:Below wr.heap.size wr W)=>fillK_own hkL (own_keep hown hW));have CC:=hide (λ W (hW:Below wr.heap.size wr W)=>fillK_cell hkL LL.out (own_keep hown hW));have FZ:=hide (λ W (hW:Below wr.heap.size wr W)=>(own_keep hown hW).frozenAt k);rw [LA.out k hlt] at R;unfold tV at ct;clear hown HCT RT RD LA HR;generalize M.evalV G.ks[k].2.1 xs=z at *;generalize G.ks[k].2.1.length=tn at *;generalize G.ks[k].2.2=tcc at *;generalize G.ks[k].1=ta at *
      go_wp2_with (go_at_call 41;refine EC.out.mono ?_;rintro e w4 ⟨rfl,hb4⟩;obtain ⟨zz,hcell⟩:=CC.out w4 hb4;have hfz:=FZ.out w4 hb4)
      go_roundw
      case rel=>exact ⟨k+1,by omega,by go_num,R.out w4 hb4,(below_on hbl hb4).setCell hg1 _⟩
      case measure=>simp [intOf];omega
    · have hke:k=G.ks.length:=by omega
      have EK:=hide hke;rw [show M.fillK L k=L by rw [hke,←LL.out];exact M.fillK_all L] at hown;have HO:=hide hown;clear hke hown HCT RT RD LA HR
      go_wp2
      go_ret2
      refine ⟨some ⟨g,0,none⟩,G.ks.length,by rw [EV.out,ES.out,LL.out];rfl, ?_,hbl⟩
      rw [EV.out]
      have ho:wr.ownsRow w.heap.size 3 1 (.slice (some ⟨g,0,none⟩) L.length L.length) L.length (L.map (Value.int .i64)):=by rw [LL.out];exact HO.out
      obtain ⟨a,c,e,hrd⟩:=own_rd ho;cases e;exact hrd.1
 · have EV:Hid (M.eachV G.m xs = []):=by unfold Hid M.eachV;rw [if_neg hs]
   have ES:=hide (err_some hs);rw [err_some hs] at C1;unfold Gr.v at C1 ⊢;clear hs h hr;generalize errV (M.standF G.m xs)=er at *;generalize M.eachV G.m xs=EVV at *;generalize M.standF G.m xs=sf at *
   go_enter Tryz.func46, Tryz.ntmps46
   go_wp2_with (go_at_call 77;refine (C1.out _ (B0.out _)).mono ?_;rintro e w1 ⟨rfl,hb1⟩;have hb1':=below_on (B0.out _) hb1)
   go_ret2
   exact ⟨none,0,by rw [EV.out,ES.out];rfl,by rw [EV.out];exact RN _,hb1'⟩
theorem M.each_vw {g:M.Gv} {r:List Int} (h:M.standF g r=0):Vw (M.gs g) (M.eachL g r):=by
 obtain ⟨K,_,_⟩:=M.stand_ok h;have hE:=M.each_len g r
 exact ⟨by rw [hE];exact K.len,by rw [hE];exact K.t0,by rw [hE];exact K.t12,λ i hi=>M.each_in h (by rw [←hE];exact hi),λ i hi=>M.wt_at K (by rw [←hE];exact hi)⟩
set_option maxHeartbeats 4000000 in
theorem geval_any:EvalGives:=by
 intro G b xs cb w h hr;have C1:=hide (λ W (hW:Below w.heap.size w W)=>geach_any G b xs cb W (h.below hW) (hr.below hW));have B0:Hid (∀ o,Below w.heap.size w (w.alloc o)):=λ o=>(Below.refl _ w).alloc (Nat.le_refl _) o
 by_cases hs:M.standF G.m xs=0
 · obtain ⟨K,_,_⟩:=M.stand_ok hs
   have EV:Hid (M.eachV G.m xs=M.eachL G.m xs):=by unfold Hid M.eachV;rw [if_pos hs]
   have EG:Hid (M.together G.w G.ws (M.eachL G.m xs)=M.evalG G.m xs):=by unfold Hid M.evalG;rw [if_pos hs];rfl
   have CT:=hide (λ W (hW:Below w.heap.size w W) ag cg (hv:Rd W ag (M.eachL G.m xs))=>gtog_in G.w G.wa ag G.ws (M.eachL G.m xs) G.wc cg W (h.below hW).1 hv (M.each_vw hs) K.w1 K.w3);have ES:Hid (errV (M.standF G.m xs) = .nilIface):=err_nil hs;rw [err_nil hs] at C1;rw [EV.out] at C1;unfold Gr.v at C1 ⊢;clear hs h hr K EV;generalize M.together G.w G.ws (M.eachL G.m xs)=T at *;generalize errV (M.standF G.m xs)=er at *;generalize M.evalG G.m xs=ev at *;generalize M.eachL G.m xs=L at *
   go_enter Tryz.func20, Tryz.ntmps20
   go_wp2_with (first
    | (go_at_call 46;refine (C1.out _ (B0.out _)).mono ?_;rintro e w1 ⟨ag,cg,rfl,hrd,hb1⟩;have hb1':=below_on (B0.out _) hb1;have c0:=(kept_box hb1).1;have c1:=(kept_box hb1).2.1;have c2:=(kept_box hb1).2.2.1;have c3:=(kept_box hb1).2.2.2;have HRD:=hide hrd;clear hrd)
    | (go_at_call 47;refine (CT.out _ hb1' ag cg HRD.out).mono ?_;rintro e w2 ⟨rfl,hb2⟩;have hb2':=below_on hb1' hb2))
   go_ret2
   exact ⟨by rw [EG.out,ES.out];rfl,hb2'⟩
 · have EV:Hid (M.eachV G.m xs = []):=by unfold Hid M.eachV;rw [if_neg hs]
   have EG:Hid (M.evalG G.m xs=0):=by unfold Hid M.evalG;rw [if_neg hs]
   have ES:=hide (err_some hs);rw [err_some hs] at C1;unfold Gr.v at C1 ⊢;clear hs h hr EV;generalize errV (M.standF G.m xs)=er at *;generalize M.eachV G.m xs=EVV at *;generalize M.evalG G.m xs=ev at *;generalize M.standF G.m xs=sf at *
   go_enter Tryz.func20, Tryz.ntmps20
   go_wp2_with (go_at_call 46;refine (C1.out _ (B0.out _)).mono ?_;rintro e w1 ⟨ag,cg,rfl,hrd,hb1⟩;have hb1':=below_on (B0.out _) hb1;have HRD:=hide hrd;clear hrd)
   go_ret2
   exact ⟨by rw [EG.out,ES.out];rfl,hb1'⟩
end Go.Proofs.YtaijnacghiloaaaGreatDoor
