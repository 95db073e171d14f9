/-
  Several texts as one: FlatE.
-/
import Derived.Test.YtaijnacghiloaaaGreatDoorRunT22
import Derived.Test.YtaijnacghiloaaaGreatDoorRunT19
import Derived.Test.YtaijnacghiloaaaGreatDoorRunT23
import Derived.Test.YtaijnacghiloaaaGreatDoorRunT33
namespace Go.Proofs.YtaijnacghiloaaaGreatDoor
open Go.ChangeShapes Go.WideShapes Go.ChangeAt Go.RowKit Go.Lib
set_option linter.unusedVariables false
theorem value_any (p:Nat) (g:M.Gv) (P:Fp) (b:Option Addr) (xs:List Int) (cb:Nat) (w:World) (h:FoAt w p g P) (hr:Rd w b xs) (hs:M.standF g xs=0) (k:Nat) (hk:k<(M.gt g).length) :
 Calls Tryz.prog 98 #[.pointer (some ⟨p,0,none⟩), .int .i64 ((M.laidK (M.gt g) k).length:Nat), .slice b xs.length cb] w λ e w'=>e = .returned (.int .i64 ((M.eachL g xs).getD k 0))/\Below w.heap.size w w':=by
 obtain ⟨K,_,hl⟩:=M.stand_ok hs;have hz:=M.tree_in K hk;have rd:M.readyF ((M.gt g).getD k []) xs=0:=M.stand_ready hs (by rw [M.getD_at hk];exact List.getElem_mem hk);obtain ⟨r1,r2⟩:=M.levels_eval rd;have F:M.Fair (M.levels ((M.gt g).getD k [])) (xs.length:Int):=(M.tree_ok (M.ready_ok r1).2).1
 have e:(M.eachL g xs).getD k 0=M.nv (M.nAt (M.levels ((M.gt g).getD k [])) (M.toD (M.levels ((M.gt g).getD k [])) xs 0)):=by
  rw [M.each_at g xs hk,←r2]
  unfold M.evalV;rw [if_pos r1]
 rw [e];refine value_in p g P b xs cb _ _ w h hr F (M.allN_le K) (λ q hq => ?_);rw [M.levels_len] at hq;exact M.laidK_at hk hq
set_option maxHeartbeats 8000000 in
set_option maxRecDepth 10000 in
theorem feval_any (p:Nat) (g:M.Gv) (b:Option Addr) (xs:List Int) (cb:Nat) (w:World) (hfo:FO w p g) (hg:M.groveF g=0) (hr:Rd w b xs) :
 Calls Tryz.prog 60 #[.pointer (some ⟨p,0,none⟩), .slice b xs.length cb] w λ e w'=>e = .returned (.tuple #[.int .i64 (M.evalG g xs),errV (M.standF g xs)])/\Below w.heap.size w w':=by
 obtain ⟨P,h⟩:=hfo;have hmx:xs.length<=9223372036854775807:=hr.1;have C1:=hide (rcheck_any b xs cb w hr)
 have KC:Hid (∀ W,Below w.heap.size w W->W.cell? ⟨p,0,none⟩=some (.int .i64 (M.gf g))/\W.cell? ⟨p,1,none⟩=some (.int .i64 (M.gw g))/\W.cell? ⟨p,2,none⟩=some (.slice P.wa (M.gs g).length P.wc)/\W.cell? ⟨p,4,none⟩=some (.slice P.ra (M.allR g).length P.rc)):=λ W hW=>⟨(h.below hW).c0,(h.below hW).c1,(h.below hW).c2,(h.below hW).c4⟩
 by_cases h2:M.rowF xs=0
 · rw [err_nil h2] at C1
   by_cases h3:(xs.length:Int)=M.gf g
   · have hs:M.standF g xs=0:=by unfold M.standF;rw [if_neg (by simp [hg]),if_neg (by simp [h2]),if_neg (by simp [h3])]
     obtain ⟨K,_,_⟩:=M.stand_ok hs;have ES:Hid (errV (M.standF g xs) = .nilIface):=err_nil hs
     have EG:Hid (M.together (M.gw g) (M.gs g) (M.eachL g xs)=M.evalG g xs):=by unfold Hid M.evalG;rw [if_pos hs]
     have CT:=hide (λ W (hW:Below w.heap.size w W) ag cg (hv:Rd W ag (M.eachL g xs))=>gTog_in (M.gw g) P.wa ag (M.gs g) (M.eachL g xs) P.wc cg W (h.below hW).rw hv (M.each_vw hs) K.w1 K.w3);have CV:=hide (λ W (hW:Below w.heap.size w W) k (hk:k<(M.gt g).length)=>value_any p g P b xs cb W (h.below hW) (hr.below hW) hs k hk)
     have q:((xs.length:Int) != M.gf g)=false:=by rw [bne_eq_false_iff_eq];exact h3
     have LL:Hid ((M.eachL g xs).length=(M.allR g).length):=by unfold Hid;rw [M.each_len,M.allR_len]
     have n12:(M.allR g).length<=12:=by rw [M.allR_len];exact K.t12
     have n0:0<(M.allR g).length:=by rw [M.allR_len];exact K.t0
     have NT:Hid ((M.allR g).length=(M.gt g).length):=M.allR_len g;obtain ⟨br,or,er,hbr,hcr⟩:=h.rr.2 (by intro e;rw [e] at n0;simp at n0)
     have HCR:Hid (∀ W,Below w.heap.size w W -> ∀ i,i<(M.allR g).length->W.cell? ⟨br,or+i,none⟩=some (.int .i64 ((M.laidK (M.gt g) i).length:Nat))):=λ W hW i hi=>by
      refine ((hW.cell (p:=⟨br,or+i,none⟩) hbr).trans (hcr i hi)).trans ?_;rw [show (M.allR g).getD i 0=((M.laidK (M.gt g) i).length:Int) from M.rootsK_at _ _ i (by rw [←NT.out];exact hi)]
     rw [er] at KC;obtain ⟨i0,hi,hz0,hz1,hz2⟩:=info_parts info3;have I0:=hide hi;clear h hr hg h2 h3 hs K er hbr hcr hi;generalize M.together (M.gw g) (M.gs g) (M.eachL g xs)=T at *;generalize errV (M.standF g xs)=eS at *;generalize M.evalG g xs=ev at *;generalize M.eachL g xs=EL at *;generalize (M.allR g).length=NR at *;generalize M.gf g=gf at *;generalize M.gw g=gw at *;generalize M.gs g=gs at *
     go_enter Tryz.func60, Tryz.ntmps60
     go_wp2_with (first
      | (go_at_call 97;refine C1.out.mono ?_;rintro e w1 ⟨rfl,hb1⟩;obtain ⟨c0,c1,c2,c4⟩:=KC.out w1 hb1)
      | (at_make;refine wpList_make_full _ rfl (.tmp 27) (.tmp 27) 24 rfl w.heap.size 3 i0 (.int .i64 0) 1 Tryz.underlying24 I0.out hz0 hz1 .i64 .i64 _ _ NR rfl rfl (by omega) (by omega) (by rw [hz2];omega) (by unfold maxLen;omega) hb1.size ?_;intro w3 hown hgrow;have hb3:Below w.heap.size w w3:=hb1.grown hgrow hb1.size (λ k hk=>by cases hk);obtain ⟨d0,d1,d2,d4⟩:=KC.out w3 hb3))
     rw [made] at hown;have hg1:w.heap.size<=w1.heap.size:=hb1.size;clear hgrow C1 c0 c1 c2 c4;generalize w1.heap.size=gg at *
     have ho:w3.ownsRow w.heap.size 3 1 (.slice (some ⟨gg,0,none⟩) NR NR) NR ((M.fillK EL 0).map (Value.int .i64)):=by
      rw [M.fillK_zero,LL.out];exact hown
     have HO:=hide ho;clear hown ho
     go_wp2
     go_loopw [34] (λ i wr => ∃ k:Nat,k<=NR/\i = .int .i64 k/\wr.ownsRow w.heap.size 3 1 (.slice (some ⟨gg,0,none⟩) NR NR) NR ((M.fillK EL k).map (Value.int .i64))/\Hid (Below w.heap.size w wr)) (λ i _=>NR-(intOf i).toNat)
     case atStart=>exact ⟨0,Nat.zero_le _,rfl,HO.out,hb3⟩
     case round =>
      clear HO hb3 hb1 d0 d1 d2 d4;obtain ⟨k,hk,rfl,hown,K⟩:=hrel;obtain ⟨d0,d1,d2,d4⟩:=KC.out wr K.out
      by_cases hlt:k<NR
      · have cr:=HCR.out wr K.out k hlt
        have kz:(k:Int)<(NR:Int):=by omega
        have hkL:k<EL.length:=by rw [LL.out];exact hlt
        have EC:=hide (CV.out wr K.out k (by rw [←NT.out];exact hlt));have R:=hide (λ W (hW:Below wr.heap.size wr W)=>fillK_own hkL (own_keep hown hW));have CC:=hide (λ W (hW:Below wr.heap.size wr W)=>fillK_cell hkL LL.out (own_keep hown hW));have FZ:=hide (λ W (hW:Below wr.heap.size wr W)=>(own_keep hown hW).frozenAt k);clear hown HCR CV CT;generalize EL.getD k 0=z at *;generalize (M.laidK (M.gt g) k).length=root at *
        go_wp2_with (go_at_call 98;refine EC.out.mono ?_;rintro e w4 ⟨rfl,hb4⟩;obtain ⟨zz,hcell⟩:=CC.out w4 hb4;have hfz:=FZ.out w4 hb4)
        go_roundw
        case rel=>exact ⟨k+1,by omega,by go_num,R.out w4 hb4,(below_on K.out hb4).setCell hg1 _⟩
        case measure=>simp [intOf];omega
      · have hke:k=NR:=by omega
        rw [show M.fillK EL k=EL by rw [hke,←LL.out];exact M.fillK_all EL] at hown
        have HR:Hid (Rd wr (some ⟨gg,0,none⟩) EL):=by
         have ho:wr.ownsRow w.heap.size 3 1 (.slice (some ⟨gg,0,none⟩) EL.length EL.length) EL.length (EL.map (Value.int .i64)):=by rw [LL.out];exact hown
         obtain ⟨a,c,e,hrd⟩:=own_rd ho;cases e;exact hrd.1
        have CT1:=hide (λ W (hW:Below wr.heap.size wr W)=>CT.out W (below_on K.out hW) (some ⟨gg,0,none⟩) NR (HR.out.below hW));rw [LL.out] at CT1
        have kz : ¬ ((k:Int)<(NR:Int)):=by omega
        clear hke hown HCR CV CT HR
        go_wp2_with fail
        go_region_with (go_at_call 99;refine (CT1.out _ ((Below.refl _ _).drew)).mono ?_;rintro e w5 ⟨rfl,hb5⟩;have k5:=below_on K.out (((Below.refl _ _).drew).trans hb5))
        all_goals (
         go_wp2
         go_ret2
         exact ⟨by rw [EG.out,ES.out];rfl,k5⟩)
   · have hs:M.standF g xs=3:=by unfold M.standF;rw [if_neg (by simp [hg]),if_neg (by simp [h2]),if_pos h3]
     have EG:Hid (M.evalG g xs=0):=by unfold Hid M.evalG;rw [if_neg (by rw [hs];decide)]
     have ES:Hid (errV (M.standF g xs) = .iface 69 (.int .i64 3)):=by unfold Hid;rw [hs];exact err_some (by decide)
     have q:((xs.length:Int) != M.gf g)=true:=by rw [bne_iff_ne];exact h3
     clear h hr hg h2 h3 hs;generalize errV (M.standF g xs)=eS at *;generalize M.evalG g xs=ev at *;generalize M.gf g=gf at *
     go_enter Tryz.func60, Tryz.ntmps60
     go_wp2_with (go_at_call 97;refine C1.out.mono ?_;rintro e w1 ⟨rfl,hb1⟩;obtain ⟨c0,c1,c2,c4⟩:=KC.out w1 hb1)
     go_ret2
     exact ⟨by rw [EG.out,ES.out];rfl,hb1⟩
 · have hs:M.standF g xs=M.rowF xs:=by unfold M.standF;rw [if_neg (by simp [hg]),if_pos h2]
   have EG:Hid (M.evalG g xs=0):=by unfold Hid M.evalG;rw [if_neg (by rw [hs];exact h2)]
   have ES:Hid (errV (M.standF g xs) = .iface 69 (.int .i64 (M.rowF xs))):=by unfold Hid;rw [hs];exact err_some h2
   rw [err_some h2] at C1;clear h hr hg h2 hs KC;generalize errV (M.standF g xs)=eS at *;generalize M.evalG g xs=ev at *;generalize M.rowF xs=rf at *
   go_enter Tryz.func60, Tryz.ntmps60
   go_wp2_with (go_at_call 97;refine C1.out.mono ?_;rintro e w1 ⟨rfl,hb1⟩)
   go_ret2
   exact ⟨by rw [EG.out,ES.out];rfl,hb1⟩
end Go.Proofs.YtaijnacghiloaaaGreatDoor
