/-
  Several texts as one: RowCheck, TLeaf, TEval, GroChk.
-/
import Derived.Test.YtaijnacghiloaaaGreatDoorRunT1
import Derived.Test.YtaijnacghiloaaaGreatDoorShelf
import Derived.Test.YtaijnacghiloaaaGreatDoorRunT2
import Derived.RegionTactic
import Derived.Test.YtaijnacghiloaaaGreatDoorRunT5
import Derived.Test.YtaijnacghiloaaaGreatDoorRunT6
import Derived.Deep.RegionWith
import Derived.Test.YtaijnacghiloaaaGreatDoorRunT9
import Derived.Deep.Cut
import Derived.Deep.CutRange
namespace Go.Proofs.YtaijnacghiloaaaGreatDoor
open Go.ChangeShapes Go.WideShapes Go.ChangeAt Go.RowKit Go.Shelf Go.Lib Go.Sort
set_option linter.unusedVariables false
theorem isnum_any (x:Int) (w:World) :
 Calls Tryz.prog 131 #[.int .i64 x] w λ e w'=>e = .returned (.bool (!M.outI x))/\w'=w:=by
 by_cases h1 : -1000000<=x
 · have E:Hid (decide (x<=1000000) = !M.outI x):=by
    unfold Hid M.outI;rw [show decide (x < -1000000)=false from decide_eq_false (by omega),Bool.false_or]
    by_cases h2:x<=1000000
    · simp [h2]
    · simp [h2];omega
   have h1':decide (-1000000<=x)=true:=decide_eq_true h1;clear h1
   go_enter Tryz.func131, Tryz.ntmps131
   go_wp2
   go_ret
   exact ⟨ret_bool E.out,rfl⟩
 · have E:Hid (false = !M.outI x):=by
    unfold Hid M.outI
    rw [show decide (x < -1000000)=true from decide_eq_true (by omega)];rfl
   have h1':decide (-1000000<=x)=false:=decide_eq_false h1;clear h1
   go_enter Tryz.func131, Tryz.ntmps131
   go_wp2
   go_ret
   exact ⟨ret_bool E.out,rfl⟩
theorem bad_pred (w:World):PredAt Tryz.prog 130 #[] (Value.int .i64) M.badCell w:=λ W x _=>by
 unfold FnGives
 by_cases h1:x=M.nilI
 · have E:Hid (false=M.badCell x):=by unfold Hid;rw [h1,M.good_nil]
   have q:(x != -1125899906842624)=false:=by rw [bne_eq_false_iff_eq];exact h1
   clear h1
   go_enter Tryz.func130, Tryz.ntmps130
   go_wp2
   go_ret
   exact ⟨ret_bool E.out,0,rfl⟩
 · have E:Hid (M.outI x=M.badCell x):=by unfold Hid M.badCell;simp [h1]
   have q:(x != -1125899906842624)=true:=by rw [bne_iff_ne];exact h1
   have C:=hide (isnum_any x);clear h1;generalize M.outI x=o at *
   go_enter Tryz.func130, Tryz.ntmps130
   go_wp2_with (go_at_call 131;refine (C.out _).mono ?_;rintro e w' ⟨rfl,rfl⟩)
   go_ret
   exact ⟨ret_bool (by first | exact E.out | (rw [←E.out];done) | (rw [←E.out];simp)),0,rfl⟩
theorem rcheck_any (a:Option Addr) (xs:List Int) (cap:Nat) (w:World) (h:Rd w a xs) :
 Calls Tryz.prog 97 #[.slice a xs.length cap] w λ e w'=>e = .returned (errV (M.rowF xs))/\Below w.heap.size w w':=by
 have hm:xs.length<=9223372036854775807:=h.1
 have C:Calls Tryz.prog 129 #[.slice a xs.length cap, .func (.func 130) #[] #[]] w λ e w'=>e = .returned (.bool (xs.any M.badCell)) /\ ∃ q,w'=w.drewN q:=by
  by_cases hx:xs = []
  · subst hx
    refine (Tryz.slices_ContainsFunc_empty (α:=Int) a cap (.func (.func 130) #[] #[]) w).mono ?_;rintro e w' ⟨rfl,rfl⟩
    exact ⟨rfl,0,rfl⟩
  · obtain ⟨b,off,rfl,hb,hc⟩:=h.2 hx
    have := Tryz.slices_ContainsFunc (Value.int .i64) M.badCell 130 #[] (enters_of Tryz.func130 (by kernel_rfl) rfl) b off xs.length cap xs w (bad_pred w) (Nat.le_refl _) hm (λ j hj=>by rw [getD_bang];exact hc j hj);rw [List.take_length] at this;exact this
 by_cases h1:8<xs.length
 · have E:Hid (M.rowF xs=4):=by unfold Hid M.rowF;rw [if_pos h1]
   have hd:decide ((8:Int)<(xs.length:Int))=true:=by simp;omega
   clear h C
   go_enter Tryz.func97, Tryz.ntmps97
   go_wp2
   go_ret
   exact ⟨by rw [E.out];rfl,Below.refl _ _⟩
 · have hd:decide ((8:Int)<(xs.length:Int))=false:=by simp;omega
   have O:=hide C;clear C
   cases ho:xs.any M.badCell with
   | true =>
     have E:Hid (M.rowF xs=1):=by unfold Hid M.rowF;rw [if_neg h1,ho];rfl
     rw [ho] at O;clear h ho
     go_enter Tryz.func97, Tryz.ntmps97
     go_wp2_with (go_at_call 129;refine O.out.mono ?_;rintro e w1 ⟨rfl,q,rfl⟩)
     go_ret
     exact ⟨by rw [E.out];rfl,below_drew (Below.refl _ _) q (Nat.le_refl _)⟩
   | false =>
     have E:Hid (M.rowF xs=0):=by unfold Hid M.rowF;rw [if_neg h1,ho];rfl
     rw [ho] at O;clear h ho
     go_enter Tryz.func97, Tryz.ntmps97
     go_wp2_with (go_at_call 129;refine O.out.mono ?_;rintro e w1 ⟨rfl,q,rfl⟩)
     go_ret
     exact ⟨by rw [E.out];rfl,below_drew (Below.refl _ _) q (Nat.le_refl _)⟩
end Go.Proofs.YtaijnacghiloaaaGreatDoor

namespace Go.Proofs.YtaijnacghiloaaaGreatDoor
open Go.ChangeShapes Go.WideShapes Go.ChangeAt Go.RowKit Go.Lib
set_option linter.unusedVariables false
theorem kept_node {w W:World} {a0 a1 a2 a3 a4 a5:Value} {t:TypeId} (h:Below (w.alloc (.cells #[a0,a1,a2,a3,a4,a5] t)).heap.size (w.alloc (.cells #[a0,a1,a2,a3,a4,a5] t)) W) :
 W.cell? ⟨w.heap.size,0,none⟩=some a0/\W.cell? ⟨w.heap.size,1,none⟩=some a1/\W.cell? ⟨w.heap.size,2,none⟩=some a2/\W.cell? ⟨w.heap.size,3,none⟩=some a3/\W.cell? ⟨w.heap.size,4,none⟩=some a4/\W.cell? ⟨w.heap.size,5,none⟩=some a5:=by
 have hs:w.heap.size<(w.alloc (.cells #[a0,a1,a2,a3,a4,a5] t)).heap.size:=by simp
 exact ⟨(h.cell (p:=⟨w.heap.size,0,none⟩) hs).trans (World.cell?_alloc_at _ _ _ 0 rfl),(h.cell (p:=⟨w.heap.size,1,none⟩) hs).trans (World.cell?_alloc_at _ _ _ 1 rfl),(h.cell (p:=⟨w.heap.size,2,none⟩) hs).trans (World.cell?_alloc_at _ _ _ 2 rfl),(h.cell (p:=⟨w.heap.size,3,none⟩) hs).trans (World.cell?_alloc_at _ _ _ 3 rfl),(h.cell (p:=⟨w.heap.size,4,none⟩) hs).trans (World.cell?_alloc_at _ _ _ 4 rfl),(h.cell (p:=⟨w.heap.size,5,none⟩) hs).trans (World.cell?_alloc_at _ _ _ 5 rfl)⟩
set_option maxHeartbeats 2000000 in
theorem next_any (n:M.Nd) (a:Option Addr) (xs:List Int) (cap:Nat) (w:World) (h:Rd w a xs) (h0:0<=M.nf n) (h1:M.nf n<(xs.length:Int)) :
 Calls Tryz.prog 118 #[ndV n, .slice a xs.length cap] w λ e w'=>e = .returned (.int .i64 (M.nextI n xs))/\Below w.heap.size w w':=by
 obtain ⟨k,hk⟩ : ∃ k:Nat,M.nf n=k:=⟨(M.nf n).toNat,by omega⟩
 have hlt:k<xs.length:=by omega
 obtain ⟨b,off,rfl,hb,hc⟩:=h.2 (by intro e;subst e;simp at hlt);have hx:=hc k hlt;have B0:Hid (∀ o,Below w.heap.size w (w.alloc o)):=λ o=>(Below.refl _ w).alloc (Nat.le_refl _) o;have HX:Hid (∀ W,Below w.heap.size w W->W.cell? ⟨b,off+k,none⟩=some (.int .i64 (xs.getD k 0))):=λ W hW=>(hW.cell (p:=⟨b,off+k,none⟩) hb).trans hx;have hx1:=λ o=>HX.out _ (B0.out o)
 have NX:Hid (M.nextI n xs=if M.lessC n (xs.getD k 0)=true then M.nl n else M.nr n):=by
  unfold Hid M.nextI;rw [hk,Int.toNat_natCast]
 have TL:=hide (toleft_any n (xs.getD k 0));unfold ndV at TL ⊢;rw [hk] at TL ⊢
 have hlz:(k:Int)<(xs.length:Int):=by omega
 clear h hc h0 h1 hk hx HX;generalize M.nextI n xs=o at *;generalize M.lessC n (xs.getD k 0)=q at *;generalize xs.getD k 0=x at *;generalize M.nc n=c at *;generalize M.nl n=l at *;generalize M.nr n=r at *;generalize M.ns n=s at *;generalize M.nv n=v at *
 cases q with
 | true =>
   have E:Hid (l=o):=by have:=NX.out;rw [if_pos rfl] at this;exact this.symm
   clear NX
   go_enter Tryz.func118, Tryz.ntmps118
   go_wp2_with fail
   go_region_with (go_at_call 132;refine (TL.out _).mono ?_;rintro e w1 ⟨rfl,hb1⟩;have hb2:=((Below.refl _ _).drew).trans hb1;obtain ⟨z0,z1,z2,z3,z4,z5⟩:=kept_node hb2)
   all_goals (go_wp2;go_ret;exact ⟨ret_int E.out,below_on (B0.out _) hb2⟩)
 | false =>
   have E:Hid (r=o):=by have:=NX.out;rw [if_neg (by decide)] at this;exact this.symm
   clear NX
   go_enter Tryz.func118, Tryz.ntmps118
   go_wp2_with fail
   go_region_with (go_at_call 132;refine (TL.out _).mono ?_;rintro e w1 ⟨rfl,hb1⟩;have hb2:=((Below.refl _ _).drew).trans hb1;obtain ⟨z0,z1,z2,z3,z4,z5⟩:=kept_node hb2)
   all_goals (go_wp2;go_ret;exact ⟨ret_int E.out,below_on (B0.out _) hb2⟩)
set_option maxHeartbeats 4000000 in
set_option maxRecDepth 10000 in
theorem leaf_any (a0 b0:Option Addr) (ts:List M.Nd) (xs:List Int) (ca cb:Nat) (w:World) (ht:RdN w a0 ts) (hr:Rd w b0 xs) :
 Calls Tryz.prog 70 #[.slice a0 ts.length ca, .slice b0 xs.length cb] w λ e w'=>e = .returned (.tuple #[.int .i64 (M.leafV ts xs:Nat),errV (M.readyF ts xs)])/\Below w.heap.size w w':=by
 have hm:ts.length<=9223372036854775807:=ht.1;have hm2:xs.length<=9223372036854775807:=hr.1;have R:=hide (rcheck_any b0 xs cb w hr);have T:=hide (λ W (hW:Below w.heap.size w W)=>tcheck_any a0 ts ca (xs.length:Int) W (ht.below hW))
 by_cases h1:M.rowF xs=0
 · rw [err_nil h1] at R
   have RT:=hide (M.ready_tree (t:=ts) h1)
   by_cases h2:(M.treeF ts (xs.length:Int)).2=0
   · obtain ⟨F,e2⟩:=M.tree_ok h2
     have E0:M.readyF ts xs=0:=by rw [RT.out];exact h2
     have EV:Hid (M.leafV ts xs=M.toD ts xs 0):=by unfold Hid M.leafV;rw [if_pos E0]
     rw [err_nil E0];rw [e2,err_nil rfl] at T;have FN:=hide F.2.2.2.2.1;have l0:=F.2.1;have l63:=F.1;have HT:=hide ht;have HX:=hide hr;clear h1 h2 F e2 E0 RT ht hr;generalize M.leafV ts xs=o at *
     go_enter Tryz.func70, Tryz.ntmps70
     go_wp2_with (first
      | (go_at_call 97;refine R.out.mono ?_;rintro e w1 ⟨rfl,hb1⟩)
      | (go_at_call 50;refine (T.out _ hb1).mono ?_;rintro e w2 ⟨rfl,hb2⟩))
     go_loopw [9] (λ i wr => ∃ k:Nat,k<ts.length/\i = .int .i64 k/\Below w.heap.size w wr/\Hid (M.toD ts xs k=M.toD ts xs 0)) (λ i _=>ts.length-(intOf i).toNat)
     case atStart=>exact ⟨0,l0,rfl,below_on hb1 hb2,rfl⟩
     case round =>
      clear hb1 hb2;obtain ⟨k,hlt,rfl,hbl,I⟩:=hrel;obtain ⟨b1,off,rfl,hb1,hc⟩:=HT.out.2 (by intro e;subst e;simp at hlt);obtain ⟨s0,s1,s2,s3,s4,s5⟩:=(hc k hlt).below hbl hb1;have NS:Hid (∀ W,Below wr.heap.size wr W->SixAt W b1 (off+k*6) (M.nAt ts k)):=λ W hW=>(hc k hlt).below (below_on hbl hW) hb1;have C1:=hide (isleaf_any (M.nAt ts k));unfold ndV at C1
      by_cases hf:M.nf (M.nAt ts k) = -1
      · have e1:M.leafB (M.nAt ts k)=true:=decide_eq_true hf
        rw [e1] at C1
        have E:Hid (k=o):=by unfold Hid;rw [EV.out,←I.out,M.to_leaf hlt hf]
        clear hc e1 hf NS;generalize M.nf (M.nAt ts k)=f at *;generalize M.nc (M.nAt ts k)=c at *;generalize M.nl (M.nAt ts k)=l at *;generalize M.nr (M.nAt ts k)=r at *;generalize M.ns (M.nAt ts k)=sl at *;generalize M.nv (M.nAt ts k)=v at *
        go_wp2_with (go_at_call 117;refine (C1.out _).mono ?_;rintro e w1 ⟨rfl,hb1⟩)
        go_ret2
        exact ⟨by rw [E.out];rfl,below_on hbl hb1⟩
      · have e1:M.leafB (M.nAt ts k)=false:=decide_eq_false hf
        rw [e1] at C1;have g0:=(M.node_ask (FN.out k hlt) hf).1;have g1:=(M.node_ask (FN.out k hlt) hf).2.1;have C2:=hide (λ W (hW:Below w.heap.size w W)=>next_any (M.nAt ts k) b0 xs cb W (HX.out.below hW) g0 g1);unfold ndV at C2;obtain ⟨j,ej,j1,j2⟩:=M.next_in FN.out xs hlt hf
        have N:Hid (M.toD ts xs j=M.toD ts xs 0):=by unfold Hid;rw [←M.to_next FN.out hlt hf ej];exact I.out
        rw [ej] at C2;unfold SixAt at NS;clear hc e1 hf g0 g1 ej;generalize M.nf (M.nAt ts k)=f at *;generalize M.nc (M.nAt ts k)=c at *;generalize M.nl (M.nAt ts k)=l at *;generalize M.nr (M.nAt ts k)=r at *;generalize M.ns (M.nAt ts k)=sl at *;generalize M.nv (M.nAt ts k)=v at *
        go_wp2_with (first
         | (go_at_call 117;refine (C1.out _).mono ?_;rintro e w1 ⟨rfl,hb1⟩;obtain ⟨z0,z1,z2,z3,z4,z5⟩:=NS.out w1 hb1)
         | (go_at_call 118;refine (C2.out _ (below_on hbl hb1)).mono ?_;rintro e w2 ⟨rfl,hb2⟩))
        go_roundw
        case rel=>exact ⟨j,j2,rfl,below_on (below_on hbl hb1) hb2,N⟩
        case measure=>simp [intOf];omega
   · have E:=hide RT.out.symm
     have EV:Hid (M.leafV ts xs=0):=by unfold Hid M.leafV;rw [if_neg (by rw [RT.out];exact h2)]
     rw [err_some h2] at T;have ES:Hid (errV (M.treeF ts (xs.length:Int)).2 = .iface 69 (.int .i64 (M.treeF ts (xs.length:Int)).2)):=err_some h2;clear h1 h2 ht hr RT;generalize M.leafV ts xs=o at *;generalize M.readyF ts xs=rf at *;generalize (M.treeF ts (xs.length:Int)).2=tf at *;generalize (M.treeF ts (xs.length:Int)).1=tp at *
     go_enter Tryz.func70, Tryz.ntmps70
     go_wp2_with (first
      | (go_at_call 97;refine R.out.mono ?_;rintro e w1 ⟨rfl,hb1⟩)
      | (go_at_call 50;refine (T.out _ hb1).mono ?_;rintro e w2 ⟨rfl,hb2⟩))
     go_ret2
     exact ⟨by rw [EV.out,←E.out,ES.out];rfl,below_on hb1 hb2⟩
 · have E:=hide (M.ready_row (t:=ts) h1)
   have EV:Hid (M.leafV ts xs=0):=by unfold Hid M.leafV;rw [if_neg (by rw [E.out];exact h1)]
   rw [err_some h1] at R;have ES:=hide (err_some h1);clear h1 ht hr T;generalize M.leafV ts xs=o at *;generalize M.readyF ts xs=rf at *;generalize M.rowF xs=tf at *
   go_enter Tryz.func70, Tryz.ntmps70
   go_wp2_with (go_at_call 97;refine R.out.mono ?_;rintro e w1 ⟨rfl,hb1⟩)
   go_ret2
   exact ⟨by rw [EV.out,E.out,ES.out];rfl,hb1⟩
theorem leaf_lt {ts:List M.Nd} {xs:List Int} (h:M.readyF ts xs=0):M.leafV ts xs<ts.length/\M.evalV ts xs=M.nv (M.nAt ts (M.leafV ts xs)):=by
 obtain ⟨F,_⟩:=M.tree_ok (M.ready_ok h).2
 have e:M.leafV ts xs=M.toD ts xs 0:=by unfold M.leafV;rw [if_pos h]
 refine ⟨by rw [e];exact (M.to_end F.2.2.2.2.1 xs ts.length 0 F.2.1 (by omega)).1, ?_⟩
 rw [e];unfold M.evalV;rw [if_pos h]
theorem eval_any (a0 b0:Option Addr) (ts:List M.Nd) (xs:List Int) (ca cb:Nat) (w:World) (ht:RdN w a0 ts) (hr:Rd w b0 xs) :
 Calls Tryz.prog 41 #[.slice a0 ts.length ca, .slice b0 xs.length cb] w λ e w'=>e = .returned (.tuple #[.int .i64 (M.evalV ts xs),errV (M.readyF ts xs)])/\Below w.heap.size w w':=by
 have hm:ts.length<=9223372036854775807:=ht.1;have L:=hide (leaf_any a0 b0 ts xs ca cb w ht hr)
 by_cases h:M.readyF ts xs=0
 · obtain ⟨hlt,hv⟩:=leaf_lt h
   have EV:=hide hv;obtain ⟨b1,off,rfl,hb,hc⟩:=ht.2 (by intro e;subst e;simp at hlt);have NS:Hid (∀ W,Below w.heap.size w W->W.cell? ⟨b1,off+M.leafV ts xs*6+5,none⟩=some (.int .i64 (M.nv (M.nAt ts (M.leafV ts xs))))):=λ W hW=>((hc _ hlt).below hW hb).2.2.2.2.2;have ES:Hid (errV (M.readyF ts xs) = .nilIface):=err_nil h;rw [err_nil h] at L;clear h hv hc hr ht;generalize M.nv (M.nAt ts (M.leafV ts xs))=v at *;generalize M.leafV ts xs=k at *;generalize M.evalV ts xs=o at *;generalize errV (M.readyF ts xs)=er at *
   go_enter Tryz.func41, Tryz.ntmps41
   go_wp2_with (go_at_call 70;refine L.out.mono ?_;rintro e w1 ⟨rfl,hb1⟩;have hcell:=NS.out w1 hb1)
   go_ret2
   exact ⟨by rw [EV.out,ES.out];rfl,hb1⟩
 · have EV:Hid (M.evalV ts xs=0):=by unfold Hid M.evalV;rw [if_neg h]
   have ES:=hide (err_some h);rw [err_some h] at L;clear h hr ht;generalize M.evalV ts xs=o at *;generalize errV (M.readyF ts xs)=er at *;generalize M.readyF ts xs=rf at *
   go_enter Tryz.func41, Tryz.ntmps41
   go_wp2_with (go_at_call 70;refine L.out.mono ?_;rintro e w1 ⟨rfl,hb1⟩)
   go_ret2
   exact ⟨by rw [EV.out,ES.out];rfl,hb1⟩
set_option maxHeartbeats 4000000 in
set_option maxRecDepth 10000 in
theorem chksample_any (ra:Option Addr) (xs:List Int) (rc:Nat) (t m:Int) (w:World) (h:Rd w ra xs) :
 Calls Tryz.prog 71 #[.agg #[.slice ra xs.length rc, .int .i64 t], .int .i64 m] w λ e w'=>e = .returned (errV (M.sa1F m (xs,t)))/\Below w.heap.size w w':=by
 have hm:xs.length<=9223372036854775807:=h.1;have KA:Hid (∀ o,Below w.heap.size w (w.alloc o)):=λ o=>(Below.refl _ w).alloc (Nat.le_refl _) o;have RC:=hide (λ W (hW:Below w.heap.size w W)=>rcheck_any ra xs rc W (h.below hW));have CT:=hide (λ W (hW:Below w.heap.size w W)=>gcontains_any ra xs rc (-1125899906842624) W (h.below hW));have BX:Hid (∀ (o:Obj) W,Below (w.alloc o).heap.size (w.alloc o) W -> ∀ j v,(w.alloc o).cell? ⟨w.heap.size,j,none⟩=some v->W.cell? ⟨w.heap.size,j,none⟩=some v):=λ o W hW j v hv=>(hW.cell (p:=⟨w.heap.size,j,none⟩) (show w.heap.size<(w.alloc o).heap.size by simp)).trans hv
 obtain ⟨w1,hw1⟩ : ∃ W,W=w.alloc (.cells #[.slice ra xs.length rc, .int .i64 t] 97):=⟨_,rfl⟩
 have K1:Hid (Below w.heap.size w w1):=by unfold Hid;rw [hw1];exact KA.out _
 have B1:Hid (∀ W,Below w1.heap.size w1 W->W.cell? ⟨w.heap.size,0,none⟩=some (.slice ra xs.length rc)/\W.cell? ⟨w.heap.size,1,none⟩=some (.int .i64 t)):=λ W hW=>by
  rw [hw1] at hW
  exact ⟨BX.out _ W hW 0 _ (World.cell?_alloc_at _ _ _ 0 rfl),BX.out _ W hW 1 _ (World.cell?_alloc_at _ _ _ 1 rfl)⟩
 have R1:=hide (RC.out w1 K1.out);obtain ⟨x0,x1⟩:=B1.out w1 (Below.refl _ _);have HW:=hide hw1;clear h KA RC BX hw1
 by_cases e1:M.rowF xs=0
 · rw [e1,err_nil rfl] at R1
   by_cases e2:t < -1000∨1000<t
   · have E:Hid ((1:Int)=M.sa1F m (xs,t)):=(M.sa1_tgt (s:=(xs,t)) e1 e2).symm
     by_cases e3:t < -1000
     · have t1:decide (t < -1000)=true:=decide_eq_true e3
       clear e1 e2 e3 CT;generalize M.sa1F m (xs,t)=o at *;generalize xs.length=n at *
       go_enter Tryz.func71, Tryz.ntmps71
       go_upto_region 1 with fail
       rw [←HW.out]
       go_wp2_with (go_at_call 97;refine R1.out.mono ?_;rintro e w2 ⟨rfl,hb⟩;obtain ⟨y0,y1⟩:=B1.out w2 hb;have K2:=hide (below_on K1.out hb);clear hb)
       go_ret
       exact ⟨by rw [←E.out];rfl,K2.out⟩
     · have t1:decide (t < -1000)=false:=decide_eq_false e3
       have t2:decide (1000<t)=true:=decide_eq_true (by omega);clear e1 e2 e3 CT;generalize M.sa1F m (xs,t)=o at *;generalize xs.length=n at *
       go_enter Tryz.func71, Tryz.ntmps71
       go_upto_region 1 with fail
       rw [←HW.out]
       go_wp2_with (go_at_call 97;refine R1.out.mono ?_;rintro e w2 ⟨rfl,hb⟩;obtain ⟨y0,y1⟩:=B1.out w2 hb;have K2:=hide (below_on K1.out hb);clear hb)
       go_ret
       exact ⟨by rw [←E.out];rfl,K2.out⟩
   · have t1:decide (t < -1000)=false:=decide_eq_false (by omega)
     have t2:decide (1000<t)=false:=decide_eq_false (by omega)
     by_cases e3:(xs.length:Int)=m
     · have q:((xs.length:Int) != m)=false:=by rw [bne_eq_false_iff_eq];exact e3
       have E:Hid ((if decide (M.nilI∈xs)=true then 5 else 0:Int)=M.sa1F m (xs,t)):=by
        unfold Hid;rw [M.sa1_nil (s:=(xs,t)) e1 e2 e3]
        by_cases z:M.nilI∈xs
        · rw [if_pos (decide_eq_true z),if_pos z]
        · rw [if_neg (by rw [decide_eq_false z];decide),if_neg z]
       have CT2:Hid (∀ W,Below w.heap.size w W->Calls Tryz.prog 119 #[.slice ra xs.length rc, .int .i64 (-1125899906842624)] W λ e w'=>e = .returned (.bool (decide (M.nilI∈xs)))/\w'=W):=CT.out;clear e1 e2 e3 CT;generalize M.sa1F m (xs,t)=o at *;generalize xs.length=n at *
       cases hd:decide (M.nilI∈xs) with
       | true =>
         rw [hd] at E CT2;clear hd
         go_enter Tryz.func71, Tryz.ntmps71
         go_upto_region 1 with fail
         rw [←HW.out]
         go_wp2_with (first
          | (go_at_call 97;refine R1.out.mono ?_;rintro e w2 ⟨rfl,hb⟩;obtain ⟨y0,y1⟩:=B1.out w2 hb;have K2:=hide (below_on K1.out hb);clear hb)
          | (go_at_call 119;refine (CT2.out _ K2.out).mono ?_;rintro e w3 ⟨rfl,e3⟩;have e3':=e3.symm;subst e3'))
         go_ret
         exact ⟨by rw [←E.out];rfl,K2.out⟩
       | false =>
         rw [hd] at E CT2;clear hd
         go_enter Tryz.func71, Tryz.ntmps71
         go_upto_region 1 with fail
         rw [←HW.out]
         go_wp2_with (first
          | (go_at_call 97;refine R1.out.mono ?_;rintro e w2 ⟨rfl,hb⟩;obtain ⟨y0,y1⟩:=B1.out w2 hb;have K2:=hide (below_on K1.out hb);clear hb)
          | (go_at_call 119;refine (CT2.out _ K2.out).mono ?_;rintro e w3 ⟨rfl,e3⟩;have e3':=e3.symm;subst e3'))
         go_ret
         exact ⟨by rw [←E.out];rfl,K2.out⟩
     · have q:((xs.length:Int) != m)=true:=by rw [bne_iff_ne];exact e3
       have E:Hid ((3:Int)=M.sa1F m (xs,t)):=(M.sa1_len (s:=(xs,t)) e1 e2 e3).symm;clear e1 e2 e3 CT;generalize M.sa1F m (xs,t)=o at *;generalize xs.length=n at *
       go_enter Tryz.func71, Tryz.ntmps71
       go_upto_region 1 with fail
       rw [←HW.out]
       go_wp2_with (go_at_call 97;refine R1.out.mono ?_;rintro e w2 ⟨rfl,hb⟩;obtain ⟨y0,y1⟩:=B1.out w2 hb;have K2:=hide (below_on K1.out hb);clear hb)
       go_ret
       exact ⟨by rw [←E.out];rfl,K2.out⟩
 · have E:Hid (M.rowF xs=M.sa1F m (xs,t)):=(M.sa1_row (s:=(xs,t)) e1).symm
   rw [err_some e1] at R1;have ER:Hid (errV (M.rowF xs) = .iface 69 (.int .i64 (M.rowF xs))):=err_some e1;clear e1 CT;generalize M.sa1F m (xs,t)=o at *;generalize M.rowF xs=rf at *;generalize xs.length=n at *
   go_enter Tryz.func71, Tryz.ntmps71
   go_upto_region 1 with fail
   rw [←HW.out]
   go_wp2_with (go_at_call 97;refine R1.out.mono ?_;rintro e w2 ⟨rfl,hb⟩;obtain ⟨y0,y1⟩:=B1.out w2 hb;have K2:=hide (below_on K1.out hb);clear hb)
   go_ret
   exact ⟨by rw [←E.out,ER.out];rfl,K2.out⟩
set_option maxHeartbeats 8000000 in
set_option maxRecDepth 10000 in
theorem grochk_any:GroCheckGives:=by
 intro a xs ca m w h;have hmx:xs.length<=9223372036854775807:=h.1;have sl:=sms_len xs
 obtain ⟨V,hV⟩ : ∃ V,V=M.samF (sms xs) m:=⟨_,rfl⟩
 have EV:=hide hV;rw [←hV];obtain ⟨v1,v2⟩:=V;clear hV
 by_cases h1:60<xs.length
 · have E:Hid ((v1,v2)=((0:Nat),(4:Int))):=by unfold Hid;rw [EV.out];unfold M.samF;rw [if_pos (by omega)]
   have q:decide (60<(xs.length:Int))=true:=decide_eq_true (by omega);clear EV h sl h1
   go_enter Tryz.func42, Tryz.ntmps42
   go_wp2
   go_ret2
   have e:=E.out;cases e
   exact ⟨rfl,Below.refl _ _⟩
 · have q:decide (60<(xs.length:Int))=false:=decide_eq_false (by omega)
   by_cases h2:xs.length=0
   · have E:Hid ((v1,v2)=((0:Nat),(5:Int))):=by unfold Hid;rw [EV.out];unfold M.samF;rw [if_neg (by omega),if_pos (by omega)]
     have q2:((xs.length:Int) == 0)=true:=by rw [beq_iff_eq];omega
     clear EV h sl h1 h2;generalize xs.length=n at *
     go_enter Tryz.func42, Tryz.ntmps42
     go_wp2
     go_ret2
     have e:=E.out;cases e
     exact ⟨rfl,Below.refl _ _⟩
   · have q2:((xs.length:Int) == 0)=false:=by rw [beq_eq_false_iff_ne];omega
     by_cases h3:m<0∨8<m
     · have E:Hid ((v1,v2)=((0:Nat),(1:Int))):=by unfold Hid;rw [EV.out];unfold M.samF;rw [if_neg (by omega),if_neg (by omega),if_pos h3]
       by_cases h4:m<0
       · have q3:decide (m<0)=true:=decide_eq_true h4
         clear EV h sl h1 h2 h3 h4;generalize xs.length=n at *
         go_enter Tryz.func42, Tryz.ntmps42
         go_wp2
         go_ret2
         have e:=E.out;cases e
         exact ⟨rfl,Below.refl _ _⟩
       · have q3:decide (m<0)=false:=decide_eq_false h4
         have q4:decide (8<m)=true:=decide_eq_true (by omega);clear EV h sl h1 h2 h3 h4;generalize xs.length=n at *
         go_enter Tryz.func42, Tryz.ntmps42
         go_wp2
         go_ret2
         have e:=E.out;cases e
         exact ⟨rfl,Below.refl _ _⟩
     · have q3:decide (m<0)=false:=decide_eq_false (by omega)
       have q4:decide (8<m)=false:=decide_eq_false (by omega)
       have FA:Hid (∀ k,k<xs.length->(∀ j,j<k->M.sa1F m (M.sAt (sms xs) j)=0)->M.sa1F m (M.sAt (sms xs) k)≠0->(v1,v2)=(k,M.sa1F m (M.sAt (sms xs) k))):=λ k hk hj hn=>by rw [EV.out];exact M.sam_at (by omega) (by omega) (by omega) hj hn
       have FZ:Hid ((∀ j,j<xs.length->M.sa1F m (M.sAt (sms xs) j)=0)->(v1,v2)=((0:Nat),(0:Int))):=λ hj=>by rw [EV.out];exact M.sam_all (by omega) (by omega) (by omega) (λ j hj'=>hj j (by omega))
       have HL:=hide h;have SA:Hid (∀ k (hk:k<xs.length),M.sAt (sms xs) k=sm xs[k]):=λ k hk=>sms_at xs hk;have LX:=hide sl;clear EV h sl h1 h2 h3
       go_enter Tryz.func42, Tryz.ntmps42
       go_wp2
       go_loopw [26] (λ i wr => ∃ k:Nat,k<=xs.length/\i = .int .i64 k/\Hid (∀ j,j<k->M.sa1F m (M.sAt (sms xs) j)=0)/\Hid (Below w.heap.size w wr)) (λ i _=>xs.length-(intOf i).toNat)
       case atStart=>exact ⟨0,Nat.zero_le _,rfl,λ j hj=>absurd hj (Nat.not_lt_zero _),Below.refl _ _⟩
       case round =>
        clear q q2 q3 q4;obtain ⟨k,hk,rfl,HJ,K⟩:=hrel
        by_cases hlt:k<xs.length
        · obtain ⟨bl,ol,rfl,hbl,hcl⟩:=(HL.out.below K.out).2.2 (by intro e;rw [e] at hlt;simp at hlt)
          obtain ⟨c0,c1⟩:=hcl k hlt;have hrw:=(HL.out.below K.out).2.1 xs[k] (List.getElem_mem hlt);have UA:Hid (∀ o,Below wr.heap.size wr (wr.alloc o)):=λ o=>(Below.refl _ wr).alloc (Nat.le_refl _) o
          have CS:Hid (∀ o,Calls Tryz.prog 71 #[.agg #[.slice xs[k].1 xs[k].2.1.length xs[k].2.2.1, .int .i64 xs[k].2.2.2], .int .i64 m] (wr.alloc o) λ e w'=>e = .returned (errV (M.sa1F m (M.sAt (sms xs) k)))/\Below (wr.alloc o).heap.size (wr.alloc o) w'):=λ o=>by
           rw [SA.out k hlt];exact chksample_any _ _ _ _ _ _ (hrw.below (UA.out o))
          have FK:=hide (FA.out k hlt HJ.out)
          have kz:(k:Int)<(xs.length:Int):=by omega
          unfold sxV at c0
          by_cases e1:M.sa1F m (M.sAt (sms xs) k)=0
          · have HK:Hid (∀ j,j<k+1->M.sa1F m (M.sAt (sms xs) j)=0):=λ j hj=>by
             by_cases e:j=k
             · subst e;exact e1
             · exact HJ.out j (by omega)
            rw [e1,err_nil rfl] at CS;clear hcl hrw FK FA FZ SA HJ HL e1 LX;generalize xs[k].2.2.2=t at *;generalize xs[k].2.1.length=rl at *;generalize xs[k].2.2.1=rc at *;generalize xs[k].1=ra at *
            go_wp2_with (go_at_call 71;refine (CS.out _).mono ?_;rintro e w2 ⟨rfl,hb⟩;have K2:=hide (below_on K.out (below_on (UA.out _) hb));clear hb)
            go_roundw
            case rel=>exact ⟨k+1,by omega,by go_num,HK,K2⟩
            case measure=>simp [intOf];omega
          · have E:=hide (FK.out e1)
            rw [err_some e1] at CS;have ER:Hid (errV (M.sa1F m (M.sAt (sms xs) k)) = .iface 69 (.int .i64 (M.sa1F m (M.sAt (sms xs) k)))):=err_some e1;clear hcl hrw FK FA FZ SA HJ HL e1 LX;generalize M.sa1F m (M.sAt (sms xs) k)=er at *;generalize xs[k].2.2.2=t at *;generalize xs[k].2.1.length=rl at *;generalize xs[k].2.2.1=rc at *;generalize xs[k].1=ra at *
            go_wp2_with (go_at_call 71;refine (CS.out _).mono ?_;rintro e w2 ⟨rfl,hb⟩;have K2:=hide (below_on K.out (below_on (UA.out _) hb));clear hb)
            go_ret2
            have e:=E.out;cases e
            exact ⟨by rw [ER.out];rfl,K2.out⟩
        · have E:=hide (FZ.out (λ j hj=>HJ.out j (by omega)))
          clear FA FZ SA HJ HL LX
          go_wp2
          go_ret2
          have e:=E.out;cases e
          exact ⟨rfl,K.out⟩
end Go.Proofs.YtaijnacghiloaaaGreatDoor
