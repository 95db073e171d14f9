/-
  Several texts as one: FlatV.
-/
import Derived.Test.YtaijnacghiloaaaGreatDoorRunT19
import Derived.Test.YtaijnacghiloaaaGreatDoorRunT6
import Derived.Test.YtaijnacghiloaaaGreatDoorRunT21
import Derived.Deep.Cut
import Derived.Deep.CutRange
namespace Go.Proofs.YtaijnacghiloaaaGreatDoor
open Go.ChangeShapes Go.WideShapes Go.ChangeAt Go.RowKit Go.Lib
set_option linter.unusedVariables false
theorem sh_less (o:Nat) (n:M.Nd) (x:Int):M.lessC (M.sh o n) x=M.lessC n x:=by unfold M.lessC;rw [M.sh_nc,M.sh_ns]
set_option maxHeartbeats 8000000 in
set_option maxRecDepth 10000 in
theorem value_in (p:Nat) (g:M.Gv) (P:Fp) (b:Option Addr) (xs:List Int) (cb root:Nat) (L:List M.Nd) (w:World) (h:FoAt w p g P) (hr:Rd w b xs) (F:M.Fair L (xs.length:Int))
 (hN:(M.allN g).length<=1000) (hL : ∀ q,q<L.length->M.nAt (M.allN g) (root+q)=M.sh root (M.nAt L q)/\root+q<(M.allN g).length) :
 Calls Tryz.prog 98 #[.pointer (some ⟨p,0,none⟩), .int .i64 (root:Nat), .slice b xs.length cb] w λ e w'=>e = .returned (.int .i64 (M.nv (M.nAt L (M.toD L xs 0))))/\Below w.heap.size w w':=by
 have l0:0<L.length:=F.2.1;have FN:=hide F.2.2.2.2.1
 have n0:0<(M.allN g).length:=by have:=(hL 0 l0).2;omega
 obtain ⟨bn,on,en,hbn,hcn⟩:=h.rn.2 (by intro e;rw [e] at n0;simp at n0)
 have KN:Hid (∀ W,Below w.heap.size w W->W.cell? ⟨p,3,none⟩=some (.slice (some ⟨bn,on,none⟩) (M.allN g).length P.nc) /\ ∀ q,q<L.length->SixAt W bn (on+(root+q)*6) (M.sh root (M.nAt L q))):=λ W hW=>by
  refine ⟨by rw [←en];exact (h.below hW).c3,λ q hq => ?_⟩
  have:=(hcn (root+q) (hL q hq).2).below hW hbn
  rwa [(hL q hq).1] at this
 have HX:=hide (λ W (hW:Below w.heap.size w W)=>hr.below hW);have IN:Hid (∀ q,q<L.length->root+q<(M.allN g).length):=λ q hq=>(hL q hq).2;have B0:Hid (∀ o,Below w.heap.size w (w.alloc o)):=λ o=>(Below.refl _ w).alloc (Nat.le_refl _) o;have hmx:xs.length<=9223372036854775807:=hr.1;have c3:=(KN.out w (Below.refl _ _)).1;obtain ⟨r0,r1,r2,r3,r4,r5⟩:=(KN.out w (Below.refl _ _)).2 0 l0;simp only [Nat.add_zero] at r0 r1 r2 r3 r4 r5
 have rz:(root:Int)<((M.allN g).length:Int):=by have:=IN.out 0 l0;omega
 have S0:Hid (Six (w.alloc (.cells #[.int .i64 (M.nf (M.sh root (M.nAt L 0))), .int .i64 (M.nc (M.sh root (M.nAt L 0))), .int .i64 (M.nl (M.sh root (M.nAt L 0))), .int .i64 (M.nr (M.sh root (M.nAt L 0))), .bool (M.ns (M.sh root (M.nAt L 0))), .int .i64 (M.nv (M.sh root (M.nAt L 0)))] 26)) w.heap.size (M.sh root (M.nAt L 0))) :=
  ⟨World.cell?_alloc_at _ _ _ 0 rfl,World.cell?_alloc_at _ _ _ 1 rfl,World.cell?_alloc_at _ _ _ 2 rfl,World.cell?_alloc_at _ _ _ 3 rfl,World.cell?_alloc_at _ _ _ 4 rfl,World.cell?_alloc_at _ _ _ 5 rfl⟩
 have FR:Hid (∀ cs t j,(w.alloc (.cells cs t)).frozen? ⟨w.heap.size,j,none⟩=false):=λ cs t j=>by
  unfold World.frozen?;rw [show (w.alloc (.cells cs t)).heap[w.heap.size]? = some (.cells cs t) from heap_alloc_new w _];simp
 clear h hr F hL en hbn hcn;generalize (M.allN g).length=NN at *
 obtain ⟨sf,hsf⟩ : ∃ z,z=M.nf (M.sh root (M.nAt L 0)):=⟨_,rfl⟩
 obtain ⟨sc,hsc⟩ : ∃ z,z=M.nc (M.sh root (M.nAt L 0)):=⟨_,rfl⟩
 obtain ⟨sl,hsl⟩ : ∃ z,z=M.nl (M.sh root (M.nAt L 0)):=⟨_,rfl⟩
 obtain ⟨sr,hsr⟩ : ∃ z,z=M.nr (M.sh root (M.nAt L 0)):=⟨_,rfl⟩
 obtain ⟨ss,hss⟩ : ∃ z,z=M.ns (M.sh root (M.nAt L 0)):=⟨_,rfl⟩
 obtain ⟨sv,hsv⟩ : ∃ z,z=M.nv (M.sh root (M.nAt L 0)):=⟨_,rfl⟩
 rw [←hsf] at r0;rw [←hsc] at r1;rw [←hsl] at r2;rw [←hsr] at r3;rw [←hss] at r4;rw [←hsv] at r5;rw [←hsf,←hsc,←hsl,←hsr,←hss,←hsv] at S0;clear hsf hsc hsl hsr hss hsv
 go_enter Tryz.func98, Tryz.ntmps98
 go_wp2
 go_loopw [] (λ wr => ∃ q:Nat,q<L.length/\Hid (M.toD L xs q=M.toD L xs 0)/\Hid (Six wr w.heap.size (M.sh root (M.nAt L q)))/\Hid (∀ j,wr.frozen? ⟨w.heap.size,j,none⟩=false)/\Hid (Below w.heap.size w wr)/\Hid (w.heap.size<wr.heap.size)) (λ wr=>vFar w.heap.size wr)
 case atStart=>exact ⟨0,l0,rfl,S0,λ j=>FR.out _ _ j,B0.out _,by simp [Hid]⟩
 case round =>
  clear S0 FR r0 r1 r2 r3 r4 r5 c3 rz;obtain ⟨q,hlt,I,S,FR,K,SZ⟩:=hrel;have VF:=hide (vFar_six S.out);obtain ⟨s0,s1,s2,s3,s4,s5⟩:=S.out;rw [M.sh_nf] at s0;rw [M.sh_nv] at s5;have hsz:=SZ.out
  by_cases hf:M.nf (M.nAt L q) = -1
  · have t:(M.nf (M.nAt L q) != -1)=false:=by rw [bne_eq_false_iff_eq];exact hf
    have E:Hid (M.nv (M.nAt L q)=M.nv (M.nAt L (M.toD L xs 0))):=by unfold Hid;rw [←I.out,M.to_leaf hlt hf]
    clear hf VF S I KN HX IN FN;generalize M.nf (M.nAt L q)=nf at *;generalize M.nv (M.nAt L q)=nv at *
    go_wp2
    go_ret
    exact ⟨ret_int E.out,K.out⟩
  · have t:(M.nf (M.nAt L q) != -1)=true:=by rw [bne_iff_ne];exact hf
    have g0:=(M.node_ask (FN.out q hlt) hf).1;have g1:=(M.node_ask (FN.out q hlt) hf).2.1
    obtain ⟨f,ef⟩ : ∃ f:Nat,M.nf (M.nAt L q)=f:=⟨(M.nf (M.nAt L q)).toNat,by omega⟩
    obtain ⟨a,c,ea,ec,qa,al,qc,cl,_⟩:=M.ask_at FN.out hlt hf
    have el:M.nl (M.sh root (M.nAt L q))=((root+a:Nat):Int):=by rw [M.sh_ask root hf];show M.nl (M.nAt L q)+(root:Nat)=_;rw [ea];omega
    have er:M.nr (M.sh root (M.nAt L q))=((root+c:Nat):Int):=by rw [M.sh_ask root hf];show M.nr (M.nAt L q)+(root:Nat)=_;rw [ec];omega
    have NX:Hid (M.nextI (M.nAt L q) xs=if M.lessC (M.nAt L q) (xs.getD f 0)=true then (a:Int) else (c:Int)):=by
     unfold Hid M.nextI;rw [ef,Int.toNat_natCast,ea,ec]
    have hfl:f<xs.length:=by omega
    obtain ⟨bx,ox,ex,hbx,hcx⟩:=(HX.out wr K.out).2 (by intro e;rw [e] at hfl;simp at hfl);have hx:=hcx f hfl
    have fz:(f:Int)<(xs.length:Int):=by omega
    have TL:=hide (toleft_any (M.sh root (M.nAt L q)) (xs.getD f 0));rw [sh_less] at TL;unfold ndV at TL
    have SN:Hid (∀ j,q<j->j<L.length->M.nextI (M.nAt L q) xs=(j:Int)->M.toD L xs j=M.toD L xs 0):=λ j h1 h2 e=>by rw [←M.to_next FN.out hlt hf e];exact I.out
    have VM:Hid (∀ j W,q<j->j<L.length->min a c<=j->Six W w.heap.size (M.sh root (M.nAt L j))->vFar w.heap.size W<vFar w.heap.size wr):=λ j W h1 h2 h3 hs=>by
     rw [VF.out,M.sh_nf,if_neg hf,vFar_six hs,M.sh_nf,el,er,Int.toNat_natCast,Int.toNat_natCast];have i1:=IN.out a al;have i2:=IN.out c cl
     by_cases hj:M.nf (M.nAt L j) = -1
     · rw [if_pos hj];omega
     · obtain ⟨a2,c2,ea2,ec2,h4,h5,h6,h7,_⟩:=M.ask_at FN.out h2 hj
       have el2:M.nl (M.sh root (M.nAt L j))=((root+a2:Nat):Int):=by rw [M.sh_ask root hj];show M.nl (M.nAt L j)+(root:Nat)=_;rw [ea2];omega
       have er2:M.nr (M.sh root (M.nAt L j))=((root+c2:Nat):Int):=by rw [M.sh_ask root hj];show M.nr (M.nAt L j)+(root:Nat)=_;rw [ec2];omega
       rw [if_neg hj,el2,er2,Int.toNat_natCast,Int.toNat_natCast];omega
    have UP:Hid (∀ W,Below wr.heap.size wr W->Six W w.heap.size (M.sh root (M.nAt L q))/\(∀ j,W.frozen? ⟨w.heap.size,j,none⟩=false)/\Below w.heap.size w W/\w.heap.size<W.heap.size):=λ W hW =>
     ⟨S.out.below hW hsz,λ j=>(hW.frozen (p:=⟨w.heap.size,j,none⟩) hsz).trans (FR.out j),below_on K.out hW,Nat.lt_of_lt_of_le hsz hW.size⟩
    subst ex
    have UPS:Hid (∀ W,Below wr.heap.size wr W->W.cell? ⟨w.heap.size,0,none⟩=some (.int .i64 (f:Int))/\W.cell? ⟨w.heap.size,1,none⟩=some (.int .i64 (M.nc (M.sh root (M.nAt L q))))/\W.cell? ⟨w.heap.size,2,none⟩=some (.int .i64 ((root+a:Nat):Int))/\W.cell? ⟨w.heap.size,3,none⟩=some (.int .i64 ((root+c:Nat):Int))/\W.cell? ⟨w.heap.size,4,none⟩=some (.bool (M.ns (M.sh root (M.nAt L q))))/\W.cell? ⟨w.heap.size,5,none⟩=some (.int .i64 (M.nv (M.nAt L q)))):=λ W hW=>by
     obtain ⟨u0,u1,u2,u3,u4,u5⟩:=(UP.out W hW).1;rw [M.sh_nf,ef] at u0;rw [el] at u2;rw [er] at u3;rw [M.sh_nv] at u5
     exact ⟨u0,u1,u2,u3,u4,u5⟩
    rw [M.sh_nf,M.sh_nv,el,er,ef] at TL;rw [ef] at s0 t;rw [el] at s2;rw [er] at s3;clear VF S hf g0 g1 ef ea ec el er hcx;generalize M.lessC (M.nAt L q) (xs.getD f 0)=bl at *;generalize xs.getD f 0=x at *;generalize M.nc (M.sh root (M.nAt L q))=nc at *;generalize M.ns (M.sh root (M.nAt L q))=ns at *;generalize M.nv (M.nAt L q)=nv at *
    cases bl with
    | true =>
      have EJ:Hid (M.toD L xs a=M.toD L xs 0):=SN.out a qa al (by rw [NX.out];rfl);have VJ:=hide (λ W hs=>VM.out a W qa al (by omega) hs);have NJ:=IN.out a al
      have KJ:Hid (∀ W,Below wr.heap.size wr W->W.cell? ⟨p,3,none⟩=some (.slice (some ⟨bn,on,none⟩) NN P.nc)/\SixAt W bn (on+(root+a)*6) (M.sh root (M.nAt L a))):=λ W hW=>⟨(KN.out W (below_on K.out hW)).1,(KN.out W (below_on K.out hW)).2 a al⟩
      have P6:Hid (∀ W,Below wr.heap.size wr W->Six (put6 W w.heap.size (.int .i64 (M.nf (M.sh root (M.nAt L a)))) (.int .i64 (M.nc (M.sh root (M.nAt L a)))) (.int .i64 (M.nl (M.sh root (M.nAt L a)))) (.int .i64 (M.nr (M.sh root (M.nAt L a)))) (.bool (M.ns (M.sh root (M.nAt L a)))) (.int .i64 (M.nv (M.sh root (M.nAt L a))))).drew w.heap.size (M.sh root (M.nAt L a))/\(∀ i,(put6 W w.heap.size (.int .i64 (M.nf (M.sh root (M.nAt L a)))) (.int .i64 (M.nc (M.sh root (M.nAt L a)))) (.int .i64 (M.nl (M.sh root (M.nAt L a)))) (.int .i64 (M.nr (M.sh root (M.nAt L a)))) (.bool (M.ns (M.sh root (M.nAt L a)))) (.int .i64 (M.nv (M.sh root (M.nAt L a))))).drew.frozen? ⟨w.heap.size,i,none⟩=false)/\Below w.heap.size w (put6 W w.heap.size (.int .i64 (M.nf (M.sh root (M.nAt L a)))) (.int .i64 (M.nc (M.sh root (M.nAt L a)))) (.int .i64 (M.nl (M.sh root (M.nAt L a)))) (.int .i64 (M.nr (M.sh root (M.nAt L a)))) (.bool (M.ns (M.sh root (M.nAt L a)))) (.int .i64 (M.nv (M.sh root (M.nAt L a))))).drew/\w.heap.size<(put6 W w.heap.size (.int .i64 (M.nf (M.sh root (M.nAt L a)))) (.int .i64 (M.nc (M.sh root (M.nAt L a)))) (.int .i64 (M.nl (M.sh root (M.nAt L a)))) (.int .i64 (M.nr (M.sh root (M.nAt L a)))) (.bool (M.ns (M.sh root (M.nAt L a)))) (.int .i64 (M.nv (M.sh root (M.nAt L a))))).drew.heap.size):=λ W hW=>by
       obtain ⟨u1,u2,u3,u4⟩:=UP.out W hW
       exact ⟨Six.drew (put6_cells u1),λ i=>froz_drew (put6_frozen (u2 i)),(put6_below u3 (Nat.le_refl _)).drew,size_drew (by rw [put6_size];exact u4)⟩
      have jz:((root+a:Nat):Int)<(NN:Int):=by omega
      clear SN VM KN IN NX NJ HX FN I;unfold SixAt at KJ;generalize M.nf (M.sh root (M.nAt L a))=mf at *;generalize M.nc (M.sh root (M.nAt L a))=mc at *;generalize M.nl (M.sh root (M.nAt L a))=ml at *;generalize M.nr (M.sh root (M.nAt L a))=mr at *;generalize M.ns (M.sh root (M.nAt L a))=ms at *;generalize M.nv (M.sh root (M.nAt L a))=mv at *;generalize root+a=J at *
      go_upto_region 3 with fail
      go_cut [24] from 18 to 24 (λ v wx=>v = .bool true/\Hid (Below wr.heap.size wr wx))
      case first =>
       go_region_with (go_at_call 132;refine (TL.out _).mono ?_;rintro e w1 ⟨rfl,hb1⟩;have hb2:=hide (((Below.refl _ _).drew).trans hb1))
       all_goals (
        go_wp2
        go_meet
        case rel=>exact ⟨rfl,hb2⟩)
      case rest =>
       obtain ⟨rfl,hb2⟩:=hcut;obtain ⟨z0,z1,z2,z3,z4,z5⟩:=UPS.out wc hb2.out;obtain ⟨y3,k0,k1,k2,k3,k4,k5⟩:=KJ.out wc hb2.out;have FRW:=(UP.out wc hb2.out).2.1;obtain ⟨r1,r2,r3,r4⟩:=P6.out wc hb2.out;have PR:=hide r1;have PF:=hide r2;have PB:=hide r3;have PS:=hide r4;clear r1 r2 r3 r4 P6 KJ UP UPS TL
       go_wp2_with fail
       go_region
       go_wp2
       exact ⟨⟨a,al,EJ,PR,PF,PB,PS⟩,VJ.out _ PR.out⟩
    | false =>
      have EJ:Hid (M.toD L xs c=M.toD L xs 0):=SN.out c qc cl (by rw [NX.out];rfl);have VJ:=hide (λ W hs=>VM.out c W qc cl (by omega) hs);have NJ:=IN.out c cl
      have KJ:Hid (∀ W,Below wr.heap.size wr W->W.cell? ⟨p,3,none⟩=some (.slice (some ⟨bn,on,none⟩) NN P.nc)/\SixAt W bn (on+(root+c)*6) (M.sh root (M.nAt L c))):=λ W hW=>⟨(KN.out W (below_on K.out hW)).1,(KN.out W (below_on K.out hW)).2 c cl⟩
      have P6:Hid (∀ W,Below wr.heap.size wr W->Six (put6 W w.heap.size (.int .i64 (M.nf (M.sh root (M.nAt L c)))) (.int .i64 (M.nc (M.sh root (M.nAt L c)))) (.int .i64 (M.nl (M.sh root (M.nAt L c)))) (.int .i64 (M.nr (M.sh root (M.nAt L c)))) (.bool (M.ns (M.sh root (M.nAt L c)))) (.int .i64 (M.nv (M.sh root (M.nAt L c))))).drew w.heap.size (M.sh root (M.nAt L c))/\(∀ i,(put6 W w.heap.size (.int .i64 (M.nf (M.sh root (M.nAt L c)))) (.int .i64 (M.nc (M.sh root (M.nAt L c)))) (.int .i64 (M.nl (M.sh root (M.nAt L c)))) (.int .i64 (M.nr (M.sh root (M.nAt L c)))) (.bool (M.ns (M.sh root (M.nAt L c)))) (.int .i64 (M.nv (M.sh root (M.nAt L c))))).drew.frozen? ⟨w.heap.size,i,none⟩=false)/\Below w.heap.size w (put6 W w.heap.size (.int .i64 (M.nf (M.sh root (M.nAt L c)))) (.int .i64 (M.nc (M.sh root (M.nAt L c)))) (.int .i64 (M.nl (M.sh root (M.nAt L c)))) (.int .i64 (M.nr (M.sh root (M.nAt L c)))) (.bool (M.ns (M.sh root (M.nAt L c)))) (.int .i64 (M.nv (M.sh root (M.nAt L c))))).drew/\w.heap.size<(put6 W w.heap.size (.int .i64 (M.nf (M.sh root (M.nAt L c)))) (.int .i64 (M.nc (M.sh root (M.nAt L c)))) (.int .i64 (M.nl (M.sh root (M.nAt L c)))) (.int .i64 (M.nr (M.sh root (M.nAt L c)))) (.bool (M.ns (M.sh root (M.nAt L c)))) (.int .i64 (M.nv (M.sh root (M.nAt L c))))).drew.heap.size):=λ W hW=>by
       obtain ⟨u1,u2,u3,u4⟩:=UP.out W hW
       exact ⟨Six.drew (put6_cells u1),λ i=>froz_drew (put6_frozen (u2 i)),(put6_below u3 (Nat.le_refl _)).drew,size_drew (by rw [put6_size];exact u4)⟩
      have jz:((root+c:Nat):Int)<(NN:Int):=by omega
      clear SN VM KN IN NX NJ HX FN I;unfold SixAt at KJ;generalize M.nf (M.sh root (M.nAt L c))=mf at *;generalize M.nc (M.sh root (M.nAt L c))=mc at *;generalize M.nl (M.sh root (M.nAt L c))=ml at *;generalize M.nr (M.sh root (M.nAt L c))=mr at *;generalize M.ns (M.sh root (M.nAt L c))=ms at *;generalize M.nv (M.sh root (M.nAt L c))=mv at *;generalize root+c=J at *
      go_upto_region 3 with fail
      go_cut [24] from 18 to 24 (λ v wx=>v = .bool false/\Hid (Below wr.heap.size wr wx))
      case first =>
       go_region_with (go_at_call 132;refine (TL.out _).mono ?_;rintro e w1 ⟨rfl,hb1⟩;have hb2:=hide (((Below.refl _ _).drew).trans hb1))
       all_goals (
        go_wp2
        go_meet
        case rel=>exact ⟨rfl,hb2⟩)
      case rest =>
       obtain ⟨rfl,hb2⟩:=hcut;obtain ⟨z0,z1,z2,z3,z4,z5⟩:=UPS.out wc hb2.out;obtain ⟨y3,k0,k1,k2,k3,k4,k5⟩:=KJ.out wc hb2.out;have FRW:=(UP.out wc hb2.out).2.1;obtain ⟨r1,r2,r3,r4⟩:=P6.out wc hb2.out;have PR:=hide r1;have PF:=hide r2;have PB:=hide r3;have PS:=hide r4;clear r1 r2 r3 r4 P6 KJ UP UPS TL
       go_wp2_with fail
       go_region
       go_wp2
       exact ⟨⟨c,cl,EJ,PR,PF,PB,PS⟩,VJ.out _ PR.out⟩
end Go.Proofs.YtaijnacghiloaaaGreatDoor
