/-
  Several texts as one: ShGrv.
-/
import Derived.Test.YtaijnacghiloaaaGreatDoorRunT19
import Derived.Test.YtaijnacghiloaaaGreatDoorRunT25
import Derived.BigQuiet
namespace Go.Proofs.YtaijnacghiloaaaGreatDoor
open Go.ChangeShapes Go.WideShapes Go.ChangeAt Go.RowKit Go.Lib Go.Maps
set_option linter.unusedVariables false
theorem M.ver_there {S:M.Sh} (h:M.numY (M.kyL S.l)) {n:List Nat} {num:Int} {k:Nat} (hk:M.verN S n num=some k):M.posL S.l n ≠ []/\k<S.l.length:=by
 rw [M.ver_pos h] at hk
 split at hk
 · rename_i q
   have hne:M.posL S.l n ≠ []:=by intro e;rw [e] at q;simp at q;omega
   refine ⟨hne, ?_⟩
   cases hk
   have hi:(num-1).toNat<(M.posL S.l n).length:=by omega
   have mem:(M.posL S.l n).getD (num-1).toNat 0∈M.posL S.l n:=by rw [List.getD,List.getElem?_eq_getElem hi];exact List.getElem_mem hi
   exact (M.pos_mem.1 mem).1
 · cases hk
set_option maxHeartbeats 8000000 in
set_option maxRecDepth 10000 in
theorem sh_Grove {W:World} {f:Nat} {T:Nat->Nat} {S:M.Sh} {mm ml:Nat} {D E:DataW Value} {kb:Nat->Nat} {mb:List Nat->Nat} {va:List Nat->Option Addr} {vc:List Nat->Nat} {G:Nat->Gr} (h:SV W f T S mm ml D E kb mb va vc G) {n:List Nat} (hl:n.length<=9223372036854775807) {num:Int} (hi:I64 num) {k:Nat} (hk:M.verN S n num=some k) (hs:(vAt S k).stage≠4) (hg:M.groveF (S.l.getD k M.vg0).2=0) :
 Calls Tryz.prog 95 #[.pointer (some ⟨f,0,none⟩), .string (byStr n), .int .i64 num] W λ e w' => ∃ J:Gr,e = .returned (.tuple #[J.v, .nilIface])/\J.m=(S.l.getD k M.vg0).2/\NewH W w' J/\Below W.heap.size W w':=by
 obtain ⟨hn,kl⟩:=M.ver_there h.inv.nu hk
 obtain ⟨W1,hW1⟩ : ∃ X,X=W.alloc nilG:=⟨_,rfl⟩
 have b1:Below W.heap.size W W1:=by rw [hW1];exact (Below.refl _ _).alloc (Nat.le_refl _) _
 have z1:W1.heap.size=W.heap.size+1:=by rw [hW1];simp
 have h1:=h.below b1
 have zf:Zf W1 W.heap.size:=by rw [hW1];exact zf_made W
 have MD:=hide (sh_modelW h1 hl hn);have VR:=hide (sh_version h1 hn hi);rw [hk] at VR;have PK:Hid (ptB (Option.map kb (some k)) = .pointer (some ⟨kb k,0,none⟩)):=rfl;rw [PK.out] at VR;have kc:=h1.kc k kl;have s2:=kc.cell 2 _ rfl;have g4:=kc.cell 4 _ rfl;have g5:=kc.cell 5 _ rfl;have g6:=kc.cell 6 _ rfl;have g7:=kc.cell 7 _ rfl;obtain ⟨gm,gi⟩:=h1.kg k kl hs;have CP:=hide (copy_any (G k) W1 gi.rd (by rw [gm];exact hg))
 have st:((vAt S k).stage == 4)=false:=by rw [beq_eq_false_iff_ne];exact hs
 have GM:=hide gm
 have AFT:Hid (∀ w2 (J:Gr),NewH W1 w2 J->Below W1.heap.size W1 w2->((w2.cell? ⟨W.heap.size,0,none⟩=some (.int .i64 0)/\w2.cell? ⟨W.heap.size,1,none⟩=some (.int .i64 0)/\w2.cell? ⟨W.heap.size,2,none⟩=some (.slice none 0 0)/\w2.cell? ⟨W.heap.size,3,none⟩=some (.slice none 0 0)) /\ ∀ j,w2.frozen? ⟨W.heap.size,j,none⟩=false) /\ ∀ x0 x1 x2 x3,NewH W (put4 w2 W.heap.size x0 x1 x2 x3) J/\Below W.heap.size W (put4 w2 W.heap.size x0 x1 x2 x3)):=λ w2 J hn hb=>by
  have z:=zf.up hb;have zz:=hb.size
  refine ⟨⟨⟨z.c0,z.c1,z.c2,z.c3⟩,z.fr⟩,λ x0 x1 x2 x3=>⟨λ W3 hz3 hc3 => ?_,put4_below (below_on b1 hb) (Nat.le_refl _)⟩⟩
  refine hn W3 (by rw [put4_size] at hz3;exact hz3) (λ b q1 q2 => ?_);rw [hc3 b (by omega) (by rw [put4_size];exact q2),put4_far (by omega)]
 unfold Gr.v at CP ⊢;clear h h1 hi hk hs hg hn kc gi gm zf b1 PK;generalize byStr n=sn at *;generalize mb n=mq at *;generalize kb k=kq at *;generalize (vAt S k).stage=sg at *
 go_enter Tryz.func95, Tryz.ntmps95
 go_upto_region 1 with fail
 rw [←hW1];clear hW1
 go_upto_region 2 with (first
  | (go_at_call 110;refine VR.out.mono ?_;rintro e w2 ⟨rfl,e2⟩;have e2':=e2.symm;subst e2')
  | (go_at_call 66;refine MD.out.mono ?_;rintro e w2 ⟨rfl,e2⟩;have e2':=e2.symm;subst e2'))
 go_wp2_with (go_at_call 126;refine CP.out.mono ?_;rintro e w2 ⟨J,rfl,jm,nj,b2⟩;obtain ⟨⟨⟨u0,u1,u2,u3⟩,uf⟩,r⟩:=AFT.out w2 J nj b2;have R2:=hide r;have JM:=hide jm;have f0:=uf 0;have f1:=uf 1;have f2:=uf 2;have f3:=uf 3;clear nj b2 r jm uf)
 obtain ⟨e0,e1,e2,e3⟩:=put4_at (x0 := .int .i64 J.f) (x1 := .int .i64 J.w) (x2 := .slice J.wa J.ws.length J.wc) (x3 := .slice J.ta J.ks.length J.tc) u0 u1 u2 u3;refine bodyPost_ret (v := .tuple #[.agg #[.int .i64 J.f, .int .i64 J.w, .slice J.wa J.ws.length J.wc, .slice J.ta J.ks.length J.tc], .nilIface]) (by simp [results, Tryz.results95,go_sem,e0,e1,e2,e3]) rfl ?_
 exact ⟨J,rfl,JM.out.trans GM.out,(R2.out _ _ _ _).1,(R2.out _ _ _ _).2⟩
end Go.Proofs.YtaijnacghiloaaaGreatDoor
