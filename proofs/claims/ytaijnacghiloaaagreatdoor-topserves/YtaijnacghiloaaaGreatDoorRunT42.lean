import Derived.Test.YtaijnacghiloaaaGreatDoorRunT38
import Derived.Test.YtaijnacghiloaaaGreatDoorRunT13
import Derived.Test.YtaijnacghiloaaaGreatDoorRunT41
import Derived.Test.YtaijnacghiloaaaGreatDoorRunT40
import Derived.Test.YtaijnacghiloaaaGreatDoorRunT9
import Derived.Test.YtaijnacghiloaaaGreatDoorRunT33
import Derived.Test.YtaijnacghiloaaaGreatDoorRunT21
import Derived.Test.YtaijnacghiloaaaGreatDoorRunT14
import Derived.Test.YtaijnacghiloaaaGreatDoorRunT12
import Derived.Test.YtaijnacghiloaaaGreatDoorRunT37
import Derived.BigQuiet
import Derived.Deep.Cut
import Derived.Deep.CutRange
import Derived.Test.YtaijnacghiloaaaGreatDoorRunT1
namespace Go.Proofs.YtaijnacghiloaaaGreatDoor
open Go.ChangeShapes Go.WideShapes Go.ChangeAt Go.RowKit Go.Lib Go.Maps
set_option linter.unusedVariables false
theorem n109:([109]:List Nat).length<=9223372036854775807:=by decide
theorem M.enc_good {g:M.Gv} (h:M.encF g=0):(M.decF (M.encV g)).2=0/\M.decV (M.encV g)=g/\(M.encV g).length<=6000/\∀ c∈M.encV g,c<256:=by
 obtain ⟨d1,d2⟩:=M.dec_enc h
 refine ⟨by rw [d1],d2,?_,M.enc_byte _⟩
 unfold M.encV;rw [if_pos h];unfold M.encF at h
 split at h
 · next q=>exact absurd h q
 · split at h
   · cases h
   · omega
set_option maxHeartbeats 16000000 in
set_option maxRecDepth 10000 in
theorem serves_walk (a:Option Addr) (xs:List Sx) (ca:Nat) (ft many sh key:Int) (b:Option Addr) (r:List Int) (cb:Nat) (keep:Int) (W:World) (h:RdL W a xs) (hr:Rd W b r) (hg:Lays W) (hk:M.I64 keep) :
 Calls Tryz.prog 4 #[.slice a xs.length ca,.int .i64 ft,.int .i64 many,.int .i64 sh,.int .i64 key,.slice b r.length cb,.int .i64 keep] W λe w'=>e = .returned (.bool true)/\Below W.heap.size W w':=by
 have O1:=hide (one_any grofit_any eval_any W);have F1:=hide (λV (hV:Below W.heap.size W V)=>boofit_any a xs ca ft 2 2 100 V (h.below hV));have F2:=hide (λV (hV:Below W.heap.size W V)=>boofit_any a xs ca ft 0 1 1 V (h.below hV));have NB:=hide Bx4.new;have HR:=hide hr;have HG:=hide hg;have HK:=hide hk;have hmr:r.length<=9223372036854775807:=hr.1;have lx:xs.length<=9223372036854775807:=h.1;obtain ⟨T1,T2⟩:=M.boo_two (sms xs) ft;clear h hr hg hk
 by_cases rg:(1<=many/\many<=8)/\(1<=sh/\sh<=99)/\(0<=key/\key<=1000000)
 case neg =>
  have ways:decide (many<1)=true∨(decide (many<1)=false/\decide (8<many)=true)∨(decide (many<1)=false/\decide (8<many)=false/\decide (sh<1)=true)∨(decide (many<1)=false/\decide (8<many)=false/\decide (sh<1)=false/\decide (99<sh)=true)∨(decide (many<1)=false/\decide (8<many)=false/\decide (sh<1)=false/\decide (99<sh)=false/\decide (key<0)=true)∨(decide (many<1)=false/\decide (8<many)=false/\decide (sh<1)=false/\decide (99<sh)=false/\decide (key<0)=false/\decide (1000000<key)=true):=by
   simp only [decide_eq_true_iff,decide_eq_false_iff_not];omega
  clear rg F1 F2 NB HR HG HK T1 T2
  rcases ways with t1 | ⟨t1,t2⟩ | ⟨t1,t2,t3⟩ | ⟨t1,t2,t3,t4⟩ | ⟨t1,t2,t3,t4,t5⟩ | ⟨t1,t2,t3,t4,t5,t6⟩
  all_goals (
   go_enter Tryz.func4,Tryz.ntmps4
   go_wp2_with (go_at_call 18;refine O1.out.mono ?_;rintro e w1 ⟨rfl,b1⟩;have K1:=hide b1;clear b1)
   go_ret
   exact ⟨rfl,K1.out⟩)
 case pos =>
 obtain ⟨⟨m1',m8⟩,⟨s1,s99⟩,⟨k0,k6⟩⟩:=rg
 obtain ⟨n,rfl⟩:∃ n:Nat,many=(n:Int):=⟨many.toNat,by omega⟩
 have n1:1<=n:=by omega
 have n8:n<=8:=by omega
 have t1:decide ((n:Int)<1)=false:=decide_eq_false (by omega);have t2:decide (8<(n:Int))=false:=decide_eq_false (by omega);have t1':decide (n<1)=false:=decide_eq_false (by omega);have t2':decide (8<n)=false:=decide_eq_false (by omega);have t3:decide (sh<1)=false:=decide_eq_false (by omega);have t4:decide (99<sh)=false:=decide_eq_false (by omega);have t5:decide (key<0)=false:=decide_eq_false (by omega);have t6:decide (1000000<key)=false:=decide_eq_false (by omega)
 by_cases bf:(M.samF (sms xs) ft).2=0
 case neg =>
  rw [T1,err_some bf] at F1;rw [T2,err_some bf] at F2;clear bf HR HG HK T1 T2;generalize (M.samF (sms xs) ft).2=bF at *
  go_enter Tryz.func4,Tryz.ntmps4
  go_wp2_with (first
   | (go_at_call 18;refine O1.out.mono ?_;rintro e w1 ⟨rfl,b1⟩;have K1:=hide b1;clear b1)
   | (go_at_call 19;refine (F1.out _ K1.out).mono ?_;rintro e w2 ⟨J,rfl,hm,hg,b2⟩;have N2:=hide (NB.out w2 J hg);have K2:=hide (below_on (below_on K1.out b2) N2.out.2);unfold Gr.v;clear hm hg b2 F1)
   | (go_at_call 19;refine (F2.out _ K2.out).mono ?_;rintro e w3 ⟨J3,rfl,hm,hg,b3⟩;have N3:=hide (NB.out w3 J3 hg);have K3:=hide (below_on (below_on K2.out b3) N3.out.2);unfold Gr.v;clear hm hg b3))
  go_ret
  exact ⟨rfl,K3.out⟩
 case pos =>
 have e1:M.booF (sms xs) ft 2 2 100=0:=T1.trans bf;have e2:M.booF (sms xs) ft 0 1 1=0:=T2.trans bf;have EG:=hide (M.enc_good (M.boo_short e1 (by omega) (by omega)));have EO:=hide (M.enc_good (M.boo_short e2 (by omega) (by omega)));have EG0:=hide (M.boo_short e1 (by omega) (by omega));have EO0:=hide (M.boo_short e2 (by omega) (by omega));rw [e1,err_nil rfl] at F1;rw [e2,err_nil rfl] at F2;clear T1 T2 bf e1 e2;generalize M.booG (sms xs) ft 2 2 100=gA at *;generalize M.booG (sms xs) ft 0 1 1=gB at *;have ENC:=hide cdenc_any
 go_enter Tryz.func4,Tryz.ntmps4
 go_upto_region 8 with (first
  | (go_at_call 18;refine O1.out.mono ?_;rintro e w1 ⟨rfl,b1⟩;have K1:=hide b1;clear b1)
  | (go_at_call 19;refine (F1.out _ K1.out).mono ?_;rintro e w2 ⟨J,rfl,hm,hg,b2⟩;have N2:=hide (NB.out w2 J hg);have K2:=hide (below_on (below_on K1.out b2) N2.out.2);have HMA:=hide hm;unfold Gr.v;clear hm hg b2 F1)
  | (go_at_call 19;refine (F2.out _ K2.out).mono ?_;rintro e w3 ⟨J3,rfl,hm,hg,b3⟩;have N3:=hide (NB.out w3 J3 hg);have K3:=hide (below_on (below_on K2.out b3) N3.out.2);have X2:=hide (N2.out.1.up (b3.trans (N3.out.2.mono b3.size)));have HMB:=hide hm;unfold Gr.v;clear hm hg b3))
 clear O1 F2 NB K1 K2 N2
 obtain ⟨V3,hV3⟩:∃ V,V=w3.alloc (.cells #[.int .i64 J3.f,.int .i64 J3.w,.slice J3.wa J3.ws.length J3.wc,.slice J3.ta J3.ks.length J3.tc] 35):=⟨_,rfl⟩
 have X3:Hid (Bx4 V3 w3.heap.size J3):=by unfold Hid;rw [hV3];exact N3.out.1
 have X2':Hid (Bx4 V3 w2.heap.size J):=by unfold Hid;rw [hV3];exact X2.out
 have K3':Hid (Below W.heap.size W V3):=by unfold Hid;rw [hV3];exact K3.out
 rw [←hV3];clear hV3 N3 X2 K3;generalize w2.heap.size=p16 at *;generalize w3.heap.size=p18 at *;have EA:=hide (ENC.out J V3 X2'.out.rd);rw [HMA.out,EG0.out,err_nil rfl] at EA
 have EB:Hid (∀ V,Below V3.heap.size V3 V->Calls Tryz.prog 5 #[J3.v] V λe w'=>∃ v,e = .returned (.tuple #[v,.nilIface])/\w'.ownsRow V.heap.size 5 1 v (M.encV gB).length (byCells (M.encV gB))/\Below V.heap.size V w'):=λV hV=>by
  have:=ENC.out J3 V (X3.out.rd.below hV);rw [HMB.out,EO0.out,err_nil rfl] at this;exact this
 have OB:Hid (∀ (g:M.Gv) (base:Nat) v (V:World),M.encF g=0->V.ownsRow base 5 1 v (M.encV g).length (byCells (M.encV g))->∃ m1 cc1,v = .slice m1 (M.encV g).length cc1/\RdB V m1 (M.encV g)/\(m1=none->cc1=0)/\(M.encV g).length<=cc1/\cc1<=9223372036854775807):=λg base v V hz ho=>by
  obtain ⟨m1,cc1,e,r1,r2,r3,r4⟩:=own_rdB1 rfl (by have:=(M.enc_good hz).2.2.1;unfold maxLen;omega) (M.enc_byte _) ho
  exact ⟨m1,cc1,e,r1,r2,r3,r4⟩
 have c160:=X2'.out.c0;have c161:=X2'.out.c1;have c162:=X2'.out.c2;have c163:=X2'.out.c3
 clear ENC;unfold Gr.v at EA EB
 go_upto_region 13 with (first
  | (go_at_call 5;refine EA.out.mono ?_;rintro e w4 ⟨v,rfl,ho,hb⟩;obtain ⟨m1,cc1,rfl,ra,cn1,cl1,cx1⟩:=OB.out gA _ v w4 EG0.out ho;have RA:=hide ra;have B4:=hide hb;have CN1:=hide cn1;have CL1:=hide cl1;have CX1:=hide cx1;have c180:=(X3.out.up hb).c0;have c181:=(X3.out.up hb).c1;have c182:=(X3.out.up hb).c2;have c183:=(X3.out.up hb).c3;clear ho hb ra cn1 cl1 cx1 EA)
  | (go_at_call 5;refine (EB.out _ B4.out).mono ?_;rintro e w5 ⟨v,rfl,ho,hb⟩;obtain ⟨m2,cc2,rfl,rb,cn2,cl2,cx2⟩:=OB.out gB _ v w5 EO0.out ho;have RB:=hide rb;have RA2:=hide (RA.out.below hb);have B5:=hide (below_on B4.out hb);have CN2:=hide cn2;have CL2:=hide cl2;have CX2:=hide cx2;have NW:=hide (fl_New (Below.refl _ w5) n n1 n8);clear ho hb rb cn2 cl2 cx2)
  | (go_at_call 6;refine NW.out.mono ?_;rintro e w6 ⟨f,Z6,rfl,h6,b6,z6⟩;have F6:=hide h6;clear h6 b6 z6))
 clear EB OB NW RA B4 c160 c161 c162 c163 c180 c181 c182 c183;have XA:Hid (Bx4 w5 p16 J):=X2'.out.up B5.out;have XB:Hid (Bx4 w5 p18 J3):=X3.out.up B5.out;have BW:Hid (Below W.heap.size W w5):=below_on K3'.out B5.out;clear X2' X3 K3' B5
 have CI1:Hid (CaIn w5 ⟨1,0,1, [109],0,0,M.encV gA⟩ m1 cc1):=⟨nb109,n109,RA2.out,CL1.out,CX1.out,i64_0,i64_0,CN1.out⟩
 have CI2:Hid (CaIn w5 ⟨1,0,2, [109],0,0,M.encV gB⟩ m2 cc2):=⟨nb109,n109,RB.out,CL2.out,CX2.out,i64_0,i64_0,CN2.out⟩
 have CIn:Hid (∀ (w k num share:Int),M.I64 num->M.I64 share->CaIn w5 ⟨w,0,k, [109],num,share, []⟩ none 0):=λw k num share h1 h2=>⟨nb109,n109,⟨Nat.zero_le _,(λx hx=>by cases hx),λz=>absurd rfl z⟩,Nat.le_refl _,by omega,h1,h2,λ_=>rfl⟩
 have CO1:Hid (M.CaOk ⟨1,0,1, [109],0,0,M.encV gA⟩):=M.ca_one rfl rfl EG.out.2.2.1 EG.out.2.2.2;have CO2:Hid (M.CaOk ⟨1,0,2, [109],0,0,M.encV gB⟩):=M.ca_one rfl rfl EO.out.2.2.1 EO.out.2.2.2
 have SV1:Hid (M.shDo M.sh0 ⟨1,0,1, [109],0,0,M.encV gA⟩=(⟨1,1⟩,0,M.sT 1 ⟨1,1⟩ [M.vT 1 1 0 gA])):=by
  have:=M.serve1 EG.out.1;rw [EG.out.2.1] at this;exact this
 have SV2:Hid (M.shDo (M.sT 1 ⟨1,1⟩ [M.vT 1 1 0 gA]) ⟨1,0,2, [109],0,0,M.encV gB⟩=(⟨2,2⟩,0,M.sT 2 ⟨2,2⟩ [M.vT 1 1 0 gA,M.vT 2 1 0 gB])):=by
  have:=M.serve2 (g:=gA) EO.out.1;rw [EO.out.2.1] at this;exact this
 have CO4:Hid (M.CaOk ⟨2,0,4, [109],2,sh, []⟩):=M.ca_one rfl (by unfold M.rngF M.timeB;simp;omega) (Nat.zero_le _) (λx hx=>by cases hx);clear RA2 RB CL1 CX1 CN1 CL2 CX2 CN2 EG EO;have T6:=hide (M.tv_zero n);have D7:=hide (tv_do F6.out T6.out (what:=1) (k:=1) (num:=0) (share:=0) (bys:=M.encV gA) (a:=m1) (cap:=cc1) CI1.out CO1.out (by simp) SV1.out (M.cnt_zero rfl (show (0:Int)<1 by decide)))
 go_upto_region 16 with (go_at_call 7;refine D7.out.mono ?_;rintro e w7 ⟨rfl,X7,Z7,h7,k7,tt7⟩;have ba7:Below w7.heap.size w7 (w7.alloc (.cells #[.int .i64 1,.int .i64 1] 40)):=(Below.refl _ w7).alloc (Nat.le_refl _) _;have G7:=hide (h7.up ba7);have T7:=hide tt7;have Q26:Hid (Bk (w7.alloc (.cells #[.int .i64 1,.int .i64 1] 40)) Z7 w7.heap.size [.int .i64 1,.int .i64 1]):=⟨bx_new w7 _ _,h7.z0 (.inr (Nat.le_refl _))⟩;clear h7 k7 ba7 tt7)
 obtain ⟨v7,hv7⟩:∃ V,V=(w7.alloc (.cells #[.int .i64 1,.int .i64 1] 40)):=⟨_,rfl⟩
 obtain ⟨p26,hp26⟩:∃ x,x=w7.heap.size:=⟨_,rfl⟩
 rw [←hv7] at G7 Q26 ⊢;rw [←hp26] at Q26 ⊢;clear hv7 hp26;have F7:=G7;clear D7 F6 T6 G7;have D8:=hide (tv_do F7.out T7.out (what:=1) (k:=2) (num:=0) (share:=0) (bys:=M.encV gB) (a:=m2) (cap:=cc2) CI2.out CO2.out (by simp) SV2.out (M.cnt_next rfl rfl (show (1:Int)<2 by decide)))
 go_upto_region 17 with (go_at_call 7;refine D8.out.mono ?_;rintro e w8 ⟨rfl,X8,Z8,h8,k8,tt8⟩;have ba8:Below w8.heap.size w8 (w8.alloc (.cells #[.int .i64 2,.int .i64 2] 40)):=(Below.refl _ w8).alloc (Nat.le_refl _) _;have G8:=hide (h8.up ba8);have T8:=hide tt8;have Q26n8:=hide ((Q26.out.kept k8).up ba8);have Q27:Hid (Bk (w8.alloc (.cells #[.int .i64 2,.int .i64 2] 40)) Z8 w8.heap.size [.int .i64 2,.int .i64 2]):=⟨bx_new w8 _ _,h8.z0 (.inr (Nat.le_refl _))⟩;clear h8 k8 ba8 tt8)
 obtain ⟨v8,hv8⟩:∃ V,V=(w8.alloc (.cells #[.int .i64 2,.int .i64 2] 40)):=⟨_,rfl⟩
 obtain ⟨p27,hp27⟩:∃ x,x=w8.heap.size:=⟨_,rfl⟩
 rw [←hv8] at G8 Q27 Q26n8 ⊢;rw [←hp27] at Q27 ⊢;clear hv8 hp27;have F8:=G8;clear D8 F7 T7 G8;clear Q26;have Q26:=Q26n8;clear Q26n8;have D9:=hide (tv_do F8.out T8.out (what:=3) (k:=3) (num:=1) (share:=0) (bys := []) (a:=none) (cap:=0) (CIn.out 3 3 1 0 i64_1 i64_0) (M.ca_one rfl rfl (Nat.zero_le _) (λx hx=>by cases hx)) (by simp) (M.serve3 gA gB) (M.cnt_next rfl rfl (show (2:Int)<3 by decide)))
 go_upto_region 18 with (go_at_call 7;refine D9.out.mono ?_;rintro e w9 ⟨rfl,X9,Z9,h9,k9,tt9⟩;have F9:=hide h9;have T9:=hide tt9;have Q26n9:=hide (Q26.out.kept k9);have Q27n9:=hide (Q27.out.kept k9);clear h9 k9 tt9)
 clear D9 F8 T8;clear Q26;have Q26:=Q26n9;clear Q26n9;clear Q27;have Q27:=Q27n9;clear Q27n9;have D10:=hide (tv_do F9.out T9.out (what:=2) (k:=4) (num:=2) (share:=sh) (bys := []) (a:=none) (cap:=0) (CIn.out 2 4 2 sh (by unfold M.I64;omega) (by unfold M.I64;omega)) CO4.out (by simp) (M.serve4 gA gB s1 s99) (M.cnt_next rfl rfl (show (3:Int)<4 by decide)))
 go_upto_region 19 with (go_at_call 7;refine D10.out.mono ?_;rintro e w10 ⟨rfl,X10,Z10,h10,k10,tt10⟩;have ba10:Below w10.heap.size w10 (w10.alloc (.cells #[.int .i64 0,.int .i64 4] 40)):=(Below.refl _ w10).alloc (Nat.le_refl _) _;have G10:=hide (h10.up ba10);have T10:=hide tt10;have Q26n10:=hide ((Q26.out.kept k10).up ba10);have Q27n10:=hide ((Q27.out.kept k10).up ba10);have Q28:Hid (Bk (w10.alloc (.cells #[.int .i64 0,.int .i64 4] 40)) Z10 w10.heap.size [.int .i64 0,.int .i64 4]):=⟨bx_new w10 _ _,h10.z0 (.inr (Nat.le_refl _))⟩;clear h10 k10 ba10 tt10)
 obtain ⟨v10,hv10⟩:∃ V,V=(w10.alloc (.cells #[.int .i64 0,.int .i64 4] 40)):=⟨_,rfl⟩
 obtain ⟨p28,hp28⟩:∃ x,x=w10.heap.size:=⟨_,rfl⟩
 rw [←hv10] at G10 Q28 Q26n10 Q27n10 ⊢;rw [←hp28] at Q28 ⊢;clear hv10 hp28;have F10:=G10;clear D10 F9 T9 G10;clear Q26;have Q26:=Q26n10;clear Q26n10;clear Q27;have Q27:=Q27n10;clear Q27n10;have CR:=hide (tv_crash F10.out T10.out (by simp) keep HK.out)
 go_upto_region 20 with (go_at_call 8;refine CR.out.mono ?_;rintro e w11 ⟨rfl,X11,Z11,h11,k11,tt11⟩;have F11:=hide h11;have T11:=hide tt11;have Q26n:=hide (Q26.out.kept k11);have Q27n:=hide (Q27.out.kept k11);have Q28n:=hide (Q28.out.kept k11);clear h11 k11 tt11)
 have y26:=Q26n.out.bx.cell 0 _ rfl;have y27:=Q27n.out.bx.cell 0 _ rfl;have y28:=Q28n.out.bx.cell 1 _ rfl;have B28:=Q28n;clear CR F10 T10 Q26 Q27 Q28 Q26n Q27n Q28n CI1 CI2 CO1 CO2 CO4 SV1 SV2
 go_upto_region 22 with fail
 clear y26 y27 y28
 obtain ⟨L4,LL,T11'⟩:∃ L4:List M.Ca,L4.length=4/\Hid (M.Tv n X11 (List.replicate n 0) L4 (M.sT 4 ⟨0,4⟩ [M.vT 1 3 0 gA,M.vT 2 2 sh gB])):=⟨_,rfl,T11⟩
 have ky:IntKind.i64.wrap (key*37)=key*37:=i64_in (by omega) (by omega);have tm:(key*37).tmod 100=key*37 % 100:=Int.tmod_eq_emod_of_nonneg (by omega)
 have ER:Hid (∀ c V,Below w5.heap.size w5 V->c≠0->Calls Tryz.prog 12 #[.iface 69 (.int .i64 c),.int .i64 c] V λe w'=>e = .returned (.bool true)/\Below V.heap.size V w'):=λc V hV hc=>by
  have:=error_any c c V (HG.out.below (below_on BW.out hV));rw [err_some hc,show (c == c)=true by rw [beq_iff_eq]] at this;exact this
 have RR:Hid (∀ V,Below w5.heap.size w5 V->Rd V b r):=λV hV=>HR.out.below (below_on BW.out hV);have KP0:=hide (M.kp_zero n);clear T11 HR HG HK EG0 EO0 t1 t2 t1' t2' t3 t4 t5 t6
 go_wp2
 go_loopw [31,32,33,34,35,36,37,38,39] (λi _ _ _ _ _ _ _ _ wr=>∃ (i':Nat) (X:M.Fl) (Z:Nat->Nat) (ks:List Nat),i'<=n/\i = .int .i64 (i':Int)/\Hid (FH w5 wr f X Z)/\Hid (M.Tv n X ks L4 (M.sT 4 ⟨0,4⟩ [M.vT 1 3 0 gA,M.vT 2 2 sh gB]))/\Hid (M.Kp n i' 0 ks)/\Hid (Bk wr Z p28 [.int .i64 0,.int .i64 4])) (λi _ _ _ _ _ _ _ _ _=>n-(intOf i).toNat)
 case atStart=>exact ⟨0,X11,Z11,_,Nat.zero_le _,rfl,F11,T11',KP0,B28⟩
 case round =>
  clear F11 T11' KP0 B28;obtain ⟨i',X,Z,ks,hi,rfl,FF,TT,KP,BK⟩:=hrel
  by_cases ilt:i'<n
  case pos =>
   have iz:(i':Int)<(n:Int):=by omega
   go_wp2
   go_loopw [32,33,34,35] (λk _ _ _ wr=>∃ (k':Nat) (X:M.Fl) (Z:Nat->Nat) (ks:List Nat),k'<=4/\k = .int .i64 (k':Int)/\Hid (FH w5 wr f X Z)/\Hid (M.Tv n X ks L4 (M.sT 4 ⟨0,4⟩ [M.vT 1 3 0 gA,M.vT 2 2 sh gB]))/\Hid (M.Kp n i' k' ks)/\Hid (Bk wr Z p28 [.int .i64 0,.int .i64 4])) (λk _ _ _ _=>4-(intOf k).toNat)
   case atStart=>exact ⟨0,X,Z,ks,Nat.zero_le _,rfl,FF,TT,KP,BK⟩
   case round =>
    clear FF TT KP BK;clear X Z ks;obtain ⟨k',X,Z,ks,hk,rfl,FF,TT,KP,BK⟩:=hrel;have y28:=BK.out.bx.cell 1 _ rfl
    by_cases klt:k'<4
    case pos =>
     have kz:(k':Int)<4:=by omega
     have SC:=hide (tv_score FF.out TT.out (by omega) ilt b r cb (RR.out _ FF.out.bl) key 4);rw [KP.out.at ilt,(M.ask_early L4 klt r key).1,(M.ask_early L4 klt r key).2,err_some (show (6:Int)≠0 by decide)] at SC;unfold scoV at SC;have E6:=hide (λV hV=>ER.out 6 V hV (by decide));have TL:Hid (∀ V Z,FH w5 V f X Z->Calls Tryz.prog 10 #[.pointer (some ⟨f,0,none⟩),.int .i64 (i':Int)] V λe w'=>e = .returned .nilIface/\∃ X' Z',FH w5 w' f X' Z'/\KeptF V Z Z' w'/\M.Tv n X' (ks.set i' (ks.getD i' 0+1)) L4 (M.sT 4 ⟨0,4⟩ [M.vT 1 3 0 gA,M.vT 2 2 sh gB])):=λV Z h=>tv_tell h TT.out (by omega) ilt (by rw [KP.out.at ilt,LL];exact klt);have KN:=hide (KP.out.tell ilt);clear FF TT KP ER RR XA XB BW
     go_upto_region 30 with (go_at_call 9;refine SC.out.mono ?_;rintro e w1 ⟨rfl,Z1,h1,k1⟩;have ba:Below w1.heap.size w1 (w1.alloc (.cells #[.int .i64 0,.int .i64 0,.int .i64 0] 47)):=(Below.refl _ w1).alloc (Nat.le_refl _) _;have G1:=hide (h1.up ba);have B1:=hide ((BK.out.kept k1).up ba);clear h1 k1 ba)
     clear SC BK
     go_wp2_with (first
      | (go_at_call 12;refine (E6.out _ G1.out.bl).mono ?_;rintro e w2 ⟨rfl,b2⟩;have G2:=hide (G1.out.up b2);have B2:=hide (B1.out.up b2);clear b2)
      | (go_at_call 10;refine (TL.out _ _ G2.out).mono ?_;rintro e w3 ⟨rfl,X3,Z3,h3,k3,tt3⟩;have G3:=hide h3;have B3:=hide (B2.out.kept k3);have T3:=hide tt3;clear h3 k3 tt3))
     go_roundw
     case rel=>exact ⟨k'+1,X3,Z3,_,by omega,by go_num,G3,T3,KN,B3⟩
     case measure=>simp [intOf];omega
    case neg =>
     have ek:k'=4:=by omega
     subst ek;have A4:=M.ask_four (key:=key) (s:=sh) gA gB k0 k6 r;have SC:=hide (tv_score FF.out TT.out (by omega) ilt b r cb (RR.out _ FF.out.bl) key 4);rw [KP.out.at ilt,TT.out.all LL.symm] at SC;have KN:=hide KP.out.up
     have V1:Hid (∀ V,Below w5.heap.size w5 V->Calls Tryz.prog 20 #[J.v,.slice b r.length cb] V λe w'=>e = .returned (.tuple #[.int .i64 (M.evalG gA r),errV (M.standF gA r)])/\Below V.heap.size V w'):=λV hV=>by
      have:=geval_any J b r cb V (XA.out.rd.below hV) (RR.out V hV);rw [HMA.out] at this;exact this
     have V2:Hid (∀ V,Below w5.heap.size w5 V->Calls Tryz.prog 20 #[J3.v,.slice b r.length cb] V λe w'=>e = .returned (.tuple #[.int .i64 (M.evalG gB r),errV (M.standF gB r)])/\Below V.heap.size V w'):=λV hV=>by
      have:=geval_any J3 b r cb V (XB.out.rd.below hV) (RR.out V hV);rw [HMB.out] at this;exact this
     have CA:Hid (∀ V,Below w5.heap.size w5 V->Bx4 V p16 J/\Bx4 V p18 J3):=λV hV=>⟨XA.out.up hV,XB.out.up hV⟩
     unfold Gr.v at V1 V2;clear KP ER RR XA XB BW FF;unfold scoV at SC
     by_cases cnb:key*37 % 100<sh
     case pos =>
      have cd:decide (key*37 % 100<sh)=true:=decide_eq_true cnb;rw [if_pos cnb,if_pos cnb] at A4
      by_cases zz:M.standF gB r=0
      case pos =>
       rw [show ((4:Nat):Int)=4 from rfl,A4.1,zz,A4.2.1 zz,err_nil rfl] at SC;rw [zz,err_nil rfl] at V2;clear A4;generalize M.evalG gB r=ev at *;generalize M.evalG gA r=v1 at *;generalize errV (M.standF gA r)=r1 at *
       go_upto_region 34 with (go_at_call 9;refine SC.out.mono ?_;rintro e w1 ⟨rfl,Z1,h1,k1⟩;have ba:Below w1.heap.size w1 (w1.alloc (.cells #[.int .i64 ev,.int .i64 2,.int .i64 4] 47)):=(Below.refl _ w1).alloc (Nat.le_refl _) _;have G1:=hide (h1.up ba);have B1:=hide ((BK.out.kept k1).up ba);have P1:Hid (Bk (w1.alloc (.cells #[.int .i64 ev,.int .i64 2,.int .i64 4] 47)) Z1 w1.heap.size [.int .i64 ev,.int .i64 2,.int .i64 4]):=⟨bx_new w1 _ _,h1.z0 (.inr (Nat.le_refl _))⟩;clear h1 k1 ba)
       clear SC BK y28
       obtain ⟨u1,hu1⟩:∃ V,V=w1.alloc (.cells #[.int .i64 ev,.int .i64 2,.int .i64 4] 47):=⟨_,rfl⟩
       obtain ⟨p36,hp36⟩:∃ q,q=w1.heap.size:=⟨_,rfl⟩
       rw [←hu1] at G1 B1 P1 ⊢;rw [←hp36] at P1 ⊢;clear hu1 hp36;obtain ⟨xa,xb⟩:=CA.out u1 G1.out.bl
       have c160:=xa.c0;have c161:=xa.c1;have c162:=xa.c2;have c163:=xa.c3
       clear xa xb
       go_upto_region 35 with (go_at_call 20;refine (V1.out _ G1.out.bl).mono ?_;rintro e w2 ⟨rfl,b2⟩;have G2:=hide (G1.out.up b2);have B2:=hide (B1.out.up b2);have P2:=hide (P1.out.up b2);clear b2)
       clear V1 c160 c161 c162 c163 G1 B1 P1;obtain ⟨xa,xb⟩:=CA.out w2 G2.out.bl
       have c180:=xb.c0;have c181:=xb.c1;have c182:=xb.c2;have c183:=xb.c3
       clear xa xb
       go_upto_region 37 with (go_at_call 20;refine (V2.out _ G2.out.bl).mono ?_;rintro e w3 ⟨rfl,b3⟩;have G3:=hide (G2.out.up b3);have B3:=hide (B2.out.up b3);have P3:=hide (P2.out.up b3);clear b3)
       clear V2 c180 c181 c182 c183 G2 B2 P2 CA
       have q0:=P3.out.bx.cell 0 _ rfl;have q1:=P3.out.bx.cell 1 _ rfl;have q2:=P3.out.bx.cell 2 _ rfl
       go_quiet (fail)
       have bd:Below w3.heap.size w3 (w3.drewN nq):=below_drew (Below.refl _ _) nq (Nat.le_refl _);have G9:=hide (G3.out.up bd);have B9:=hide (B3.out.up bd);clear G3 B3 P3 bd
       go_wp2
       go_roundw
       case rel =>
        rw [cd]
        repeat apply Exists.intro
        refine And.intro ?_ rfl
        exact ⟨i'+1,X,Z1,ks,by omega,by go_num,G9,TT,KN,B9⟩
       case measure=>simp [intOf];omega
      case neg =>
       rw [show ((4:Nat):Int)=4 from rfl,A4.1,A4.2.2 zz,err_some zz] at SC;rw [err_some zz] at V2;clear A4;generalize M.standF gB r=se at *;generalize M.evalG gA r=v1 at *;generalize errV (M.standF gA r)=r1 at *;generalize M.evalG gB r=v2 at *
       go_upto_region 34 with (go_at_call 9;refine SC.out.mono ?_;rintro e w1 ⟨rfl,Z1,h1,k1⟩;have ba:Below w1.heap.size w1 (w1.alloc (.cells #[.int .i64 0,.int .i64 0,.int .i64 0] 47)):=(Below.refl _ w1).alloc (Nat.le_refl _) _;have G1:=hide (h1.up ba);have B1:=hide ((BK.out.kept k1).up ba);have P1:Hid (Bk (w1.alloc (.cells #[.int .i64 0,.int .i64 0,.int .i64 0] 47)) Z1 w1.heap.size [.int .i64 0,.int .i64 0,.int .i64 0]):=⟨bx_new w1 _ _,h1.z0 (.inr (Nat.le_refl _))⟩;clear h1 k1 ba)
       clear SC BK y28
       obtain ⟨u1,hu1⟩:∃ V,V=w1.alloc (.cells #[.int .i64 0,.int .i64 0,.int .i64 0] 47):=⟨_,rfl⟩
       obtain ⟨p36,hp36⟩:∃ q,q=w1.heap.size:=⟨_,rfl⟩
       rw [←hu1] at G1 B1 P1 ⊢;rw [←hp36] at P1 ⊢;clear hu1 hp36;obtain ⟨xa,xb⟩:=CA.out u1 G1.out.bl
       have c160:=xa.c0;have c161:=xa.c1;have c162:=xa.c2;have c163:=xa.c3
       clear xa xb
       go_upto_region 35 with (go_at_call 20;refine (V1.out _ G1.out.bl).mono ?_;rintro e w2 ⟨rfl,b2⟩;have G2:=hide (G1.out.up b2);have B2:=hide (B1.out.up b2);have P2:=hide (P1.out.up b2);clear b2)
       clear V1 c160 c161 c162 c163 G1 B1 P1;obtain ⟨xa,xb⟩:=CA.out w2 G2.out.bl
       have c180:=xb.c0;have c181:=xb.c1;have c182:=xb.c2;have c183:=xb.c3
       clear xa xb
       go_upto_region 37 with (go_at_call 20;refine (V2.out _ G2.out.bl).mono ?_;rintro e w3 ⟨rfl,b3⟩;have G3:=hide (G2.out.up b3);have B3:=hide (B2.out.up b3);have P3:=hide (P2.out.up b3);clear b3)
       clear V2 c180 c181 c182 c183 G2 B2 P2 CA
       have q0:=P3.out.bx.cell 0 _ rfl;have q1:=P3.out.bx.cell 1 _ rfl;have q2:=P3.out.bx.cell 2 _ rfl
       go_quiet (fail)
       have bd:Below w3.heap.size w3 (w3.drewN nq):=below_drew (Below.refl _ _) nq (Nat.le_refl _);have G9:=hide (G3.out.up bd);have B9:=hide (B3.out.up bd);clear G3 B3 P3 bd
       go_wp2
       go_roundw
       case rel =>
        rw [cd]
        repeat apply Exists.intro
        refine And.intro ?_ rfl
        exact ⟨i'+1,X,Z1,ks,by omega,by go_num,G9,TT,KN,B9⟩
       case measure=>simp [intOf];omega
     case neg =>
      have cd:decide (key*37 % 100<sh)=false:=decide_eq_false cnb;rw [if_neg cnb,if_neg cnb] at A4
      by_cases zz:M.standF gA r=0
      case pos =>
       rw [show ((4:Nat):Int)=4 from rfl,A4.1,zz,A4.2.1 zz,err_nil rfl] at SC;rw [zz,err_nil rfl] at V1;clear A4;generalize M.evalG gA r=ev at *
       go_upto_region 34 with (go_at_call 9;refine SC.out.mono ?_;rintro e w1 ⟨rfl,Z1,h1,k1⟩;have ba:Below w1.heap.size w1 (w1.alloc (.cells #[.int .i64 ev,.int .i64 1,.int .i64 4] 47)):=(Below.refl _ w1).alloc (Nat.le_refl _) _;have G1:=hide (h1.up ba);have B1:=hide ((BK.out.kept k1).up ba);have P1:Hid (Bk (w1.alloc (.cells #[.int .i64 ev,.int .i64 1,.int .i64 4] 47)) Z1 w1.heap.size [.int .i64 ev,.int .i64 1,.int .i64 4]):=⟨bx_new w1 _ _,h1.z0 (.inr (Nat.le_refl _))⟩;clear h1 k1 ba)
       clear SC BK y28
       obtain ⟨u1,hu1⟩:∃ V,V=w1.alloc (.cells #[.int .i64 ev,.int .i64 1,.int .i64 4] 47):=⟨_,rfl⟩
       obtain ⟨p36,hp36⟩:∃ q,q=w1.heap.size:=⟨_,rfl⟩
       rw [←hu1] at G1 B1 P1 ⊢;rw [←hp36] at P1 ⊢;clear hu1 hp36;obtain ⟨xa,xb⟩:=CA.out u1 G1.out.bl
       have c160:=xa.c0;have c161:=xa.c1;have c162:=xa.c2;have c163:=xa.c3
       clear xa xb
       go_upto_region 35 with (go_at_call 20;refine (V1.out _ G1.out.bl).mono ?_;rintro e w2 ⟨rfl,b2⟩;have G2:=hide (G1.out.up b2);have B2:=hide (B1.out.up b2);have P2:=hide (P1.out.up b2);clear b2)
       clear V1 c160 c161 c162 c163 G1 B1 P1;clear V2 CA
       go_upto_region 37 with fail
       have q0:=P2.out.bx.cell 0 _ rfl;have q1:=P2.out.bx.cell 1 _ rfl;have q2:=P2.out.bx.cell 2 _ rfl
       go_quiet (fail)
       have bd:Below w2.heap.size w2 (w2.drewN nq):=below_drew (Below.refl _ _) nq (Nat.le_refl _);have G9:=hide (G2.out.up bd);have B9:=hide (B2.out.up bd);clear G2 B2 P2 bd
       go_wp2
       go_roundw
       case rel =>
        rw [cd]
        repeat apply Exists.intro
        refine And.intro ?_ rfl
        exact ⟨i'+1,X,Z1,ks,by omega,by go_num,G9,TT,KN,B9⟩
       case measure=>simp [intOf];omega
      case neg =>
       rw [show ((4:Nat):Int)=4 from rfl,A4.1,A4.2.2 zz,err_some zz] at SC;rw [err_some zz] at V1;clear A4;generalize M.standF gA r=se at *;generalize M.evalG gA r=v2 at *
       go_upto_region 34 with (go_at_call 9;refine SC.out.mono ?_;rintro e w1 ⟨rfl,Z1,h1,k1⟩;have ba:Below w1.heap.size w1 (w1.alloc (.cells #[.int .i64 0,.int .i64 0,.int .i64 0] 47)):=(Below.refl _ w1).alloc (Nat.le_refl _) _;have G1:=hide (h1.up ba);have B1:=hide ((BK.out.kept k1).up ba);have P1:Hid (Bk (w1.alloc (.cells #[.int .i64 0,.int .i64 0,.int .i64 0] 47)) Z1 w1.heap.size [.int .i64 0,.int .i64 0,.int .i64 0]):=⟨bx_new w1 _ _,h1.z0 (.inr (Nat.le_refl _))⟩;clear h1 k1 ba)
       clear SC BK y28
       obtain ⟨u1,hu1⟩:∃ V,V=w1.alloc (.cells #[.int .i64 0,.int .i64 0,.int .i64 0] 47):=⟨_,rfl⟩
       obtain ⟨p36,hp36⟩:∃ q,q=w1.heap.size:=⟨_,rfl⟩
       rw [←hu1] at G1 B1 P1 ⊢;rw [←hp36] at P1 ⊢;clear hu1 hp36;obtain ⟨xa,xb⟩:=CA.out u1 G1.out.bl
       have c160:=xa.c0;have c161:=xa.c1;have c162:=xa.c2;have c163:=xa.c3
       clear xa xb
       go_upto_region 35 with (go_at_call 20;refine (V1.out _ G1.out.bl).mono ?_;rintro e w2 ⟨rfl,b2⟩;have G2:=hide (G1.out.up b2);have B2:=hide (B1.out.up b2);have P2:=hide (P1.out.up b2);clear b2)
       clear V1 c160 c161 c162 c163 G1 B1 P1;clear V2 CA
       go_upto_region 37 with fail
       have q0:=P2.out.bx.cell 0 _ rfl;have q1:=P2.out.bx.cell 1 _ rfl;have q2:=P2.out.bx.cell 2 _ rfl
       go_quiet (fail)
       have bd:Below w2.heap.size w2 (w2.drewN nq):=below_drew (Below.refl _ _) nq (Nat.le_refl _);have G9:=hide (G2.out.up bd);have B9:=hide (B2.out.up bd);clear G2 B2 P2 bd
       go_wp2
       go_roundw
       case rel =>
        rw [cd]
        repeat apply Exists.intro
        refine And.intro ?_ rfl
        exact ⟨i'+1,X,Z1,ks,by omega,by go_num,G9,TT,KN,B9⟩
       case measure=>simp [intOf];omega
  case neg =>
   have ei:i'=n:=by omega
   subst ei
   have g4:=KP.out.first n1
   have CIn:Hid (∀ (w k num share:Int),M.I64 num->M.I64 share->CaIn w5 ⟨w,0,k, [109],num,share, []⟩ none 0):=λw k num share h1 h2=>⟨nb109,n109,⟨Nat.zero_le _,(λx hx=>by cases hx),λz=>absurd rfl z⟩,Nat.le_refl _,by omega,h1,h2,λ_=>rfl⟩
   have D5:=hide (tv_do FF.out TT.out (what:=4) (k:=5) (num:=2) (share:=0) (bys := []) (a:=none) (cap:=0) (CIn.out 4 5 2 0 (by unfold M.I64;omega) i64_0) (M.ca_one rfl rfl (Nat.zero_le _) (λx hx=>by cases hx)) (by omega) (M.serve5 gA gB sh) (M.cnt_next rfl rfl (show (4:Int)<5 by decide)));clear XA XB
   go_upto_region 42 with (go_at_call 7;refine D5.out.mono ?_;rintro e w21 ⟨rfl,X21,Z21,h21,k21,tt21⟩;have F21:=hide h21;have T21:=hide tt21;clear h21 k21 tt21)
   have D6:=hide (tv_do F21.out T21.out (what:=4) (k:=6) (num:=1) (share:=0) (bys := []) (a:=none) (cap:=0) (CIn.out 4 6 1 0 i64_1 i64_0) (M.ca_one rfl rfl (Nat.zero_le _) (λx hx=>by cases hx)) (by rw [List.length_append,LL];decide) (M.serve6 gA gB) (M.cnt_next rfl rfl (show (5:Int)<6 by decide)));clear D5 FF TT
   go_upto_region 43 with (go_at_call 7;refine D6.out.mono ?_;rintro e w22 ⟨rfl,X22,Z22,h22,k22,tt22⟩;have F22:=hide h22;have T22:=hide tt22;clear h22 k22 tt22)
   clear D6 F21 T21 CIn
   obtain ⟨L6,LL6,T22'⟩:∃ L6:List M.Ca,L6.length=6/\Hid (M.Tv i' X22 ks L6 (M.sT 6 ⟨0,6⟩ [M.vT 1 4 0 gA,M.vT 2 4 0 gB])):=⟨_,by rw [List.length_append,List.length_append,LL];rfl,T22⟩
   have TL1:=hide (tv_tell F22.out T22'.out (by omega) (i:=0) (by omega) (by rw [g4,LL6];decide));clear T22
   go_upto_region 44 with (go_at_call 10;refine TL1.out.mono ?_;rintro e w23 ⟨rfl,X23,Z23,h23,k23,tt23⟩;have F23:=hide h23;have T23:=hide tt23;clear h23 k23 tt23)
   have kl:0<ks.length:=by rw [KP.out.1];omega
   have g5:(ks.set 0 (ks.getD 0 0+1)).getD 0 0=5:=by rw [g4];simp [List.getD,kl]
   have TL2:=hide (tv_tell F23.out T23.out (by omega) (i:=0) (by omega) (by rw [g5,LL6];decide));clear TL1 F22 T22'
   go_upto_region 45 with (go_at_call 10;refine TL2.out.mono ?_;rintro e w24 ⟨rfl,X24,Z24,h24,k24,tt24⟩;have F24:=hide h24;have T24:=hide tt24;clear h24 k24 tt24)
   have g6:((ks.set 0 (ks.getD 0 0+1)).set 0 ((ks.set 0 (ks.getD 0 0+1)).getD 0 0+1)).getD 0 0=6:=by rw [g5];simp [List.getD,kl]
   have SC:=hide (tv_score F24.out T24.out (by omega) (i:=0) (by omega) b r cb (RR.out _ F24.out.bl) key 6);rw [g6,T24.out.all LL6.symm,show ((6:Nat):Int)=6 from rfl,M.ask_six gA gB k0 k6 r,err_some (show (5:Int)≠0 by decide)] at SC;have E5:=hide (λV hV=>ER.out 5 V hV (by decide));clear TL2 F23 T23 KP BK ER RR g4 g5 g6 kl;unfold scoV at SC;generalize M.scV (M.sT 6 ⟨0,6⟩ [M.vT 1 4 0 gA,M.vT 2 4 0 gB]) 6 [109] r key 6=sv at *
   go_wp2_with (first
    | (go_at_call 9;refine SC.out.mono ?_;rintro e w25 ⟨rfl,Z25,h25,k25⟩;have ba:Below w25.heap.size w25 (w25.alloc (.cells #[.int .i64 sv.1,.int .i64 sv.2.1,.int .i64 sv.2.2] 47)):=(Below.refl _ w25).alloc (Nat.le_refl _) _;have BL:=hide (h25.up ba).bl;clear h25 k25 ba)
    | (go_at_call 12;refine (E5.out _ BL.out).mono ?_;rintro e w26 ⟨rfl,b26⟩;have BF:=hide (below_on BW.out (below_on BL.out b26));clear b26))
   go_ret
   exact ⟨rfl,BF.out⟩
theorem serves_all (a b:Option Addr) (xs:List Sx) (r:List Int) (ca cb:Nat) (ft many sh key keep:Int) (W:World) (h:RdL W a xs) (hr:Rd W b r) (h1:M.I64 ft) (h2:M.I64 many) (h3:M.I64 sh) (h4:M.I64 key) (hk:M.I64 keep) (hg:Lays W) :
 Calls Tryz.prog 4 #[.slice a xs.length ca,.int .i64 ft,.int .i64 many,.int .i64 sh,.int .i64 key,.slice b r.length cb,.int .i64 keep] W λe w'=>e = .returned (.bool true)/\Below W.heap.size W w' :=
 serves_walk a xs ca ft many sh key b r cb keep W h hr hg hk
end Go.Proofs.YtaijnacghiloaaaGreatDoor
