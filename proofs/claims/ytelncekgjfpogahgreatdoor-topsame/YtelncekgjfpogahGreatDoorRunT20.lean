/-
  Several texts as one: DifEach, LimBad, DifPairs, DifMove, DifTr, LimEachT.
-/
import Derived.Test.YtelncekgjfpogahGreatDoorRunT14
import Derived.Test.YtelncekgjfpogahGreatDoorRunT17
import Derived.Test.YtelncekgjfpogahGreatDoorRunT19
import Derived.Deep.Cut
import Derived.Deep.CutRange
import Derived.Test.YtelncekgjfpogahGreatDoorRunT13
namespace Go.Proofs.YtelncekgjfpogahGreatDoor
open Go.ChangeShapes Go.WideShapes Go.ChangeAt Go.RowKit Go.Lib
set_option linter.unusedVariables false
theorem EV.up {w : World} {ba bl bd did q : Nat} {a : Option Addr} {n ca i : Nat} {Inv : (Nat → Prop) → Nat → World → Prop} (D : Doer w Inv) {K K' : Nat → Prop} {s : Nat} {W W' : World} (h : EV ba bl bd did q a n ca i Inv K s W) (hk : ∀ b, K' b → K b ∨ (W.heap.size ≤ b ∧ b < W'.heap.size)) (hm : ∀ b, K b → K' b) (hb : Below W.heap.size W W') : EV ba bl bd did q a n ca i Inv K' s W' :=
 ⟨D.up h.inv hk hb, hm _ h.ka, hm _ h.kl, hm _ h.kd, Nat.lt_of_lt_of_le h.la hb.size, Nat.lt_of_lt_of_le h.ll hb.size, Nat.lt_of_lt_of_le h.ld hb.size, (hb.cell (p := ⟨ba, 0, none⟩) h.la).trans h.ca, (hb.cell (p := ⟨bl, 0, none⟩) h.ll).trans h.cl, (hb.cell (p := ⟨bd, 0, none⟩) h.ld).trans h.cd⟩
theorem EV.less {w : World} {ba bl bd did q : Nat} {a : Option Addr} {n ca i : Nat} {Inv : (Nat → Prop) → Nat → World → Prop} (D : Doer w Inv) {K K' : Nat → Prop} {s : Nat} {W : World} (h : EV ba bl bd did q a n ca i Inv K s W) (hk : ∀ b, K' b → K b) (ka : K' ba) (kl : K' bl) (kd : K' bd) : EV ba bl bd did q a n ca i Inv K' s W :=
 ⟨D.up h.inv (fun b hb => .inl (hk b hb)) (Below.refl _ _), ka, kl, kd, h.la, h.ll, h.ld, h.ca, h.cl, h.cd⟩
def KX (K : Nat → Prop) (xa : Option Addr) (R : List Int) : Nat → Prop := fun b => K b ∨ (R ≠ [] ∧ ∃ x, xa = some x ∧ x.block = b)
structure EW (w W : World) (ba bl bd did q : Nat) (a : Option Addr) (n ca i : Nat) (Inv : (Nat → Prop) → Nat → World → Prop) (K : Nat → Prop) (xa : Option Addr) (R : List Int) (xs : Option Addr) (ss : List M.Sp) (s : Nat) (V : World) : Prop where
 ev : EV ba bl bd did q a n ca i Inv (KX K xa R) s V
 rd : Rd V xa R
 sp : RdS V xs ss
 ke : Keeps K W V
theorem EW.up {w W : World} {ba bl bd did q : Nat} {a : Option Addr} {n ca i : Nat} {Inv : (Nat → Prop) → Nat → World → Prop} {K : Nat → Prop} {xa : Option Addr} {R : List Int} {xs : Option Addr} {ss : List M.Sp} {s : Nat} {V V' : World} (D : Doer w Inv) (h : EW w W ba bl bd did q a n ca i Inv K xa R xs ss s V) (hb : Below V.heap.size V V') : EW w W ba bl bd did q a n ca i Inv K xa R xs ss s V' :=
 ⟨h.ev.up D (fun b hk => .inl hk) (fun b hk => hk) hb, h.rd.below hb, h.sp.below hb, h.ke.trans (Keeps.of hb)⟩
theorem EW.start {w W V : World} {ba bl bd did q : Nat} {a : Option Addr} {n ca i : Nat} {Inv : (Nat → Prop) → Nat → World → Prop} {K : Nat → Prop} {xa : Option Addr} {R : List Int} {xs : Option Addr} {ss : List M.Sp} {s : Nat} (D : Doer w Inv) (h : EV ba bl bd did q a n ca i Inv K s W) (hb : Below W.heap.size W V) (hr : Rd V xa R) (hf : ∀ x, xa = some x → W.heap.size ≤ x.block) (hs : RdS W xs ss) : EW w W ba bl bd did q a n ca i Inv K xa R xs ss s V := by
 refine ⟨h.up D (fun b hk => ?_) (fun b hk => .inl hk) hb, hr, hs.below hb, Keeps.of hb⟩
 rcases hk with hk | ⟨hn, x, hx, rfl⟩
 · exact .inl hk
 · obtain ⟨b, off, e, hl, _⟩ := hr.2 hn
   rw [e] at hx; cases hx
   exact .inr ⟨hf _ e, hl⟩
theorem EW.done {w W : World} {ba bl bd did q : Nat} {a : Option Addr} {n ca i : Nat} {Inv : (Nat → Prop) → Nat → World → Prop} {K : Nat → Prop} {xa : Option Addr} {R : List Int} {xs : Option Addr} {ss : List M.Sp} {s : Nat} {V : World} (D : Doer w Inv) (h : EW w W ba bl bd did q a n ca i Inv K xa R xs ss s V) (ka : K ba) (kl : K bl) (kd : K bd) : EV ba bl bd did q a n ca i Inv K s V ∧ Keeps K W V :=
 ⟨h.ev.less D (fun b hk => .inl hk) ka kl kd, h.ke⟩
theorem EW.call {w W : World} {ba bl bd did q : Nat} {a : Option Addr} {ts us : List M.Nd} {ca i : Nat} {Inv : (Nat → Prop) → Nat → World → Prop} {P : List Int → Prop} {K : Nat → Prop} {xa : Option Addr} {R : List Int} {xs : Option Addr} {ss : List M.Sp} {s : Nat} {V V' : World} (D : Doer w Inv) (G : DoGives did q Inv P) (hfn : ∀ args w, (callFunc did args).run Tryz.prog w = .ok (.enter did args) w) (ha : RdN w a ts) (hi : i < ts.length)
 (h : EW w W ba bl bd did q a ts.length ca i Inv K xa R xs ss s V) (hn : R ≠ []) (hsK : ss ≠ [] → ∀ x, xs = some x → K x.block) (hs : s < 100000) (hb : Below V.heap.size V V') {pb pc j : Nat} {L : List Int} (hp : V.heap.size ≤ pb) (hl : pb < V'.heap.size) (hr : Rd V' (some ⟨pb, 0, none⟩) L) (hP : M.nv (M.nAt us j) ≠ M.nv (M.nAt ts i) → P L) :
 Calls Tryz.prog 115 #[.int .i64 (M.nv (M.nAt us j)), .slice (some ⟨pb, 0, none⟩) L.length pc, .pointer (some ⟨ba, 0, none⟩), .pointer (some ⟨bl, 0, none⟩), .pointer (some ⟨bd, 0, none⟩)] V' fun e w' => e = .returned (.tuple #[]) ∧ EW w W ba bl bd did q a ts.length ca i Inv K xa R xs ss (s + M.tmC ts us i j) w' := by
 have U := h.up D hb
 have E2 : EV ba bl bd did q a ts.length ca i Inv (fun b => KX K xa R b ∨ b = pb) s V' := h.ev.up D (fun b hk => by
  rcases hk with hk | rfl
  · exact .inl hk
  · exact .inr ⟨hp, hl⟩) (fun b hk => .inl hk) hb
 refine (each1_any w ba bl bd did q a ts us ca i j Inv P D G hfn ha hi _ s pb pc L V' hs (.inr rfl) hl E2 hP hr).mono ?_
 rintro e w' ⟨rfl, g1, g2⟩
 refine ⟨rfl, ⟨g1.less D (fun b hk => .inl hk) h.ev.ka h.ev.kl h.ev.kd, U.rd.keeps (K := KX K xa R) (fun _ x hx => .inr ⟨hn, x, hx, rfl⟩) (g2.mono (fun b hk => .inl hk)), U.sp.keeps (K := K) hsK (g2.mono (fun b hk => .inl (.inl hk))), U.ke.trans (g2.mono (fun b hk => .inl (.inl hk)))⟩⟩
set_option maxHeartbeats 8000000 in
set_option maxRecDepth 10000 in
theorem each_do (a a' bl : Option Addr) (ts us : List M.Nd) (ss : List M.Sp) (ca cb cl i s0 ba bq bd did q : Nat) (w W : World) (K : Nat → Prop) (Inv : (Nat → Prop) → Nat → World → Prop) (P : List Int → Prop) (D : Doer w Inv) (G : DoGives did q Inv P) (hfn : ∀ args w, (callFunc did args).run Tryz.prog w = .ok (.enter did args) w)
 (ha : RdN w a' ts) (hi : i < ts.length) (ht : RdN w a us) (hs : RdS W bl ss) (hsK : ss ≠ [] → ∀ x, bl = some x → K x.block) (h : M.limF us ss = 0) (h0 : EV ba bq bd did q a' ts.length ca i Inv K s0 W) (hs0 : s0 + us.length < 100000)
 (PP : ∀ j, j < us.length → M.leafB (M.nAt us j) = true → M.anyS (M.meet (M.region us ss.length j) ss) = true → M.nv (M.nAt us j) ≠ M.nv (M.nAt ts i) → P (M.pick (M.meet (M.region us ss.length j) ss))) :
 Calls Tryz.prog 89 #[.slice a us.length cb, .slice bl ss.length cl, .func (.func 115) #[] #[.pointer (some ⟨ba, 0, none⟩), .pointer (some ⟨bq, 0, none⟩), .pointer (some ⟨bd, 0, none⟩)]] W fun e w' => e = .returned .nilIface ∧ EV ba bq bd did q a' ts.length ca i Inv K (s0 + M.sumL (M.inC us ss (M.tmC ts us i)) (M.rch us ss.length us.length)) w' ∧ Keeps K W w' := by
 obtain ⟨h1, h2⟩ := M.lim_ok h
 obtain ⟨F, _⟩ := M.tree_ok h2
 have l8 := (M.sp_zero h1).1
 have l63 := F.1
 have WI := hide (witness_any bl ss cl W hs)
 have RE := hide (fun W' (hW : Below w.heap.size w W') => reach_new a us cb (ss.length : Int) W' (ht.below hW))
 have hm : ss.length ≤ 9223372036854775807 := hs.1
 rw [err_nil h1] at WI
 rw [err_nil h2] at RE
 have rv : M.rchV us (ss.length : Int) = M.rch us ss.length us.length := by unfold M.rchV; rw [if_pos h2, Int.toNat_natCast]
 rw [rv] at RE
 have AT : Hid (∀ k, k < (M.rch us ss.length us.length).length → ∃ j : Nat, (M.rch us ss.length us.length).getD k 0 = (j : Int) ∧ j < us.length ∧ M.leafB (M.nAt us j) = true) := fun k hk => M.rch_at hk
 have RL := M.rch_len us ss.length us.length
 have SM : Hid (∀ k, k < (M.rch us ss.length us.length).length → M.sumL (M.inC us ss (M.tmC ts us i)) ((M.rch us ss.length us.length).take (k + 1)) = M.sumL (M.inC us ss (M.tmC ts us i)) ((M.rch us ss.length us.length).take k) + M.inC us ss (M.tmC ts us i) ((M.rch us ss.length us.length).getD k 0).toNat) := fun k hk => M.sumL_more _ _ hk
 have SB2 : Hid (∀ k, M.sumL (M.inC us ss (M.tmC ts us i)) ((M.rch us ss.length us.length).take k) ≤ us.length) := fun k => by
  have := M.sumL_le (M.inC_le (us := us) (ss := ss) (M.tmC_le ts us i)) ((M.rch us ss.length us.length).take k)
  have q2 : ((M.rch us ss.length us.length).take k).length ≤ (M.rch us ss.length us.length).length := List.length_take_le' _ _
  omega
 have FE : Hid ((M.rch us ss.length us.length).take (M.rch us ss.length us.length).length = M.rch us ss.length us.length) := List.take_length
 have PR : Hid (∀ j : Nat, j < us.length → M.leafB (M.nAt us j) = true → ∀ W', Below w.heap.size w W' → Calls Tryz.prog 114 #[.slice a us.length cb, .int .i64 (ss.length : Nat), .int .i64 (j : Nat)] W' fun e w' => ∃ ag cg bb, e = .returned (.tuple #[.slice ag ss.length cg, .bool bb, .nilIface]) ∧ RdS w' ag ((M.region us ss.length j).map M.norm) ∧ Below W'.heap.size W' w') := fun j hj hl W' hW => by
  have := pregion_any a us cb (ss.length : Int) (j : Int) W' (ht.below hW)
  obtain ⟨q1, q2⟩ := M.reg_at h2 hj hl
  rw [err_nil q1, q2] at this
  refine this.mono ?_
  rintro e w' ⟨ag, cg, rfl, g1, g2⟩
  refine ⟨ag, cg, _, by rw [show ((M.region us ss.length j).map M.norm).length = ss.length by rw [M.nrm_len, M.region_len]], g1, g2⟩
 have IC : Hid (∀ j ag cg W', RdS W' bl ss → RdS W' ag ((M.region us ss.length j).map M.norm) → Calls Tryz.prog 118 #[.slice ag ss.length cg, .slice bl ss.length cl] W' fun e w' => ∃ ag cg, e = .returned (.slice ag ss.length cg) ∧ RdS w' ag (M.meet ((M.region us ss.length j).map M.norm) ss) ∧ Below W'.heap.size W' w') := fun j ag cg W' hW hr => by
  have hl : ((M.region us ss.length j).map M.norm).length = ss.length := by rw [M.nrm_len, M.region_len]
  have := common_any ag bl _ ss cg cl W' hr hW hl (by omega)
  rw [hl, M.meet_len hl, hl] at this
  exact this
 have WY : Hid (∀ j, j < us.length → M.anyS (M.meet (M.region us ss.length j) ss) = true → ∀ ag cg W', RdS W' ag (M.meet ((M.region us ss.length j).map M.norm) ss) → Calls Tryz.prog 117 #[.slice ag ss.length cg] W' fun e w' => ∃ cg, e = .returned (.tuple #[.slice (some ⟨W'.heap.size, 0, none⟩) (M.pick (M.meet (M.region us ss.length j) ss)).length cg, .nilIface]) ∧ Rd w' (some ⟨W'.heap.size, 0, none⟩) (M.pick (M.meet (M.region us ss.length j) ss)) ∧ Below W'.heap.size W' w' ∧ W'.heap.size < w'.heap.size) := fun j hj ha ag cg W' hr => by
  have hl : (M.meet ((M.region us ss.length j).map M.norm) ss).length = ss.length := by rw [M.meet_len (by rw [M.nrm_len, M.region_len]), M.nrm_len, M.region_len]
  have := witness_new ag _ cg W' hr
  rw [hl, err_nil ((M.meet_sp F hj h1).2 ha), M.meet_wit F hj h1 ha] at this
  refine this.mono ?_
  rintro e w' ⟨ag', cg', rfl, g1, g2, g3⟩
  obtain ⟨rfl, g5⟩ := g3 ((M.meet_sp F hj h1).2 ha)
  exact ⟨cg', rfl, g1, g2, g5⟩
 have WN : Hid (∀ j, j < us.length → M.anyS (M.meet (M.region us ss.length j) ss) = false → ∀ ag cg W', RdS W' ag (M.meet ((M.region us ss.length j).map M.norm) ss) → Calls Tryz.prog 117 #[.slice ag ss.length cg] W' fun e w' => ∃ v z, e = .returned (.tuple #[v, .iface 74 (.int .i64 z)]) ∧ Below W'.heap.size W' w') := fun j hj ha ag cg W' hr => by
  have hl : (M.meet ((M.region us ss.length j).map M.norm) ss).length = ss.length := by rw [M.meet_len (by rw [M.nrm_len, M.region_len]), M.nrm_len, M.region_len]
  have := witness_new ag _ cg W' hr
  rw [hl, err_some (fun e => by rw [(M.meet_sp F hj h1).1 e] at ha; cases ha)] at this
  refine this.mono ?_
  rintro e w' ⟨ag', cg', rfl, g1, g2, g3⟩
  exact ⟨_, _, rfl, g2⟩
 obtain ⟨b0, off, rfl, hb0, hc⟩ := ht.2 (by intro e; have := F.2.1; rw [e] at this; simp at this)
 have CV : Hid (∀ j, j < us.length → ∀ W', Below w.heap.size w W' → W'.cell? ⟨b0, off + j * 6 + 5, none⟩ = some (.int .i64 (M.nv (M.nAt us j)))) := fun j hj W' hW => ((hc j hj).below hW hb0).2.2.2.2.2
 have HB := hide (D.below h0.inv)
 have DD := hide D
 have KK := hide (And.intro h0.ka (And.intro h0.kl h0.kd))
 have ST := hide (fun V xa R hb hr hf => EW.start (V := V) (xa := xa) (R := R) (xs := bl) (ss := ss) D h0 hb hr hf hs)
 have CA : Hid (∀ xa (R : List Int) V V' s pb pc j, EW w W ba bq bd did q a' ts.length ca i Inv K xa R bl ss s V → R ≠ [] → s < 100000 → Below V.heap.size V V' → V.heap.size ≤ pb → pb < V'.heap.size → j < us.length → M.leafB (M.nAt us j) = true → M.anyS (M.meet (M.region us ss.length j) ss) = true → Rd V' (some ⟨pb, 0, none⟩) (M.pick (M.meet (M.region us ss.length j) ss)) →
  Calls Tryz.prog 115 #[.int .i64 (M.nv (M.nAt us j)), .slice (some ⟨pb, 0, none⟩) (M.pick (M.meet (M.region us ss.length j) ss)).length pc, .pointer (some ⟨ba, 0, none⟩), .pointer (some ⟨bq, 0, none⟩), .pointer (some ⟨bd, 0, none⟩)] V' fun e w' => e = .returned (.tuple #[]) ∧ EW w W ba bq bd did q a' ts.length ca i Inv K xa R bl ss (s + M.tmC ts us i j) w') := fun xa R V V' s pb pc j hE hn hs hb hp hl hj hlf hA hr => hE.call D G hfn ha hi hn hsK hs hb hp hl hr (fun hv => PP j hj hlf hA hv)
 clear h h1 h2 F rv ht hs h0 hc D G ha PP hsK
 generalize M.rch us ss.length us.length = RV at *
 generalize M.witV ss = WV at *
 go_enter Tryz.func89, Tryz.ntmps89
 go_wp2_with (first
  | (go_at_call 117; refine WI.out.mono ?_; rintro e w1 ⟨wa, wc, rfl, _, hb1⟩; have k1 := hide hb1; clear hb1)
  | (go_at_call 71; refine (RE.out _ (below_on HB.out k1.out)).mono ?_; rintro e w2 ⟨xa, xc, rfl, hrd2, hb2, hfr2⟩; have k2 := hide (below_on k1.out hb2); have E2 := hide (ST.out w2 xa RV k2.out hrd2 (fun x hx => Nat.le_trans k1.out.size (hfr2 x hx))); clear hb2 hrd2 hfr2))
 go_loopw [38] (fun i' wr => ∃ k : Nat, k ≤ RV.length ∧ i' = .int .i64 k ∧ Hid (EW w W ba bq bd did q a' ts.length ca i Inv K xa RV bl ss (s0 + M.sumL (M.inC us ss (M.tmC ts us i)) (RV.take k)) wr)) (fun i' _ => RV.length - (intOf i').toNat)
 case atStart => exact ⟨0, Nat.zero_le _, rfl, E2⟩
 case round =>
  clear E2 k2 k1 ST WI RE HB
  obtain ⟨k, hk, rfl, S⟩ := hrel
  by_cases hlt : k < RV.length
  · obtain ⟨j, ej, hj, hlf⟩ := AT.out k hlt
    have sm := SM.out k hlt
    rw [ej, Int.toNat_natCast] at sm
    have sb := SB2.out k
    have RN : Hid (RV ≠ []) := fun e => by rw [e] at hlt; simp at hlt
    obtain ⟨bx, ox, rfl, hbx, hcx⟩ := S.out.rd.2 RN.out
    have hx := hcx k hlt
    rw [ej] at hx
    have PJ := hide (PR.out j hj hlf)
    have IJ := hide (fun ag cg W' => IC.out j ag cg W')
    have CJ := hide (CV.out j hj)
    have jz : (j : Int) < (us.length : Int) := by omega
    have kz : (k : Int) < (RV.length : Int) := by omega
    have SW := hide (DD.out.below S.out.ev.inv)
    cases hA : M.anyS (M.meet (M.region us ss.length j) ss) with
    | true =>
      have WJ := hide (WY.out j hj hA)
      have CC := hide (fun V' pb pc hb hp hl hr => CA.out (some ⟨bx, ox, none⟩) RV wr V' _ pb pc j S.out RN.out (by omega) hb hp hl hj hlf hA hr)
      have SP := hide S.out.sp
      have N : Hid (s0 + M.sumL (M.inC us ss (M.tmC ts us i)) (RV.take (k + 1)) = s0 + M.sumL (M.inC us ss (M.tmC ts us i)) (RV.take k) + M.tmC ts us i j) := by unfold Hid; rw [sm]; unfold M.inC; rw [if_pos hA]; omega
      clear AT SM SB2 FE PR IC WY WN CV CA hA hcx ej sm sb S hlf
      generalize (M.region us ss.length j).map M.norm = RG at *
      generalize M.meet RG ss = X at *
      generalize M.pick (M.meet (M.region us ss.length j) ss) = PK at *
      generalize s0 + M.sumL (M.inC us ss (M.tmC ts us i)) (RV.take k) = s at *
      generalize M.tmC ts us i j = tm at *
      generalize M.nv (M.nAt us j) = v at *
      go_wp2_with (first
       | (go_at_call 114; refine (PJ.out _ SW.out).mono ?_; rintro e w1 ⟨ga, gc, gb, rfl, hr1, hb1⟩; have k1 := hide hb1; have R1 := hide hr1; clear hb1 hr1)
       | (go_at_call 118; refine (IJ.out _ _ _ (SP.out.below k1.out) R1.out).mono ?_; rintro e w2 ⟨ha, hc, rfl, hr2, hb2⟩; have k2 := hide (below_on k1.out hb2); have R2 := hide hr2; clear hb2 hr2)
       | (go_at_call 117; refine (WJ.out _ _ _ R2.out).mono ?_; rintro e w3 ⟨pc, rfl, hr3, hb3, hl3⟩; have k3 := hide (below_on k2.out hb3); have c3 := CJ.out _ (below_on SW.out k3.out); have R3 := hide hr3; have L3 := hide hl3; clear hb3 hr3 hl3)
       | (go_at_call 115; refine (CC.out _ _ _ k3.out k2.out.size L3.out R3.out).mono ?_; rintro e w4 ⟨rfl, hs4⟩; have S4 := hide hs4; clear hs4))
      go_roundw
      case rel => exact ⟨k + 1, by omega, by go_num, by unfold Hid; rw [N.out]; exact S4.out⟩
      case measure => simp [intOf]; omega
    | false =>
      have WJ := hide (WN.out j hj hA)
      have SP := hide S.out.sp
      have US : Hid (∀ W', Below wr.heap.size wr W' → EW w W ba bq bd did q a' ts.length ca i Inv K (some ⟨bx, ox, none⟩) RV bl ss (s0 + M.sumL (M.inC us ss (M.tmC ts us i)) (RV.take k)) W') := fun W' hW => S.out.up DD.out hW
      have N : Hid (s0 + M.sumL (M.inC us ss (M.tmC ts us i)) (RV.take (k + 1)) = s0 + M.sumL (M.inC us ss (M.tmC ts us i)) (RV.take k)) := by unfold Hid; rw [sm]; unfold M.inC; rw [if_neg (by rw [hA]; decide)]; omega
      clear AT SM SB2 FE PR IC WY WN CV CA hA hcx ej sm sb S hlf
      generalize (M.region us ss.length j).map M.norm = RG at *
      generalize M.meet RG ss = X at *
      generalize s0 + M.sumL (M.inC us ss (M.tmC ts us i)) (RV.take k) = s at *
      go_wp2_with (first
       | (go_at_call 114; refine (PJ.out _ SW.out).mono ?_; rintro e w1 ⟨ga, gc, gb, rfl, hr1, hb1⟩; have k1 := hide hb1; have R1 := hide hr1; clear hb1 hr1)
       | (go_at_call 118; refine (IJ.out _ _ _ (SP.out.below k1.out) R1.out).mono ?_; rintro e w2 ⟨ha, hc, rfl, hr2, hb2⟩; have k2 := hide (below_on k1.out hb2); have R2 := hide hr2; clear hb2 hr2)
       | (go_at_call 117; refine (WJ.out _ _ _ R2.out).mono ?_; rintro e w3 ⟨pv, pz, rfl, hb3⟩; have k3 := hide (below_on k2.out hb3); clear hb3))
      go_roundw
      case rel => exact ⟨k + 1, by omega, by go_num, by unfold Hid; rw [N.out]; exact US.out _ k3.out⟩
      case measure => simp [intOf]; omega
  · have E : k = RV.length := by omega
    rw [E, FE.out] at S
    clear E
    go_wp2
    go_ret
    exact ⟨rfl, S.out.done DD.out KK.out.1 KK.out.2.1 KK.out.2.2⟩
set_option maxHeartbeats 4000000 in
set_option maxRecDepth 10000 in
theorem each_bad (a bl : Option Addr) (ts : List M.Nd) (ss : List M.Sp) (ca cl : Nat) (fv : Value) (w : World) (ht : RdN w a ts) (hs : RdS w bl ss) (h : M.limF ts ss ≠ 0) :
 Calls Tryz.prog 89 #[.slice a ts.length ca, .slice bl ss.length cl, fv] w fun e w' => e = .returned (.iface 74 (.int .i64 (M.limF ts ss))) ∧ Below w.heap.size w w' := by
 have WI := hide (witness_any bl ss cl w hs)
 have RE := hide (fun W (hW : Below w.heap.size w W) => reach_any a ts ca (ss.length : Int) W (ht.below hW))
 have hm : ss.length ≤ 9223372036854775807 := hs.1
 by_cases h1 : M.spF ss = 0
 · have h2 : (M.treeF ts (ss.length : Int)).2 ≠ 0 := fun e => h (M.lim_of h1 e)
   have E : Hid (M.limF ts ss = (M.treeF ts (ss.length : Int)).2) := by unfold Hid M.limF; rw [if_neg (by simp [h1])]
   rw [err_nil h1] at WI
   rw [err_some h2] at RE
   rw [E.out]
   clear h h1 h2 ht hs E
   generalize (M.treeF ts (ss.length : Int)).2 = tf at *
   generalize M.rchV ts (ss.length : Int) = RV at *
   generalize M.witV ss = WV at *
   go_enter Tryz.func89, Tryz.ntmps89
   go_wp2_with (first
    | (go_at_call 117; refine WI.out.mono ?_; rintro e w1 ⟨wa, wc, rfl, _, hb1⟩; have k1 := hide hb1; clear hb1)
    | (go_at_call 71; refine (RE.out _ k1.out).mono ?_; rintro e w2 ⟨xa, xc, rfl, _, hb2⟩; have k2 := hide (below_on k1.out hb2); clear hb2))
   go_ret
   exact ⟨rfl, k2.out⟩
 · have E : Hid (M.limF ts ss = M.spF ss) := by unfold Hid M.limF; rw [if_pos h1]
   rw [err_some h1] at WI
   rw [E.out]
   clear h h1 ht hs E RE
   generalize M.spF ss = sf at *
   generalize M.witV ss = WV at *
   go_enter Tryz.func89, Tryz.ntmps89
   go_wp2_with (go_at_call 117; refine WI.out.mono ?_; rintro e w1 ⟨wa, wc, rfl, _, hb1⟩; have k1 := hide hb1; clear hb1)
   go_ret
   exact ⟨rfl, k1.out⟩
def ShowsM (ts us : List M.Nd) (m : Int) (L : List Int) : Prop := M.rowF L = 0 ∧ (L.length : Int) = m ∧ M.evalV ts L ≠ M.evalV us L
def KM (ba bd : Nat) (xa : Option Addr) (R : List Int) : Nat → Prop := fun b => b = ba ∨ b = bd ∨ (R ≠ [] ∧ ∃ x, xa = some x ∧ x.block = b)
structure EM (ba bd did q : Nat) (a : Option Addr) (n ca : Nat) (Inv : (Nat → Prop) → Nat → World → Prop) (xa : Option Addr) (R : List Int) (s : Nat) (V : World) : Prop where
 inv : Inv (KM ba bd xa R) s V
 la : ba < V.heap.size
 ld : bd < V.heap.size
 ca : V.cell? ⟨ba, 0, none⟩ = some (.slice a n ca)
 cd : V.cell? ⟨bd, 0, none⟩ = some (.func (.func did) #[] #[.pointer (some ⟨q, 0, none⟩)])
 rd : Rd V xa R
theorem EM.start {w W V V' : World} {ba bd did q : Nat} {a : Option Addr} {n ca : Nat} {Inv : (Nat → Prop) → Nat → World → Prop} {xa : Option Addr} {R : List Int} {s : Nat} (D : Doer w Inv) (h : Inv (fun _ => False) s W) (hb : Below W.heap.size W V) (ha : W.heap.size ≤ ba) (hd : W.heap.size ≤ bd) (la : ba < V.heap.size) (ld : bd < V.heap.size) (c0 : V.cell? ⟨ba, 0, none⟩ = some (.slice a n ca)) (c1 : V.cell? ⟨bd, 0, none⟩ = some (.func (.func did) #[] #[.pointer (some ⟨q, 0, none⟩)]))
 (hb2 : Below V.heap.size V V') (hr : Rd V' xa R) (hf : ∀ x, xa = some x → V.heap.size ≤ x.block) : EM ba bd did q a n ca Inv xa R s V' := by
 refine ⟨D.up h (fun b hk => .inr ?_) (below_on hb hb2), Nat.lt_of_lt_of_le la hb2.size, Nat.lt_of_lt_of_le ld hb2.size, (hb2.cell (p := ⟨ba, 0, none⟩) la).trans c0, (hb2.cell (p := ⟨bd, 0, none⟩) ld).trans c1, hr⟩
 have z1 := hb.size
 have z2 := hb2.size
 rcases hk with rfl | rfl | ⟨hn, x, hx, rfl⟩
 · omega
 · omega
 · obtain ⟨b, off, e, hl, _⟩ := hr.2 hn
   rw [e] at hx; cases hx
   have := hf _ e
   show W.heap.size ≤ b ∧ b < V'.heap.size
   have t : V.heap.size ≤ b := this
   omega
theorem EM.call {w V V1 V2 : World} {ba bl bd did q : Nat} {a a' ga : Option Addr} {ts us : List M.Nd} {ca cb cg i m : Nat} {Inv : (Nat → Prop) → Nat → World → Prop} {xa : Option Addr} {R : List Int} {s : Nat} (D : Doer w Inv) (G : DoGives did q Inv (ShowsM ts us m)) (hfn : ∀ args w, (callFunc did args).run Tryz.prog w = .ok (.enter did args) w) (ha : RdN w a ts) (hu : RdN w a' us)
 (ht1 : (M.treeF ts (m : Int)).2 = 0) (ht2 : (M.treeF us (m : Int)).2 = 0) (hi : i < ts.length) (hl : M.leafB (M.nAt ts i) = true) (hany : M.anyS (M.region ts m i) = true)
 (h : EM ba bd did q a ts.length ca Inv xa R s V) (hs : s + us.length < 100000) (hb1 : Below V.heap.size V V1) (hbl : V.heap.size ≤ bl) (lbl : bl < V1.heap.size) (cbl : V1.cell? ⟨bl, 0, none⟩ = some (.int .i64 (i : Nat))) (hb2 : Below V1.heap.size V1 V2) (hg : RdS V2 ga ((M.region ts m i).map M.norm)) (hgf : ∀ x, ga = some x → V1.heap.size ≤ x.block) :
 Calls Tryz.prog 89 #[.slice a' us.length cb, .slice ga m cg, .func (.func 115) #[] #[.pointer (some ⟨ba, 0, none⟩), .pointer (some ⟨bl, 0, none⟩), .pointer (some ⟨bd, 0, none⟩)]] V2 fun e w' => e = .returned .nilIface ∧ EM ba bd did q a ts.length ca Inv xa R (s + M.mvR ts us m i us.length) w' := by
 obtain ⟨F, _⟩ := M.tree_ok ht1
 have z1 := hb1.size
 have z2 := hb2.size
 have B := below_on hb1 hb2
 have nl := M.nrm_reg ts m i
 have E0 : EV ba bl bd did q a ts.length ca i Inv (fun b => KM ba bd xa R b ∨ b = bl ∨ ((M.region ts m i).map M.norm ≠ [] ∧ ∃ x, ga = some x ∧ x.block = b)) s V2 := by
  refine ⟨D.up h.inv (fun b hk => ?_) B, .inl (.inl rfl), .inr (.inl rfl), .inl (.inr (.inl rfl)), Nat.lt_of_lt_of_le h.la B.size, Nat.lt_of_lt_of_le lbl z2, Nat.lt_of_lt_of_le h.ld B.size, (B.cell (p := ⟨ba, 0, none⟩) h.la).trans h.ca, (hb2.cell (p := ⟨bl, 0, none⟩) lbl).trans cbl, (B.cell (p := ⟨bd, 0, none⟩) h.ld).trans h.cd⟩
  rcases hk with hk | rfl | ⟨hn, x, hx, rfl⟩
  · exact .inl hk
  · exact .inr ⟨hbl, by omega⟩
  · obtain ⟨b, off, e, hlt, _⟩ := hg.2 hn
    rw [e] at hx; cases hx
    have t : V1.heap.size ≤ b := hgf _ e
    exact .inr ⟨show V.heap.size ≤ b by omega, hlt⟩
 have C := each_do a' a ga ts us ((M.region ts m i).map M.norm) ca cb cg i s ba bl bd did q w V2 _ Inv (ShowsM ts us m) D G hfn ha hi hu hg (fun hn x hx => .inr (.inr ⟨hn, x, hx, rfl⟩)) (by rw [M.lim_reg F hi hany]; exact ht2) E0 hs (fun j hj hlf hA hv => by
  rw [nl] at hA ⊢
  obtain ⟨p1, p2, p3⟩ := M.pair_row ht1 ht2 hi hj hl hlf hv hA
  exact ⟨p1, by rw [p2], p3⟩)
 rw [nl] at C
 refine C.mono ?_
 rintro e w' ⟨rfl, g1, g2⟩
 rw [M.mvR_at hl] at g1
 refine ⟨rfl, ⟨D.up g1.inv (fun b hk => .inl (.inl hk)) (Below.refl _ _), g1.la, g1.ld, g1.ca, g1.cd, (h.rd.below B).keeps (K := KM ba bd xa R) (fun hn x hx => .inr (.inr ⟨hn, x, hx, rfl⟩)) (g2.mono (fun b hk => .inl hk))⟩⟩
theorem box_two (W : World) (v0 v1 : Value) (t0 t1 : TypeId) : Below W.heap.size W ((W.alloc (.cells #[v0] t0)).alloc (.cells #[v1] t1)) ∧ ((W.alloc (.cells #[v0] t0)).alloc (.cells #[v1] t1)).cell? ⟨W.heap.size, 0, none⟩ = some v0 ∧ ((W.alloc (.cells #[v0] t0)).alloc (.cells #[v1] t1)).cell? ⟨W.heap.size + 1, 0, none⟩ = some v1 ∧ ((W.alloc (.cells #[v0] t0)).alloc (.cells #[v1] t1)).heap.size = W.heap.size + 1 + 1 := by
 refine ⟨((Below.refl W.heap.size W).alloc (Nat.le_refl _) _).alloc (by simp) _, ?_, ?_, by simp⟩
 · refine (((Below.refl _ (W.alloc (.cells #[v0] t0))).alloc (Nat.le_refl _) _).cell (p := ⟨W.heap.size, 0, none⟩) (by simp)).trans ?_
   exact World.cell?_alloc_at _ _ _ 0 rfl
 · exact World.cell?_alloc_at _ _ _ 0 (by simp)
set_option maxHeartbeats 8000000 in
set_option maxRecDepth 10000 in
theorem emoved_any (a b : Option Addr) (ts us : List M.Nd) (ca cb : Nat) (m : Int) (did q : Nat) (w W : World) (Inv : (Nat → Prop) → Nat → World → Prop) (D : Doer w Inv) (G : DoGives did q Inv (ShowsM ts us m)) (hfn : ∀ args w, (callFunc did args).run Tryz.prog w = .ok (.enter did args) w) (ha : RdN w a ts) (hu : RdN w b us) (h0 : Inv (fun _ => False) 0 W) :
 Calls Tryz.prog 80 #[.slice a ts.length ca, .slice b us.length cb, .int .i64 m, .func (.func did) #[] #[.pointer (some ⟨q, 0, none⟩)]] W fun e w' => e = .returned (errV (M.difF ts us m)) ∧ ∃ K s, Inv K s w' ∧ (M.difF ts us m = 0 → s = M.movedV ts us m) := by
 have HB := hide (D.below h0)
 have RE := hide (fun W' (hW : Below W.heap.size W W') => reach_new a ts ca m W' (ha.below (below_on HB.out hW)))
 have BX := hide (box_two W (.slice a ts.length ca) (.func (.func did) #[] #[.pointer (some ⟨q, 0, none⟩)]) 66 140)
 by_cases h1 : (M.treeF ts m).2 = 0
 · obtain ⟨F, _⟩ := M.tree_ok h1
   have m0 := F.2.2.1
   have m8 := F.2.2.2.1
   have l63 := F.1
   obtain ⟨mn, rfl⟩ : ∃ mn : Nat, m = (mn : Int) := ⟨m.toNat, by omega⟩
   rw [err_nil h1] at RE
   have rv : M.rchV ts (mn : Int) = M.rch ts mn ts.length := by unfold M.rchV; rw [if_pos h1, Int.toNat_natCast]
   rw [rv] at RE
   have AT : Hid (∀ k, k < (M.rch ts mn ts.length).length → ∃ j : Nat, (M.rch ts mn ts.length).getD k 0 = (j : Int) ∧ j < ts.length ∧ M.leafB (M.nAt ts j) = true ∧ M.anyS (M.region ts mn j) = true) := fun k hk => M.rch_any hk
   have RL := M.rch_len ts mn ts.length
   have PR : Hid (∀ j : Nat, j < ts.length → M.leafB (M.nAt ts j) = true → ∀ W', Below w.heap.size w W' → Calls Tryz.prog 114 #[.slice a ts.length ca, .int .i64 (mn : Nat), .int .i64 (j : Nat)] W' fun e w' => ∃ ag cg bb, e = .returned (.tuple #[.slice ag mn cg, .bool bb, .nilIface]) ∧ RdS w' ag ((M.region ts mn j).map M.norm) ∧ Below W'.heap.size W' w' ∧ (∀ x, ag = some x → W'.heap.size ≤ x.block)) := fun j hj hl W' hW => by
    have := pregion_new a ts ca (mn : Int) (j : Int) W' (ha.below hW)
    obtain ⟨q1, q2⟩ := M.reg_at h1 hj hl
    rw [err_nil q1, q2] at this
    refine this.mono ?_
    rintro e w' ⟨ag, cg, rfl, g1, g2, g3⟩
    refine ⟨ag, cg, _, by rw [M.nrm_reg], g1, g2, g3⟩
   have ST := hide (fun V V' xa R hb la ld c0 c1 hb2 hr hf => EM.start (w := w) (V := V) (V' := V') (ba := W.heap.size) (bd := W.heap.size + 1) (did := did) (q := q) (a := a) (n := ts.length) (ca := ca) (xa := xa) (R := R) D h0 hb (Nat.le_refl _) (Nat.le_succ _) la ld c0 c1 hb2 hr hf)
   have DD := hide D
   by_cases h2 : (M.treeF us (mn : Int)).2 = 0
   · have df := M.dif_of h1 h2
     have mv : Hid (M.movedV ts us (mn : Int) = M.sumL (fun i => M.mvR ts us mn i us.length) (M.rch ts mn ts.length)) := by unfold Hid M.movedV; rw [if_pos df, Int.toNat_natCast, M.mvK_at]
     obtain ⟨F2, _⟩ := M.tree_ok h2
     have u63 := F2.1
     have SM : Hid (∀ k, k < (M.rch ts mn ts.length).length → M.sumL (fun i => M.mvR ts us mn i us.length) ((M.rch ts mn ts.length).take (k + 1)) = M.sumL (fun i => M.mvR ts us mn i us.length) ((M.rch ts mn ts.length).take k) + M.mvR ts us mn ((M.rch ts mn ts.length).getD k 0).toNat us.length) := fun k hk => M.sumL_more _ _ hk
     have SB : Hid (∀ k, M.sumL (fun i => M.mvR ts us mn i us.length) ((M.rch ts mn ts.length).take k) ≤ 3969) := fun k => by
      have := M.sumL_le (fun i => M.mvR_le ts us mn i) ((M.rch ts mn ts.length).take k)
      have q2 : ((M.rch ts mn ts.length).take k).length ≤ (M.rch ts mn ts.length).length := List.length_take_le' _ _
      have q3 : ((M.rch ts mn ts.length).take k).length * us.length ≤ 63 * 63 := Nat.mul_le_mul (by omega) u63
      omega
     have FE : Hid ((M.rch ts mn ts.length).take (M.rch ts mn ts.length).length = M.rch ts mn ts.length) := List.take_length
     have CA := hide (fun V V1 V2 bl ga cg xa R s i hi hl hany h hs hb1 hbl lbl cbl hb2 hg hgf => EM.call (V := V) (V1 := V1) (V2 := V2) (bl := bl) (ga := ga) (cg := cg) (cb := cb) (xa := xa) (R := R) (s := s) (i := i) (ba := W.heap.size) (bd := W.heap.size + 1) (ca := ca) D G hfn ha hu h1 h2 hi hl hany h hs hb1 hbl lbl cbl hb2 hg hgf)
     rw [err_nil df]
     clear h1 h2 df F F2 rv ha hu h0 D G
     generalize M.movedV ts us (mn : Int) = MVV at *
     generalize M.difF ts us (mn : Int) = dff at *
     generalize M.rch ts mn ts.length = RV at *
     go_enter Tryz.func80, Tryz.ntmps80
     go_wp2_with (go_at_call 71; refine (RE.out _ BX.out.1).mono ?_; rintro e w1 ⟨xa, xc, rfl, hr1, hb1, hf1⟩; have E1 := hide (ST.out _ w1 xa RV BX.out.1 (by rw [BX.out.2.2.2]; omega) (by rw [BX.out.2.2.2]; omega) BX.out.2.1 BX.out.2.2.1 hb1 hr1 hf1); clear hb1 hr1 hf1)
     go_loopw [27] (fun i' wr => ∃ k : Nat, k ≤ RV.length ∧ i' = .int .i64 k ∧ Hid (EM W.heap.size (W.heap.size + 1) did q a ts.length ca Inv xa RV (M.sumL (fun i => M.mvR ts us mn i us.length) (RV.take k)) wr)) (fun i' _ => RV.length - (intOf i').toNat)
     case atStart => exact ⟨0, Nat.zero_le _, rfl, E1⟩
     case round =>
      clear E1 ST RE HB BX
      obtain ⟨k, hk, rfl, S⟩ := hrel
      by_cases hlt : k < RV.length
      · obtain ⟨j, ej, hj, hlf, hany⟩ := AT.out k hlt
        have sm := SM.out k hlt
        rw [ej, Int.toNat_natCast] at sm
        have sb := SB.out k
        obtain ⟨bx, ox, rfl, hbx, hcx⟩ := S.out.rd.2 (fun e => by rw [e] at hlt; simp at hlt)
        have hx := hcx k hlt
        rw [ej] at hx
        have kz : (k : Int) < (RV.length : Int) := by omega
        have PJ := hide (PR.out j hj hlf)
        have SW := hide (DD.out.below S.out.inv)
        have CC := hide (fun V1 V2 bl ga cg hb1 hbl lbl cbl hb2 hg hgf => CA.out wr V1 V2 bl ga cg (some ⟨bx, ox, none⟩) RV _ j hj hlf hany S.out (by omega) hb1 hbl lbl cbl hb2 hg hgf)
        have y0 := S.out.ca
        have la := S.out.la
        have N : Hid (M.sumL (fun i => M.mvR ts us mn i us.length) (RV.take (k + 1)) = M.sumL (fun i => M.mvR ts us mn i us.length) (RV.take k) + M.mvR ts us mn j us.length) := sm
        clear AT SM SB FE PR CA hcx ej sm sb S hlf hany mv
        generalize (M.region ts mn j).map M.norm = RG at *
        generalize M.sumL (fun i => M.mvR ts us mn i us.length) (RV.take k) = s at *
        generalize M.mvR ts us mn j us.length = mr at *
        go_upto_region 7 with fail
        obtain ⟨w1, hw1⟩ : ∃ V, V = wr.alloc (.cells #[.int .i64 (j : Nat)] 3) := ⟨_, rfl⟩
        have k1 : Hid (Below wr.heap.size wr w1) := by rw [hw1]; exact (Below.refl _ wr).alloc (Nat.le_refl _) _
        have c0 : w1.cell? ⟨W.heap.size, 0, none⟩ = some (.slice a ts.length ca) := (k1.out.cell (p := ⟨W.heap.size, 0, none⟩) la).trans y0
        have c1 : w1.cell? ⟨wr.heap.size, 0, none⟩ = some (.int .i64 (j : Nat)) := by rw [hw1]; exact World.cell?_alloc_at _ _ _ 0 rfl
        have L1 : Hid (wr.heap.size < w1.heap.size) := by unfold Hid; rw [hw1]; simp
        have C1 := hide c1
        rw [← hw1]
        clear hw1 hx y0
        go_wp2_with (first
         | (go_at_call 114; refine (PJ.out _ (below_on SW.out k1.out)).mono ?_; rintro e w2 ⟨ga, gc, gb, rfl, hr2, hb2, hf2⟩; have CE := hide (CC.out w1 w2 wr.heap.size ga gc k1.out (Nat.le_refl _) L1.out C1.out hb2 hr2 hf2); clear hr2 hb2 hf2)
         | (go_at_call 89; refine CE.out.mono ?_; rintro e w4 ⟨rfl, hs4⟩; have S4 := hide hs4; clear hs4))
        go_roundw
        case rel => exact ⟨k + 1, by omega, by go_num, by unfold Hid; rw [N.out]; exact S4.out⟩
        case measure => simp [intOf]; omega
      · have E : k = RV.length := by omega
        rw [E, FE.out] at S
        clear E
        go_wp2
        go_ret
        exact ⟨rfl, _, _, S.out.inv, fun _ => mv.out.symm⟩
   · have df : M.difF ts us (mn : Int) = (M.treeF us (mn : Int)).2 := by unfold M.difF; rw [if_neg (by simp [h1])]
     have LN : Hid (0 < (M.rch ts mn ts.length).length) := M.rch_some h1
     rw [df, err_some h2]
     have NZ := hide h2
     have EB : Hid (∀ j, j < ts.length → M.anyS (M.region ts mn j) = true → ∀ ag cg fv W', Below w.heap.size w W' → RdS W' ag ((M.region ts mn j).map M.norm) → Calls Tryz.prog 89 #[.slice b us.length cb, .slice ag mn cg, fv] W' fun e w' => e = .returned (.iface 74 (.int .i64 (M.treeF us (mn : Int)).2)) ∧ Below W'.heap.size W' w') := fun j hj hany ag cg fv W' hW hr => by
      have lr := M.lim_reg (us := us) F hj hany
      have := each_bad b ag us ((M.region ts mn j).map M.norm) cb cg fv W' (hu.below hW) hr (by rw [lr]; exact h2)
      rw [lr, M.nrm_reg] at this
      exact this
     have UP := hide (fun W' hb => D.on (W' := W') h0 hb)
     clear h1 h2 df F rv ha hu h0 D G ST
     generalize M.movedV ts us (mn : Int) = MVV at *
     generalize (M.treeF us (mn : Int)).2 = tf at *
     generalize M.rch ts mn ts.length = RV at *
     have rz : (0 : Int) < (RV.length : Int) := by have := LN.out; omega
     obtain ⟨j, ej, hj, hlf, hany⟩ := AT.out 0 LN.out
     have PJ := hide (PR.out j hj hlf)
     have EJ := hide (EB.out j hj hany)
     clear PR EB hlf hany AT
     generalize (M.region ts mn j).map M.norm = RG at *
     go_enter Tryz.func80, Tryz.ntmps80
     go_wp2_with (go_at_call 71; refine (RE.out _ BX.out.1).mono ?_; rintro e w1 ⟨xa, xc, rfl, hr1, hb1, hf1⟩; obtain ⟨bx, ox, rfl, hbx, hcx⟩ := hr1.2 (fun e => by have := LN.out; rw [e] at this; simp at this); have hx := hcx 0 LN.out; rw [ej, Nat.add_zero] at hx; have y0 := (hb1.cell (p := ⟨W.heap.size, 0, none⟩) (by simp; omega)).trans BX.out.2.1; have k1 := hide (below_on BX.out.1 hb1); have z1 : W.heap.size < w1.heap.size := (by have := hb1.size; have := BX.out.2.2.2; omega); clear hb1 hr1 hf1 hcx)
     go_loopw [27] (fun i' wr => i' = .int .i64 0 ∧ wr = w1) (fun _ _ => 0)
     case atStart => exact ⟨rfl, rfl⟩
     case round =>
      obtain ⟨rfl, rfl⟩ := hrel
      go_upto_region 7 with fail
      obtain ⟨w2, hw2⟩ : ∃ V, V = wr.alloc (.cells #[.int .i64 (j : Nat)] 3) := ⟨_, rfl⟩
      have k2 : Hid (Below wr.heap.size wr w2) := by rw [hw2]; exact (Below.refl _ wr).alloc (Nat.le_refl _) _
      have c0 : w2.cell? ⟨W.heap.size, 0, none⟩ = some (.slice a ts.length ca) := (k2.out.cell (p := ⟨W.heap.size, 0, none⟩) z1).trans y0
      have c1 : w2.cell? ⟨wr.heap.size, 0, none⟩ = some (.int .i64 (j : Nat)) := by rw [hw2]; exact World.cell?_alloc_at _ _ _ 0 rfl
      have k3 := hide (below_on k1.out k2.out)
      rw [← hw2]
      clear hw2 hx y0
      go_wp2_with (first
       | (go_at_call 114; refine (PJ.out _ (below_on HB.out k3.out)).mono ?_; rintro e w4 ⟨ga, gc, gb, rfl, hr4, hb4, _⟩; have k4 := hide (below_on k3.out hb4); have R4 := hide hr4; clear hr4 hb4)
       | (go_at_call 89; refine (EJ.out _ _ _ _ (below_on HB.out k4.out) R4.out).mono ?_; rintro e w5 ⟨rfl, hb5⟩; have k5 := hide (below_on k4.out hb5); clear hb5))
      go_ret
      exact ⟨rfl, _, _, UP.out _ k5.out, fun e => absurd e NZ.out⟩
 · have df : M.difF ts us m = (M.treeF ts m).2 := by unfold M.difF; rw [if_pos h1]
   rw [err_some h1] at RE
   rw [df, err_some h1]
   have UP := hide (fun W' hb => D.on (W' := W') h0 hb)
   have NZ := hide h1
   clear h1 ha hu h0 D G df
   generalize (M.treeF ts m).2 = tf at *
   generalize M.rchV ts m = RV at *
   generalize M.movedV ts us m = MVV at *
   go_enter Tryz.func80, Tryz.ntmps80
   go_wp2_with (go_at_call 71; refine (RE.out _ BX.out.1).mono ?_; rintro e w1 ⟨xa, xc, rfl, _, hb1, _⟩; have k1 := hide (below_on BX.out.1 hb1); clear hb1)
   go_ret
   exact ⟨rfl, _, _, UP.out _ k1.out, fun e => absurd e NZ.out⟩
theorem one_box (W : World) (v : Value) (t : TypeId) : Below W.heap.size W (W.alloc (.cells #[v] t)) ∧ (W.alloc (.cells #[v] t)).cell? ⟨W.heap.size, 0, none⟩ = some v ∧ (W.alloc (.cells #[v] t)).frozen? ⟨W.heap.size, 0, none⟩ = false ∧ (W.alloc (.cells #[v] t)).heap.size = W.heap.size + 1 :=
 ⟨(Below.refl W.heap.size W).alloc (Nat.le_refl _) _, World.cell?_alloc_at _ _ _ 0 rfl, by simp, by simp⟩
set_option maxHeartbeats 4000000 in
theorem diftrees_any : DifTreesGives := by
 intro a b ts us ca cb m W ha hb
 have OB := hide (one_box W (.slice none 0 0) 138)
 have EM := hide (emoved_any a b ts us ca cb m 81 W.heap.size W (W.alloc (.cells #[.slice none 0 0] 138)) (TV W (ShowsM ts us m) W.heap.size) (tv_doer W (ShowsM ts us m) W.heap.size) (trees1_any W W.heap.size (ShowsM ts us m)) (enters_of Tryz.func81 (by kernel_rfl) rfl) ha hb ⟨by rw [OB.out.2.2.2]; omega, Nat.le_refl _, fun h => h, fun b h => h.elim, OB.out.2.2.1, OB.out.1, ⟨_, [], OB.out.2.1, World.ownsRow_nil _ _ _ _, fun g hg => (by cases hg), fun h0 => absurd h0 (by omega)⟩⟩)
 have NIL : Hid (∀ V, Rd V none []) := fun V => ⟨Nat.zero_le _, fun h => absurd rfl h⟩
 clear ha hb
 by_cases h : M.difF ts us m = 0
 · rw [err_nil h] at EM
   have H := hide h
   by_cases hz : M.movedV ts us m = 0
   · have e5 := M.dift_same h hz
     rw [e5, err_some (show (5 : Int) ≠ 0 by decide)]
     have HZ := hide hz
     clear h hz e5
     generalize M.movedV ts us m = mv at *
     generalize M.difF ts us m = df at *
     go_enter Tryz.func46, Tryz.ntmps46
     go_wp2_with (go_at_call 80; refine EM.out.mono ?_; rintro e w1 ⟨rfl, K, s, hi, hs⟩; have es : s = 0 := (hs H.out).trans HZ.out; subst es; obtain ⟨v, Vs, c1, o1, _, _⟩ := hi.rows; obtain ⟨va, vc, rfl⟩ : ∃ va vc, v = .slice va 0 vc := (by rcases o1.2 with ⟨e, _⟩ | ⟨g, cap, cur, e, _⟩ <;> exact ⟨_, _, e⟩); have B1 := hide hi.below; clear hi hs o1)
     go_ret2
     exact ⟨[], none, 0, rfl, NIL.out _, fun e => absurd e (by decide), B1.out⟩
   · have e0 := M.dift_not h hz
     rw [e0, err_nil rfl]
     have pz : 0 < M.movedV ts us m := by omega
     clear h hz e0
     generalize M.movedV ts us m = mv at *
     generalize M.difF ts us m = df at *
     have q1 : ((mv : Int) == 0) = false := by rw [beq_eq_false_iff_ne]; omega
     have pzi : (0 : Int) < (mv : Int) := by omega
     go_enter Tryz.func46, Tryz.ntmps46
     go_wp2_with (go_at_call 80; refine EM.out.mono ?_; rintro e w1 ⟨rfl, K, s, hi, hs⟩; have es := hs H.out; subst es; obtain ⟨v, Vs, c1, o1, _, f1⟩ := hi.rows; obtain ⟨pb, pc, L, l1, l2, l3, _⟩ := f1 pz; obtain ⟨g, cap, rfl, _, _⟩ := o1.form pz; have c2 : w1.cell? ⟨g, 0, none⟩ = some (.slice (some ⟨pb, 0, none⟩) L.length pc) := (o1.cellAt 0 (by omega)).trans l1; have R1 := hide l2; have S1 := hide l3; have B1 := hide hi.below; clear hi hs o1 f1 l1 l2 l3)
     go_ret2
     exact ⟨L, some ⟨pb, 0, none⟩, pc, rfl, R1.out, fun _ => S1.out, B1.out⟩
 · have eb := M.dift_bad h
   rw [eb, err_some h]
   rw [err_some h] at EM
   have H := hide h
   clear h eb
   generalize M.movedV ts us m = mv at *
   generalize M.difF ts us m = df at *
   go_enter Tryz.func46, Tryz.ntmps46
   go_wp2_with (go_at_call 80; refine EM.out.mono ?_; rintro e w1 ⟨rfl, K, s, hi, _⟩; have B1 := hide hi.below; clear hi)
   go_ret2
   exact ⟨[], none, 0, rfl, NIL.out _, fun e => absurd e H.out, B1.out⟩
set_option maxHeartbeats 8000000 in
set_option maxRecDepth 10000 in
theorem each_tree (a bl : Option Addr) (ts : List M.Nd) (ss : List M.Sp) (ca cl : Nat) (w : World) (B p q : Nat) (W : World) (ht : RdN w a ts) (hs : RdS w bl ss) (h : M.limF ts ss = 0) (h0 : TI w B p q M.ends0 W) (lp : p < B) (lq : q < B) (pq : p ≠ q) (gp : w.heap.size ≤ p) (gq : w.heap.size ≤ q) :
 Calls Tryz.prog 89 #[.slice a ts.length ca, .slice bl ss.length cl, .func (.func 90) #[] #[.pointer (some ⟨p, 0, none⟩), .pointer (some ⟨q, 0, none⟩)]] W fun e w' => e = .returned .nilIface ∧ TI w B p q (M.endsK ts ss ts.length) w' := by
 obtain ⟨h1, h2⟩ := M.lim_ok h
 obtain ⟨F, _⟩ := M.tree_ok h2
 have l8 := (M.sp_zero h1).1
 have l63 := F.1
 have WI := hide (witness_any bl ss cl W (hs.below h0.below))
 have RE := hide (fun W' (hW : Below w.heap.size w W') => reach_new a ts ca (ss.length : Int) W' (ht.below hW))
 have hm : ss.length ≤ 9223372036854775807 := hs.1
 rw [err_nil h1] at WI
 rw [err_nil h2] at RE
 have rv : M.rchV ts (ss.length : Int) = M.rch ts ss.length ts.length := by unfold M.rchV; rw [if_pos h2, Int.toNat_natCast]
 rw [rv] at RE
 have AT : Hid (∀ k, k < (M.rch ts ss.length ts.length).length → ∃ j : Nat, (M.rch ts ss.length ts.length).getD k 0 = (j : Int) ∧ j < ts.length ∧ M.leafB (M.nAt ts j) = true) := fun k hk => M.rch_at hk
 have RL := M.rch_len ts ss.length ts.length
 have FM : Hid (∀ k, k < (M.rch ts ss.length ts.length).length → M.fedL ts ss ((M.rch ts ss.length ts.length).take (k + 1)) = M.fed ts ss (M.fedL ts ss ((M.rch ts ss.length ts.length).take k)) ((M.rch ts ss.length ts.length).getD k 0).toNat) := fun k hk => M.fed_more ts ss _ hk
 have FE : Hid (M.fedL ts ss ((M.rch ts ss.length ts.length).take (M.rch ts ss.length ts.length).length) = M.endsK ts ss ts.length) := by unfold Hid; rw [List.take_length]; exact M.fed_rch ts ss ts.length
 have PR : Hid (∀ j : Nat, j < ts.length → M.leafB (M.nAt ts j) = true → ∀ W', Below w.heap.size w W' → Calls Tryz.prog 114 #[.slice a ts.length ca, .int .i64 (ss.length : Nat), .int .i64 (j : Nat)] W' fun e w' => ∃ ag cg bb, e = .returned (.tuple #[.slice ag ss.length cg, .bool bb, .nilIface]) ∧ RdS w' ag ((M.region ts ss.length j).map M.norm) ∧ Below W'.heap.size W' w') := fun j hj hl W' hW => by
  have := pregion_any a ts ca (ss.length : Int) (j : Int) W' (ht.below hW)
  obtain ⟨q1, q2⟩ := M.reg_at h2 hj hl
  rw [err_nil q1, q2] at this
  refine this.mono ?_
  rintro e w' ⟨ag, cg, rfl, g1, g2⟩
  refine ⟨ag, cg, _, by rw [show ((M.region ts ss.length j).map M.norm).length = ss.length by rw [M.nrm_len, M.region_len]], g1, g2⟩
 have IC : Hid (∀ j ag cg W', Below w.heap.size w W' → RdS W' ag ((M.region ts ss.length j).map M.norm) → Calls Tryz.prog 118 #[.slice ag ss.length cg, .slice bl ss.length cl] W' fun e w' => ∃ ag cg, e = .returned (.slice ag ss.length cg) ∧ RdS w' ag (M.meet ((M.region ts ss.length j).map M.norm) ss) ∧ Below W'.heap.size W' w') := fun j ag cg W' hW hr => by
  have hl : ((M.region ts ss.length j).map M.norm).length = ss.length := by rw [M.nrm_len, M.region_len]
  have := common_any ag bl _ ss cg cl W' hr (hs.below hW) hl (by omega)
  rw [hl, M.meet_len hl, hl] at this
  exact this
 have WY : Hid (∀ j, j < ts.length → M.anyS (M.meet (M.region ts ss.length j) ss) = true → ∀ ag cg W', RdS W' ag (M.meet ((M.region ts ss.length j).map M.norm) ss) → Calls Tryz.prog 117 #[.slice ag ss.length cg] W' fun e w' => ∃ cg, e = .returned (.tuple #[.slice (some ⟨W'.heap.size, 0, none⟩) (M.pick (M.meet (M.region ts ss.length j) ss)).length cg, .nilIface]) ∧ Rd w' (some ⟨W'.heap.size, 0, none⟩) (M.pick (M.meet (M.region ts ss.length j) ss)) ∧ Below W'.heap.size W' w' ∧ W'.heap.size < w'.heap.size) := fun j hj ha ag cg W' hr => by
  have hl : (M.meet ((M.region ts ss.length j).map M.norm) ss).length = ss.length := by rw [M.meet_len (by rw [M.nrm_len, M.region_len]), M.nrm_len, M.region_len]
  have := witness_new ag _ cg W' hr
  rw [hl, err_nil ((M.meet_sp F hj h1).2 ha), M.meet_wit F hj h1 ha] at this
  refine this.mono ?_
  rintro e w' ⟨ag', cg', rfl, g1, g2, g3⟩
  obtain ⟨rfl, g5⟩ := g3 ((M.meet_sp F hj h1).2 ha)
  exact ⟨cg', rfl, g1, g2, g5⟩
 have WN : Hid (∀ j, j < ts.length → M.anyS (M.meet (M.region ts ss.length j) ss) = false → ∀ ag cg W', RdS W' ag (M.meet ((M.region ts ss.length j).map M.norm) ss) → Calls Tryz.prog 117 #[.slice ag ss.length cg] W' fun e w' => ∃ v z, e = .returned (.tuple #[v, .iface 74 (.int .i64 z)]) ∧ Below W'.heap.size W' w') := fun j hj ha ag cg W' hr => by
  have hl : (M.meet ((M.region ts ss.length j).map M.norm) ss).length = ss.length := by rw [M.meet_len (by rw [M.nrm_len, M.region_len]), M.nrm_len, M.region_len]
  have := witness_new ag _ cg W' hr
  rw [hl, err_some (fun e => by rw [(M.meet_sp F hj h1).1 e] at ha; cases ha)] at this
  refine this.mono ?_
  rintro e w' ⟨ag', cg', rfl, g1, g2, g3⟩
  exact ⟨_, _, rfl, g2⟩
 have PL : Hid (∀ j, (M.pick (M.meet (M.region ts ss.length j) ss)).length = ss.length) := fun j => by unfold M.pick; rw [List.length_map, M.meet_len (M.region_len _ _ _), M.region_len]
 have VI : Hid (∀ j, j < ts.length → M.leafB (M.nAt ts j) = true → -1000000 ≤ M.nv (M.nAt ts j) ∧ M.nv (M.nAt ts j) ≤ 1000000) := fun j hj hl => M.leaf_in F hj hl
 obtain ⟨b0, off, rfl, hb0, hc⟩ := ht.2 (by intro e; have := F.2.1; rw [e] at this; simp at this)
 have CV : Hid (∀ j, j < ts.length → ∀ W', Below w.heap.size w W' → W'.cell? ⟨b0, off + j * 6 + 5, none⟩ = some (.int .i64 (M.nv (M.nAt ts j)))) := fun j hj W' hW => ((hc j hj).below hW hb0).2.2.2.2.2
 have H0 := hide h0
 have b0s := h0.size
 have HB := hide h0.below
 clear h h1 h2 F rv ht hs h0 hc
 generalize M.rch ts ss.length ts.length = RV at *
 generalize M.endsK ts ss ts.length = EN at *
 generalize M.witV ss = WV at *
 go_enter Tryz.func89, Tryz.ntmps89
 go_wp2_with (first
  | (go_at_call 117; refine WI.out.mono ?_; rintro e w1 ⟨wa, wc, rfl, _, hb1⟩; have k1 := hide hb1; clear hb1)
  | (go_at_call 71; refine (RE.out _ (below_on HB.out k1.out)).mono ?_; rintro e w2 ⟨xa, xc, rfl, hrd2, hb2, hfr2⟩; have k2 := hide (below_on k1.out hb2); have RD2 := hide hrd2; have FR2 : Hid (∀ x, xa = some x → B ≤ x.block) := (fun x hx => Nat.le_trans b0s (Nat.le_trans k1.out.size (hfr2 x hx))); clear hb2 hrd2 hfr2))
 go_loopw [38] (fun i wr => ∃ k : Nat, k ≤ RV.length ∧ i = .int .i64 k ∧ Hid (TI w B p q (M.fedL ts ss (RV.take k)) wr) ∧ Hid (Rd wr xa RV)) (fun i _ => RV.length - (intOf i).toNat)
 case atStart => exact ⟨0, Nat.zero_le _, rfl, H0.out.up lp lq k2.out, RD2⟩
 case round =>
  clear RD2 k2 k1 H0 WI RE HB
  obtain ⟨k, hk, rfl, S, RD⟩ := hrel
  by_cases hlt : k < RV.length
  · obtain ⟨j, ej, hj, hlf⟩ := AT.out k hlt
    have fm := FM.out k hlt
    rw [ej, Int.toNat_natCast] at fm
    obtain ⟨bx, ox, rfl, hbx, hcx⟩ := RD.out.2 (by intro e; rw [e] at hlt; simp at hlt)
    have hx := hcx k hlt
    rw [ej] at hx
    have PJ := hide (PR.out j hj hlf)
    have IJ := hide (fun ag cg W' => IC.out j ag cg W')
    have vi := VI.out j hj hlf
    have CJ := hide (CV.out j hj)
    have jz : (j : Int) < (ts.length : Int) := by omega
    have kz : (k : Int) < (RV.length : Int) := by omega
    have SB := hide S.out.below
    have US : Hid (∀ W', Below wr.heap.size wr W' → TI w B p q (M.fedL ts ss (RV.take k)) W') := fun W' hW => S.out.up lp lq hW
    have UR : Hid (∀ W', Below wr.heap.size wr W' → Rd W' (some ⟨bx, ox, none⟩) RV) := fun W' hW => RD.out.below hW
    have pl := PL.out j
    have PLJ := hide pl
    cases hA : M.anyS (M.meet (M.region ts ss.length j) ss) with
    | true =>
      have WJ := hide (WY.out j hj hA)
      have N : Hid (M.fedL ts ss (RV.take (k + 1)) = M.endS (M.fedL ts ss (RV.take k)) (M.nv (M.nAt ts j)) (M.pick (M.meet (M.region ts ss.length j) ss))) := by unfold Hid; rw [fm]; unfold M.fed; rw [if_pos hA]
      clear AT FM FE PR IC WY WN VI CV PL hA hcx ej fm S RD hlf pl
      generalize (M.region ts ss.length j).map M.norm = RG at *
      generalize M.meet RG ss = X at *
      generalize M.pick (M.meet (M.region ts ss.length j) ss) = PK at *
      generalize M.fedL ts ss (RV.take k) = s at *
      generalize M.nv (M.nAt ts j) = v at *
      go_wp2_with (first
       | (go_at_call 114; refine (PJ.out _ SB.out).mono ?_; rintro e w1 ⟨ga, gc, gb, rfl, hr1, hb1⟩; have k1 := hide hb1; have R1 := hide hr1; clear hb1 hr1)
       | (go_at_call 118; refine (IJ.out _ _ _ (below_on SB.out k1.out) R1.out).mono ?_; rintro e w2 ⟨ha, hc, rfl, hr2, hb2⟩; have k2 := hide (below_on k1.out hb2); have R2 := hide hr2; clear hb2 hr2)
       | (go_at_call 117; refine (WJ.out _ _ _ R2.out).mono ?_; rintro e w3 ⟨pc, rfl, hr3, hb3, hl3⟩; have k3 := hide (below_on k2.out hb3); have c3 := CJ.out _ (below_on SB.out k3.out); have S3 := hide (US.out _ k3.out); have sz3 : Hid (B ≤ w2.heap.size) := (US.out _ k2.out).size; have R3 := hide hr3; have L3 := hide hl3; clear hb3 hr3 hl3)
       | (go_at_call 90; refine (tree1_any w B p q s v PK _ _ _ S3.out lp lq pq gp gq vi.1 vi.2).mono ?_; rintro e w4 ⟨rfl, hs4, hf4⟩; have S4 := hide hs4; have R4 := hide ((UR.out _ k3.out).far FR2.out hf4); clear hs4 hf4))
      go_roundw
      case rel => exact ⟨k + 1, by omega, by go_num, by unfold Hid; rw [N.out]; exact S4.out, R4⟩
      case measure => simp [intOf]; omega
    | false =>
      have WJ := hide (WN.out j hj hA)
      have N : Hid (M.fedL ts ss (RV.take (k + 1)) = M.fedL ts ss (RV.take k)) := by unfold Hid; rw [fm]; unfold M.fed; rw [if_neg (by rw [hA]; decide)]
      clear AT FM FE PR IC WY WN VI CV PL hA hcx ej fm S RD hlf pl
      generalize (M.region ts ss.length j).map M.norm = RG at *
      generalize M.meet RG ss = X at *
      generalize M.fedL ts ss (RV.take k) = s at *
      go_wp2_with (first
       | (go_at_call 114; refine (PJ.out _ SB.out).mono ?_; rintro e w1 ⟨ga, gc, gb, rfl, hr1, hb1⟩; have k1 := hide hb1; have R1 := hide hr1; clear hb1 hr1)
       | (go_at_call 118; refine (IJ.out _ _ _ (below_on SB.out k1.out) R1.out).mono ?_; rintro e w2 ⟨ha, hc, rfl, hr2, hb2⟩; have k2 := hide (below_on k1.out hb2); have R2 := hide hr2; clear hb2 hr2)
       | (go_at_call 117; refine (WJ.out _ _ _ R2.out).mono ?_; rintro e w3 ⟨pv, pz, rfl, hb3⟩; have k3 := hide (below_on k2.out hb3); clear hb3))
      go_roundw
      case rel => exact ⟨k + 1, by omega, by go_num, by unfold Hid; rw [N.out]; exact US.out _ k3.out, UR.out _ k3.out⟩
      case measure => simp [intOf]; omega
  · have E : k = RV.length := by omega
    rw [E, FE.out] at S
    clear E
    go_wp2
    go_ret
    exact ⟨rfl, S.out⟩
end Go.Proofs.YtelncekgjfpogahGreatDoor
