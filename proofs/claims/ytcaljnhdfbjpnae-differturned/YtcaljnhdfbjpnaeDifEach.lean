/-
  What limit.EachLeaf does with package differ's closure of all pairs: a leaf that says another value, and to which a row of the region comes, is counted once.
-/
import Derived.Test.YtcaljnhdfbjpnaeDifDo
import Derived.Test.YtcaljnhdfbjpnaeLimIn
import Derived.Test.YtcaljnhdfbjpnaePWit
import Derived.Test.YtcaljnhdfbjpnaePReach
import Derived.Test.YtcaljnhdfbjpnaePRegions
import Derived.Deep.Cut
import Derived.Deep.CutRange
namespace Go.Proofs.Ytcaljnhdfbjpnae
open Go.ChangeShapes Go.WideShapes Go.ChangeAt Go.RowKit Go.Lib
set_option linter.unusedVariables false

theorem EV.up {w : World} {ba bl bd did q : Nat} {a : Option Addr} {n ca i : Nat} {Inv : (Nat → Prop) → Nat → World → Prop} (D : Doer w Inv) {K K' : Nat → Prop} {s : Nat} {W W' : World} (h : EV ba bl bd did q a n ca i Inv K s W) (hk : ∀ b, K' b → K b ∨ (W.heap.size ≤ b ∧ b < W'.heap.size)) (hm : ∀ b, K b → K' b) (hb : Below W.heap.size W W') : EV ba bl bd did q a n ca i Inv K' s W' :=
  ⟨D.up h.inv hk hb, hm _ h.ka, hm _ h.kl, hm _ h.kd, Nat.lt_of_lt_of_le h.la hb.size, Nat.lt_of_lt_of_le h.ll hb.size, Nat.lt_of_lt_of_le h.ld hb.size, (hb.cell (p := ⟨ba, 0, none⟩) h.la).trans h.ca, (hb.cell (p := ⟨bl, 0, none⟩) h.ll).trans h.cl, (hb.cell (p := ⟨bd, 0, none⟩) h.ld).trans h.cd⟩
theorem EV.less {w : World} {ba bl bd did q : Nat} {a : Option Addr} {n ca i : Nat} {Inv : (Nat → Prop) → Nat → World → Prop} (D : Doer w Inv) {K K' : Nat → Prop} {s : Nat} {W : World} (h : EV ba bl bd did q a n ca i Inv K s W) (hk : ∀ b, K' b → K b) (ka : K' ba) (kl : K' bl) (kd : K' bd) : EV ba bl bd did q a n ca i Inv K' s W :=
  ⟨D.up h.inv (fun b hb => .inl (hk b hb)) (Below.refl _ _), ka, kl, kd, h.la, h.ll, h.ld, h.ca, h.cl, h.cd⟩
/-- some blocks, and that in which numbers lie -/
def KX (K : Nat → Prop) (xa : Option Addr) (R : List Int) : Nat → Prop := fun b => K b ∨ (R ≠ [] ∧ ∃ x, xa = some x ∧ x.block = b)
/-- leaf by leaf: what is counted so far, the leaves, the spans -/
structure EW (w W : World) (ba bl bd did q : Nat) (a : Option Addr) (n ca i : Nat) (Inv : (Nat → Prop) → Nat → World → Prop) (K : Nat → Prop) (xa : Option Addr) (R : List Int) (xs : Option Addr) (ss : List M.Sp) (s : Nat) (V : World) : Prop where
  ev : EV ba bl bd did q a n ca i Inv (KX K xa R) s V
  rd : Rd V xa R
  sp : RdS V xs ss
  ke : Keeps K W V
theorem EW.up {w W : World} {ba bl bd did q : Nat} {a : Option Addr} {n ca i : Nat} {Inv : (Nat → Prop) → Nat → World → Prop} {K : Nat → Prop} {xa : Option Addr} {R : List Int} {xs : Option Addr} {ss : List M.Sp} {s : Nat} {V V' : World} (D : Doer w Inv) (h : EW w W ba bl bd did q a n ca i Inv K xa R xs ss s V) (hb : Below V.heap.size V V') : EW w W ba bl bd did q a n ca i Inv K xa R xs ss s V' :=
  ⟨h.ev.up D (fun b hk => .inl hk) (fun b hk => hk) hb, h.rd.below hb, h.sp.below hb, h.ke.trans (Keeps.of hb)⟩
theorem EW.start {w W V : World} {ba bl bd did q : Nat} {a : Option Addr} {n ca i : Nat} {Inv : (Nat → Prop) → Nat → World → Prop} {K : Nat → Prop} {xa : Option Addr} {R : List Int} {xs : Option Addr} {ss : List M.Sp} {s : Nat} (D : Doer w Inv) (h : EV ba bl bd did q a n ca i Inv K s W) (hb : Below W.heap.size W V) (hr : Rd V xa R) (hf : ∀ x, xa = some x → W.heap.size ≤ x.block) (hs : RdS W xs ss) : EW w W ba bl bd did q a n ca i Inv K xa R xs ss s V := by
  refine ⟨h.up D (fun b hk => ?_) (fun b hk => .inl hk) hb, hr, hs.below hb, Keeps.of hb⟩
  rcases hk with hk | ⟨hn, x, hx, rfl⟩
  · exact .inl hk
  · obtain ⟨b, off, e, hl, _⟩ := hr.2 hn
    rw [e] at hx; cases hx
    exact .inr ⟨hf _ e, hl⟩
theorem EW.done {w W : World} {ba bl bd did q : Nat} {a : Option Addr} {n ca i : Nat} {Inv : (Nat → Prop) → Nat → World → Prop} {K : Nat → Prop} {xa : Option Addr} {R : List Int} {xs : Option Addr} {ss : List M.Sp} {s : Nat} {V : World} (D : Doer w Inv) (h : EW w W ba bl bd did q a n ca i Inv K xa R xs ss s V) (ka : K ba) (kl : K bl) (kd : K bd) : EV ba bl bd did q a n ca i Inv K s V ∧ Keeps K W V :=
  ⟨h.ev.less D (fun b hk => .inl hk) ka kl kd, h.ke⟩
/-- the closure's own call: behind new blocks, with a row in one of them -/
theorem EW.call {w W : World} {ba bl bd did q : Nat} {a : Option Addr} {ts us : List M.Nd} {ca i : Nat} {Inv : (Nat → Prop) → Nat → World → Prop} {P : List Int → Prop} {K : Nat → Prop} {xa : Option Addr} {R : List Int} {xs : Option Addr} {ss : List M.Sp} {s : Nat} {V V' : World} (D : Doer w Inv) (G : DoGives did q Inv P) (hfn : ∀ args w, (callFunc did args).run Try.prog w = .ok (.enter did args) w) (ha : RdN w a ts) (hi : i < ts.length)
    (h : EW w W ba bl bd did q a ts.length ca i Inv K xa R xs ss s V) (hn : R ≠ []) (hsK : ss ≠ [] → ∀ x, xs = some x → K x.block) (hs : s < 100000) (hb : Below V.heap.size V V') {pb pc j : Nat} {L : List Int} (hp : V.heap.size ≤ pb) (hl : pb < V'.heap.size) (hr : Rd V' (some ⟨pb, 0, none⟩) L) (hP : M.nv (M.nAt us j) ≠ M.nv (M.nAt ts i) → P L) :
    Calls Try.prog 65 #[.int .i64 (M.nv (M.nAt us j)), .slice (some ⟨pb, 0, none⟩) L.length pc, .pointer (some ⟨ba, 0, none⟩), .pointer (some ⟨bl, 0, none⟩), .pointer (some ⟨bd, 0, none⟩)] V' fun e w' => e = .returned (.tuple #[]) ∧ EW w W ba bl bd did q a ts.length ca i Inv K xa R xs ss (s + M.tmC ts us i j) w' := by
  have U := h.up D hb
  have E2 : EV ba bl bd did q a ts.length ca i Inv (fun b => KX K xa R b ∨ b = pb) s V' := h.ev.up D (fun b hk => by
    rcases hk with hk | rfl
    · exact .inl hk
    · exact .inr ⟨hp, hl⟩) (fun b hk => .inl hk) hb
  refine (each1_any w ba bl bd did q a ts us ca i j Inv P D G hfn ha hi _ s pb pc L V' hs (.inr rfl) hl E2 hP hr).mono ?_
  rintro e w' ⟨rfl, g1, g2⟩
  refine ⟨rfl, ⟨g1.less D (fun b hk => .inl hk) h.ev.ka h.ev.kl h.ev.kd, U.rd.keeps (K := KX K xa R) (fun _ x hx => .inr ⟨hn, x, hx, rfl⟩) (g2.mono (fun b hk => .inl hk)), U.sp.keeps (K := K) hsK (g2.mono (fun b hk => .inl (.inl hk))), U.ke.trans (g2.mono (fun b hk => .inl (.inl hk)))⟩⟩

set_option maxHeartbeats 8000000 in
set_option maxRecDepth 10000 in
theorem each_do (a a' bl : Option Addr) (ts us : List M.Nd) (ss : List M.Sp) (ca cb cl i s0 ba bq bd did q : Nat) (w W : World) (K : Nat → Prop) (Inv : (Nat → Prop) → Nat → World → Prop) (P : List Int → Prop) (D : Doer w Inv) (G : DoGives did q Inv P) (hfn : ∀ args w, (callFunc did args).run Try.prog w = .ok (.enter did args) w)
    (ha : RdN w a' ts) (hi : i < ts.length) (ht : RdN w a us) (hs : RdS W bl ss) (hsK : ss ≠ [] → ∀ x, bl = some x → K x.block) (h : M.limF us ss = 0) (h0 : EV ba bq bd did q a' ts.length ca i Inv K s0 W) (hs0 : s0 + us.length < 100000)
    (PP : ∀ j, j < us.length → M.leafB (M.nAt us j) = true → M.anyS (M.meet (M.region us ss.length j) ss) = true → M.nv (M.nAt us j) ≠ M.nv (M.nAt ts i) → P (M.pick (M.meet (M.region us ss.length j) ss))) :
    Calls Try.prog 16 #[.slice a us.length cb, .slice bl ss.length cl, .func (.func 65) #[] #[.pointer (some ⟨ba, 0, none⟩), .pointer (some ⟨bq, 0, none⟩), .pointer (some ⟨bd, 0, none⟩)]] W fun e w' => e = .returned .nilIface ∧ EV ba bq bd did q a' ts.length ca i Inv K (s0 + M.sumL (M.inC us ss (M.tmC ts us i)) (M.rch us ss.length us.length)) w' ∧ Keeps K W w' := by
  obtain ⟨h1, h2⟩ := M.lim_ok h
  obtain ⟨F, _⟩ := M.tree_ok h2
  have l8 := (M.sp_zero h1).1
  have l63 := F.1
  have WI := hide (witness_any bl ss cl W hs)
  have RE := hide (fun W' (hW : Below w.heap.size w W') => reach_new a us cb (ss.length : Int) W' (ht.below hW))
  have hm : ss.length ≤ 9223372036854775807 := hs.1
  rw [err_nil h1] at WI
  rw [err_nil h2] at RE
  have rv : M.rchV us (ss.length : Int) = M.rch us ss.length us.length := by unfold M.rchV; rw [if_pos h2, Int.toNat_natCast]
  rw [rv] at RE
  have AT : Hid (∀ k, k < (M.rch us ss.length us.length).length → ∃ j : Nat, (M.rch us ss.length us.length).getD k 0 = (j : Int) ∧ j < us.length ∧ M.leafB (M.nAt us j) = true) := fun k hk => M.rch_at hk
  have RL := M.rch_len us ss.length us.length
  have SM : Hid (∀ k, k < (M.rch us ss.length us.length).length → M.sumL (M.inC us ss (M.tmC ts us i)) ((M.rch us ss.length us.length).take (k + 1)) = M.sumL (M.inC us ss (M.tmC ts us i)) ((M.rch us ss.length us.length).take k) + M.inC us ss (M.tmC ts us i) ((M.rch us ss.length us.length).getD k 0).toNat) := fun k hk => M.sumL_more _ _ hk
  have SB2 : Hid (∀ k, M.sumL (M.inC us ss (M.tmC ts us i)) ((M.rch us ss.length us.length).take k) ≤ us.length) := fun k => by
    have := M.sumL_le (M.inC_le (us := us) (ss := ss) (M.tmC_le ts us i)) ((M.rch us ss.length us.length).take k)
    have q2 : ((M.rch us ss.length us.length).take k).length ≤ (M.rch us ss.length us.length).length := List.length_take_le' _ _
    omega
  have FE : Hid ((M.rch us ss.length us.length).take (M.rch us ss.length us.length).length = M.rch us ss.length us.length) := List.take_length
  have PR : Hid (∀ j : Nat, j < us.length → M.leafB (M.nAt us j) = true → ∀ W', Below w.heap.size w W' → Calls Try.prog 42 #[.slice a us.length cb, .int .i64 (ss.length : Nat), .int .i64 (j : Nat)] W' fun e w' => ∃ ag cg bb, e = .returned (.tuple #[.slice ag ss.length cg, .bool bb, .nilIface]) ∧ RdS w' ag ((M.region us ss.length j).map M.norm) ∧ Below W'.heap.size W' w') := fun j hj hl W' hW => by
    have := pregion_any a us cb (ss.length : Int) (j : Int) W' (ht.below hW)
    obtain ⟨q1, q2⟩ := M.reg_at h2 hj hl
    rw [err_nil q1, q2] at this
    refine this.mono ?_
    rintro e w' ⟨ag, cg, rfl, g1, g2⟩
    refine ⟨ag, cg, _, by rw [show ((M.region us ss.length j).map M.norm).length = ss.length by rw [M.nrm_len, M.region_len]], g1, g2⟩
  have IC : Hid (∀ j ag cg W', RdS W' bl ss → RdS W' ag ((M.region us ss.length j).map M.norm) → Calls Try.prog 43 #[.slice ag ss.length cg, .slice bl ss.length cl] W' fun e w' => ∃ ag cg, e = .returned (.slice ag ss.length cg) ∧ RdS w' ag (M.meet ((M.region us ss.length j).map M.norm) ss) ∧ Below W'.heap.size W' w') := fun j ag cg W' hW hr => by
    have hl : ((M.region us ss.length j).map M.norm).length = ss.length := by rw [M.nrm_len, M.region_len]
    have := common_any ag bl _ ss cg cl W' hr hW hl (by omega)
    rw [hl, M.meet_len hl, hl] at this
    exact this
  have WY : Hid (∀ j, j < us.length → M.anyS (M.meet (M.region us ss.length j) ss) = true → ∀ ag cg W', RdS W' ag (M.meet ((M.region us ss.length j).map M.norm) ss) → Calls Try.prog 40 #[.slice ag ss.length cg] W' fun e w' => ∃ cg, e = .returned (.tuple #[.slice (some ⟨W'.heap.size, 0, none⟩) (M.pick (M.meet (M.region us ss.length j) ss)).length cg, .nilIface]) ∧ Rd w' (some ⟨W'.heap.size, 0, none⟩) (M.pick (M.meet (M.region us ss.length j) ss)) ∧ Below W'.heap.size W' w' ∧ W'.heap.size < w'.heap.size) := fun j hj ha ag cg W' hr => by
    have hl : (M.meet ((M.region us ss.length j).map M.norm) ss).length = ss.length := by rw [M.meet_len (by rw [M.nrm_len, M.region_len]), M.nrm_len, M.region_len]
    have := witness_new ag _ cg W' hr
    rw [hl, err_nil ((M.meet_sp F hj h1).2 ha), M.meet_wit F hj h1 ha] at this
    refine this.mono ?_
    rintro e w' ⟨ag', cg', rfl, g1, g2, g3⟩
    obtain ⟨rfl, g5⟩ := g3 ((M.meet_sp F hj h1).2 ha)
    exact ⟨cg', rfl, g1, g2, g5⟩
  have WN : Hid (∀ j, j < us.length → M.anyS (M.meet (M.region us ss.length j) ss) = false → ∀ ag cg W', RdS W' ag (M.meet ((M.region us ss.length j).map M.norm) ss) → Calls Try.prog 40 #[.slice ag ss.length cg] W' fun e w' => ∃ v z, e = .returned (.tuple #[v, .iface 56 (.int .i64 z)]) ∧ Below W'.heap.size W' w') := fun j hj ha ag cg W' hr => by
    have hl : (M.meet ((M.region us ss.length j).map M.norm) ss).length = ss.length := by rw [M.meet_len (by rw [M.nrm_len, M.region_len]), M.nrm_len, M.region_len]
    have := witness_new ag _ cg W' hr
    rw [hl, err_some (fun e => by rw [(M.meet_sp F hj h1).1 e] at ha; cases ha)] at this
    refine this.mono ?_
    rintro e w' ⟨ag', cg', rfl, g1, g2, g3⟩
    exact ⟨_, _, rfl, g2⟩
  obtain ⟨b0, off, rfl, hb0, hc⟩ := ht.2 (by intro e; have := F.2.1; rw [e] at this; simp at this)
  have CV : Hid (∀ j, j < us.length → ∀ W', Below w.heap.size w W' → W'.cell? ⟨b0, off + j * 6 + 5, none⟩ = some (.int .i64 (M.nv (M.nAt us j)))) := fun j hj W' hW => ((hc j hj).below hW hb0).2.2.2.2.2
  have HB := hide (D.below h0.inv)
  have DD := hide D
  have KK := hide (And.intro h0.ka (And.intro h0.kl h0.kd))
  have ST := hide (fun V xa R hb hr hf => EW.start (V := V) (xa := xa) (R := R) (xs := bl) (ss := ss) D h0 hb hr hf hs)
  have CA : Hid (∀ xa (R : List Int) V V' s pb pc j, EW w W ba bq bd did q a' ts.length ca i Inv K xa R bl ss s V → R ≠ [] → s < 100000 → Below V.heap.size V V' → V.heap.size ≤ pb → pb < V'.heap.size → j < us.length → M.leafB (M.nAt us j) = true → M.anyS (M.meet (M.region us ss.length j) ss) = true → Rd V' (some ⟨pb, 0, none⟩) (M.pick (M.meet (M.region us ss.length j) ss)) →
      Calls Try.prog 65 #[.int .i64 (M.nv (M.nAt us j)), .slice (some ⟨pb, 0, none⟩) (M.pick (M.meet (M.region us ss.length j) ss)).length pc, .pointer (some ⟨ba, 0, none⟩), .pointer (some ⟨bq, 0, none⟩), .pointer (some ⟨bd, 0, none⟩)] V' fun e w' => e = .returned (.tuple #[]) ∧ EW w W ba bq bd did q a' ts.length ca i Inv K xa R bl ss (s + M.tmC ts us i j) w') := fun xa R V V' s pb pc j hE hn hs hb hp hl hj hlf hA hr => hE.call D G hfn ha hi hn hsK hs hb hp hl hr (fun hv => PP j hj hlf hA hv)
  clear h h1 h2 F rv ht hs h0 hc D G ha PP hsK
  generalize M.rch us ss.length us.length = RV at *
  generalize M.witV ss = WV at *
  go_enter Try.func16, Try.ntmps16
  go_wp2_with (first
    | (go_at_call 40; refine WI.out.mono ?_; rintro e w1 ⟨wa, wc, rfl, _, hb1⟩; have k1 := hide hb1; clear hb1)
    | (go_at_call 41; refine (RE.out _ (below_on HB.out k1.out)).mono ?_; rintro e w2 ⟨xa, xc, rfl, hrd2, hb2, hfr2⟩; have k2 := hide (below_on k1.out hb2); have E2 := hide (ST.out w2 xa RV k2.out hrd2 (fun x hx => Nat.le_trans k1.out.size (hfr2 x hx))); clear hb2 hrd2 hfr2))
  go_loopw [38] (fun i' wr => ∃ k : Nat, k ≤ RV.length ∧ i' = .int .i64 k ∧ Hid (EW w W ba bq bd did q a' ts.length ca i Inv K xa RV bl ss (s0 + M.sumL (M.inC us ss (M.tmC ts us i)) (RV.take k)) wr)) (fun i' _ => RV.length - (intOf i').toNat)
  case atStart => exact ⟨0, Nat.zero_le _, rfl, E2⟩
  case round =>
    clear E2 k2 k1 ST WI RE HB
    obtain ⟨k, hk, rfl, S⟩ := hrel
    by_cases hlt : k < RV.length
    · obtain ⟨j, ej, hj, hlf⟩ := AT.out k hlt
      have sm := SM.out k hlt
      rw [ej, Int.toNat_natCast] at sm
      have sb := SB2.out k
      have RN : Hid (RV ≠ []) := fun e => by rw [e] at hlt; simp at hlt
      obtain ⟨bx, ox, rfl, hbx, hcx⟩ := S.out.rd.2 RN.out
      have hx := hcx k hlt
      rw [ej] at hx
      have PJ := hide (PR.out j hj hlf)
      have IJ := hide (fun ag cg W' => IC.out j ag cg W')
      have CJ := hide (CV.out j hj)
      have jz : (j : Int) < (us.length : Int) := by omega
      have kz : (k : Int) < (RV.length : Int) := by omega
      have SW := hide (DD.out.below S.out.ev.inv)
      cases hA : M.anyS (M.meet (M.region us ss.length j) ss) with
      | true =>
        have WJ := hide (WY.out j hj hA)
        have CC := hide (fun V' pb pc hb hp hl hr => CA.out (some ⟨bx, ox, none⟩) RV wr V' _ pb pc j S.out RN.out (by omega) hb hp hl hj hlf hA hr)
        have SP := hide S.out.sp
        have N : Hid (s0 + M.sumL (M.inC us ss (M.tmC ts us i)) (RV.take (k + 1)) = s0 + M.sumL (M.inC us ss (M.tmC ts us i)) (RV.take k) + M.tmC ts us i j) := by unfold Hid; rw [sm]; unfold M.inC; rw [if_pos hA]; omega
        clear AT SM SB2 FE PR IC WY WN CV CA hA hcx ej sm sb S hlf
        generalize (M.region us ss.length j).map M.norm = RG at *
        generalize M.meet RG ss = X at *
        generalize M.pick (M.meet (M.region us ss.length j) ss) = PK at *
        generalize s0 + M.sumL (M.inC us ss (M.tmC ts us i)) (RV.take k) = s at *
        generalize M.tmC ts us i j = tm at *
        generalize M.nv (M.nAt us j) = v at *
        go_wp2_with (first
          | (go_at_call 42; refine (PJ.out _ SW.out).mono ?_; rintro e w1 ⟨ga, gc, gb, rfl, hr1, hb1⟩; have k1 := hide hb1; have R1 := hide hr1; clear hb1 hr1)
          | (go_at_call 43; refine (IJ.out _ _ _ (SP.out.below k1.out) R1.out).mono ?_; rintro e w2 ⟨ha, hc, rfl, hr2, hb2⟩; have k2 := hide (below_on k1.out hb2); have R2 := hide hr2; clear hb2 hr2)
          | (go_at_call 40; refine (WJ.out _ _ _ R2.out).mono ?_; rintro e w3 ⟨pc, rfl, hr3, hb3, hl3⟩; have k3 := hide (below_on k2.out hb3); have c3 := CJ.out _ (below_on SW.out k3.out); have R3 := hide hr3; have L3 := hide hl3; clear hb3 hr3 hl3)
          | (go_at_call 65; refine (CC.out _ _ _ k3.out k2.out.size L3.out R3.out).mono ?_; rintro e w4 ⟨rfl, hs4⟩; have S4 := hide hs4; clear hs4))
        go_roundw
        case rel => exact ⟨k + 1, by omega, by go_num, by unfold Hid; rw [N.out]; exact S4.out⟩
        case measure => simp [intOf]; omega
      | false =>
        have WJ := hide (WN.out j hj hA)
        have SP := hide S.out.sp
        have US : Hid (∀ W', Below wr.heap.size wr W' → EW w W ba bq bd did q a' ts.length ca i Inv K (some ⟨bx, ox, none⟩) RV bl ss (s0 + M.sumL (M.inC us ss (M.tmC ts us i)) (RV.take k)) W') := fun W' hW => S.out.up DD.out hW
        have N : Hid (s0 + M.sumL (M.inC us ss (M.tmC ts us i)) (RV.take (k + 1)) = s0 + M.sumL (M.inC us ss (M.tmC ts us i)) (RV.take k)) := by unfold Hid; rw [sm]; unfold M.inC; rw [if_neg (by rw [hA]; decide)]; omega
        clear AT SM SB2 FE PR IC WY WN CV CA hA hcx ej sm sb S hlf
        generalize (M.region us ss.length j).map M.norm = RG at *
        generalize M.meet RG ss = X at *
        generalize s0 + M.sumL (M.inC us ss (M.tmC ts us i)) (RV.take k) = s at *
        go_wp2_with (first
          | (go_at_call 42; refine (PJ.out _ SW.out).mono ?_; rintro e w1 ⟨ga, gc, gb, rfl, hr1, hb1⟩; have k1 := hide hb1; have R1 := hide hr1; clear hb1 hr1)
          | (go_at_call 43; refine (IJ.out _ _ _ (SP.out.below k1.out) R1.out).mono ?_; rintro e w2 ⟨ha, hc, rfl, hr2, hb2⟩; have k2 := hide (below_on k1.out hb2); have R2 := hide hr2; clear hb2 hr2)
          | (go_at_call 40; refine (WJ.out _ _ _ R2.out).mono ?_; rintro e w3 ⟨pv, pz, rfl, hb3⟩; have k3 := hide (below_on k2.out hb3); clear hb3))
        go_roundw
        case rel => exact ⟨k + 1, by omega, by go_num, by unfold Hid; rw [N.out]; exact US.out _ k3.out⟩
        case measure => simp [intOf]; omega
    · have E : k = RV.length := by omega
      rw [E, FE.out] at S
      clear E
      go_wp2
      go_ret
      exact ⟨rfl, S.out.done DD.out KK.out.1 KK.out.2.1 KK.out.2.2⟩

end Go.Proofs.Ytcaljnhdfbjpnae
