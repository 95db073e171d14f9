/-
  What package differ's eachMoved does: each pair of leaves that differ, and to which one row comes, is handed on once; and its errors.
-/
import Derived.Test.YtcaljnhdfbjpnaeDifEach
import Derived.Test.YtcaljnhdfbjpnaeLimBad
namespace Go.Proofs.Ytcaljnhdfbjpnae
open Go.ChangeShapes Go.WideShapes Go.ChangeAt Go.RowKit Go.Lib
set_option linter.unusedVariables false

/-- a row that shows it -/
def ShowsM (ts us : List M.Nd) (m : Int) (L : List Int) : Prop := M.rowF L = 0 ∧ (L.length : Int) = m ∧ M.evalV ts L ≠ M.evalV us L
/-- the blocks that stay while all pairs are looked at -/
def KM (ba bd : Nat) (xa : Option Addr) (R : List Int) : Nat → Prop := fun b => b = ba ∨ b = bd ∨ (R ≠ [] ∧ ∃ x, xa = some x ∧ x.block = b)
structure EM (ba bd did q : Nat) (a : Option Addr) (n ca : Nat) (Inv : (Nat → Prop) → Nat → World → Prop) (xa : Option Addr) (R : List Int) (s : Nat) (V : World) : Prop where
  inv : Inv (KM ba bd xa R) s V
  la : ba < V.heap.size
  ld : bd < V.heap.size
  ca : V.cell? ⟨ba, 0, none⟩ = some (.slice a n ca)
  cd : V.cell? ⟨bd, 0, none⟩ = some (.func (.func did) #[] #[.pointer (some ⟨q, 0, none⟩)])
  rd : Rd V xa R
theorem EM.start {w W V V' : World} {ba bd did q : Nat} {a : Option Addr} {n ca : Nat} {Inv : (Nat → Prop) → Nat → World → Prop} {xa : Option Addr} {R : List Int} {s : Nat} (D : Doer w Inv) (h : Inv (fun _ => False) s W) (hb : Below W.heap.size W V) (ha : W.heap.size ≤ ba) (hd : W.heap.size ≤ bd) (la : ba < V.heap.size) (ld : bd < V.heap.size) (c0 : V.cell? ⟨ba, 0, none⟩ = some (.slice a n ca)) (c1 : V.cell? ⟨bd, 0, none⟩ = some (.func (.func did) #[] #[.pointer (some ⟨q, 0, none⟩)]))
    (hb2 : Below V.heap.size V V') (hr : Rd V' xa R) (hf : ∀ x, xa = some x → V.heap.size ≤ x.block) : EM ba bd did q a n ca Inv xa R s V' := by
  refine ⟨D.up h (fun b hk => .inr ?_) (below_on hb hb2), Nat.lt_of_lt_of_le la hb2.size, Nat.lt_of_lt_of_le ld hb2.size, (hb2.cell (p := ⟨ba, 0, none⟩) la).trans c0, (hb2.cell (p := ⟨bd, 0, none⟩) ld).trans c1, hr⟩
  have z1 := hb.size
  have z2 := hb2.size
  rcases hk with rfl | rfl | ⟨hn, x, hx, rfl⟩
  · omega
  · omega
  · obtain ⟨b, off, e, hl, _⟩ := hr.2 hn
    rw [e] at hx; cases hx
    have := hf _ e
    show W.heap.size ≤ b ∧ b < V'.heap.size
    have t : V.heap.size ≤ b := this
    omega
theorem EM.call {w V V1 V2 : World} {ba bl bd did q : Nat} {a a' ga : Option Addr} {ts us : List M.Nd} {ca cb cg i m : Nat} {Inv : (Nat → Prop) → Nat → World → Prop} {xa : Option Addr} {R : List Int} {s : Nat} (D : Doer w Inv) (G : DoGives did q Inv (ShowsM ts us m)) (hfn : ∀ args w, (callFunc did args).run Try.prog w = .ok (.enter did args) w) (ha : RdN w a ts) (hu : RdN w a' us)
    (ht1 : (M.treeF ts (m : Int)).2 = 0) (ht2 : (M.treeF us (m : Int)).2 = 0) (hi : i < ts.length) (hl : M.leafB (M.nAt ts i) = true) (hany : M.anyS (M.region ts m i) = true)
    (h : EM ba bd did q a ts.length ca Inv xa R s V) (hs : s + us.length < 100000) (hb1 : Below V.heap.size V V1) (hbl : V.heap.size ≤ bl) (lbl : bl < V1.heap.size) (cbl : V1.cell? ⟨bl, 0, none⟩ = some (.int .i64 (i : Nat))) (hb2 : Below V1.heap.size V1 V2) (hg : RdS V2 ga ((M.region ts m i).map M.norm)) (hgf : ∀ x, ga = some x → V1.heap.size ≤ x.block) :
    Calls Try.prog 16 #[.slice a' us.length cb, .slice ga m cg, .func (.func 65) #[] #[.pointer (some ⟨ba, 0, none⟩), .pointer (some ⟨bl, 0, none⟩), .pointer (some ⟨bd, 0, none⟩)]] V2 fun e w' => e = .returned .nilIface ∧ EM ba bd did q a ts.length ca Inv xa R (s + M.mvR ts us m i us.length) w' := by
  obtain ⟨F, _⟩ := M.tree_ok ht1
  have z1 := hb1.size
  have z2 := hb2.size
  have B := below_on hb1 hb2
  have nl := M.nrm_reg ts m i
  have E0 : EV ba bl bd did q a ts.length ca i Inv (fun b => KM ba bd xa R b ∨ b = bl ∨ ((M.region ts m i).map M.norm ≠ [] ∧ ∃ x, ga = some x ∧ x.block = b)) s V2 := by
    refine ⟨D.up h.inv (fun b hk => ?_) B, .inl (.inl rfl), .inr (.inl rfl), .inl (.inr (.inl rfl)), Nat.lt_of_lt_of_le h.la B.size, Nat.lt_of_lt_of_le lbl z2, Nat.lt_of_lt_of_le h.ld B.size, (B.cell (p := ⟨ba, 0, none⟩) h.la).trans h.ca, (hb2.cell (p := ⟨bl, 0, none⟩) lbl).trans cbl, (B.cell (p := ⟨bd, 0, none⟩) h.ld).trans h.cd⟩
    rcases hk with hk | rfl | ⟨hn, x, hx, rfl⟩
    · exact .inl hk
    · exact .inr ⟨hbl, by omega⟩
    · obtain ⟨b, off, e, hlt, _⟩ := hg.2 hn
      rw [e] at hx; cases hx
      have t : V1.heap.size ≤ b := hgf _ e
      exact .inr ⟨show V.heap.size ≤ b by omega, hlt⟩
  have C := each_do a' a ga ts us ((M.region ts m i).map M.norm) ca cb cg i s ba bl bd did q w V2 _ Inv (ShowsM ts us m) D G hfn ha hi hu hg (fun hn x hx => .inr (.inr ⟨hn, x, hx, rfl⟩)) (by rw [M.lim_reg F hi hany]; exact ht2) E0 hs (fun j hj hlf hA hv => by
    rw [nl] at hA ⊢
    obtain ⟨p1, p2, p3⟩ := M.pair_row ht1 ht2 hi hj hl hlf hv hA
    exact ⟨p1, by rw [p2], p3⟩)
  rw [nl] at C
  refine C.mono ?_
  rintro e w' ⟨rfl, g1, g2⟩
  rw [M.mvR_at hl] at g1
  refine ⟨rfl, ⟨D.up g1.inv (fun b hk => .inl (.inl hk)) (Below.refl _ _), g1.la, g1.ld, g1.ca, g1.cd, (h.rd.below B).keeps (K := KM ba bd xa R) (fun hn x hx => .inr (.inr ⟨hn, x, hx, rfl⟩)) (g2.mono (fun b hk => .inl hk))⟩⟩

end Go.Proofs.Ytcaljnhdfbjpnae
