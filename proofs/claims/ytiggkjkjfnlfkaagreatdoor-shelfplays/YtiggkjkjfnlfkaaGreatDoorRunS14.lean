/-
  Several texts as one: RefRdr.
-/
import Derived.Test.YtiggkjkjfnlfkaaGreatDoorRunS13
import Derived.Test.YtiggkjkjfnlfkaaGreatDoorRunS2
namespace Go.Proofs.YtiggkjkjfnlfkaaGreatDoor
open Go.ChangeShapes Go.WideShapes Go.ChangeAt Go.RowKit Go.Lib
set_option linter.unusedVariables false
structure Rdi (W : World) (g : Nat) (a : Option Addr) (bs : List Nat) (c : Nat) (s : M.In) : Prop where
  box : InAt W g (.slice a bs.length c) s
  rd : RdB W a bs
  hc : bs.length ≤ c
  h63 : c ≤ 9223372036854775807
  fin : s.fin ≤ bs.length
  ne : bs ≠ [] → ∀ p, a = some p → p.block ≠ g
theorem Rdi.lt {W : World} {g : Nat} {a : Option Addr} {bs : List Nat} {c : Nat} {s : M.In} (h : Rdi W g a bs c s) : g < W.heap.size := h.box.lt
theorem Rdi.up {W : World} {W' : World} {g : Nat} {a : Option Addr} {bs : List Nat} {c : Nat} {s : M.In} (h : Rdi W g a bs c s) (hb : Below W.heap.size W W') : Rdi W' g a bs c s := ⟨h.box.up hb, h.rd.below hb, h.hc, h.h63, h.fin, h.ne⟩
theorem Rdi.alloc {W : World} {g : Nat} {a : Option Addr} {bs : List Nat} {c : Nat} {s : M.In} (h : Rdi W g a bs c s) (o : Obj) : Rdi (W.alloc o) g a bs c s := h.up ((Below.refl _ W).alloc (Nat.le_refl _) o)
theorem Rdi.step {W : World} {W' : World} {g : Nat} {a : Option Addr} {bs : List Nat} {c : Nat} {s : M.In} {s' : M.In} (h : Rdi W g a bs c s) (hb : InAt W' g (.slice a bs.length c) s') (hg : W.grownBy W' (some g)) (hf : s'.fin ≤ bs.length) : Rdi W' g a bs c s' :=
  ⟨hb, rdB_keep h.rd (fun hn p hp => hg.block p.block (by
    obtain ⟨b, off, e, hl, _⟩ := h.rd.2.2 hn
    rw [hp] at e
    cases e
    exact hl) (fun e => h.ne hn p hp (by cases e; rfl))) hg.size, h.hc, h.h63, hf, h.ne⟩
theorem Rdi.far {W : World} {W' : World} {g : Nat} {a : Option Addr} {bs : List Nat} {c : Nat} {s : M.In} {w : World} {s0 : M.In} {r : Option Nat} (h0 : Rdi w g a bs c s0) (h : Rdi W g a bs c s) (hg : W.grownBy W' r) (hr : ∀ q, r = some q → w.heap.size ≤ q) : Rdi W' g a bs c s := by
  have l0 := h0.lt
  refine ⟨h.box.same (hg.block g h.lt (fun e => by have := hr g e.symm; omega)), rdB_keep h.rd (fun hn p hp => ?_) hg.size, h.hc, h.h63, h.fin, h.ne⟩
  obtain ⟨b, off, e, hl, _⟩ := h0.rd.2.2 hn
  rw [hp] at e
  cases e
  obtain ⟨b, off, e, hl2, _⟩ := h.rd.2.2 hn
  rw [hp] at e
  cases e
  exact hg.block _ hl2 (fun e => by have := hr _ e.symm; simp at this; omega)
theorem numI {W : World} {g : Nat} {a : Option Addr} {bs : List Nat} {c : Nat} {s : M.In} (h : Rdi W g a bs c s) : Calls Tryz.prog 109 #[.pointer (some ⟨g, 0, none⟩)] W fun e w' => e = .returned (.int .i64 (M.rNum bs s).1) ∧ Rdi w' g a bs c (M.rNum bs s).2 ∧ W.grownBy w' (some g) :=
  (rinum_any g a bs c s W h.box h.rd h.hc h.h63 h.fin h.ne).mono fun e w' hh => ⟨hh.1, h.step hh.2.1 hh.2.2 (M.rNum_fin h.fin), hh.2.2⟩
theorem manyI {W : World} {g : Nat} {a : Option Addr} {bs : List Nat} {c : Nat} {s : M.In} (most : Int) (h : Rdi W g a bs c s) : Calls Tryz.prog 110 #[.pointer (some ⟨g, 0, none⟩), .int .i64 most] W fun e w' => e = .returned (.int .i64 (M.rMany bs most s).1) ∧ Rdi w' g a bs c (M.rMany bs most s).2 ∧ W.grownBy w' (some g) :=
  (rimany_any g a bs c most s W h.box h.rd h.hc h.h63 h.fin h.ne).mono fun e w' hh => ⟨hh.1, h.step hh.2.1 hh.2.2 (M.rMany_fin h.fin), hh.2.2⟩

/-! ### a node, while it is read: since w a new block, and the reader -/
structure NS (w : World) (g : Nat) (a : Option Addr) (bs : List Nat) (c : Nat) (s : M.In) (nb : Nat) (n : M.Nd) (W : World) : Prop where
  rdi : Rdi W g a bs c s
  gr : w.grownBy W (some g)
  c0 : W.cell? ⟨nb, 0, none⟩ = some (.int .i64 (M.nf n))
  c1 : W.cell? ⟨nb, 1, none⟩ = some (.int .i64 (M.nc n))
  c2 : W.cell? ⟨nb, 2, none⟩ = some (.int .i64 (M.nl n))
  c3 : W.cell? ⟨nb, 3, none⟩ = some (.int .i64 (M.nr n))
  c4 : W.cell? ⟨nb, 4, none⟩ = some (.bool (M.ns n))
  c5 : W.cell? ⟨nb, 5, none⟩ = some (.int .i64 (M.nv n))
  fr : ∀ j, W.frozen? ⟨nb, j, none⟩ = false
  ge : w.heap.size ≤ nb
  lt : nb < W.heap.size
  gl : g < w.heap.size
theorem NS.new {g : Nat} {a : Option Addr} {bs : List Nat} {c : Nat} {s : M.In} {w : World} (h : Rdi w g a bs c s) : NS w g a bs c s w.heap.size (0, 0, 0, 0, false, 0) (w.alloc (.cells #[.int .i64 0, .int .i64 0, .int .i64 0, .int .i64 0, .bool false, .int .i64 0] 113)) := by
  have k := new_kept (w := w) (cs := #[.int .i64 0, .int .i64 0, .int .i64 0, .int .i64 0, .bool false, .int .i64 0]) (t := 113) rfl (Below.refl _ _)
  exact ⟨h.alloc _, World.grownBy_alloc w _ (some g), k.1 0 _ rfl, k.1 1 _ rfl, k.1 2 _ rfl, k.1 3 _ rfl, k.1 4 _ rfl, k.1 5 _ rfl, k.2, Nat.le_refl _, by simp, h.lt⟩
/-- a number is read -/
theorem NS.num {W : World} {g : Nat} {a : Option Addr} {bs : List Nat} {c : Nat} {s : M.In} {w : World} {nb : Nat} {n : M.Nd} (h : NS w g a bs c s nb n W) : Calls Tryz.prog 109 #[.pointer (some ⟨g, 0, none⟩)] W fun e w' => e = .returned (.int .i64 (M.rNum bs s).1) ∧ NS w g a bs c (M.rNum bs s).2 nb n w' := by
  refine (numI h.rdi).mono ?_
  rintro e w' ⟨rfl, i, hg⟩
  have hb : w'.heap[nb]? = W.heap[nb]? := hg.block nb h.lt (fun e => by have := h.gl; have := h.ge; cases e; omega)
  have k : ∀ j v, W.cell? ⟨nb, j, none⟩ = some v → w'.cell? ⟨nb, j, none⟩ = some v := fun j v hv => (World.cell?_of_block (a := ⟨nb, j, none⟩) hb).trans hv
  exact ⟨rfl, i, grown_trans h.gr hg (.inl rfl), k _ _ h.c0, k _ _ h.c1, k _ _ h.c2, k _ _ h.c3, k _ _ h.c4, k _ _ h.c5, fun j => (World.frozen?_of_block (a := ⟨nb, j, none⟩) hb).trans (h.fr j), h.ge, Nat.lt_of_lt_of_le h.lt hg.size, h.gl⟩
theorem NS.wrote {W : World} {g : Nat} {a : Option Addr} {bs : List Nat} {c : Nat} {s : M.In} {s' : M.In} {w : World} {nb : Nat} {n : M.Nd} (h0 : Rdi w g a bs c s') (h : NS w g a bs c s nb n W) {j : Nat} {v : Value} : Rdi (W.setCell ⟨nb, j, none⟩ v) g a bs c s ∧ w.grownBy (W.setCell ⟨nb, j, none⟩ v) (some g) ∧ (∀ i u, i ≠ j → W.cell? ⟨nb, i, none⟩ = some u → (W.setCell ⟨nb, j, none⟩ v).cell? ⟨nb, i, none⟩ = some u) ∧ (∀ u, W.cell? ⟨nb, j, none⟩ = some u → (W.setCell ⟨nb, j, none⟩ v).cell? ⟨nb, j, none⟩ = some v) ∧ (∀ i, (W.setCell ⟨nb, j, none⟩ v).frozen? ⟨nb, i, none⟩ = false) ∧ nb < (W.setCell ⟨nb, j, none⟩ v).heap.size := by
  have ge := h.ge
  refine ⟨h0.far h.rdi grown_set (fun q hq => by cases hq; exact ge), grown_trans h.gr grown_set (.inr (fun q hq => by cases hq; exact ge)), fun i u hi hu => cell_set_other hu (fun e => hi e.symm), fun u hu => cell_set_same hu, fun i => frozen_set (h.fr i), by simpa using h.lt⟩
theorem NS.put0 {W : World} {g : Nat} {a : Option Addr} {bs : List Nat} {c : Nat} {s : M.In} {s' : M.In} {w : World} {nb : Nat} {n : M.Nd} (h0 : Rdi w g a bs c s') (h : NS w g a bs c s nb n W) (x : Int) : NS w g a bs c s nb (x, M.nc n, M.nl n, M.nr n, M.ns n, M.nv n) (W.setCell ⟨nb, 0, none⟩ (.int .i64 x)) := by
  obtain ⟨k1, k2, k3, k4, k5, k6⟩ := NS.wrote h0 h (j := 0) (v := .int .i64 x)
  exact ⟨k1, k2, k4 _ h.c0, k3 _ _ (by decide) h.c1, k3 _ _ (by decide) h.c2, k3 _ _ (by decide) h.c3, k3 _ _ (by decide) h.c4, k3 _ _ (by decide) h.c5, k5, h.ge, k6, h.gl⟩
theorem NS.put1 {W : World} {g : Nat} {a : Option Addr} {bs : List Nat} {c : Nat} {s : M.In} {s' : M.In} {w : World} {nb : Nat} {n : M.Nd} (h0 : Rdi w g a bs c s') (h : NS w g a bs c s nb n W) (x : Int) : NS w g a bs c s nb (M.nf n, x, M.nl n, M.nr n, M.ns n, M.nv n) (W.setCell ⟨nb, 1, none⟩ (.int .i64 x)) := by
  obtain ⟨k1, k2, k3, k4, k5, k6⟩ := NS.wrote h0 h (j := 1) (v := .int .i64 x)
  exact ⟨k1, k2, k3 _ _ (by decide) h.c0, k4 _ h.c1, k3 _ _ (by decide) h.c2, k3 _ _ (by decide) h.c3, k3 _ _ (by decide) h.c4, k3 _ _ (by decide) h.c5, k5, h.ge, k6, h.gl⟩
theorem NS.put2 {W : World} {g : Nat} {a : Option Addr} {bs : List Nat} {c : Nat} {s : M.In} {s' : M.In} {w : World} {nb : Nat} {n : M.Nd} (h0 : Rdi w g a bs c s') (h : NS w g a bs c s nb n W) (x : Int) : NS w g a bs c s nb (M.nf n, M.nc n, x, M.nr n, M.ns n, M.nv n) (W.setCell ⟨nb, 2, none⟩ (.int .i64 x)) := by
  obtain ⟨k1, k2, k3, k4, k5, k6⟩ := NS.wrote h0 h (j := 2) (v := .int .i64 x)
  exact ⟨k1, k2, k3 _ _ (by decide) h.c0, k3 _ _ (by decide) h.c1, k4 _ h.c2, k3 _ _ (by decide) h.c3, k3 _ _ (by decide) h.c4, k3 _ _ (by decide) h.c5, k5, h.ge, k6, h.gl⟩
theorem NS.put3 {W : World} {g : Nat} {a : Option Addr} {bs : List Nat} {c : Nat} {s : M.In} {s' : M.In} {w : World} {nb : Nat} {n : M.Nd} (h0 : Rdi w g a bs c s') (h : NS w g a bs c s nb n W) (x : Int) : NS w g a bs c s nb (M.nf n, M.nc n, M.nl n, x, M.ns n, M.nv n) (W.setCell ⟨nb, 3, none⟩ (.int .i64 x)) := by
  obtain ⟨k1, k2, k3, k4, k5, k6⟩ := NS.wrote h0 h (j := 3) (v := .int .i64 x)
  exact ⟨k1, k2, k3 _ _ (by decide) h.c0, k3 _ _ (by decide) h.c1, k3 _ _ (by decide) h.c2, k4 _ h.c3, k3 _ _ (by decide) h.c4, k3 _ _ (by decide) h.c5, k5, h.ge, k6, h.gl⟩
theorem NS.put4 {W : World} {g : Nat} {a : Option Addr} {bs : List Nat} {c : Nat} {s : M.In} {s' : M.In} {w : World} {nb : Nat} {n : M.Nd} (h0 : Rdi w g a bs c s') (h : NS w g a bs c s nb n W) (x : Bool) : NS w g a bs c s nb (M.nf n, M.nc n, M.nl n, M.nr n, x, M.nv n) (W.setCell ⟨nb, 4, none⟩ (.bool x)) := by
  obtain ⟨k1, k2, k3, k4, k5, k6⟩ := NS.wrote h0 h (j := 4) (v := .bool x)
  exact ⟨k1, k2, k3 _ _ (by decide) h.c0, k3 _ _ (by decide) h.c1, k3 _ _ (by decide) h.c2, k3 _ _ (by decide) h.c3, k4 _ h.c4, k3 _ _ (by decide) h.c5, k5, h.ge, k6, h.gl⟩
theorem NS.put5 {W : World} {g : Nat} {a : Option Addr} {bs : List Nat} {c : Nat} {s : M.In} {s' : M.In} {w : World} {nb : Nat} {n : M.Nd} (h0 : Rdi w g a bs c s') (h : NS w g a bs c s nb n W) (x : Int) : NS w g a bs c s nb (M.nf n, M.nc n, M.nl n, M.nr n, M.ns n, x) (W.setCell ⟨nb, 5, none⟩ (.int .i64 x)) := by
  obtain ⟨k1, k2, k3, k4, k5, k6⟩ := NS.wrote h0 h (j := 5) (v := .int .i64 x)
  exact ⟨k1, k2, k3 _ _ (by decide) h.c0, k3 _ _ (by decide) h.c1, k3 _ _ (by decide) h.c2, k3 _ _ (by decide) h.c3, k3 _ _ (by decide) h.c4, k4 _ h.c5, k5, h.ge, k6, h.gl⟩
/-- it is wrong -/
theorem NS.bad {W : World} {g : Nat} {a : Option Addr} {bs : List Nat} {c : Nat} {s : M.In} {w : World} {nb : Nat} {n : M.Nd} (h : NS w g a bs c s nb n W) (x : Int) : NS w g a bs c { s with bad := x } nb n (W.setCell ⟨g, 3, none⟩ (.int .i64 x)) := by
  have gl := h.gl
  have ge := h.ge
  have o : ∀ j u, W.cell? ⟨nb, j, none⟩ = some u → (W.setCell ⟨g, 3, none⟩ (.int .i64 x)).cell? ⟨nb, j, none⟩ = some u := fun j u hu => (World.cell?_setCell_other _ _ _ _ (by intro e; cases e; omega)).trans hu
  exact ⟨h.rdi.step (h.rdi.box.set3 x) grown_set h.rdi.fin, grown_trans h.gr grown_set (.inl rfl), o _ _ h.c0, o _ _ h.c1, o _ _ h.c2, o _ _ h.c3, o _ _ h.c4, o _ _ h.c5, fun j => by rw [World.frozen?_setCell]; exact h.fr j, h.ge, by simpa using h.lt, h.gl⟩
end Go.Proofs.YtiggkjkjfnlfkaaGreatDoor
