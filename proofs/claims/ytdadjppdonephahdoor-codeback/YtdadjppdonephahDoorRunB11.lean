/-
  Several texts as one: CdDec, GrSame.
-/
import Derived.Test.YtdadjppdonephahDoorRunB10
import Derived.Test.YtdadjppdonephahDoorRunB9
import Derived.Test.YtdadjppdonephahDoorRunB2
import Derived.Test.YtdadjppdonephahDoorRunB8
import Derived.Deep.Cut
import Derived.Deep.CutRange
import Derived.Deep.RegionWith
import Derived.RegionTactic
namespace Go.Proofs.YtdadjppdonephahDoor
open Go.ChangeShapes Go.WideShapes Go.ChangeAt Go.RowKit Go.Lib
set_option linter.unusedVariables false

theorem M.lAll_fin (b : List Nat) : (M.lAll b).2.fin ≤ b.length := by
  have f : ∀ (k : Nat) {s : M.In}, s.fin ≤ b.length → (M.lTrees b k s).2.fin ≤ b.length := by
    intro k
    induction k with
    | zero => intro s h; exact h
    | succ k ih => intro s h; exact ih (M.lNodes_fin _ (M.rMany_fin (M.rNum_fin h)))
  refine f _ ?_
  exact M.rMany_fin (M.rNum_fin (M.rNum_fin (Nat.zero_le _)))
/-- what is wrong with a grove that was read -/
def M.wrF (b : List Nat) : Int := if (M.lAll b).2.bad ≠ 0 then (M.lAll b).2.bad else if (M.lAll b).2.fin < b.length then 2 else M.groveF (M.lGrove b)
theorem M.dec_is (b : List Nat) (h : ¬ 6000 < b.length) : M.decF b = (if M.wrF b = 0 then (0, 0) else (M.lat (M.lAll b).2, M.wrF b)) ∧ (M.wrF b = 0 → M.decV b = M.lGrove b) := by
  have a := M.lAll_is b
  have f := M.lAll_fin b
  have e : M.decF b = if (M.rAll b).2.bad ≠ 0 then ((M.rAll b).2.at', (M.rAll b).2.bad) else if (M.rAll b).2.fin ≠ b.length then ((M.rAll b).2.fin, 2) else if M.groveF (M.rGrove b) ≠ 0 then ((M.rAll b).2.fin, M.groveF (M.rGrove b)) else (0, 0) := by
    unfold M.decF; rw [if_neg h]
  unfold M.decV
  rw [e]
  unfold M.wrF M.lat
  rw [a.1] at f ⊢
  by_cases q : (M.rAll b).2.bad = 0
  · rw [if_neg (by simp [q])]
    simp only [if_neg (show ¬ (M.rAll b).2.bad ≠ 0 by simp [q]), if_pos q]
    rw [a.2 q]
    by_cases r : (M.rAll b).2.fin < b.length
    · rw [if_pos (by omega), if_pos r]
      exact ⟨rfl, fun z => absurd z (by decide)⟩
    · rw [if_neg (by omega), if_neg r]
      by_cases t : M.groveF (M.rGrove b) = 0
      · rw [if_neg (by simp [t]), t]
        exact ⟨rfl, fun _ => rfl⟩
      · rw [if_pos t, if_neg t]
        exact ⟨rfl, fun z => absurd z t⟩
  · rw [if_pos q]
    simp only [if_pos q, if_neg q]
    exact ⟨by first | rfl | trivial, fun z => absurd z (by first | exact q | trivial)⟩

set_option maxHeartbeats 16000000 in
set_option maxRecDepth 10000 in
theorem wrongR {w : World} {g : Nat} {a : Option Addr} {bs : List Nat} {c : Nat} {O : Gr} (h : Rdr w g a bs c (M.lAll bs).2) (ho : RdG w O) (hm : O.m = M.lGrove bs) : Calls Tryd.prog 16 #[.pointer (some ⟨g, 0, none⟩), O.v] w fun e w' => e = .returned (errV (M.wrF bs)) ∧ Below w.heap.size w w' := by
  have B0 : Hid (∀ o, Below w.heap.size w (w.alloc o)) := fun o => (Below.refl _ w).alloc (Nat.le_refl _) o
  have EW : Hid (M.wrF bs = if (M.lAll bs).2.bad ≠ 0 then (M.lAll bs).2.bad else if (M.lAll bs).2.fin < bs.length then 2 else M.groveF O.m) := by rw [hm]; exact rfl
  have GC := hide (fun W (hW : Below w.heap.size w W) => gcheck_any O W (ho.below hW))
  have gl := h.lt
  have ml := h.rd.1
  have fl := h.fin
  generalize (M.lAll bs).2 = s at *
  generalize M.wrF bs = WF at *
  have y0 := h.box.c0
  have y1 := h.box.c1
  have y2 := h.box.c2
  have A0 := fun o => ((B0.out o).cell (p := ⟨g, 0, none⟩) gl).trans y0
  have A1 := fun o => ((B0.out o).cell (p := ⟨g, 1, none⟩) gl).trans y1
  have A2 := fun o => ((B0.out o).cell (p := ⟨g, 2, none⟩) gl).trans y2
  have BB : bs.length ≤ 9223372036854775807 := ml
  unfold Gr.v at GC ⊢
  clear h ho hm y0 y1 y2 ml
  by_cases q : s.bad = 0
  · rw [if_neg (by simp [q])] at EW
    rw [err_nil q] at A2
    rw [show M.lat s = s.fin from if_pos q] at A1
    have Q := hide q
    clear q
    by_cases r : s.fin < bs.length
    · have EW2 : Hid (WF = 2) := by unfold Hid; rw [EW.out, if_pos r]
      have t1 : decide ((s.fin : Int) < (bs.length : Int)) = true := decide_eq_true (by omega)
      have t2 : decide (s.fin < bs.length) = true := decide_eq_true r
      clear EW GC r
      go_enter Tryd.func16, Tryd.ntmps16
      go_upto_region 3 with fail
      go_quiet (fail)
      have K2 := hide (below_drew (B0.out (.cells #[.int .i64 O.f, .int .i64 O.w, .slice O.wa O.ws.length O.wc, .slice O.ta O.ks.length O.tc] 25)) nq (by simp))
      go_wp2
      go_ret
      exact ⟨by rw [EW2.out]; rfl, K2.out⟩
    · have EW2 : Hid (WF = M.groveF O.m) := by unfold Hid; rw [EW.out, if_neg r]
      have t1 : decide ((s.fin : Int) < (bs.length : Int)) = false := decide_eq_false (by omega)
      have t2 : decide (s.fin < bs.length) = false := decide_eq_false r
      clear EW r
      go_enter Tryd.func16, Tryd.ntmps16
      go_upto_region 3 with fail
      go_quiet (fail)
      have K2 := hide (below_drew (B0.out (.cells #[.int .i64 O.f, .int .i64 O.w, .slice O.wa O.ws.length O.wc, .slice O.ta O.ks.length O.tc] 25)) nq (by simp))
      go_wp2_with (go_at_call 13; refine (GC.out _ K2.out).mono ?_; rintro e w3 ⟨rfl, hb3⟩; have K3 := hide (below_on K2.out hb3); clear hb3)
      go_ret
      exact ⟨by rw [EW2.out]; rfl, K3.out⟩
  · rw [if_pos q] at EW
    rw [err_some q] at A2
    have Q := hide q
    clear GC q
    go_enter Tryd.func16, Tryd.ntmps16
    go_wp2
    go_ret
    exact ⟨by rw [EW.out, err_some Q.out]; rfl, B0.out _⟩

def Gr.no : Gr := ⟨0, 0, none, [], 0, none, [], 0⟩
theorem Gr.no_rd (W : World) : RdG W Gr.no := ⟨⟨Nat.zero_le _, fun h => absurd rfl h⟩, ⟨Nat.zero_le _, (fun k hk => by cases hk), fun h => absurd rfl h⟩⟩
theorem box4 {w W : World} {t : TypeId} {x0 x1 x2 x3 : Value} (hb : Below (w.alloc (.cells #[x0, x1, x2, x3] t)).heap.size (w.alloc (.cells #[x0, x1, x2, x3] t)) W) : (W.cell? ⟨w.heap.size, 0, none⟩ = some x0 ∧ W.cell? ⟨w.heap.size, 1, none⟩ = some x1 ∧ W.cell? ⟨w.heap.size, 2, none⟩ = some x2 ∧ W.cell? ⟨w.heap.size, 3, none⟩ = some x3) ∧ ∀ j, W.frozen? ⟨w.heap.size, j, none⟩ = false := by
  have k := new_kept rfl hb
  exact ⟨⟨k.1 0 _ rfl, k.1 1 _ rfl, k.1 2 _ rfl, k.1 3 _ rfl⟩, k.2⟩

set_option maxHeartbeats 16000000 in
set_option maxRecDepth 10000 in
theorem cddec_any : CdDecGives := by
  intro a bs c w h hc h63
  have bl : bs.length ≤ 9223372036854775807 := h.1
  by_cases big : 6000 < bs.length
  · have E1 : Hid (M.decF bs = (0, 4)) := by unfold Hid M.decF; rw [if_pos big]
    have E2 : Hid (M.decV bs = (0, 0, [], [])) := by unfold Hid M.decV; rw [E1.out]; rfl
    have t1 : decide ((6000 : Int) < (bs.length : Int)) = true := decide_eq_true (by omega)
    have t2 : decide (6000 < bs.length) = true := decide_eq_true big
    obtain ⟨⟨y0, y1, y2, y3⟩, yf⟩ := box4 (w := w) (t := 25) (x0 := .int .i64 0) (x1 := .int .i64 0) (x2 := .slice none 0 0) (x3 := .slice none 0 0) (Below.refl _ _)
    have K4 := hide (lay4 (x0 := .int .i64 0) (x1 := .int .i64 0) (x2 := .slice none 0 0) (x3 := .slice none 0 0) ((Below.refl _ w).alloc (Nat.le_refl _) (.cells #[.int .i64 0, .int .i64 0, .slice none 0 0, .slice none 0 0] 25)) (Nat.le_refl _))
    obtain ⟨e0, e1, e2, e3⟩ := put4_at (x0 := .int .i64 0) (x1 := .int .i64 0) (x2 := .slice none 0 0) (x3 := .slice none 0 0) y0 y1 y2 y3
    clear h hc big
    go_enter Tryd.func7, Tryd.ntmps7
    go_wp2
    refine bodyPost_ret (v := .tuple #[.agg #[.int .i64 0, .int .i64 0, .slice none 0 0, .slice none 0 0], .int .i64 0, .iface 42 (.int .i64 4)]) (by simp [results, Tryd.results7, go_sem, y0, y1, y2, y3]) rfl ?_
    exact ⟨Gr.no, by rw [E1.out]; rfl, by rw [E2.out]; rfl, Gr.no_rd _, (Below.refl _ w).alloc (Nat.le_refl _) _⟩
  · have D := hide (M.dec_is bs big)
    have t1 : decide ((6000 : Int) < (bs.length : Int)) = false := decide_eq_false (by omega)
    have t2 : decide (6000 < bs.length) = false := decide_eq_false big
    obtain ⟨W1, hW1⟩ : ∃ X, X = (w.alloc (.cells #[.int .i64 0, .int .i64 0, .slice none 0 0, .slice none 0 0] 25)).alloc (.cells #[.slice a bs.length c, .int .i64 0, .nilIface] 50) := ⟨_, rfl⟩
    have z1 : W1.heap.size = w.heap.size + 1 + 1 := by rw [hW1]; simp
    have bw1 : Below w.heap.size w W1 := by rw [hW1]; exact ((Below.refl _ w).alloc (Nat.le_refl _) _).alloc (by simp) _
    have k0 : Hid ((W1.cell? ⟨w.heap.size, 0, none⟩ = some (.int .i64 0) ∧ W1.cell? ⟨w.heap.size, 1, none⟩ = some (.int .i64 0) ∧ W1.cell? ⟨w.heap.size, 2, none⟩ = some (.slice none 0 0) ∧ W1.cell? ⟨w.heap.size, 3, none⟩ = some (.slice none 0 0)) ∧ ∀ j, W1.frozen? ⟨w.heap.size, j, none⟩ = false) := by
      rw [hW1]; exact box4 ((Below.refl _ _).alloc (Nat.le_refl _) _)
    have R0 : Hid (Rdr W1 (w.heap.size + 1) a bs c M.in0) := by
      have k := new_kept (w := w.alloc (.cells #[.int .i64 0, .int .i64 0, .slice none 0 0, .slice none 0 0] 25)) (cs := #[.slice a bs.length c, .int .i64 0, .nilIface]) (t := 50) rfl (Below.refl _ _)
      rw [← hW1] at k
      have es : (w.alloc (.cells #[.int .i64 0, .int .i64 0, .slice none 0 0, .slice none 0 0] 25)).heap.size = w.heap.size + 1 := by simp
      rw [es] at k
      refine ⟨⟨k.1 0 _ rfl, k.1 1 _ rfl, k.1 2 _ rfl, k.2⟩, h.below bw1, hc, h63, Nat.zero_le _, fun hn p hp e => ?_⟩
      obtain ⟨b, off, e2, hl, _⟩ := h.2.2 hn
      rw [hp] at e2
      cases e2
      simp at e
      omega
    have GR := hide (groveR R0.out)
    have GL := hide R0.out.lt
    have WR := hide (fun (W : World) (O : Gr) (h1 : Rdr W (w.heap.size + 1) a bs c (M.lAll bs).2) (h2 : RdG W O) (h3 : O.m = M.lGrove bs) => wrongR h1 h2 h3)
    unfold Gr.v at GR WR
    have Z1 := hide z1
    have BW1 := hide bw1
    have DE : Hid ((M.decF bs).2 ≠ 0 → M.decV bs = (0, 0, [], [])) := fun z => by unfold M.decV; rw [if_neg z]
    generalize M.wrF bs = WF at *
    generalize M.decF bs = DF at *
    generalize M.decV bs = DV at *
    generalize M.lAll bs = LA at *
    generalize M.lGrove bs = LG at *
    have HW1 := hide hW1
    clear h hc big z1 bw1 bl h63 hW1
    have AFT : Hid (∀ (w1 w3 : World) (O : Gr), W1.grownBy w1 (some (w.heap.size + 1)) → NewH W1 w1 O → Below (w1.alloc (.cells #[.int .i64 O.f, .int .i64 O.w, .slice O.wa O.ws.length O.wc, .slice O.ta O.ks.length O.tc] 25)).heap.size (w1.alloc (.cells #[.int .i64 O.f, .int .i64 O.w, .slice O.wa O.ws.length O.wc, .slice O.ta O.ks.length O.tc] 25)) w3 → ((w3.cell? ⟨w.heap.size, 0, none⟩ = some (.int .i64 0) ∧ w3.cell? ⟨w.heap.size, 1, none⟩ = some (.int .i64 0) ∧ w3.cell? ⟨w.heap.size, 2, none⟩ = some (.slice none 0 0) ∧ w3.cell? ⟨w.heap.size, 3, none⟩ = some (.slice none 0 0)) ∧ ∀ j, w3.frozen? ⟨w.heap.size, j, none⟩ = false) ∧ Below w.heap.size w w3 ∧ ∀ W'', w3.grownBy W'' (some w.heap.size) → RdG W'' O) := by
      intro w1 w3 O hg hn hb
      have zz := Z1.out
      have hs := hg.size
      have b1 : Below w1.heap.size w1 w3 := below_on ((Below.refl _ w1).alloc (Nat.le_refl _) _) hb
      have e3 : w3.heap[w.heap.size]? = W1.heap[w.heap.size]? := (b1.block _ (by omega)).trans (hg.block _ (by omega) (fun e => by rw [Option.some.injEq] at e; omega))
      obtain ⟨⟨y0, y1, y2, y3⟩, yf⟩ := k0.out
      refine ⟨⟨⟨(World.cell?_of_block (a := ⟨w.heap.size, 0, none⟩) e3).trans y0, (World.cell?_of_block (a := ⟨w.heap.size, 1, none⟩) e3).trans y1, (World.cell?_of_block (a := ⟨w.heap.size, 2, none⟩) e3).trans y2, (World.cell?_of_block (a := ⟨w.heap.size, 3, none⟩) e3).trans y3⟩, fun j => (World.frozen?_of_block (a := ⟨w.heap.size, j, none⟩) e3).trans (yf j)⟩, ?_, fun W'' hg'' => ?_⟩
      · exact below_on (BW1.out.grown hg (by omega) (fun k hk => by cases hk; omega)) b1
      · refine hn W'' (by have := b1.size; have := hg''.size; omega) (fun b h1 h2 => (hg''.block b (by have := b1.size; omega) (fun e => by cases e; omega)).trans (b1.block b h2))
    by_cases q : WF = 0
    · have E1 : Hid (DF = (0, 0)) := by unfold Hid; rw [D.out.1, if_pos q]
      have E2 : Hid (DV = LG) := D.out.2 q
      rw [err_nil q] at WR
      clear D q k0
      go_enter Tryd.func7, Tryd.ntmps7
      go_upto_region 4 with fail
      rw [← HW1.out]
      clear HW1
      go_upto_region 5 with (go_at_call 15; refine GR.out.mono ?_; rintro e w1 ⟨O, rfl, om, nh, rr, gg⟩; have OM := hide om; have NH := hide nh; have RR := hide rr; have GG := hide gg; clear om nh rr gg)
      have RG : Hid (RdG (w1.alloc (.cells #[.int .i64 O.f, .int .i64 O.w, .slice O.wa O.ws.length O.wc, .slice O.ta O.ks.length O.tc] 25)) O) := NH.out _ (by simp) (fun b h1 h2 => ((Below.refl _ w1).alloc (Nat.le_refl _) _).block b h2)
      have RA := hide (RR.out.alloc (.cells #[.int .i64 O.f, .int .i64 O.w, .slice O.wa O.ws.length O.wc, .slice O.ta O.ks.length O.tc] 25))
      go_upto_region 8 with (go_at_call 16; refine (WR.out _ O RA.out RG.out OM.out).mono ?_; rintro e w3 ⟨rfl, hb3⟩; have B3 := hide hb3; clear hb3)
      obtain ⟨⟨⟨x0, x1, x2, x3⟩, xf⟩, kw, rg⟩ := AFT.out w1 w3 O GG.out NH.out B3.out
      obtain ⟨⟨u0, u1, u2, u3⟩, uf⟩ := box4 B3.out
      have f0 := xf 0
      have f1 := xf 1
      have f2 := xf 2
      have f3 := xf 3
      have KW := hide kw
      have RGH := hide rg
      clear xf uf kw rg
      go_wp2
      obtain ⟨e0, e1, e2, e3⟩ := put4_at (x0 := .int .i64 O.f) (x1 := .int .i64 O.w) (x2 := .slice O.wa O.ws.length O.wc) (x3 := .slice O.ta O.ks.length O.tc) x0 x1 x2 x3
      refine bodyPost_ret (v := .tuple #[.agg #[.int .i64 O.f, .int .i64 O.w, .slice O.wa O.ws.length O.wc, .slice O.ta O.ks.length O.tc], .int .i64 0, .nilIface]) (by simp [results, Tryd.results7, go_sem, e0, e1, e2, e3]) rfl ?_
      exact ⟨O, by rw [E1.out]; rfl, by rw [E2.out]; exact OM.out, RGH.out _ grown4_at, lay4 KW.out (Nat.le_refl _)⟩
    · have E1 : Hid (DF = (M.lat LA.2, WF)) := by unfold Hid; rw [D.out.1, if_neg q]
      have E2 : Hid (DV = (0, 0, [], [])) := DE.out (by rw [E1.out]; exact q)
      rw [err_some q] at WR
      have Q := hide q
      clear D q k0
      go_enter Tryd.func7, Tryd.ntmps7
      go_upto_region 4 with fail
      rw [← HW1.out]
      clear HW1
      go_upto_region 5 with (go_at_call 15; refine GR.out.mono ?_; rintro e w1 ⟨O, rfl, om, nh, rr, gg⟩; have OM := hide om; have NH := hide nh; have RR := hide rr; have GG := hide gg; clear om nh rr gg)
      have RG : Hid (RdG (w1.alloc (.cells #[.int .i64 O.f, .int .i64 O.w, .slice O.wa O.ws.length O.wc, .slice O.ta O.ks.length O.tc] 25)) O) := NH.out _ (by simp) (fun b h1 h2 => ((Below.refl _ w1).alloc (Nat.le_refl _) _).block b h2)
      have RA := hide (RR.out.alloc (.cells #[.int .i64 O.f, .int .i64 O.w, .slice O.wa O.ws.length O.wc, .slice O.ta O.ks.length O.tc] 25))
      go_upto_region 7 with (go_at_call 16; refine (WR.out _ O RA.out RG.out OM.out).mono ?_; rintro e w3 ⟨rfl, hb3⟩; have B3 := hide hb3; clear hb3)
      obtain ⟨⟨⟨x0, x1, x2, x3⟩, xf⟩, kw, rg⟩ := AFT.out w1 w3 O GG.out NH.out B3.out
      have u1 := (RA.out.up B3.out).box.c1
      have f0 := xf 0
      have f1 := xf 1
      have f2 := xf 2
      have f3 := xf 3
      have KW := hide kw
      clear xf kw rg
      go_region_with (fail)
      all_goals (
        go_simp
        go_wp2
        obtain ⟨e0, e1, e2, e3⟩ := put4_at (x0 := .int .i64 0) (x1 := .int .i64 0) (x2 := .slice none 0 0) (x3 := .slice none 0 0) x0 x1 x2 x3
        refine bodyPost_ret (v := .tuple #[.agg #[.int .i64 0, .int .i64 0, .slice none 0 0, .slice none 0 0], .int .i64 ((M.lat LA.2 : Nat) : Int), .iface 42 (.int .i64 WF)]) (by simp [results, Tryd.results7, go_sem, e0, e1, e2, e3]) rfl ?_
        exact ⟨Gr.no, by rw [E1.out, err_some Q.out]; rfl, by rw [E2.out]; rfl, Gr.no_rd _, (lay4 KW.out (Nat.le_refl _)).drew⟩)

end Go.Proofs.YtdadjppdonephahDoor

namespace Go.Proofs.YtdadjppdonephahDoor
open Go.ChangeShapes Go.WideShapes Go.ChangeAt Go.RowKit Go.Lib
set_option linter.unusedVariables false

theorem kept_both {w W : World} {a0 a1 a2 a3 b0 b1 b2 b3 : Value} {t u : TypeId} (h : Below ((w.alloc (.cells #[a0, a1, a2, a3] t)).alloc (.cells #[b0, b1, b2, b3] u)).heap.size ((w.alloc (.cells #[a0, a1, a2, a3] t)).alloc (.cells #[b0, b1, b2, b3] u)) W) :
    (W.cell? ⟨w.heap.size, 0, none⟩ = some a0 ∧ W.cell? ⟨w.heap.size, 1, none⟩ = some a1 ∧ W.cell? ⟨w.heap.size, 3, none⟩ = some a3) ∧
    (W.cell? ⟨w.heap.size + 1, 0, none⟩ = some b0 ∧ W.cell? ⟨w.heap.size + 1, 1, none⟩ = some b1 ∧ W.cell? ⟨w.heap.size + 1, 3, none⟩ = some b3) := by
  have e : (w.alloc (.cells #[a0, a1, a2, a3] t)).heap.size = w.heap.size + 1 := by simp
  have h2 : Below (w.alloc (.cells #[a0, a1, a2, a3] t)).heap.size (w.alloc (.cells #[a0, a1, a2, a3] t)) W := below_on ((Below.refl _ _).alloc (Nat.le_refl _) _) h
  have hs : w.heap.size < (w.alloc (.cells #[a0, a1, a2, a3] t)).heap.size := by simp
  have hs2 : w.heap.size + 1 < ((w.alloc (.cells #[a0, a1, a2, a3] t)).alloc (.cells #[b0, b1, b2, b3] u)).heap.size := by simp
  have c : ∀ j, (w.alloc (.cells #[a0, a1, a2, a3] t)).cell? ⟨w.heap.size, j, none⟩ = _ := fun j => World.cell?_alloc_at _ _ _ j rfl
  have d : ∀ j, ((w.alloc (.cells #[a0, a1, a2, a3] t)).alloc (.cells #[b0, b1, b2, b3] u)).cell? ⟨w.heap.size + 1, j, none⟩ = _ := fun j => World.cell?_alloc_at _ _ _ j (by simp)
  exact ⟨⟨(h2.cell (p := ⟨w.heap.size, 0, none⟩) hs).trans (c 0), (h2.cell (p := ⟨w.heap.size, 1, none⟩) hs).trans (c 1), (h2.cell (p := ⟨w.heap.size, 3, none⟩) hs).trans (c 3)⟩,
    ⟨(h.cell (p := ⟨w.heap.size + 1, 0, none⟩) hs2).trans (d 0), (h.cell (p := ⟨w.heap.size + 1, 1, none⟩) hs2).trans (d 1), (h.cell (p := ⟨w.heap.size + 1, 3, none⟩) hs2).trans (d 3)⟩⟩

set_option maxHeartbeats 8000000 in
set_option maxRecDepth 10000 in
theorem grovesame_any (G O : Gr) (w : World) (hg : RdG w G) (ho : RdG w O) (hm : G.m = O.m) :
    Calls Tryd.prog 8 #[G.v, O.v] w fun e w' => e = .returned (.bool true) ∧ Below w.heap.size w w' := by
  obtain ⟨f, wy, wa, ws, wc, ta, ks, tc⟩ := G
  obtain ⟨f', wy', wa', ws', wc', ta', ks', tc'⟩ := O
  simp only [Gr.m, Prod.mk.injEq] at hm
  obtain ⟨rfl, rfl, rfl, ht⟩ := hm
  have kl : ks'.length = ks.length := by rw [← tl_len ks', ← ht, tl_len]
  have he : ∀ k (h : k < ks.length) (h' : k < ks'.length), ks'[k].2.1 = ks[k].2.1 := fun k h h' => by rw [← tl_at ks' h', ← tl_at ks h, ht]
  have HE := hide he
  have KL := hide kl
  have hl : ks.length ≤ 9223372036854775807 := hg.2.1
  show Calls Tryd.prog 8 #[.agg #[.int .i64 f, .int .i64 wy, .slice wa ws.length wc, .slice ta ks.length tc], .agg #[.int .i64 f, .int .i64 wy, .slice wa' ws.length wc', .slice ta' ks'.length tc']] w fun e w' => e = .returned (.bool true) ∧ Below w.heap.size w w'
  rw [kl]
  have CI := hide (fun W (hW : Below w.heap.size w W) => ints_any wa wa' ws ws wc wc' W (hg.1.below hW) (ho.1.below hW))
  simp only [decide_true] at CI
  have HG : Hid (∀ W, Below w.heap.size w W → RdT W ta ks) := fun W hW => hg.2.below hW
  have HO : Hid (∀ W, Below w.heap.size w W → RdT W ta' ks') := fun W hW => ho.2.below hW
  obtain ⟨gO, hgO⟩ : ∃ o : Obj, o = .cells #[.int .i64 f, .int .i64 wy, .slice wa ws.length wc, .slice ta ks.length tc] 25 := ⟨_, rfl⟩
  obtain ⟨oO, hoO⟩ : ∃ o : Obj, o = .cells #[.int .i64 f, .int .i64 wy, .slice wa' ws.length wc', .slice ta' ks.length tc'] 25 := ⟨_, rfl⟩
  have B0 : Hid (∀ W, Below ((w.alloc gO).alloc oO).heap.size ((w.alloc gO).alloc oO) W → Below w.heap.size w W) := fun W hW => below_on (((Below.refl _ w).alloc (Nat.le_refl _) gO).alloc (by simp) oO) hW
  have CG : Hid (∀ W, Below ((w.alloc gO).alloc oO).heap.size ((w.alloc gO).alloc oO) W → (W.cell? ⟨w.heap.size, 0, none⟩ = some (.int .i64 f) ∧ W.cell? ⟨w.heap.size, 1, none⟩ = some (.int .i64 wy) ∧ W.cell? ⟨w.heap.size, 3, none⟩ = some (.slice ta ks.length tc)) ∧ (W.cell? ⟨w.heap.size + 1, 0, none⟩ = some (.int .i64 f) ∧ W.cell? ⟨w.heap.size + 1, 1, none⟩ = some (.int .i64 wy) ∧ W.cell? ⟨w.heap.size + 1, 3, none⟩ = some (.slice ta' ks.length tc'))) := fun W hW => by rw [hgO, hoO] at hW; exact kept_both hW
  have R0 : Hid (Below w.heap.size w ((w.alloc gO).alloc oO)) := ((Below.refl _ w).alloc (Nat.le_refl _) gO).alloc (by simp) oO
  rw [hgO, hoO] at B0 CG R0
  clear hg ho ht kl he hgO hoO
  go_enter Tryd.func8, Tryd.ntmps8
  go_wp2_with (go_at_call 17; refine (CI.out _ R0.out).mono ?_; rintro e w1 ⟨rfl, hb1⟩; have q := CG.out _ hb1; have c0 := q.1.1; have c1 := q.1.2.1; have c3 := q.1.2.2; have d0 := q.2.1; have d1 := q.2.2.1; have d3 := q.2.2.2; clear q)
  have G1 := hide hb1
  clear CI c0 c1 c3 d0 d1 d3 hb1
  go_loopw [6] (fun i wr => ∃ k : Nat, k ≤ ks.length ∧ i = .int .i64 k ∧ Hid (Below w1.heap.size w1 wr)) (fun i _ => ks.length - (intOf i).toNat)
  case atStart => exact ⟨0, Nat.zero_le _, rfl, Below.refl _ _⟩
  case round =>
    obtain ⟨k, hk, rfl, K⟩ := hrel
    have g2 := below_on G1.out K.out
    have kw := B0.out _ g2
    obtain ⟨⟨c0, c1, c3⟩, d0, d1, d3⟩ := CG.out _ g2
    by_cases hlt : k < ks.length
    · have hlt' : k < ks'.length := by rw [KL.out]; exact hlt
      have kz : (k : Int) < (ks.length : Int) := by omega
      obtain ⟨b1, o1, e1, h1, hc1⟩ := (HG.out wr kw).2.2 (by intro e; rw [e] at hlt; simp at hlt)
      obtain ⟨b2, o2, e2, h2, hc2⟩ := (HO.out wr kw).2.2 (by intro e; rw [e] at hlt'; simp at hlt')
      have s1 := hc1 k hlt
      have s2 := hc2 k hlt'
      have r1 := (HG.out wr kw).2.1 _ (List.getElem_mem hlt)
      have r2 := (HO.out wr kw).2.1 _ (List.getElem_mem hlt')
      have ee := HE.out k hlt hlt'
      unfold tV at s1 s2
      rw [ee] at s2 r2
      rw [e1] at c3
      rw [e2] at d3
      have NS := hide (nodesame_any ks[k].1 ks'[k].1 ks[k].2.1 ks[k].2.2 ks'[k].2.2 wr.drew (r1.below (Below.refl _ wr).drew) (r2.below (Below.refl _ wr).drew))
      have c3d : wr.drew.cell? ⟨w.heap.size, 3, none⟩ = some (.slice (some ⟨b1, o1, none⟩) ks.length tc) := c3
      have d3d : wr.drew.cell? ⟨w.heap.size + 1, 3, none⟩ = some (.slice (some ⟨b2, o2, none⟩) ks.length tc') := d3
      have s1d : wr.drew.cell? ⟨b1, o1 + k, none⟩ = some (.slice ks[k].1 ks[k].2.1.length ks[k].2.2) := s1
      have s2d : wr.drew.cell? ⟨b2, o2 + k, none⟩ = some (.slice ks'[k].1 ks[k].2.1.length ks'[k].2.2) := s2
      clear hc1 hc2 r1 r2 ee HG HO HE e1 e2
      generalize ks[k].2.1.length = tn at *
      generalize ks[k].1 = a1 at *
      generalize ks'[k].1 = a2 at *
      generalize ks[k].2.2 = x1 at *
      generalize ks'[k].2.2 = x2 at *
      go_upto_region 7 with fail
      go_cut [7] from 45 to 55 (fun t wx => t = .bool true ∧ Hid (Below wr.heap.size wr wx))
      case first =>
        go_region_with (go_at_call 18; refine NS.out.mono ?_; rintro e w5 ⟨rfl, hb5⟩)
        all_goals go_wp2
        all_goals go_meet
        all_goals (case rel => exact ⟨rfl, (Below.refl wr.heap.size wr).drew.trans hb5⟩)
      case rest =>
        obtain ⟨rfl, K6⟩ := hcut
        have K7 := hide (below_on K.out K6.out)
        go_wp2
        go_roundw
        case rel => exact ⟨k + 1, by omega, by go_num, K7⟩
        case measure => simp [intOf]; omega
    · go_wp2
      go_ret
      exact ⟨rfl, kw⟩

end Go.Proofs.YtdadjppdonephahDoor
