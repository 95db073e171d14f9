/-
  Several texts as one: CdDec, GwLaid, GwDone, GroveP.
-/
import Derived.Test.YtodidokeblblgaaGreatRunF17
import Derived.Test.YtodidokeblblgaaGreatRunF16
import Derived.Test.YtodidokeblblgaaGreatRunF11
import Derived.Deep.AppendLies
namespace Go.Proofs.YtodidokeblblgaaGreat
open Go.ChangeShapes Go.WideShapes Go.ChangeAt Go.RowKit Go.Lib
set_option linter.unusedVariables false
theorem M.lAll_fin (b : List Nat) : (M.lAll b).2.fin ≤ b.length := by
  have f : ∀ (k : Nat) {s : M.In}, s.fin ≤ b.length → (M.lTrees b k s).2.fin ≤ b.length := by
    intro k
    induction k with
    | zero => intro s h; exact h
    | succ k ih => intro s h; exact ih (M.lNodes_fin _ (M.rMany_fin (M.rNum_fin h)))
  refine f _ ?_
  exact M.rMany_fin (M.rNum_fin (M.rNum_fin (Nat.zero_le _)))
/-- what is wrong with a grove that was read -/
def M.wrF (b : List Nat) : Int := if (M.lAll b).2.bad ≠ 0 then (M.lAll b).2.bad else if (M.lAll b).2.fin < b.length then 2 else M.groveF (M.lGrove b)
theorem M.dec_is (b : List Nat) (h : ¬ 6000 < b.length) : M.decF b = (if M.wrF b = 0 then (0, 0) else (M.lat (M.lAll b).2, M.wrF b)) ∧ (M.wrF b = 0 → M.decV b = M.lGrove b) := by
  have a := M.lAll_is b
  have f := M.lAll_fin b
  have e : M.decF b = if (M.rAll b).2.bad ≠ 0 then ((M.rAll b).2.at', (M.rAll b).2.bad) else if (M.rAll b).2.fin ≠ b.length then ((M.rAll b).2.fin, 2) else if M.groveF (M.rGrove b) ≠ 0 then ((M.rAll b).2.fin, M.groveF (M.rGrove b)) else (0, 0) := by
    unfold M.decF; rw [if_neg h]
  unfold M.decV
  rw [e]
  unfold M.wrF M.lat
  rw [a.1] at f ⊢
  by_cases q : (M.rAll b).2.bad = 0
  · rw [if_neg (by simp [q])]
    simp only [if_neg (show ¬ (M.rAll b).2.bad ≠ 0 by simp [q]), if_pos q]
    rw [a.2 q]
    by_cases r : (M.rAll b).2.fin < b.length
    · rw [if_pos (by omega), if_pos r]
      exact ⟨rfl, fun z => absurd z (by decide)⟩
    · rw [if_neg (by omega), if_neg r]
      by_cases t : M.groveF (M.rGrove b) = 0
      · rw [if_neg (by simp [t]), t]
        exact ⟨rfl, fun _ => rfl⟩
      · rw [if_pos t, if_neg t]
        exact ⟨rfl, fun z => absurd z t⟩
  · rw [if_pos q]
    simp only [if_pos q, if_neg q]
    exact ⟨by first | rfl | trivial, fun z => absurd z (by first | exact q | trivial)⟩

set_option maxHeartbeats 16000000 in
set_option maxRecDepth 10000 in
theorem wrongR {w : World} {g : Nat} {a : Option Addr} {bs : List Nat} {c : Nat} {O : Gr} (h : Rdr w g a bs c (M.lAll bs).2) (ho : RdG w O) (hm : O.m = M.lGrove bs) : Calls Tryz.prog 80 #[.pointer (some ⟨g, 0, none⟩), O.v] w fun e w' => e = .returned (errV (M.wrF bs)) ∧ Below w.heap.size w w' := by
  have B0 : Hid (∀ o, Below w.heap.size w (w.alloc o)) := fun o => (Below.refl _ w).alloc (Nat.le_refl _) o
  have EW : Hid (M.wrF bs = if (M.lAll bs).2.bad ≠ 0 then (M.lAll bs).2.bad else if (M.lAll bs).2.fin < bs.length then 2 else M.groveF O.m) := by rw [hm]; exact rfl
  have GC := hide (fun W (hW : Below w.heap.size w W) => gcheck_any O W (ho.below hW))
  have gl := h.lt
  have ml := h.rd.1
  have fl := h.fin
  generalize (M.lAll bs).2 = s at *
  generalize M.wrF bs = WF at *
  have y0 := h.box.c0
  have y1 := h.box.c1
  have y2 := h.box.c2
  have A0 := fun o => ((B0.out o).cell (p := ⟨g, 0, none⟩) gl).trans y0
  have A1 := fun o => ((B0.out o).cell (p := ⟨g, 1, none⟩) gl).trans y1
  have A2 := fun o => ((B0.out o).cell (p := ⟨g, 2, none⟩) gl).trans y2
  have BB : bs.length ≤ 9223372036854775807 := ml
  unfold Gr.v at GC ⊢
  clear h ho hm y0 y1 y2 ml
  by_cases q : s.bad = 0
  · rw [if_neg (by simp [q])] at EW
    rw [err_nil q] at A2
    rw [show M.lat s = s.fin from if_pos q] at A1
    have Q := hide q
    clear q
    by_cases r : s.fin < bs.length
    · have EW2 : Hid (WF = 2) := by unfold Hid; rw [EW.out, if_pos r]
      have t1 : decide ((s.fin : Int) < (bs.length : Int)) = true := decide_eq_true (by omega)
      have t2 : decide (s.fin < bs.length) = true := decide_eq_true r
      clear EW GC r
      go_enter Tryz.func80, Tryz.ntmps80
      go_upto_region 3 with fail
      go_quiet (fail)
      have K2 := hide (below_drew (B0.out (.cells #[.int .i64 O.f, .int .i64 O.w, .slice O.wa O.ws.length O.wc, .slice O.ta O.ks.length O.tc] 110)) nq (by simp))
      go_wp2
      go_ret
      exact ⟨by rw [EW2.out]; rfl, K2.out⟩
    · have EW2 : Hid (WF = M.groveF O.m) := by unfold Hid; rw [EW.out, if_neg r]
      have t1 : decide ((s.fin : Int) < (bs.length : Int)) = false := decide_eq_false (by omega)
      have t2 : decide (s.fin < bs.length) = false := decide_eq_false r
      clear EW r
      go_enter Tryz.func80, Tryz.ntmps80
      go_upto_region 3 with fail
      go_quiet (fail)
      have K2 := hide (below_drew (B0.out (.cells #[.int .i64 O.f, .int .i64 O.w, .slice O.wa O.ws.length O.wc, .slice O.ta O.ks.length O.tc] 110)) nq (by simp))
      go_wp2_with (go_at_call 67; refine (GC.out _ K2.out).mono ?_; rintro e w3 ⟨rfl, hb3⟩; have K3 := hide (below_on K2.out hb3); clear hb3)
      go_ret
      exact ⟨by rw [EW2.out]; rfl, K3.out⟩
  · rw [if_pos q] at EW
    rw [err_some q] at A2
    have Q := hide q
    clear GC q
    go_enter Tryz.func80, Tryz.ntmps80
    go_wp2
    go_ret
    exact ⟨by rw [EW.out, err_some Q.out]; rfl, B0.out _⟩

def Gr.no : Gr := ⟨0, 0, none, [], 0, none, [], 0⟩
/-- Decode's grove lies in blocks that are new -/
def CdDecNew : Prop := ∀ (a : Option Addr) (bs : List Nat) (c : Nat) (W : World), RdB W a bs → bs.length ≤ c → c ≤ 9223372036854775807 → Calls Tryz.prog 58 #[.slice a bs.length c] W fun e w' => ∃ O : Gr, e = .returned (.tuple #[O.v, .int .i64 ((M.decF bs).1 : Nat), errV (M.decF bs).2]) ∧ O.m = M.decV bs ∧ NewH W w' O ∧ Below W.heap.size W w'
theorem Gr.no_rd (W : World) : RdG W Gr.no := ⟨⟨Nat.zero_le _, fun h => absurd rfl h⟩, ⟨Nat.zero_le _, (fun k hk => by cases hk), fun h => absurd rfl h⟩⟩
theorem box4 {w W : World} {t : TypeId} {x0 x1 x2 x3 : Value} (hb : Below (w.alloc (.cells #[x0, x1, x2, x3] t)).heap.size (w.alloc (.cells #[x0, x1, x2, x3] t)) W) : (W.cell? ⟨w.heap.size, 0, none⟩ = some x0 ∧ W.cell? ⟨w.heap.size, 1, none⟩ = some x1 ∧ W.cell? ⟨w.heap.size, 2, none⟩ = some x2 ∧ W.cell? ⟨w.heap.size, 3, none⟩ = some x3) ∧ ∀ j, W.frozen? ⟨w.heap.size, j, none⟩ = false := by
  have k := new_kept rfl hb
  exact ⟨⟨k.1 0 _ rfl, k.1 1 _ rfl, k.1 2 _ rfl, k.1 3 _ rfl⟩, k.2⟩

set_option maxHeartbeats 16000000 in
set_option maxRecDepth 10000 in
theorem cddec_new : CdDecNew := by
  intro a bs c w h hc h63
  have bl : bs.length ≤ 9223372036854775807 := h.1
  by_cases big : 6000 < bs.length
  · have E1 : Hid (M.decF bs = (0, 4)) := by unfold Hid M.decF; rw [if_pos big]
    have E2 : Hid (M.decV bs = (0, 0, [], [])) := by unfold Hid M.decV; rw [E1.out]; rfl
    have t1 : decide ((6000 : Int) < (bs.length : Int)) = true := decide_eq_true (by omega)
    have t2 : decide (6000 < bs.length) = true := decide_eq_true big
    obtain ⟨⟨y0, y1, y2, y3⟩, yf⟩ := box4 (w := w) (t := 110) (x0 := .int .i64 0) (x1 := .int .i64 0) (x2 := .slice none 0 0) (x3 := .slice none 0 0) (Below.refl _ _)
    have K4 := hide (lay4 (x0 := .int .i64 0) (x1 := .int .i64 0) (x2 := .slice none 0 0) (x3 := .slice none 0 0) ((Below.refl _ w).alloc (Nat.le_refl _) (.cells #[.int .i64 0, .int .i64 0, .slice none 0 0, .slice none 0 0] 110)) (Nat.le_refl _))
    obtain ⟨e0, e1, e2, e3⟩ := put4_at (x0 := .int .i64 0) (x1 := .int .i64 0) (x2 := .slice none 0 0) (x3 := .slice none 0 0) y0 y1 y2 y3
    clear h hc big
    go_enter Tryz.func58, Tryz.ntmps58
    go_wp2
    refine bodyPost_ret (v := .tuple #[.agg #[.int .i64 0, .int .i64 0, .slice none 0 0, .slice none 0 0], .int .i64 0, .iface 44 (.int .i64 4)]) (by simp [results, Tryz.results58, go_sem, y0, y1, y2, y3]) rfl ?_
    exact ⟨Gr.no, by rw [E1.out]; rfl, by rw [E2.out]; rfl, (fun _ _ _ => Gr.no_rd _), (Below.refl _ w).alloc (Nat.le_refl _) _⟩
  · have D := hide (M.dec_is bs big)
    have t1 : decide ((6000 : Int) < (bs.length : Int)) = false := decide_eq_false (by omega)
    have t2 : decide (6000 < bs.length) = false := decide_eq_false big
    obtain ⟨W1, hW1⟩ : ∃ X, X = (w.alloc (.cells #[.int .i64 0, .int .i64 0, .slice none 0 0, .slice none 0 0] 110)).alloc (.cells #[.slice a bs.length c, .int .i64 0, .nilIface] 164) := ⟨_, rfl⟩
    have z1 : W1.heap.size = w.heap.size + 1 + 1 := by rw [hW1]; simp
    have bw1 : Below w.heap.size w W1 := by rw [hW1]; exact ((Below.refl _ w).alloc (Nat.le_refl _) _).alloc (by simp) _
    have k0 : Hid ((W1.cell? ⟨w.heap.size, 0, none⟩ = some (.int .i64 0) ∧ W1.cell? ⟨w.heap.size, 1, none⟩ = some (.int .i64 0) ∧ W1.cell? ⟨w.heap.size, 2, none⟩ = some (.slice none 0 0) ∧ W1.cell? ⟨w.heap.size, 3, none⟩ = some (.slice none 0 0)) ∧ ∀ j, W1.frozen? ⟨w.heap.size, j, none⟩ = false) := by
      rw [hW1]; exact box4 ((Below.refl _ _).alloc (Nat.le_refl _) _)
    have R0 : Hid (Rdr W1 (w.heap.size + 1) a bs c M.in0) := by
      have k := new_kept (w := w.alloc (.cells #[.int .i64 0, .int .i64 0, .slice none 0 0, .slice none 0 0] 110)) (cs := #[.slice a bs.length c, .int .i64 0, .nilIface]) (t := 164) rfl (Below.refl _ _)
      rw [← hW1] at k
      have es : (w.alloc (.cells #[.int .i64 0, .int .i64 0, .slice none 0 0, .slice none 0 0] 110)).heap.size = w.heap.size + 1 := by simp
      rw [es] at k
      refine ⟨⟨k.1 0 _ rfl, k.1 1 _ rfl, k.1 2 _ rfl, k.2⟩, h.below bw1, hc, h63, Nat.zero_le _, fun hn p hp e => ?_⟩
      obtain ⟨b, off, e2, hl, _⟩ := h.2.2 hn
      rw [hp] at e2
      cases e2
      simp at e
      omega
    have GR := hide (groveR R0.out)
    have GL := hide R0.out.lt
    have WR := hide (fun (W : World) (O : Gr) (h1 : Rdr W (w.heap.size + 1) a bs c (M.lAll bs).2) (h2 : RdG W O) (h3 : O.m = M.lGrove bs) => wrongR h1 h2 h3)
    unfold Gr.v at GR WR
    have Z1 := hide z1
    have BW1 := hide bw1
    have DE : Hid ((M.decF bs).2 ≠ 0 → M.decV bs = (0, 0, [], [])) := fun z => by unfold M.decV; rw [if_neg z]
    generalize M.wrF bs = WF at *
    generalize M.decF bs = DF at *
    generalize M.decV bs = DV at *
    generalize M.lAll bs = LA at *
    generalize M.lGrove bs = LG at *
    have HW1 := hide hW1
    clear h hc big z1 bw1 bl h63 hW1
    have AFT : Hid (∀ (w1 w3 : World) (O : Gr), W1.grownBy w1 (some (w.heap.size + 1)) → NewH W1 w1 O → Below (w1.alloc (.cells #[.int .i64 O.f, .int .i64 O.w, .slice O.wa O.ws.length O.wc, .slice O.ta O.ks.length O.tc] 110)).heap.size (w1.alloc (.cells #[.int .i64 O.f, .int .i64 O.w, .slice O.wa O.ws.length O.wc, .slice O.ta O.ks.length O.tc] 110)) w3 → ((w3.cell? ⟨w.heap.size, 0, none⟩ = some (.int .i64 0) ∧ w3.cell? ⟨w.heap.size, 1, none⟩ = some (.int .i64 0) ∧ w3.cell? ⟨w.heap.size, 2, none⟩ = some (.slice none 0 0) ∧ w3.cell? ⟨w.heap.size, 3, none⟩ = some (.slice none 0 0)) ∧ ∀ j, w3.frozen? ⟨w.heap.size, j, none⟩ = false) ∧ Below w.heap.size w w3 ∧ ∀ W2, w3.grownBy W2 (some w.heap.size) → NewH w W2 O) := by
      intro w1 w3 O hg hn hb
      have zz := Z1.out
      have hs := hg.size
      have b1 : Below w1.heap.size w1 w3 := below_on ((Below.refl _ w1).alloc (Nat.le_refl _) _) hb
      have e3 : w3.heap[w.heap.size]? = W1.heap[w.heap.size]? := (b1.block _ (by omega)).trans (hg.block _ (by omega) (fun e => by rw [Option.some.injEq] at e; omega))
      obtain ⟨⟨y0, y1, y2, y3⟩, yf⟩ := k0.out
      refine ⟨⟨⟨(World.cell?_of_block (a := ⟨w.heap.size, 0, none⟩) e3).trans y0, (World.cell?_of_block (a := ⟨w.heap.size, 1, none⟩) e3).trans y1, (World.cell?_of_block (a := ⟨w.heap.size, 2, none⟩) e3).trans y2, (World.cell?_of_block (a := ⟨w.heap.size, 3, none⟩) e3).trans y3⟩, fun j => (World.frozen?_of_block (a := ⟨w.heap.size, j, none⟩) e3).trans (yf j)⟩, ?_, fun W'' hg'' => ?_⟩
      · exact below_on (BW1.out.grown hg (by omega) (fun k hk => by cases hk; omega)) b1
      · intro W3 hz3 hc3
        refine hn W3 (by have := b1.size; have := hg''.size; omega) (fun b h1 h2 => (hc3 b (by omega) (by have := b1.size; have := hg''.size; omega)).trans ((hg''.block b (by have := b1.size; omega) (fun e => by cases e; omega)).trans (b1.block b h2)))
    by_cases q : WF = 0
    · have E1 : Hid (DF = (0, 0)) := by unfold Hid; rw [D.out.1, if_pos q]
      have E2 : Hid (DV = LG) := D.out.2 q
      rw [err_nil q] at WR
      clear D q k0
      go_enter Tryz.func58, Tryz.ntmps58
      go_upto_region 4 with fail
      rw [← HW1.out]
      clear HW1
      go_upto_region 5 with (go_at_call 79; refine GR.out.mono ?_; rintro e w1 ⟨O, rfl, om, nh, rr, gg⟩; have OM := hide om; have NH := hide nh; have RR := hide rr; have GG := hide gg; clear om nh rr gg)
      have RG : Hid (RdG (w1.alloc (.cells #[.int .i64 O.f, .int .i64 O.w, .slice O.wa O.ws.length O.wc, .slice O.ta O.ks.length O.tc] 110)) O) := NH.out _ (by simp) (fun b h1 h2 => ((Below.refl _ w1).alloc (Nat.le_refl _) _).block b h2)
      have RA := hide (RR.out.alloc (.cells #[.int .i64 O.f, .int .i64 O.w, .slice O.wa O.ws.length O.wc, .slice O.ta O.ks.length O.tc] 110))
      go_upto_region 8 with (go_at_call 80; refine (WR.out _ O RA.out RG.out OM.out).mono ?_; rintro e w3 ⟨rfl, hb3⟩; have B3 := hide hb3; clear hb3)
      obtain ⟨⟨⟨x0, x1, x2, x3⟩, xf⟩, kw, rg⟩ := AFT.out w1 w3 O GG.out NH.out B3.out
      obtain ⟨⟨u0, u1, u2, u3⟩, uf⟩ := box4 B3.out
      have f0 := xf 0
      have f1 := xf 1
      have f2 := xf 2
      have f3 := xf 3
      have KW := hide kw
      have RGH := hide rg
      clear xf uf kw rg
      go_wp2
      obtain ⟨e0, e1, e2, e3⟩ := put4_at (x0 := .int .i64 O.f) (x1 := .int .i64 O.w) (x2 := .slice O.wa O.ws.length O.wc) (x3 := .slice O.ta O.ks.length O.tc) x0 x1 x2 x3
      refine bodyPost_ret (v := .tuple #[.agg #[.int .i64 O.f, .int .i64 O.w, .slice O.wa O.ws.length O.wc, .slice O.ta O.ks.length O.tc], .int .i64 0, .nilIface]) (by simp [results, Tryz.results58, go_sem, e0, e1, e2, e3]) rfl ?_
      exact ⟨O, by rw [E1.out]; rfl, by rw [E2.out]; exact OM.out, RGH.out _ grown4_at, lay4 KW.out (Nat.le_refl _)⟩
    · have E1 : Hid (DF = (M.lat LA.2, WF)) := by unfold Hid; rw [D.out.1, if_neg q]
      have E2 : Hid (DV = (0, 0, [], [])) := DE.out (by rw [E1.out]; exact q)
      rw [err_some q] at WR
      have Q := hide q
      clear D q k0
      go_enter Tryz.func58, Tryz.ntmps58
      go_upto_region 4 with fail
      rw [← HW1.out]
      clear HW1
      go_upto_region 5 with (go_at_call 79; refine GR.out.mono ?_; rintro e w1 ⟨O, rfl, om, nh, rr, gg⟩; have OM := hide om; have NH := hide nh; have RR := hide rr; have GG := hide gg; clear om nh rr gg)
      have RG : Hid (RdG (w1.alloc (.cells #[.int .i64 O.f, .int .i64 O.w, .slice O.wa O.ws.length O.wc, .slice O.ta O.ks.length O.tc] 110)) O) := NH.out _ (by simp) (fun b h1 h2 => ((Below.refl _ w1).alloc (Nat.le_refl _) _).block b h2)
      have RA := hide (RR.out.alloc (.cells #[.int .i64 O.f, .int .i64 O.w, .slice O.wa O.ws.length O.wc, .slice O.ta O.ks.length O.tc] 110))
      go_upto_region 7 with (go_at_call 80; refine (WR.out _ O RA.out RG.out OM.out).mono ?_; rintro e w3 ⟨rfl, hb3⟩; have B3 := hide hb3; clear hb3)
      obtain ⟨⟨⟨x0, x1, x2, x3⟩, xf⟩, kw, rg⟩ := AFT.out w1 w3 O GG.out NH.out B3.out
      have u1 := (RA.out.up B3.out).box.c1
      have f0 := xf 0
      have f1 := xf 1
      have f2 := xf 2
      have f3 := xf 3
      have KW := hide kw
      clear xf kw rg
      go_region_with (fail)
      all_goals (
        go_simp
        go_wp2
        obtain ⟨e0, e1, e2, e3⟩ := put4_at (x0 := .int .i64 0) (x1 := .int .i64 0) (x2 := .slice none 0 0) (x3 := .slice none 0 0) x0 x1 x2 x3
        refine bodyPost_ret (v := .tuple #[.agg #[.int .i64 0, .int .i64 0, .slice none 0 0, .slice none 0 0], .int .i64 ((M.lat LA.2 : Nat) : Int), .iface 44 (.int .i64 WF)]) (by simp [results, Tryz.results58, go_sem, e0, e1, e2, e3]) rfl ?_
        exact ⟨Gr.no, by rw [E1.out, err_some Q.out]; rfl, by rw [E2.out]; rfl, (fun _ _ _ => Gr.no_rd _), (lay4 KW.out (Nat.le_refl _)).drew⟩)

theorem cddec_any : CdDecGives := fun a bs c W h1 h2 h3 => (cddec_new a bs c W h1 h2 h3).mono (by
  rintro e w' ⟨O, g1, g2, g3, g4⟩
  exact ⟨O, g1, g2, g3 w' (Nat.le_refl _) (fun _ _ _ => rfl), g4⟩)
theorem infoL : (Tryz.prog.info? 123).map (fun i => (i.zero, i.size, i.bytes)) = some (some (.slice none 0 0), 1, 24) := by kernel_rfl
theorem rdn_keep {W W' : World} {a : Option Addr} {ts : List M.Nd} (h : RdN W a ts) (hs : ∀ p, a = some p → W'.heap[p.block]? = W.heap[p.block]?) (hz : W.heap.size ≤ W'.heap.size) : RdN W' a ts :=
  ⟨h.1, fun hn => by
    obtain ⟨b, off, e, hl, hc⟩ := h.2 hn
    have hb : W'.heap[b]? = W.heap[b]? := hs _ e
    refine ⟨b, off, e, Nat.lt_of_lt_of_le hl hz, fun i hi => ?_⟩
    obtain ⟨h0, h1, h2, h3, h4, h5⟩ := hc i hi
    exact ⟨(World.cell?_of_block (a := ⟨b, _, none⟩) hb).trans h0, (World.cell?_of_block (a := ⟨b, _, none⟩) hb).trans h1, (World.cell?_of_block (a := ⟨b, _, none⟩) hb).trans h2, (World.cell?_of_block (a := ⟨b, _, none⟩) hb).trans h3, (World.cell?_of_block (a := ⟨b, _, none⟩) hb).trans h4, (World.cell?_of_block (a := ⟨b, _, none⟩) hb).trans h5⟩⟩
theorem rd_keep {W W' : World} {a : Option Addr} {xs : List Int} (h : Rd W a xs) (hs : ∀ p, a = some p → W'.heap[p.block]? = W.heap[p.block]?) (hz : W.heap.size ≤ W'.heap.size) : Rd W' a xs :=
  ⟨h.1, fun hn => by
    obtain ⟨b, off, e, hl, hc⟩ := h.2 hn
    have hb : W'.heap[b]? = W.heap[b]? := hs _ e
    exact ⟨b, off, e, Nat.lt_of_lt_of_le hl hz, fun i hi => (World.cell?_of_block (a := ⟨b, _, none⟩) hb).trans (hc i hi)⟩⟩
/-- a grove while it is laid: its block, and its first trees -/
structure Gw (wx wr : World) (gb : Nat) (f wy : Int) (wv : Value) (C : List Tc) (x : Value) : Prop where
  gr : wx.grownBy wr (some gb)
  c0 : wr.cell? ⟨gb, 0, none⟩ = some (.int .i64 f)
  c1 : wr.cell? ⟨gb, 1, none⟩ = some (.int .i64 wy)
  c2 : wr.cell? ⟨gb, 2, none⟩ = some wv
  c3 : wr.cell? ⟨gb, 3, none⟩ = some x
  fr : ∀ j, wr.frozen? ⟨gb, j, none⟩ = false
  lt : gb < wx.heap.size
  ox : wr.ownsRow wx.heap.size 123 1 x C.length (C.map tV)
  rd : ∀ c ∈ C, RdN wr c.1 c.2.1
  ap : ∀ c ∈ C, ∀ p, c.1 = some p → wx.heap.size ≤ p.block ∧ p.block < wr.heap.size ∧ x.ownBlock ≠ some p.block
theorem Gw.up {wx wr W : World} {gb : Nat} {f wy : Int} {wv : Value} {C : List Tc} {x : Value} (h : Gw wx wr gb f wy wv C x) (hb : Below wr.heap.size wr W) : Gw wx W gb f wy wv C x := by
  have hl : gb < wr.heap.size := Nat.lt_of_lt_of_le h.lt h.gr.size
  exact ⟨grown_trans h.gr (grown_of hb none) (.inr (fun q hq => by cases hq)), (hb.cell (p := ⟨gb, 0, none⟩) hl).trans h.c0, (hb.cell (p := ⟨gb, 1, none⟩) hl).trans h.c1, (hb.cell (p := ⟨gb, 2, none⟩) hl).trans h.c2, (hb.cell (p := ⟨gb, 3, none⟩) hl).trans h.c3, fun j => (hb.frozen (p := ⟨gb, j, none⟩) hl).trans (h.fr j), h.lt, own_up h.ox hb, fun c hc => (h.rd c hc).below hb, fun c hc p hp => ⟨(h.ap c hc p hp).1, Nat.lt_of_lt_of_le (h.ap c hc p hp).2.1 hb.size, (h.ap c hc p hp).2.2⟩⟩
/-- one more tree: what was made of it lies apart -/
theorem Gw.more {wx w0 wr w6 : World} {gb : Nat} {f wy : Int} {wv : Value} {C : List Tc} {x : Value} (h : Gw wx wr gb f wy wv C x) (hx : ∀ q, x.ownBlock = some q → q < w0.heap.size) (h0 : wx.heap.size ≤ w0.heap.size) (hw : w0.heap.size ≤ wr.heap.size) {a : Option Addr} {ts : List M.Nd} {cp g2 c2 : Nat} {o : Obj} (hne : ts ≠ []) (hr : RdN wr a ts) (ha : ∀ p, a = some p → w0.heap.size ≤ p.block)
    (hg : (wr.alloc o).grownBy w6 x.ownBlock) (ho : w6.ownsRow wx.heap.size 123 1 (.slice (some ⟨g2, 0, none⟩) (C.length + 1) c2) (C.length + 1) (C.map tV ++ [.slice a ts.length cp])) (hor : x.ownBlock = some g2 ∨ g2 = wr.heap.size + 1) :
    Gw wx (w6.setCell ⟨gb, 3, none⟩ (.slice (some ⟨g2, 0, none⟩) (C.length + 1) c2)) gb f wy wv (C ++ [(a, ts, cp)]) (.slice (some ⟨g2, 0, none⟩) (C.length + 1) c2) := by
  have hl := h.lt
  have hs := h.gr.size
  have gz : wr.heap.size + 1 ≤ w6.heap.size := by have := hg.size; simpa using this
  have xb : ∀ q, x.ownBlock = some q → wx.heap.size ≤ q := fun q hq => (h.ox.lt q hq).1
  have blk : ∀ q, q < wr.heap.size → q ≠ gb → x.ownBlock ≠ some q → (w6.setCell ⟨gb, 3, none⟩ (.slice (some ⟨g2, 0, none⟩) (C.length + 1) c2)).heap[q]? = wr.heap[q]? := fun q q1 q2 q3 => (Below.heap_setCell _ _ _ _ q2).trans ((hg.block q (by simp; omega) (fun e => q3 e.symm)).trans (Below.heap_alloc _ _ _ q1))
  have gf : w6.heap[gb]? = wr.heap[gb]? := (hg.block gb (by simp; omega) (fun e => by have := xb gb e.symm; omega)).trans (Below.heap_alloc _ _ _ (by omega))
  have cf : ∀ j, w6.cell? ⟨gb, j, none⟩ = wr.cell? ⟨gb, j, none⟩ := fun j => World.cell?_of_block (a := ⟨gb, j, none⟩) gf
  have so : ∀ (j : Nat), 3 ≠ j → (w6.setCell ⟨gb, 3, none⟩ (.slice (some ⟨g2, 0, none⟩) (C.length + 1) c2)).cell? ⟨gb, j, none⟩ = w6.cell? ⟨gb, j, none⟩ := fun j hj => World.cell?_setCell_other _ _ _ _ (by intro e; cases e; exact hj rfl)
  have sz : (w6.setCell ⟨gb, 3, none⟩ (.slice (some ⟨g2, 0, none⟩) (C.length + 1) c2)).heap.size = w6.heap.size := by simp
  have nb : ∀ p, a = some p → wx.heap.size ≤ p.block ∧ p.block < wr.heap.size ∧ x.ownBlock ≠ some p.block ∧ p.block ≠ g2 := fun p hp => by
    obtain ⟨b, off, e, hl2, _⟩ := hr.2 hne
    have q0 := ha p hp
    rw [hp] at e
    cases e
    have q0' : w0.heap.size ≤ b := q0
    refine ⟨show wx.heap.size ≤ b by omega, hl2, fun e => by have := hx _ e; simp at this; omega, fun e => ?_⟩
    have e' : b = g2 := e
    rcases hor with q | q
    · have := hx _ q; omega
    · omega
  refine ⟨?_, ?_, ?_, ?_, ?_, ?_, hl, ?_, ?_, ?_⟩
  · exact grown_trans (grown_trans (grown_trans h.gr (World.grownBy_alloc wr o none) (.inr (fun q hq => by cases hq))) hg (.inr (fun q hq => xb q hq))) grown_set (.inl rfl)
  · rw [so 0 (by decide), cf]; exact h.c0
  · rw [so 1 (by decide), cf]; exact h.c1
  · rw [so 2 (by decide), cf]; exact h.c2
  · exact World.cell?_setCell_same (u := x) _ _ _ ((cf 3).trans h.c3)
  · intro j
    have : w6.frozen? ⟨gb, j, none⟩ = false := (World.frozen?_of_block (a := ⟨gb, j, none⟩) gf).trans (h.fr j)
    simpa using this
  · have := ownsRow_setCell_below ho (a := ⟨gb, 3, none⟩) hl (.slice (some ⟨g2, 0, none⟩) (C.length + 1) c2)
    rw [List.map_append, List.length_append]
    exact this
  · intro c hc
    rcases List.mem_append.1 hc with q | q
    · exact rdn_keep (h.rd c q) (fun p hp => blk _ (h.ap c q p hp).2.1 (by have := (h.ap c q p hp).1; omega) (h.ap c q p hp).2.2) (by rw [sz]; omega)
    · have e : c = (a, ts, cp) := by simpa using q
      subst e
      exact rdn_keep hr (fun p hp => blk _ (nb p hp).2.1 (by have := (nb p hp).1; omega) (nb p hp).2.2.1) (by rw [sz]; omega)
  · intro c hc p hp
    rw [sz]
    have ow : Value.ownBlock (.slice (some ⟨g2, 0, none⟩) (C.length + 1) c2) = some g2 := rfl
    rw [ow]
    rcases List.mem_append.1 hc with q | q
    · obtain ⟨q1, q2, q3⟩ := h.ap c q p hp
      refine ⟨q1, by omega, fun e => ?_⟩
      cases e
      rcases hor with r | r
      · exact q3 r
      · omega
    · have e : c = (a, ts, cp) := by simpa using q
      subst e
      obtain ⟨q1, q2, q3, q4⟩ := nb p hp
      exact ⟨q1, by omega, fun e => q4 (by cases e; rfl)⟩
theorem gw_begin {w1 : World} {f wy : Int} {wv : Value} (W : World) (e : W = w1.alloc (.cells #[.int .i64 f, .int .i64 wy, wv, .slice none 0 0] 110)) : Gw W W w1.heap.size f wy wv [] (.slice none 0 0) := by
  subst e
  refine ⟨World.grownBy.refl _ _, World.cell?_alloc_at _ _ _ 0 rfl, World.cell?_alloc_at _ _ _ 1 rfl, World.cell?_alloc_at _ _ _ 2 rfl, World.cell?_alloc_at _ _ _ 3 rfl, fun j => ?_, by simp, World.ownsRow_nil _ _ _ _, (fun c hc => by cases hc), (fun c hc => by cases hc)⟩
  unfold World.frozen?
  rw [heap_alloc_new w1 _]
  simp
theorem gw_rdg {wx wr : World} {gb : Nat} {f wy : Int} {ws : List Int} {wa : Option Addr} {wc : Nat} {C : List Tc} {x : Value} (h : Gw wx wr gb f wy (.slice wa ws.length wc) C x) (hw : Rd wr wa ws) (h0 : 0 < C.length) (h12 : C.length ≤ 12) :
    ∃ g c, x = .slice (some ⟨g, 0, none⟩) C.length c ∧ RdG wr ⟨f, wy, wa, ws, wc, some ⟨g, 0, none⟩, C, c⟩ := by
  obtain ⟨g, c, e, hg1, hg2⟩ := h.ox.form h0
  subst e
  refine ⟨g, c, rfl, hw, ?_, h.rd, fun _ => ⟨g, 0, rfl, hg2, fun i hi => ?_⟩⟩
  · show C.length ≤ maxLen
    unfold maxLen; omega
  · have hi' : i < C.length := hi
    rw [Nat.zero_add]
    refine (h.ox.cellAt i (by omega)).trans ?_
    rw [List.getElem?_map, List.getElem?_eq_getElem hi']
    rfl
abbrev nilG : Obj := .cells #[.int .i64 0, .int .i64 0, .slice none 0 0, .slice none 0 0] 110
/-- a block of nothing -/
structure Zf (V : World) (p : Nat) : Prop where
  c0 : V.cell? ⟨p, 0, none⟩ = some (.int .i64 0)
  c1 : V.cell? ⟨p, 1, none⟩ = some (.int .i64 0)
  c2 : V.cell? ⟨p, 2, none⟩ = some (.slice none 0 0)
  c3 : V.cell? ⟨p, 3, none⟩ = some (.slice none 0 0)
  fr : ∀ j, V.frozen? ⟨p, j, none⟩ = false
  sz : p < V.heap.size
theorem zf_made (W : World) : Zf (W.alloc nilG) W.heap.size :=
  ⟨World.cell?_alloc_at _ _ _ 0 rfl, World.cell?_alloc_at _ _ _ 1 rfl, World.cell?_alloc_at _ _ _ 2 rfl, World.cell?_alloc_at _ _ _ 3 rfl, fun j => by
    unfold World.frozen?
    rw [heap_alloc_new W _]
    simp, by simp⟩
theorem Zf.same {V V' : World} {p : Nat} (h : Zf V p) (hs : V'.heap[p]? = V.heap[p]?) (hz : V.heap.size ≤ V'.heap.size) : Zf V' p :=
  ⟨(World.cell?_of_block (a := ⟨p, 0, none⟩) hs).trans h.c0, (World.cell?_of_block (a := ⟨p, 1, none⟩) hs).trans h.c1, (World.cell?_of_block (a := ⟨p, 2, none⟩) hs).trans h.c2, (World.cell?_of_block (a := ⟨p, 3, none⟩) hs).trans h.c3, fun j => (World.frozen?_of_block (a := ⟨p, j, none⟩) hs).trans (h.fr j), Nat.lt_of_lt_of_le h.sz hz⟩
theorem Zf.up {V V' : World} {p : Nat} (h : Zf V p) (hb : Below V.heap.size V V') : Zf V' p := h.same (hb.block p h.sz) hb.size
abbrev put4 (W : World) (p : Nat) (x0 x1 x2 x3 : Value) : World := (((W.setCell ⟨p, 0, none⟩ x0).setCell ⟨p, 1, none⟩ x1).setCell ⟨p, 2, none⟩ x2).setCell ⟨p, 3, none⟩ x3
theorem put4_far {W : World} {p q : Nat} {x0 x1 x2 x3 : Value} (h : q ≠ p) : (put4 W p x0 x1 x2 x3).heap[q]? = W.heap[q]? := by
  unfold put4
  rw [Below.heap_setCell _ _ _ _ h, Below.heap_setCell _ _ _ _ h, Below.heap_setCell _ _ _ _ h, Below.heap_setCell _ _ _ _ h]
theorem put4_size {W : World} {p : Nat} {x0 x1 x2 x3 : Value} : (put4 W p x0 x1 x2 x3).heap.size = W.heap.size := by simp
theorem put4_below {B : Nat} {w W : World} {p : Nat} {x0 x1 x2 x3 : Value} (h : Below B w W) (hp : B ≤ p) : Below B w (put4 W p x0 x1 x2 x3) :=
  (((h.setCell (p := ⟨p, 0, none⟩) hp _).setCell (p := ⟨p, 1, none⟩) hp _).setCell (p := ⟨p, 2, none⟩) hp _).setCell (p := ⟨p, 3, none⟩) hp _
theorem put4_cells {W : World} {p : Nat} {x0 x1 x2 x3 : Value} (z : Zf W p) :
    (put4 W p x0 x1 x2 x3).cell? ⟨p, 0, none⟩ = some x0 ∧ (put4 W p x0 x1 x2 x3).cell? ⟨p, 1, none⟩ = some x1 ∧ (put4 W p x0 x1 x2 x3).cell? ⟨p, 2, none⟩ = some x2 ∧ (put4 W p x0 x1 x2 x3).cell? ⟨p, 3, none⟩ = some x3 ∧ ∀ j, (put4 W p x0 x1 x2 x3).frozen? ⟨p, j, none⟩ = false := by
  have o : ∀ (V : World) (i j : Nat) (v : Value), i ≠ j → (V.setCell ⟨p, i, none⟩ v).cell? ⟨p, j, none⟩ = V.cell? ⟨p, j, none⟩ := fun V i j v hij => World.cell?_setCell_other _ _ _ _ (by intro e; cases e; exact hij rfl)
  have s : ∀ (V : World) (j : Nat) (v u : Value), V.cell? ⟨p, j, none⟩ = some u → (V.setCell ⟨p, j, none⟩ v).cell? ⟨p, j, none⟩ = some v := fun V j v u hu => World.cell?_setCell_same (u := u) _ _ _ hu
  refine ⟨?_, ?_, ?_, ?_, fun j => ?_⟩
  · rw [o _ _ _ _ (by decide), o _ _ _ _ (by decide), o _ _ _ _ (by decide), s _ _ _ _ z.c0]
  · rw [o _ _ _ _ (by decide), o _ _ _ _ (by decide), s _ _ _ (.int .i64 0) (by rw [o _ _ _ _ (by decide)]; exact z.c1)]
  · rw [o _ _ _ _ (by decide), s _ _ _ (.slice none 0 0) (by rw [o _ _ _ _ (by decide), o _ _ _ _ (by decide)]; exact z.c2)]
  · rw [s _ _ _ (.slice none 0 0) (by rw [o _ _ _ _ (by decide), o _ _ _ _ (by decide), o _ _ _ _ (by decide)]; exact z.c3)]
  · have := z.fr j
    simpa using this

theorem set4f {W : World} {p : Nat} {x0 x1 x2 x3 y0 y1 y2 y3 : Value} (h0 : W.cell? ⟨p, 0, none⟩ = some y0) (h1 : W.cell? ⟨p, 1, none⟩ = some y1) (h2 : W.cell? ⟨p, 2, none⟩ = some y2) (h3 : W.cell? ⟨p, 3, none⟩ = some y3) :
    (W.setCell ⟨p, 0, none⟩ x0).cell? ⟨p, 0, none⟩ = some x0 ∧ ((W.setCell ⟨p, 0, none⟩ x0).setCell ⟨p, 1, none⟩ x1).cell? ⟨p, 1, none⟩ = some x1 ∧
    (((W.setCell ⟨p, 0, none⟩ x0).setCell ⟨p, 1, none⟩ x1).setCell ⟨p, 2, none⟩ x2).cell? ⟨p, 2, none⟩ = some x2 ∧
    ((((W.setCell ⟨p, 0, none⟩ x0).setCell ⟨p, 1, none⟩ x1).setCell ⟨p, 2, none⟩ x2).setCell ⟨p, 3, none⟩ x3).cell? ⟨p, 3, none⟩ = some x3 := by
  have o : ∀ (V : World) (i j : Nat) (v : Value), i ≠ j → (V.setCell ⟨p, i, none⟩ v).cell? ⟨p, j, none⟩ = V.cell? ⟨p, j, none⟩ := fun V i j v hij => World.cell?_setCell_other _ _ _ _ (by intro e; cases e; exact hij rfl)
  refine ⟨World.cell?_setCell_same _ _ _ h0, World.cell?_setCell_same (u := y1) _ _ _ ?_, World.cell?_setCell_same (u := y2) _ _ _ ?_, World.cell?_setCell_same (u := y3) _ _ _ ?_⟩
  · rw [o _ _ _ _ (by decide)]; exact h1
  · rw [o _ _ _ _ (by decide), o _ _ _ _ (by decide)]; exact h2
  · rw [o _ _ _ _ (by decide), o _ _ _ _ (by decide), o _ _ _ _ (by decide)]; exact h3
/-- the first part of the work: the grove's block with all but its trees -/
structure Gs (w wx : World) (gb : Nat) (f wy : Int) (ws : List Int) (wa : Option Addr) (wc : Nat) : Prop where
  gw : Gw wx wx gb f wy (.slice wa ws.length wc) [] (.slice none 0 0)
  rw : Rd wx wa ws
  ne : ∀ p, wa = some p → p.block ≠ gb ∧ p.block ≠ w.heap.size
  gn : w.heap.size < gb
  z : Zf wx w.heap.size
  b : Below w.heap.size w wx
theorem gs_a {w w3 : World} {f wy : Int} {ws : List Int} {wa : Option Addr} {wc : Nat} (h0 : 0 < ws.length) (hb : Below ((w.alloc nilG).alloc nilG).drew.heap.size ((w.alloc nilG).alloc nilG).drew w3) (hr : Rd w3 wa ws) (ha : ∀ p, wa = some p → ((w.alloc nilG).alloc nilG).drew.heap.size ≤ p.block) :
    Zf w3 (w.heap.size + 1) ∧ Gs w (put4 w3 (w.heap.size + 1) (.int .i64 f) (.int .i64 wy) (.slice wa ws.length wc) (.slice none 0 0)) (w.heap.size + 1) f wy ws wa wc := by
  have e1 : (w.alloc nilG).heap.size = w.heap.size + 1 := by simp
  have e2 : ((w.alloc nilG).alloc nilG).drew.heap.size = w.heap.size + 1 + 1 := by
    show ((w.alloc nilG).alloc nilG).heap.size = _
    simp
  have z1 : Zf w3 (w.heap.size + 1) := by
    have := ((zf_made (w.alloc nilG)).up (Below.refl _ _).drew).up hb
    rw [e1] at this
    exact this
  have z0 : Zf w3 w.heap.size := ((zf_made w).up (((Below.refl _ _).alloc (Nat.le_refl _) _).drew)).up hb
  have b0 : Below w.heap.size w w3 := below_on ((((Below.refl _ w).alloc (Nat.le_refl _) _).alloc (by simp) _).drew) hb
  have s3 := hb.size
  rw [e2] at s3
  have fresh : ∀ p, wa = some p → p.block ≠ w.heap.size + 1 ∧ p.block ≠ w.heap.size := fun p hp => by
    have := ha p hp
    rw [e2] at this
    omega
  obtain ⟨p0, p1, p2, p3, pf⟩ := put4_cells (x0 := .int .i64 f) (x1 := .int .i64 wy) (x2 := .slice wa ws.length wc) (x3 := .slice none 0 0) z1
  refine ⟨z1, ⟨⟨World.grownBy.refl _ _, p0, p1, p2, p3, pf, by rw [put4_size]; omega, World.ownsRow_nil _ _ _ _, (fun c hc => by cases hc), (fun c hc => by cases hc)⟩, rd_keep hr (fun p hp => put4_far (fresh p hp).1) (by rw [put4_size]; exact Nat.le_refl _), fresh, by omega, z0.same (put4_far (by omega)) (by rw [put4_size]; exact Nat.le_refl _), put4_below b0 (by omega)⟩⟩
theorem gs_b {w w3 : World} {f wy : Int} {ws : List Int} {wa : Option Addr} {wc : Nat} (h0 : 0 < ws.length) (hb : Below (w.alloc nilG).drew.heap.size (w.alloc nilG).drew w3) (hr : Rd w3 wa ws) (ha : ∀ p, wa = some p → (w.alloc nilG).drew.heap.size ≤ p.block) :
    Gs w (w3.alloc (.cells #[.int .i64 f, .int .i64 wy, .slice wa ws.length wc, .slice none 0 0] 110)) w3.heap.size f wy ws wa wc := by
  have e1 : (w.alloc nilG).drew.heap.size = w.heap.size + 1 := by
    show (w.alloc nilG).heap.size = _
    simp
  have z0 : Zf w3 w.heap.size := ((zf_made w).up ((Below.refl _ _).drew)).up hb
  have b0 : Below w.heap.size w w3 := below_on (((Below.refl _ w).alloc (Nat.le_refl _) _).drew) hb
  have s3 := hb.size
  rw [e1] at s3
  have ba : Below w3.heap.size w3 (w3.alloc (.cells #[.int .i64 f, .int .i64 wy, .slice wa ws.length wc, .slice none 0 0] 110)) := (Below.refl _ _).alloc (Nat.le_refl _) _
  refine ⟨⟨World.grownBy.refl _ _, World.cell?_alloc_at _ _ _ 0 rfl, World.cell?_alloc_at _ _ _ 1 rfl, World.cell?_alloc_at _ _ _ 2 rfl, World.cell?_alloc_at _ _ _ 3 rfl, fun j => ?_, by simp, World.ownsRow_nil _ _ _ _, (fun c hc => by cases hc), (fun c hc => by cases hc)⟩, hr.below ba, fun p hp => ?_, by omega, z0.up ba, below_on b0 ba⟩
  · unfold World.frozen?
    rw [heap_alloc_new w3 _]
    simp
  · obtain ⟨b, off, e, hl, _⟩ := hr.2 (by intro e; rw [e] at h0; simp at h0)
    have q := ha p hp
    rw [e1] at q
    rw [hp] at e
    cases e
    have q' : w.heap.size + 1 ≤ b := q
    exact ⟨Nat.ne_of_lt hl, show b ≠ w.heap.size by omega⟩

/-- .. where something was done between -/
theorem gs_a2 {w W1 w3 : World} {f wy : Int} {ws : List Int} {wa : Option Addr} {wc : Nat} (z : Zf W1 w.heap.size) (b : Below w.heap.size w W1) (hb : Below (W1.alloc nilG).drew.heap.size (W1.alloc nilG).drew w3) (hr : Rd w3 wa ws) (ha : ∀ p, wa = some p → (W1.alloc nilG).drew.heap.size ≤ p.block) :
    Zf w3 W1.heap.size ∧ Gs w (put4 w3 W1.heap.size (.int .i64 f) (.int .i64 wy) (.slice wa ws.length wc) (.slice none 0 0)) W1.heap.size f wy ws wa wc := by
  have e2 : (W1.alloc nilG).drew.heap.size = W1.heap.size + 1 := by
    show (W1.alloc nilG).heap.size = _
    simp
  have z1 : Zf w3 W1.heap.size := ((zf_made W1).up (Below.refl _ _).drew).up hb
  have z0 : Zf w3 w.heap.size := (z.up (((Below.refl _ _).alloc (Nat.le_refl _) _).drew)).up hb
  have zz := z.sz
  have b0 : Below w.heap.size w w3 := below_on b (below_on (((Below.refl _ W1).alloc (Nat.le_refl _) _).drew) hb)
  have s3 := hb.size
  rw [e2] at s3
  have fresh : ∀ p, wa = some p → p.block ≠ W1.heap.size ∧ p.block ≠ w.heap.size := fun p hp => by
    have := ha p hp
    rw [e2] at this
    omega
  obtain ⟨p0, p1, p2, p3, pf⟩ := put4_cells (x0 := .int .i64 f) (x1 := .int .i64 wy) (x2 := .slice wa ws.length wc) (x3 := .slice none 0 0) z1
  refine ⟨z1, ⟨⟨World.grownBy.refl _ _, p0, p1, p2, p3, pf, by rw [put4_size]; omega, World.ownsRow_nil _ _ _ _, (fun c hc => by cases hc), (fun c hc => by cases hc)⟩, rd_keep hr (fun p hp => put4_far (fresh p hp).1) (by rw [put4_size]; exact Nat.le_refl _), fresh, by omega, z0.same (put4_far (by omega)) (by rw [put4_size]; exact Nat.le_refl _), put4_below b0 (by omega)⟩⟩
theorem gs_b2 {w W1 w3 : World} {f wy : Int} {ws : List Int} {wa : Option Addr} {wc : Nat} (h0 : 0 < ws.length) (z : Zf W1 w.heap.size) (b : Below w.heap.size w W1) (hb : Below W1.drew.heap.size W1.drew w3) (hr : Rd w3 wa ws) (ha : ∀ p, wa = some p → W1.drew.heap.size ≤ p.block) :
    Gs w (w3.alloc (.cells #[.int .i64 f, .int .i64 wy, .slice wa ws.length wc, .slice none 0 0] 110)) w3.heap.size f wy ws wa wc := by
  have e1 : W1.drew.heap.size = W1.heap.size := rfl
  have z0 : Zf w3 w.heap.size := (z.up ((Below.refl _ _).drew)).up hb
  have zz := z.sz
  have b0 : Below w.heap.size w w3 := below_on b (below_on ((Below.refl _ W1).drew) hb)
  have s3 := hb.size
  rw [e1] at s3
  have ba : Below w3.heap.size w3 (w3.alloc (.cells #[.int .i64 f, .int .i64 wy, .slice wa ws.length wc, .slice none 0 0] 110)) := (Below.refl _ _).alloc (Nat.le_refl _) _
  refine ⟨⟨World.grownBy.refl _ _, World.cell?_alloc_at _ _ _ 0 rfl, World.cell?_alloc_at _ _ _ 1 rfl, World.cell?_alloc_at _ _ _ 2 rfl, World.cell?_alloc_at _ _ _ 3 rfl, fun j => ?_, by simp, World.ownsRow_nil _ _ _ _, (fun c hc => by cases hc), (fun c hc => by cases hc)⟩, hr.below ba, fun p hp => ?_, by omega, z0.up ba, below_on b0 ba⟩
  · unfold World.frozen?
    rw [heap_alloc_new w3 _]
    simp
  · obtain ⟨b, off, e, hl, _⟩ := hr.2 (by intro e; rw [e] at h0; simp at h0)
    have q := ha p hp
    rw [e1] at q
    rw [hp] at e
    cases e
    have q' : W1.heap.size ≤ b := q
    exact ⟨Nat.ne_of_lt hl, show b ≠ w.heap.size by omega⟩

/-- the grove, as it is handed back -/
theorem gw_done {w wx wr : World} {gb : Nat} {f wy : Int} {ws : List Int} {wa : Option Addr} {wc : Nat} {C : List Tc} {x : Value} (s : Gs w wx gb f wy ws wa wc) (h : Gw wx wr gb f wy (.slice wa ws.length wc) C x) (h0 : 0 < C.length) (h12 : C.length ≤ 12) (hw0 : 0 < ws.length) (y0 y1 y2 y3 : Value) :
    ∃ g c, x = .slice (some ⟨g, 0, none⟩) C.length c ∧ Zf wr w.heap.size ∧ RdG (put4 wr w.heap.size y0 y1 y2 y3) ⟨f, wy, wa, ws, wc, some ⟨g, 0, none⟩, C, c⟩ ∧ Below w.heap.size w (put4 wr w.heap.size y0 y1 y2 y3) := by
  have gs := h.gr.size
  have rz := s.z.sz
  obtain ⟨g, c, e, hg1, hg2⟩ := h.ox.form h0
  subst e
  have far : ∀ q, q ≠ w.heap.size → (put4 wr w.heap.size y0 y1 y2 y3).heap[q]? = wr.heap[q]? := fun q hq => put4_far hq
  refine ⟨g, c, rfl, s.z.same (h.gr.block _ rz (fun e => by have := s.gn; cases e; omega)) gs, ⟨rd_keep s.rw (fun p hp => ?_) (by rw [put4_size]; exact gs), ?_, ?_, fun _ => ⟨g, 0, rfl, by rw [put4_size]; exact hg2, fun i hi => ?_⟩⟩, put4_below (s.b.grown h.gr s.b.size (fun k hk => by cases hk; have := s.gn; omega)) (Nat.le_refl _)⟩
  · obtain ⟨n1, n2⟩ := s.ne p hp
    have hp' : wa = some p := hp
    obtain ⟨b, off, e, hl, _⟩ := s.rw.2 (by intro e; rw [e] at hw0; simp at hw0)
    rw [hp'] at e
    cases e
    exact (far _ n2).trans (h.gr.block _ hl (fun e => n1 (by cases e; rfl)))
  · show C.length ≤ maxLen
    unfold maxLen; omega
  · intro c' hc
    have hc' : c' ∈ C := hc
    exact rdn_keep (h.rd c' hc') (fun p hp => far _ (by have := (h.ap c' hc' p hp).1; omega)) (by rw [put4_size]; exact Nat.le_refl _)
  · have hi' : i < C.length := hi
    rw [Nat.zero_add]
    refine (World.cell?_of_block (a := ⟨g, i, none⟩) (far g (by omega))).trans ((h.ox.cellAt i (by omega)).trans ?_)
    rw [List.getElem?_map, List.getElem?_eq_getElem hi']
    rfl
theorem kept_four {w W : World} {a0 a1 a2 a3 : Value} {t : TypeId} (h : Below (w.alloc (.cells #[a0, a1, a2, a3] t)).heap.size (w.alloc (.cells #[a0, a1, a2, a3] t)) W) :
    W.cell? ⟨w.heap.size, 0, none⟩ = some a0 ∧ W.cell? ⟨w.heap.size, 1, none⟩ = some a1 ∧ W.cell? ⟨w.heap.size, 2, none⟩ = some a2 ∧ W.cell? ⟨w.heap.size, 3, none⟩ = some a3 := by
  have hs : w.heap.size < (w.alloc (.cells #[a0, a1, a2, a3] t)).heap.size := by simp
  exact ⟨(h.cell (p := ⟨w.heap.size, 0, none⟩) hs).trans (World.cell?_alloc_at _ _ _ 0 rfl), (h.cell (p := ⟨w.heap.size, 1, none⟩) hs).trans (World.cell?_alloc_at _ _ _ 1 rfl), (h.cell (p := ⟨w.heap.size, 2, none⟩) hs).trans (World.cell?_alloc_at _ _ _ 2 rfl), (h.cell (p := ⟨w.heap.size, 3, none⟩) hs).trans (World.cell?_alloc_at _ _ _ 3 rfl)⟩

abbrev leaf7Obj : Obj := .cells #[.int .i64 (-1), .int .i64 0, .int .i64 0, .int .i64 0, .bool false, .int .i64 7] 158
/-- one leaf that says 7, where it is laid behind a block -/
theorem leaf7_rdn (w : World) : RdN (w.alloc leaf7Obj) (some ⟨w.heap.size, 0, none⟩) [(-1, 0, 0, 0, false, 7)] := by
  refine ⟨by show 1 ≤ maxLen; unfold maxLen; decide, fun _ => ⟨w.heap.size, 0, rfl, by simp, fun i hi => ?_⟩⟩
  have c : ∀ j, (w.alloc leaf7Obj).cell? ⟨w.heap.size, j, none⟩ = _ := fun j => World.cell?_alloc_at _ _ _ j rfl
  have hi' : i < 1 := hi
  rcases i with _ | i
  · exact ⟨c _, c _, c _, c _, c _, c _⟩
  · omega
/-- the grove of one such leaf -/
abbrev one7W (w : World) (n : Nat) : World := ((w.alloc leaf7Obj).alloc (.cells #[.int .i64 1] 3)).alloc (.cells #[.slice (some ⟨n, 0, none⟩) 1 1] 123)
def one7G (n : Nat) : Gr := ⟨0, 3, some ⟨n + 1, 0, none⟩, [1], 1, some ⟨n + 1 + 1, 0, none⟩, [(some ⟨n, 0, none⟩, [(-1, 0, 0, 0, false, 7)], 1)], 1⟩
theorem one7_rdg (w : World) (n : Nat) (hn : n = w.heap.size) : RdG (one7W w n) (one7G n) := by
  subst hn
  have b1 : Below (w.alloc leaf7Obj).heap.size (w.alloc leaf7Obj) (one7W w w.heap.size) := (((Below.refl _ (w.alloc leaf7Obj)).alloc (Nat.le_refl _) _).alloc (by simp) _)
  have b2 : Below ((w.alloc leaf7Obj).alloc (.cells #[.int .i64 1] 3)).heap.size ((w.alloc leaf7Obj).alloc (.cells #[.int .i64 1] 3)) (one7W w w.heap.size) := (Below.refl _ _).alloc (Nat.le_refl _) _
  refine ⟨?_, by show 1 ≤ maxLen; unfold maxLen; decide, ?_, fun _ => ⟨w.heap.size + 1 + 1, 0, rfl, by simp, fun i hi => ?_⟩⟩
  · have := (one_rd (w.alloc leaf7Obj) 1 3).below b2
    simpa [one7G] using this
  · intro k hk
    have e : k = (some ⟨w.heap.size, 0, none⟩, [(-1, 0, 0, 0, false, 7)], 1) := by simpa [one7G] using hk
    subst e
    exact (leaf7_rdn w).below b1
  · have hi' : i < 1 := hi
    rcases i with _ | i
    · exact World.cell?_alloc_at _ _ _ 0 (by simp)
    · omega
end Go.Proofs.YtodidokeblblgaaGreat
