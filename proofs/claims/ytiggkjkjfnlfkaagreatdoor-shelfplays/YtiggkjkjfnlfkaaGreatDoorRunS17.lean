/-
  Several texts as one: RefQd, CdDec, GrSame, CaOpen.
-/
import Derived.Test.YtiggkjkjfnlfkaaGreatDoorRunS1
import Derived.Test.YtiggkjkjfnlfkaaGreatDoorRunS7
import Derived.Test.YtiggkjkjfnlfkaaGreatDoorRunS15
import Derived.Test.YtiggkjkjfnlfkaaGreatDoorRunS16
import Derived.Test.YtiggkjkjfnlfkaaGreatDoorRunS2
import Derived.Test.YtiggkjkjfnlfkaaGreatDoorRunS13
import Derived.Deep.Cut
import Derived.Deep.CutRange
import Derived.Deep.RegionWith
import Derived.RegionTactic
import Derived.Test.YtiggkjkjfnlfkaaGreatDoorRunS9
import Derived.ChangeSame
import Derived.Deep.AppendLies
import Derived.Lib.SmallJoins
namespace Go.Proofs.YtiggkjkjfnlfkaaGreatDoor
open Go.ChangeShapes Go.WideShapes Go.ChangeAt Go.RowKit Go.Lib
set_option linter.unusedVariables false
def RGrvGives : Prop := ∀ (G : Gr) (W : World), RdG W G → Calls Tryz.prog 107 #[G.v] W fun e w' => e = .returned (.int .i64 (M.groveF G.m)) ∧ Below W.heap.size W w'
def RDecGives : Prop := ∀ (a : Option Addr) (bs : List Nat) (c : Nat) (W : World), RdB W a bs → bs.length ≤ c → c ≤ 9223372036854775807 → Calls Tryz.prog 79 #[.slice a bs.length c] W fun e w' => ∃ O : Gr, e = .returned (.tuple #[O.v, .int .i64 ((M.decF bs).1 : Nat), .int .i64 (M.decF bs).2]) ∧ O.m = M.decV bs ∧ RdG w' O ∧ Below W.heap.size W w'
theorem M.lAll_fin (b : List Nat) : (M.lAll b).2.fin ≤ b.length := by
  have f : ∀ (k : Nat) {s : M.In}, s.fin ≤ b.length → (M.lTrees b k s).2.fin ≤ b.length := by
    intro k
    induction k with
    | zero => intro s h; exact h
    | succ k ih => intro s h; exact ih (M.lNodes_fin _ (M.rMany_fin (M.rNum_fin h)))
  refine f _ ?_
  exact M.rMany_fin (M.rNum_fin (M.rNum_fin (Nat.zero_le _)))
/-- what is wrong with a grove that was read -/
def M.wrF (b : List Nat) : Int := if (M.lAll b).2.bad ≠ 0 then (M.lAll b).2.bad else if (M.lAll b).2.fin < b.length then 2 else M.groveF (M.lGrove b)
theorem M.dec_is (b : List Nat) (h : ¬ 6000 < b.length) : M.decF b = (if M.wrF b = 0 then (0, 0) else (M.lat (M.lAll b).2, M.wrF b)) ∧ (M.wrF b = 0 → M.decV b = M.lGrove b) := by
  have a := M.lAll_is b
  have f := M.lAll_fin b
  have e : M.decF b = if (M.rAll b).2.bad ≠ 0 then ((M.rAll b).2.at', (M.rAll b).2.bad) else if (M.rAll b).2.fin ≠ b.length then ((M.rAll b).2.fin, 2) else if M.groveF (M.rGrove b) ≠ 0 then ((M.rAll b).2.fin, M.groveF (M.rGrove b)) else (0, 0) := by
    unfold M.decF; rw [if_neg h]
  unfold M.decV
  rw [e]
  unfold M.wrF M.lat
  rw [a.1] at f ⊢
  by_cases q : (M.rAll b).2.bad = 0
  · rw [if_neg (by simp [q])]
    simp only [if_neg (show ¬ (M.rAll b).2.bad ≠ 0 by simp [q]), if_pos q]
    rw [a.2 q]
    by_cases r : (M.rAll b).2.fin < b.length
    · rw [if_pos (by omega), if_pos r]
      exact ⟨rfl, fun z => absurd z (by decide)⟩
    · rw [if_neg (by omega), if_neg r]
      by_cases t : M.groveF (M.rGrove b) = 0
      · rw [if_neg (by simp [t]), t]
        exact ⟨rfl, fun _ => rfl⟩
      · rw [if_pos t, if_neg t]
        exact ⟨rfl, fun z => absurd z t⟩
  · rw [if_pos q]
    simp only [if_pos q, if_neg q]
    exact ⟨by first | rfl | trivial, fun z => absurd z (by first | exact q | trivial)⟩

set_option maxHeartbeats 16000000 in
set_option maxRecDepth 10000 in
theorem wrongR {w : World} {g : Nat} {a : Option Addr} {bs : List Nat} {c : Nat} {O : Gr} (h : Rdr w g a bs c (M.lAll bs).2) (ho : RdG w O) (hm : O.m = M.lGrove bs) : Calls Tryz.prog 153 #[.pointer (some ⟨g, 0, none⟩), O.v] w fun e w' => e = .returned (errV (M.wrF bs)) ∧ Below w.heap.size w w' := by
  have B0 : Hid (∀ o, Below w.heap.size w (w.alloc o)) := fun o => (Below.refl _ w).alloc (Nat.le_refl _) o
  have EW : Hid (M.wrF bs = if (M.lAll bs).2.bad ≠ 0 then (M.lAll bs).2.bad else if (M.lAll bs).2.fin < bs.length then 2 else M.groveF O.m) := by rw [hm]; exact rfl
  have GC := hide (fun W (hW : Below w.heap.size w W) => gcheck_any O W (ho.below hW))
  have gl := h.lt
  have ml := h.rd.1
  have fl := h.fin
  generalize (M.lAll bs).2 = s at *
  generalize M.wrF bs = WF at *
  have y0 := h.box.c0
  have y1 := h.box.c1
  have y2 := h.box.c2
  have A0 := fun o => ((B0.out o).cell (p := ⟨g, 0, none⟩) gl).trans y0
  have A1 := fun o => ((B0.out o).cell (p := ⟨g, 1, none⟩) gl).trans y1
  have A2 := fun o => ((B0.out o).cell (p := ⟨g, 2, none⟩) gl).trans y2
  have BB : bs.length ≤ 9223372036854775807 := ml
  unfold Gr.v at GC ⊢
  clear h ho hm y0 y1 y2 ml
  by_cases q : s.bad = 0
  · rw [if_neg (by simp [q])] at EW
    rw [err_nil q] at A2
    rw [show M.lat s = s.fin from if_pos q] at A1
    have Q := hide q
    clear q
    by_cases r : s.fin < bs.length
    · have EW2 : Hid (WF = 2) := by unfold Hid; rw [EW.out, if_pos r]
      have t1 : decide ((s.fin : Int) < (bs.length : Int)) = true := decide_eq_true (by omega)
      have t2 : decide (s.fin < bs.length) = true := decide_eq_true r
      clear EW GC r
      go_enter Tryz.func153, Tryz.ntmps153
      go_upto_region 3 with fail
      go_quiet (fail)
      have K2 := hide (below_drew (B0.out (.cells #[.int .i64 O.f, .int .i64 O.w, .slice O.wa O.ws.length O.wc, .slice O.ta O.ks.length O.tc] 53)) nq (by simp))
      go_wp2
      go_ret
      exact ⟨by rw [EW2.out]; rfl, K2.out⟩
    · have EW2 : Hid (WF = M.groveF O.m) := by unfold Hid; rw [EW.out, if_neg r]
      have t1 : decide ((s.fin : Int) < (bs.length : Int)) = false := decide_eq_false (by omega)
      have t2 : decide (s.fin < bs.length) = false := decide_eq_false r
      clear EW r
      go_enter Tryz.func153, Tryz.ntmps153
      go_upto_region 3 with fail
      go_quiet (fail)
      have K2 := hide (below_drew (B0.out (.cells #[.int .i64 O.f, .int .i64 O.w, .slice O.wa O.ws.length O.wc, .slice O.ta O.ks.length O.tc] 53)) nq (by simp))
      go_wp2_with (go_at_call 187; refine (GC.out _ K2.out).mono ?_; rintro e w3 ⟨rfl, hb3⟩; have K3 := hide (below_on K2.out hb3); clear hb3)
      go_ret
      exact ⟨by rw [EW2.out]; rfl, K3.out⟩
  · rw [if_pos q] at EW
    rw [err_some q] at A2
    have Q := hide q
    clear GC q
    go_enter Tryz.func153, Tryz.ntmps153
    go_wp2
    go_ret
    exact ⟨by rw [EW.out, err_some Q.out]; rfl, B0.out _⟩

def Gr.no : Gr := ⟨0, 0, none, [], 0, none, [], 0⟩
/-- Decode's grove lies in blocks that are new -/
def CdDecNew : Prop := ∀ (a : Option Addr) (bs : List Nat) (c : Nat) (W : World), RdB W a bs → bs.length ≤ c → c ≤ 9223372036854775807 → Calls Tryz.prog 112 #[.slice a bs.length c] W fun e w' => ∃ O : Gr, e = .returned (.tuple #[O.v, .int .i64 ((M.decF bs).1 : Nat), errV (M.decF bs).2]) ∧ O.m = M.decV bs ∧ NewH W w' O ∧ Below W.heap.size W w'
theorem Gr.no_rd (W : World) : RdG W Gr.no := ⟨⟨Nat.zero_le _, fun h => absurd rfl h⟩, ⟨Nat.zero_le _, (fun k hk => by cases hk), fun h => absurd rfl h⟩⟩
theorem box4 {w W : World} {t : TypeId} {x0 x1 x2 x3 : Value} (hb : Below (w.alloc (.cells #[x0, x1, x2, x3] t)).heap.size (w.alloc (.cells #[x0, x1, x2, x3] t)) W) : (W.cell? ⟨w.heap.size, 0, none⟩ = some x0 ∧ W.cell? ⟨w.heap.size, 1, none⟩ = some x1 ∧ W.cell? ⟨w.heap.size, 2, none⟩ = some x2 ∧ W.cell? ⟨w.heap.size, 3, none⟩ = some x3) ∧ ∀ j, W.frozen? ⟨w.heap.size, j, none⟩ = false := by
  have k := new_kept rfl hb
  exact ⟨⟨k.1 0 _ rfl, k.1 1 _ rfl, k.1 2 _ rfl, k.1 3 _ rfl⟩, k.2⟩

set_option maxHeartbeats 16000000 in
set_option maxRecDepth 10000 in
theorem cddec_new : CdDecNew := by
  intro a bs c w h hc h63
  have bl : bs.length ≤ 9223372036854775807 := h.1
  by_cases big : 6000 < bs.length
  · have E1 : Hid (M.decF bs = (0, 4)) := by unfold Hid M.decF; rw [if_pos big]
    have E2 : Hid (M.decV bs = (0, 0, [], [])) := by unfold Hid M.decV; rw [E1.out]; rfl
    have t1 : decide ((6000 : Int) < (bs.length : Int)) = true := decide_eq_true (by omega)
    have t2 : decide (6000 < bs.length) = true := decide_eq_true big
    obtain ⟨⟨y0, y1, y2, y3⟩, yf⟩ := box4 (w := w) (t := 53) (x0 := .int .i64 0) (x1 := .int .i64 0) (x2 := .slice none 0 0) (x3 := .slice none 0 0) (Below.refl _ _)
    have K4 := hide (lay4 (x0 := .int .i64 0) (x1 := .int .i64 0) (x2 := .slice none 0 0) (x3 := .slice none 0 0) ((Below.refl _ w).alloc (Nat.le_refl _) (.cells #[.int .i64 0, .int .i64 0, .slice none 0 0, .slice none 0 0] 53)) (Nat.le_refl _))
    obtain ⟨e0, e1, e2, e3⟩ := put4_at (x0 := .int .i64 0) (x1 := .int .i64 0) (x2 := .slice none 0 0) (x3 := .slice none 0 0) y0 y1 y2 y3
    clear h hc big
    go_enter Tryz.func112, Tryz.ntmps112
    go_wp2
    refine bodyPost_ret (v := .tuple #[.agg #[.int .i64 0, .int .i64 0, .slice none 0 0, .slice none 0 0], .int .i64 0, .iface 90 (.int .i64 4)]) (by simp [results, Tryz.results112, go_sem, y0, y1, y2, y3]) rfl ?_
    exact ⟨Gr.no, by rw [E1.out]; rfl, by rw [E2.out]; rfl, (fun _ _ _ => Gr.no_rd _), (Below.refl _ w).alloc (Nat.le_refl _) _⟩
  · have D := hide (M.dec_is bs big)
    have t1 : decide ((6000 : Int) < (bs.length : Int)) = false := decide_eq_false (by omega)
    have t2 : decide (6000 < bs.length) = false := decide_eq_false big
    obtain ⟨W1, hW1⟩ : ∃ X, X = (w.alloc (.cells #[.int .i64 0, .int .i64 0, .slice none 0 0, .slice none 0 0] 53)).alloc (.cells #[.slice a bs.length c, .int .i64 0, .nilIface] 222) := ⟨_, rfl⟩
    have z1 : W1.heap.size = w.heap.size + 1 + 1 := by rw [hW1]; simp
    have bw1 : Below w.heap.size w W1 := by rw [hW1]; exact ((Below.refl _ w).alloc (Nat.le_refl _) _).alloc (by simp) _
    have k0 : Hid ((W1.cell? ⟨w.heap.size, 0, none⟩ = some (.int .i64 0) ∧ W1.cell? ⟨w.heap.size, 1, none⟩ = some (.int .i64 0) ∧ W1.cell? ⟨w.heap.size, 2, none⟩ = some (.slice none 0 0) ∧ W1.cell? ⟨w.heap.size, 3, none⟩ = some (.slice none 0 0)) ∧ ∀ j, W1.frozen? ⟨w.heap.size, j, none⟩ = false) := by
      rw [hW1]; exact box4 ((Below.refl _ _).alloc (Nat.le_refl _) _)
    have R0 : Hid (Rdr W1 (w.heap.size + 1) a bs c M.in0) := by
      have k := new_kept (w := w.alloc (.cells #[.int .i64 0, .int .i64 0, .slice none 0 0, .slice none 0 0] 53)) (cs := #[.slice a bs.length c, .int .i64 0, .nilIface]) (t := 222) rfl (Below.refl _ _)
      rw [← hW1] at k
      have es : (w.alloc (.cells #[.int .i64 0, .int .i64 0, .slice none 0 0, .slice none 0 0] 53)).heap.size = w.heap.size + 1 := by simp
      rw [es] at k
      refine ⟨⟨k.1 0 _ rfl, k.1 1 _ rfl, k.1 2 _ rfl, k.2⟩, h.below bw1, hc, h63, Nat.zero_le _, fun hn p hp e => ?_⟩
      obtain ⟨b, off, e2, hl, _⟩ := h.2.2 hn
      rw [hp] at e2
      cases e2
      simp at e
      omega
    have GR := hide (groveR R0.out)
    have GL := hide R0.out.lt
    have WR := hide (fun (W : World) (O : Gr) (h1 : Rdr W (w.heap.size + 1) a bs c (M.lAll bs).2) (h2 : RdG W O) (h3 : O.m = M.lGrove bs) => wrongR h1 h2 h3)
    unfold Gr.v at GR WR
    have Z1 := hide z1
    have BW1 := hide bw1
    have DE : Hid ((M.decF bs).2 ≠ 0 → M.decV bs = (0, 0, [], [])) := fun z => by unfold M.decV; rw [if_neg z]
    generalize M.wrF bs = WF at *
    generalize M.decF bs = DF at *
    generalize M.decV bs = DV at *
    generalize M.lAll bs = LA at *
    generalize M.lGrove bs = LG at *
    have HW1 := hide hW1
    clear h hc big z1 bw1 bl h63 hW1
    have AFT : Hid (∀ (w1 w3 : World) (O : Gr), W1.grownBy w1 (some (w.heap.size + 1)) → NewH W1 w1 O → Below (w1.alloc (.cells #[.int .i64 O.f, .int .i64 O.w, .slice O.wa O.ws.length O.wc, .slice O.ta O.ks.length O.tc] 53)).heap.size (w1.alloc (.cells #[.int .i64 O.f, .int .i64 O.w, .slice O.wa O.ws.length O.wc, .slice O.ta O.ks.length O.tc] 53)) w3 → ((w3.cell? ⟨w.heap.size, 0, none⟩ = some (.int .i64 0) ∧ w3.cell? ⟨w.heap.size, 1, none⟩ = some (.int .i64 0) ∧ w3.cell? ⟨w.heap.size, 2, none⟩ = some (.slice none 0 0) ∧ w3.cell? ⟨w.heap.size, 3, none⟩ = some (.slice none 0 0)) ∧ ∀ j, w3.frozen? ⟨w.heap.size, j, none⟩ = false) ∧ Below w.heap.size w w3 ∧ ∀ W2, w3.grownBy W2 (some w.heap.size) → NewH w W2 O) := by
      intro w1 w3 O hg hn hb
      have zz := Z1.out
      have hs := hg.size
      have b1 : Below w1.heap.size w1 w3 := below_on ((Below.refl _ w1).alloc (Nat.le_refl _) _) hb
      have e3 : w3.heap[w.heap.size]? = W1.heap[w.heap.size]? := (b1.block _ (by omega)).trans (hg.block _ (by omega) (fun e => by rw [Option.some.injEq] at e; omega))
      obtain ⟨⟨y0, y1, y2, y3⟩, yf⟩ := k0.out
      refine ⟨⟨⟨(World.cell?_of_block (a := ⟨w.heap.size, 0, none⟩) e3).trans y0, (World.cell?_of_block (a := ⟨w.heap.size, 1, none⟩) e3).trans y1, (World.cell?_of_block (a := ⟨w.heap.size, 2, none⟩) e3).trans y2, (World.cell?_of_block (a := ⟨w.heap.size, 3, none⟩) e3).trans y3⟩, fun j => (World.frozen?_of_block (a := ⟨w.heap.size, j, none⟩) e3).trans (yf j)⟩, ?_, fun W'' hg'' => ?_⟩
      · exact below_on (BW1.out.grown hg (by omega) (fun k hk => by cases hk; omega)) b1
      · intro W3 hz3 hc3
        refine hn W3 (by have := b1.size; have := hg''.size; omega) (fun b h1 h2 => (hc3 b (by omega) (by have := b1.size; have := hg''.size; omega)).trans ((hg''.block b (by have := b1.size; omega) (fun e => by cases e; omega)).trans (b1.block b h2)))
    by_cases q : WF = 0
    · have E1 : Hid (DF = (0, 0)) := by unfold Hid; rw [D.out.1, if_pos q]
      have E2 : Hid (DV = LG) := D.out.2 q
      rw [err_nil q] at WR
      clear D q k0
      go_enter Tryz.func112, Tryz.ntmps112
      go_upto_region 4 with fail
      rw [← HW1.out]
      clear HW1
      go_upto_region 5 with (go_at_call 152; refine GR.out.mono ?_; rintro e w1 ⟨O, rfl, om, nh, rr, gg⟩; have OM := hide om; have NH := hide nh; have RR := hide rr; have GG := hide gg; clear om nh rr gg)
      have RG : Hid (RdG (w1.alloc (.cells #[.int .i64 O.f, .int .i64 O.w, .slice O.wa O.ws.length O.wc, .slice O.ta O.ks.length O.tc] 53)) O) := NH.out _ (by simp) (fun b h1 h2 => ((Below.refl _ w1).alloc (Nat.le_refl _) _).block b h2)
      have RA := hide (RR.out.alloc (.cells #[.int .i64 O.f, .int .i64 O.w, .slice O.wa O.ws.length O.wc, .slice O.ta O.ks.length O.tc] 53))
      go_upto_region 8 with (go_at_call 153; refine (WR.out _ O RA.out RG.out OM.out).mono ?_; rintro e w3 ⟨rfl, hb3⟩; have B3 := hide hb3; clear hb3)
      obtain ⟨⟨⟨x0, x1, x2, x3⟩, xf⟩, kw, rg⟩ := AFT.out w1 w3 O GG.out NH.out B3.out
      obtain ⟨⟨u0, u1, u2, u3⟩, uf⟩ := box4 B3.out
      have f0 := xf 0
      have f1 := xf 1
      have f2 := xf 2
      have f3 := xf 3
      have KW := hide kw
      have RGH := hide rg
      clear xf uf kw rg
      go_wp2
      obtain ⟨e0, e1, e2, e3⟩ := put4_at (x0 := .int .i64 O.f) (x1 := .int .i64 O.w) (x2 := .slice O.wa O.ws.length O.wc) (x3 := .slice O.ta O.ks.length O.tc) x0 x1 x2 x3
      refine bodyPost_ret (v := .tuple #[.agg #[.int .i64 O.f, .int .i64 O.w, .slice O.wa O.ws.length O.wc, .slice O.ta O.ks.length O.tc], .int .i64 0, .nilIface]) (by simp [results, Tryz.results112, go_sem, e0, e1, e2, e3]) rfl ?_
      exact ⟨O, by rw [E1.out]; rfl, by rw [E2.out]; exact OM.out, RGH.out _ grown4_at, lay4 KW.out (Nat.le_refl _)⟩
    · have E1 : Hid (DF = (M.lat LA.2, WF)) := by unfold Hid; rw [D.out.1, if_neg q]
      have E2 : Hid (DV = (0, 0, [], [])) := DE.out (by rw [E1.out]; exact q)
      rw [err_some q] at WR
      have Q := hide q
      clear D q k0
      go_enter Tryz.func112, Tryz.ntmps112
      go_upto_region 4 with fail
      rw [← HW1.out]
      clear HW1
      go_upto_region 5 with (go_at_call 152; refine GR.out.mono ?_; rintro e w1 ⟨O, rfl, om, nh, rr, gg⟩; have OM := hide om; have NH := hide nh; have RR := hide rr; have GG := hide gg; clear om nh rr gg)
      have RG : Hid (RdG (w1.alloc (.cells #[.int .i64 O.f, .int .i64 O.w, .slice O.wa O.ws.length O.wc, .slice O.ta O.ks.length O.tc] 53)) O) := NH.out _ (by simp) (fun b h1 h2 => ((Below.refl _ w1).alloc (Nat.le_refl _) _).block b h2)
      have RA := hide (RR.out.alloc (.cells #[.int .i64 O.f, .int .i64 O.w, .slice O.wa O.ws.length O.wc, .slice O.ta O.ks.length O.tc] 53))
      go_upto_region 7 with (go_at_call 153; refine (WR.out _ O RA.out RG.out OM.out).mono ?_; rintro e w3 ⟨rfl, hb3⟩; have B3 := hide hb3; clear hb3)
      obtain ⟨⟨⟨x0, x1, x2, x3⟩, xf⟩, kw, rg⟩ := AFT.out w1 w3 O GG.out NH.out B3.out
      have u1 := (RA.out.up B3.out).box.c1
      have f0 := xf 0
      have f1 := xf 1
      have f2 := xf 2
      have f3 := xf 3
      have KW := hide kw
      clear xf kw rg
      go_region_with (fail)
      all_goals (
        go_simp
        go_wp2
        obtain ⟨e0, e1, e2, e3⟩ := put4_at (x0 := .int .i64 0) (x1 := .int .i64 0) (x2 := .slice none 0 0) (x3 := .slice none 0 0) x0 x1 x2 x3
        refine bodyPost_ret (v := .tuple #[.agg #[.int .i64 0, .int .i64 0, .slice none 0 0, .slice none 0 0], .int .i64 ((M.lat LA.2 : Nat) : Int), .iface 90 (.int .i64 WF)]) (by simp [results, Tryz.results112, go_sem, e0, e1, e2, e3]) rfl ?_
        exact ⟨Gr.no, by rw [E1.out, err_some Q.out]; rfl, by rw [E2.out]; rfl, (fun _ _ _ => Gr.no_rd _), (lay4 KW.out (Nat.le_refl _)).drew⟩)

theorem cddec_any : CdDecGives := fun a bs c W h1 h2 h3 => (cddec_new a bs c W h1 h2 h3).mono (by
  rintro e w' ⟨O, g1, g2, g3, g4⟩
  exact ⟨O, g1, g2, g3 w' (Nat.le_refl _) (fun _ _ _ => rfl), g4⟩)
theorem kept_both {w W : World} {a0 a1 a2 a3 b0 b1 b2 b3 : Value} {t u : TypeId} (h : Below ((w.alloc (.cells #[a0, a1, a2, a3] t)).alloc (.cells #[b0, b1, b2, b3] u)).heap.size ((w.alloc (.cells #[a0, a1, a2, a3] t)).alloc (.cells #[b0, b1, b2, b3] u)) W) :
    (W.cell? ⟨w.heap.size, 0, none⟩ = some a0 ∧ W.cell? ⟨w.heap.size, 1, none⟩ = some a1 ∧ W.cell? ⟨w.heap.size, 3, none⟩ = some a3) ∧
    (W.cell? ⟨w.heap.size + 1, 0, none⟩ = some b0 ∧ W.cell? ⟨w.heap.size + 1, 1, none⟩ = some b1 ∧ W.cell? ⟨w.heap.size + 1, 3, none⟩ = some b3) := by
  have e : (w.alloc (.cells #[a0, a1, a2, a3] t)).heap.size = w.heap.size + 1 := by simp
  have h2 : Below (w.alloc (.cells #[a0, a1, a2, a3] t)).heap.size (w.alloc (.cells #[a0, a1, a2, a3] t)) W := below_on ((Below.refl _ _).alloc (Nat.le_refl _) _) h
  have hs : w.heap.size < (w.alloc (.cells #[a0, a1, a2, a3] t)).heap.size := by simp
  have hs2 : w.heap.size + 1 < ((w.alloc (.cells #[a0, a1, a2, a3] t)).alloc (.cells #[b0, b1, b2, b3] u)).heap.size := by simp
  have c : ∀ j, (w.alloc (.cells #[a0, a1, a2, a3] t)).cell? ⟨w.heap.size, j, none⟩ = _ := fun j => World.cell?_alloc_at _ _ _ j rfl
  have d : ∀ j, ((w.alloc (.cells #[a0, a1, a2, a3] t)).alloc (.cells #[b0, b1, b2, b3] u)).cell? ⟨w.heap.size + 1, j, none⟩ = _ := fun j => World.cell?_alloc_at _ _ _ j (by simp)
  exact ⟨⟨(h2.cell (p := ⟨w.heap.size, 0, none⟩) hs).trans (c 0), (h2.cell (p := ⟨w.heap.size, 1, none⟩) hs).trans (c 1), (h2.cell (p := ⟨w.heap.size, 3, none⟩) hs).trans (c 3)⟩,
    ⟨(h.cell (p := ⟨w.heap.size + 1, 0, none⟩) hs2).trans (d 0), (h.cell (p := ⟨w.heap.size + 1, 1, none⟩) hs2).trans (d 1), (h.cell (p := ⟨w.heap.size + 1, 3, none⟩) hs2).trans (d 3)⟩⟩

set_option maxHeartbeats 8000000 in
set_option maxRecDepth 10000 in
theorem grovesame_any (G O : Gr) (w : World) (hg : RdG w G) (ho : RdG w O) (hm : G.m = O.m) :
    Calls Tryz.prog 22 #[G.v, O.v] w fun e w' => e = .returned (.bool true) ∧ Below w.heap.size w w' := by
  obtain ⟨f, wy, wa, ws, wc, ta, ks, tc⟩ := G
  obtain ⟨f', wy', wa', ws', wc', ta', ks', tc'⟩ := O
  simp only [Gr.m, Prod.mk.injEq] at hm
  obtain ⟨rfl, rfl, rfl, ht⟩ := hm
  have kl : ks'.length = ks.length := by rw [← tl_len ks', ← ht, tl_len]
  have he : ∀ k (h : k < ks.length) (h' : k < ks'.length), ks'[k].2.1 = ks[k].2.1 := fun k h h' => by rw [← tl_at ks' h', ← tl_at ks h, ht]
  have HE := hide he
  have KL := hide kl
  have hl : ks.length ≤ 9223372036854775807 := hg.2.1
  show Calls Tryz.prog 22 #[.agg #[.int .i64 f, .int .i64 wy, .slice wa ws.length wc, .slice ta ks.length tc], .agg #[.int .i64 f, .int .i64 wy, .slice wa' ws.length wc', .slice ta' ks'.length tc']] w fun e w' => e = .returned (.bool true) ∧ Below w.heap.size w w'
  rw [kl]
  have CI := hide (fun W (hW : Below w.heap.size w W) => ints_any wa wa' ws ws wc wc' W (hg.1.below hW) (ho.1.below hW))
  simp only [decide_true] at CI
  have HG : Hid (∀ W, Below w.heap.size w W → RdT W ta ks) := fun W hW => hg.2.below hW
  have HO : Hid (∀ W, Below w.heap.size w W → RdT W ta' ks') := fun W hW => ho.2.below hW
  obtain ⟨gO, hgO⟩ : ∃ o : Obj, o = .cells #[.int .i64 f, .int .i64 wy, .slice wa ws.length wc, .slice ta ks.length tc] 53 := ⟨_, rfl⟩
  obtain ⟨oO, hoO⟩ : ∃ o : Obj, o = .cells #[.int .i64 f, .int .i64 wy, .slice wa' ws.length wc', .slice ta' ks.length tc'] 53 := ⟨_, rfl⟩
  have B0 : Hid (∀ W, Below ((w.alloc gO).alloc oO).heap.size ((w.alloc gO).alloc oO) W → Below w.heap.size w W) := fun W hW => below_on (((Below.refl _ w).alloc (Nat.le_refl _) gO).alloc (by simp) oO) hW
  have CG : Hid (∀ W, Below ((w.alloc gO).alloc oO).heap.size ((w.alloc gO).alloc oO) W → (W.cell? ⟨w.heap.size, 0, none⟩ = some (.int .i64 f) ∧ W.cell? ⟨w.heap.size, 1, none⟩ = some (.int .i64 wy) ∧ W.cell? ⟨w.heap.size, 3, none⟩ = some (.slice ta ks.length tc)) ∧ (W.cell? ⟨w.heap.size + 1, 0, none⟩ = some (.int .i64 f) ∧ W.cell? ⟨w.heap.size + 1, 1, none⟩ = some (.int .i64 wy) ∧ W.cell? ⟨w.heap.size + 1, 3, none⟩ = some (.slice ta' ks.length tc'))) := fun W hW => by rw [hgO, hoO] at hW; exact kept_both hW
  have R0 : Hid (Below w.heap.size w ((w.alloc gO).alloc oO)) := ((Below.refl _ w).alloc (Nat.le_refl _) gO).alloc (by simp) oO
  rw [hgO, hoO] at B0 CG R0
  clear hg ho ht kl he hgO hoO
  go_enter Tryz.func22, Tryz.ntmps22
  go_wp2_with (go_at_call 47; refine (CI.out _ R0.out).mono ?_; rintro e w1 ⟨rfl, hb1⟩; have q := CG.out _ hb1; have c0 := q.1.1; have c1 := q.1.2.1; have c3 := q.1.2.2; have d0 := q.2.1; have d1 := q.2.2.1; have d3 := q.2.2.2; clear q)
  have G1 := hide hb1
  clear CI c0 c1 c3 d0 d1 d3 hb1
  go_loopw [6] (fun i wr => ∃ k : Nat, k ≤ ks.length ∧ i = .int .i64 k ∧ Hid (Below w1.heap.size w1 wr)) (fun i _ => ks.length - (intOf i).toNat)
  case atStart => exact ⟨0, Nat.zero_le _, rfl, Below.refl _ _⟩
  case round =>
    obtain ⟨k, hk, rfl, K⟩ := hrel
    have g2 := below_on G1.out K.out
    have kw := B0.out _ g2
    obtain ⟨⟨c0, c1, c3⟩, d0, d1, d3⟩ := CG.out _ g2
    by_cases hlt : k < ks.length
    · have hlt' : k < ks'.length := by rw [KL.out]; exact hlt
      have kz : (k : Int) < (ks.length : Int) := by omega
      obtain ⟨b1, o1, e1, h1, hc1⟩ := (HG.out wr kw).2.2 (by intro e; rw [e] at hlt; simp at hlt)
      obtain ⟨b2, o2, e2, h2, hc2⟩ := (HO.out wr kw).2.2 (by intro e; rw [e] at hlt'; simp at hlt')
      have s1 := hc1 k hlt
      have s2 := hc2 k hlt'
      have r1 := (HG.out wr kw).2.1 _ (List.getElem_mem hlt)
      have r2 := (HO.out wr kw).2.1 _ (List.getElem_mem hlt')
      have ee := HE.out k hlt hlt'
      unfold tV at s1 s2
      rw [ee] at s2 r2
      rw [e1] at c3
      rw [e2] at d3
      have NS := hide (nodesame_any ks[k].1 ks'[k].1 ks[k].2.1 ks[k].2.2 ks'[k].2.2 wr.drew (r1.below (Below.refl _ wr).drew) (r2.below (Below.refl _ wr).drew))
      have c3d : wr.drew.cell? ⟨w.heap.size, 3, none⟩ = some (.slice (some ⟨b1, o1, none⟩) ks.length tc) := c3
      have d3d : wr.drew.cell? ⟨w.heap.size + 1, 3, none⟩ = some (.slice (some ⟨b2, o2, none⟩) ks.length tc') := d3
      have s1d : wr.drew.cell? ⟨b1, o1 + k, none⟩ = some (.slice ks[k].1 ks[k].2.1.length ks[k].2.2) := s1
      have s2d : wr.drew.cell? ⟨b2, o2 + k, none⟩ = some (.slice ks'[k].1 ks[k].2.1.length ks'[k].2.2) := s2
      clear hc1 hc2 r1 r2 ee HG HO HE e1 e2
      generalize ks[k].2.1.length = tn at *
      generalize ks[k].1 = a1 at *
      generalize ks'[k].1 = a2 at *
      generalize ks[k].2.2 = x1 at *
      generalize ks'[k].2.2 = x2 at *
      go_upto_region 7 with fail
      go_cut [7] from 45 to 55 (fun t wx => t = .bool true ∧ Hid (Below wr.heap.size wr wx))
      case first =>
        go_region_with (go_at_call 48; refine NS.out.mono ?_; rintro e w5 ⟨rfl, hb5⟩)
        all_goals go_wp2
        all_goals go_meet
        all_goals (case rel => exact ⟨rfl, (Below.refl wr.heap.size wr).drew.trans hb5⟩)
      case rest =>
        obtain ⟨rfl, K6⟩ := hcut
        have K7 := hide (below_on K.out K6.out)
        go_wp2
        go_roundw
        case rel => exact ⟨k + 1, by omega, by go_num, K7⟩
        case measure => simp [intOf]; omega
    · go_wp2
      go_ret
      exact ⟨rfl, kw⟩
end Go.Proofs.YtiggkjkjfnlfkaaGreatDoor

namespace Go.Proofs.YtiggkjkjfnlfkaaGreatDoor
open Go.ChangeShapes Go.WideShapes Go.ChangeAt Go.RowKit Go.Lib Go.Deep
set_option linter.unusedVariables false
theorem cellsCall : Tryz.prog.cellsOf 36 = 7 := by kernel_rfl
theorem cellsI3 : Tryz.prog.cellsOf 3 = 1 := by kernel_rfl
theorem cellsS9 : Tryz.prog.cellsOf 9 = 1 := by kernel_rfl
theorem cellsB8 : Tryz.prog.cellsOf 34 = 1 := by kernel_rfl
theorem struct7 {H : Type} {enc : TypeId × Value → H} {P : Program} {w : World} {base : Nat} {spare : Nat → Bool} {held : Bool} {t : TypeId} {f0 f1 f2 f3 f4 f5 f6 : Field} {fuel : Nat} {cs : List Value} {x : DataW H × List MemPlace} (ht : P.underlying t = some (.struct #[f0, f1, f2, f3, f4, f5, f6]))
    (h : DataW.trod enc P w base spare held fuel t cs = some x) :
    ∃ y0 y1 y2 y3 y4 y5 y6 n, DataW.trod enc P w base spare held n f0.type ((cs.drop f0.offset).take (P.cellsOf f0.type)) = some y0 ∧
      DataW.trod enc P w base spare held n f1.type ((cs.drop f1.offset).take (P.cellsOf f1.type)) = some y1 ∧ DataW.trod enc P w base spare held n f2.type ((cs.drop f2.offset).take (P.cellsOf f2.type)) = some y2 ∧
      DataW.trod enc P w base spare held n f3.type ((cs.drop f3.offset).take (P.cellsOf f3.type)) = some y3 ∧ DataW.trod enc P w base spare held n f4.type ((cs.drop f4.offset).take (P.cellsOf f4.type)) = some y4 ∧
      DataW.trod enc P w base spare held n f5.type ((cs.drop f5.offset).take (P.cellsOf f5.type)) = some y5 ∧ DataW.trod enc P w base spare held n f6.type ((cs.drop f6.offset).take (P.cellsOf f6.type)) = some y6 := by
  obtain ⟨xs, n, _, rfl, hl, hlen, hf⟩ := DataW.trod_struct ht h
  match xs, hlen with
  | [y0, y1, y2, y3, y4, y5, y6], _ => exact ⟨y0, y1, y2, y3, y4, y5, y6, n, by simpa using hf 0 f0 rfl, by simpa using hf 1 f1 rfl, by simpa using hf 2 f2 rfl, by simpa using hf 3 f3 rfl, by simpa using hf 4 f4 rfl, by simpa using hf 5 f5 rfl, by simpa using hf 6 f6 rfl⟩
theorem str_is (s : ByteArray) : byStr (s.data.toList.map UInt8.toNat) = s := by
  refine bytes_inj ?_
  rw [byStr_list, List.map_map]
  conv => rhs; rw [← List.map_id s.data.toList]
  exact List.map_congr_left (fun z _ => by simp)
theorem str_isB (s : ByteArray) : isB (s.data.toList.map UInt8.toNat) := fun x hx => by
  obtain ⟨u, _, rfl⟩ := List.mem_map.1 hx
  exact u.toNat_lt
set_option maxHeartbeats 2000000 in
theorem open_calls {H : Type} {enc : TypeId × Value → H} {W : World} {base : Nat} {held : Bool} {fuel : Nat} {a : Option Addr} {len cap : Nat} {x : DataW H × List MemPlace}
    (h : DataW.trod enc Tryz.prog W base (fun _ => true) held fuel 22 [.slice a len cap] = some x) : ∃ l : List CaC, l.length = len ∧ RdC W a l := by
  rcases open_slice Tryz.underlying22 h with ⟨hcs, _⟩ | ⟨a', len', cap', m, n, D, Pl, hcs, _, hl, hm, hmm, _, hx⟩
  · cases hcs
    exact ⟨[], rfl, ⟨Nat.zero_le _, (fun k hk => by cases hk), fun h => absurd rfl h⟩⟩
  · cases hcs
    have hlm : len ≤ m := by rw [hmm]; split <;> omega
    have each : ∀ i, i < len → ∃ k : CaC, CaIn W k.1 k.2.1 k.2.2 ∧ W.cell? (a'.add (i * 7)) = some (.int .i64 k.1.what) ∧ W.cell? (a'.add (i * 7 + 1)) = some (.int .i64 k.1.ses) ∧ W.cell? (a'.add (i * 7 + 2)) = some (.int .i64 k.1.seq) ∧ W.cell? (a'.add (i * 7 + 3)) = some (.string (byStr k.1.name)) ∧ W.cell? (a'.add (i * 7 + 4)) = some (.int .i64 k.1.num) ∧ W.cell? (a'.add (i * 7 + 5)) = some (.int .i64 k.1.share) ∧ W.cell? (a'.add (i * 7 + 6)) = some (.slice k.2.1 k.1.bys.length k.2.2) := by
      intro i hi
      obtain ⟨cs, h1, h2⟩ := hx i (by omega)
      rw [cellsCall] at h1
      obtain ⟨_, hlen, hcell⟩ := World.cells?_some h1
      obtain ⟨y0, y1, y2, y3, y4, y5, y6, k, g0, g1, g2, g3, g4, g5, g6⟩ := struct7 Tryz.underlying36 h2
      rw [cellsI3] at g0 g1 g2 g4 g5
      rw [cellsS9] at g3
      rw [cellsB8] at g6
      match cs, hlen with
      | [c0, c1, c2, c3, c4, c5, c6], _ =>
        obtain ⟨n0, e0, _⟩ := DataW.trod_int Tryz.underlying3 g0
        obtain ⟨n1, e1, _⟩ := DataW.trod_int Tryz.underlying3 g1
        obtain ⟨n2, e2, _⟩ := DataW.trod_int Tryz.underlying3 g2
        obtain ⟨s3, e3, _, z3⟩ := DataW.trod_string Tryz.underlying9 g3
        obtain ⟨n4, e4, _, w4⟩ := DataW.trod_int Tryz.underlying3 g4
        obtain ⟨n5, e5, _, w5⟩ := DataW.trod_int Tryz.underlying3 g5
        simp at e0 e1 e2 e3 e4 e5
        have sl : ∃ b l c, c6 = .slice b l c := by
          rcases open_slice Tryz.underlying34 g6 with ⟨hcs, _⟩ | ⟨a2, len2, cap2, _, _, _, _, hcs, _⟩
          · exact ⟨none, 0, 0, by simpa using hcs⟩
          · exact ⟨some a2, len2, cap2, by simpa using hcs⟩
        obtain ⟨b, l, c, rfl⟩ := sl
        have g6' : DataW.trod enc Tryz.prog W base (fun _ => true) held k 34 [.slice b l c] = some y6 := g6
        obtain ⟨bs, eb, rb, lb, cb, nb, _⟩ := open_bytes8 g6'
        have d0 := hcell 0 (by omega)
        have d1 := hcell 1 (by omega)
        have d2 := hcell 2 (by omega)
        have d3 := hcell 3 (by omega)
        have d4 := hcell 4 (by omega)
        have d5 := hcell 5 (by omega)
        have d6 := hcell 6 (by omega)
        rw [add_add] at d0 d1 d2 d3 d4 d5 d6
        subst eb
        refine ⟨(⟨n0, n1, n2, s3.data.toList.map UInt8.toNat, n4, n5, bs⟩, b, c), ⟨str_isB s3, ?_, rb, lb, cb, int_wf w4, int_wf w5, nb⟩, ?_, ?_, ?_, ?_, ?_, ?_, ?_⟩
        · have q : (s3.data.toList.map UInt8.toNat).length = s3.size := by simp
          show (s3.data.toList.map UInt8.toNat).length ≤ _
          rw [q]
          unfold maxLen at z3
          omega
        · simpa [e0] using d0
        · simpa [e1] using d1
        · simpa [e2] using d2
        · show W.cell? (a'.add (i * 7 + 3)) = some (.string (byStr (s3.data.toList.map UInt8.toNat)))
          rw [str_is]
          simpa [e3] using d3
        · simpa [e4] using d4
        · simpa [e5] using d5
        · simpa using d6
    have inh : Inhabited CaC := ⟨ca0⟩
    obtain ⟨f, hf⟩ := choose_lt each
    refine ⟨(List.range len).map f, by simp, ⟨by simp; omega, fun k hk => ?_, fun hne => ?_⟩⟩
    · rw [List.mem_map] at hk
      obtain ⟨i, hi, rfl⟩ := hk
      exact (hf i (by simpa using hi)).1
    have hp : 0 < len := by
      rcases Nat.eq_zero_or_pos len with h0 | h0
      · subst h0; exact absurd rfl hne
      · exact h0
    obtain ⟨b, off, spot⟩ := a'
    have hspot : spot = none := by
      have := World.cell?_spot (hf 0 hp).2.1
      simpa [Addr.add] using this
    subst hspot
    have add_flat : ∀ i, (⟨b, off, none⟩ : Addr).add i = ⟨b, off + i, none⟩ := fun i => by unfold Addr.add; simp
    refine ⟨b, off, rfl, ?_, fun i hi => ?_⟩
    · have := (hf 0 hp).2.1
      rw [add_flat] at this
      exact block_lt_of_cell this
    · have hi' : i < len := by simpa using hi
      obtain ⟨_, q0, q1, q2, q3, q4, q5, q6⟩ := hf i hi'
      rw [add_flat] at q0 q1 q2 q3 q4 q5 q6
      have e : ((List.range len).map f).getD i ca0 = f i := by simp [List.getD, hi']
      rw [e]
      refine ⟨q0, ?_, ?_, ?_, ?_, ?_, ?_⟩
      · rw [Nat.add_assoc]; exact q1
      · rw [Nat.add_assoc]; exact q2
      · rw [Nat.add_assoc]; exact q3
      · rw [Nat.add_assoc]; exact q4
      · rw [Nat.add_assoc]; exact q5
      · rw [Nat.add_assoc]; exact q6
end Go.Proofs.YtiggkjkjfnlfkaaGreatDoor
