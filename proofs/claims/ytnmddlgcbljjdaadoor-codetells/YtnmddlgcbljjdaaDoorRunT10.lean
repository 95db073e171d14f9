/-
  Several texts as one: Groves, CdQ, RefQ, CTell, EncL, CdAddB.
-/
import Derived.Test.YtnmddlgcbljjdaaDoorRunT5
import Derived.Lib.SmallJoins
import Derived.Test.YtnmddlgcbljjdaaDoorRunT1
import Derived.Test.YtnmddlgcbljjdaaDoorRunT2
import Derived.RegionTactic
import Derived.Deep.Cut
import Derived.Deep.CutRange
import Derived.BigQuiet
import Derived.Deep.QuietTactic
import Derived.Deep.RegionHeld3
import Derived.OrdersHeld
import Derived.Test.YtnmddlgcbljjdaaDoorRunT6
namespace Go.Proofs.YtnmddlgcbljjdaaDoor
open Go.ChangeShapes Go.WideShapes Go.ChangeAt Go.RowKit Go.Deep
set_option linter.unusedVariables false

abbrev Tc := Option Addr × List M.Nd × Nat
def tV (k : Tc) : Value := .slice k.1 k.2.1.length k.2.2
/-- trees, where they lie -/
def RdT (w : World) (a : Option Addr) (ks : List Tc) : Prop :=
  ks.length ≤ maxLen ∧ (∀ k ∈ ks, RdN w k.1 k.2.1) ∧ (ks ≠ [] → ∃ b off, a = some ⟨b, off, none⟩ ∧ b < w.heap.size ∧ ∀ i (h : i < ks.length), w.cell? ⟨b, off + i, none⟩ = some (tV ks[i]))
theorem RdT.below {w w' : World} {a : Option Addr} {ks : List Tc} (h : RdT w a ks) (hb : Below w.heap.size w w') : RdT w' a ks :=
  ⟨h.1, fun k hk => (h.2.1 k hk).below hb, fun hn => by
    obtain ⟨b, off, e, hl, hc⟩ := h.2.2 hn
    exact ⟨b, off, e, Nat.lt_of_lt_of_le hl hb.size, fun i hi => (hb.cell (p := ⟨b, off + i, none⟩) hl).trans (hc i hi)⟩⟩
def tl (ks : List Tc) : List (List M.Nd) := ks.map (·.2.1)
theorem tl_len (ks : List Tc) : (tl ks).length = ks.length := by simp [tl]
theorem tl_at (ks : List Tc) {k : Nat} (h : k < ks.length) : (tl ks).getD k [] = ks[k].2.1 := by
  rw [M.getD_at (by rw [tl_len]; exact h)]; simp [tl]

/-- a grove, as it is handed on -/
structure Gr where
  f : Int
  w : Int
  wa : Option Addr
  ws : List Int
  wc : Nat
  ta : Option Addr
  ks : List Tc
  tc : Nat
def Gr.v (G : Gr) : Value := .agg #[.int .i64 G.f, .int .i64 G.w, .slice G.wa G.ws.length G.wc, .slice G.ta G.ks.length G.tc]
def Gr.m (G : Gr) : M.Gv := (G.f, G.w, G.ws, tl G.ks)
def RdG (w : World) (G : Gr) : Prop := Rd w G.wa G.ws ∧ RdT w G.ta G.ks
theorem RdG.below {w w' : World} {G : Gr} (h : RdG w G) (hb : Below w.heap.size w w') : RdG w' G := ⟨h.1.below hb, h.2.below hb⟩

theorem cellsTree : Tryd.prog.cellsOf 47 = 1 := by kernel_rfl
set_option maxRecDepth 10000 in
theorem open_trees {H : Type} {enc : TypeId × Value → H} {W : World} {base : Nat} {spare : Nat → Bool} {held : Bool} {fuel : Nat} {a : Option Addr} {len cap : Nat} {x : DataW H × List MemPlace}
    (h : DataW.trod enc Tryd.prog W base spare held fuel 23 [.slice a len cap] = some x) : ∃ ks : List Tc, ks.length = len ∧ RdT W a ks := by
  rcases open_slice Tryd.underlying23 h with ⟨hcs, _⟩ | ⟨a', len', cap', m, n, D, Pl, hcs, _, hl, hm, hmm, _, hx⟩
  · cases hcs
    exact ⟨[], rfl, ⟨Nat.zero_le _, (fun k hk => by cases hk), fun h => absurd rfl h⟩⟩
  · cases hcs
    have hlm : len ≤ m := by rw [hmm]; split <;> omega
    have each : ∀ i, i < len → ∃ k : Tc, W.cell? (a'.add i) = some (tV k) ∧ RdN W k.1 k.2.1 := by
      intro i hi
      obtain ⟨cs, h1, h2⟩ := hx i (by omega)
      rw [cellsTree] at h1
      obtain ⟨_, hlen, hcell⟩ := World.cells?_some h1
      match cs, hlen with
      | [c0], _ =>
        have d0 := hcell 0 (by omega)
        rw [add_add] at d0
        simp at d0
        have sl : ∃ b l c, c0 = .slice b l c := by
          rcases open_slice Tryd.underlying47 h2 with ⟨hcs, _⟩ | ⟨a2, len2, cap2, _, _, _, _, hcs, _⟩
          · exact ⟨none, 0, 0, by cases hcs; rfl⟩
          · exact ⟨some a2, len2, cap2, by cases hcs; rfl⟩
        obtain ⟨b, l, c, rfl⟩ := sl
        obtain ⟨ts, e, hr⟩ := open_nodes h2
        subst e
        exact ⟨(b, ts, c), d0, hr⟩
    obtain ⟨f, hf⟩ := choose_lt each
    refine ⟨(List.range len).map f, by simp, ⟨by simp; omega, ?_, fun hne => ?_⟩⟩
    · intro k hk
      rw [List.mem_map] at hk
      obtain ⟨i, hi, rfl⟩ := hk
      exact (hf i (by simpa using hi)).2
    · have hp : 0 < len := by
        rcases Nat.eq_zero_or_pos len with h0 | h0
        · subst h0; exact absurd rfl hne
        · exact h0
      obtain ⟨b, off, spot⟩ := a'
      have hspot : spot = none := by
        have := World.cell?_spot (hf 0 hp).1
        simpa [Addr.add] using this
      subst hspot
      refine ⟨b, off, rfl, ?_, fun i hi => ?_⟩
      · have := (hf 0 hp).1
        rw [add_flat] at this
        exact block_lt_of_cell this
      · have hi' : i < len := by simpa using hi
        have q := (hf i hi').1
        rw [add_flat] at q
        rw [q]; simp

theorem cellsGrove : Tryd.prog.cellsOf 25 = 4 := by kernel_rfl
theorem cellsRow : Tryd.prog.cellsOf 22 = 1 := by kernel_rfl
theorem cellsTrees : Tryd.prog.cellsOf 23 = 1 := by kernel_rfl
set_option maxRecDepth 10000 in
theorem open_grove {H : Type} {enc : TypeId × Value → H} {W : World} {base b0 : Nat} {held : Bool} {v : Value} {d : DataW H} {ps : List MemPlace}
    (hv : Value.okWide Tryd.prog W .any base 25 v) (h : DataW.Trod enc Tryd.prog W b0 (fun _ => true) held 25 v d ps) : ∃ G : Gr, v = G.v ∧ RdG W G := by
  obtain ⟨cs, rfl, hsz⟩ := okWide_struct Tryd.underlying25 hv
  rw [cellsGrove] at hsz
  obtain ⟨c0, c1, c2, c3, rfl⟩ := Joins.array4 hsz
  obtain ⟨fuel, hf⟩ := h
  obtain ⟨y0, y1, y2, y3, n, _, _, g0, g1, g2, g3⟩ := Joins.trod_struct4 Tryd.underlying25 hf
  rw [cellsInt] at g0 g1
  rw [cellsRow] at g2
  rw [cellsTrees] at g3
  obtain ⟨n0, e0, _⟩ := DataW.trod_int Tryd.underlying3 g0
  obtain ⟨n1, e1, _⟩ := DataW.trod_int Tryd.underlying3 g1
  simp [Value.cells] at e0 e1 g2 g3
  subst e0
  subst e1
  obtain ⟨wa, ws, wc, rfl, hw⟩ : ∃ wa ws wc, c2 = .slice wa (List.length (α := Int) ws) wc ∧ Rd W wa ws := by
    rcases open_ints Tryd.underlying22 Tryd.underlying3 (by kernel_rfl) g2 with ⟨hcs, _⟩ | ⟨x, l, c, zs, hcs, _, hl, hm, hz, _, hcell, hwz⟩
    · cases hcs
      exact ⟨none, [], 0, rfl, ⟨Nat.zero_le _, fun h => absurd rfl h⟩⟩
    · cases hcs
      have y : IsRow .i64 W (some x) l c zs := .inr ⟨_, rfl, hl, hm, by simpa using hz, hcell, hwz⟩
      exact ⟨some x, zs.take l, c, by rw [(rd_of y).2], (rd_of y).1⟩
  obtain ⟨ta, ks, tc, rfl, hk⟩ : ∃ ta ks tc, c3 = .slice ta (List.length (α := Tc) ks) tc ∧ RdT W ta ks := by
    have sl : ∃ b l c, c3 = .slice b l c := by
      rcases open_slice Tryd.underlying23 g3 with ⟨hcs, _⟩ | ⟨a2, len2, cap2, _, _, _, _, hcs, _⟩
      · exact ⟨none, 0, 0, by cases hcs; rfl⟩
      · exact ⟨some a2, len2, cap2, by cases hcs; rfl⟩
    obtain ⟨b, l, c, rfl⟩ := sl
    obtain ⟨ks, e, hr⟩ := open_trees g3
    subst e
    exact ⟨b, ks, c, rfl, hr⟩
  exact ⟨⟨n0, n1, wa, ws, wc, ta, ks, tc⟩, rfl, hw, hk⟩

end Go.Proofs.YtnmddlgcbljjdaaDoor

namespace Go.Proofs.YtnmddlgcbljjdaaDoor
open Go.ChangeShapes Go.WideShapes Go.ChangeAt Go.RowKit Go.Lib
set_option linter.unusedVariables false

def CdEncGives : Prop := ∀ (G : Gr) (W : World), RdG W G → Calls Tryd.prog 6 #[G.v] W fun e w' => ∃ v, e = .returned (.tuple #[v, errV (M.encF G.m)]) ∧ w'.ownsRow W.heap.size 5 1 v (M.encV G.m).length (byCells (M.encV G.m)) ∧ Below W.heap.size W w'
def CdDecGives : Prop := ∀ (a : Option Addr) (bs : List Nat) (c : Nat) (W : World), RdB W a bs → bs.length ≤ c → c ≤ 9223372036854775807 → Calls Tryd.prog 9 #[.slice a bs.length c] W fun e w' => ∃ O : Gr, e = .returned (.tuple #[O.v, .int .i64 ((M.decF bs).1 : Nat), errV (M.decF bs).2]) ∧ O.m = M.decV bs ∧ RdG w' O ∧ Below W.heap.size W w'
theorem M.enc_byte (g : M.Gv) : ∀ x ∈ M.encV g, x < 256 := by
  unfold M.encV
  split
  · exact M.bys_byte _
  · intro x hx; cases hx
theorem M.enc_len {g : M.Gv} (h : M.encF g = 0) : (M.encV g).length ≤ 6000 := by
  unfold M.encV
  rw [if_pos h]
  unfold M.encF at h
  split at h
  · exact absurd h (by assumption)
  · split at h
    · simp at h
    · omega

end Go.Proofs.YtnmddlgcbljjdaaDoor

namespace Go.Proofs.YtnmddlgcbljjdaaDoor
open Go.ChangeShapes Go.WideShapes Go.ChangeAt Go.RowKit Go.Lib
set_option linter.unusedVariables false

def REncGives : Prop := ∀ (G : Gr) (W : World), RdG W G → Calls Tryd.prog 5 #[G.v] W fun e w' => ∃ v, e = .returned (.tuple #[v, .int .i64 (M.encF G.m)]) ∧ w'.ownsRow W.heap.size 5 1 v (M.encV G.m).length (byCells (M.encV G.m)) ∧ Below W.heap.size W w'
def RDecGives : Prop := ∀ (a : Option Addr) (bs : List Nat) (c : Nat) (W : World), RdB W a bs → bs.length ≤ c → c ≤ 9223372036854775807 → Calls Tryd.prog 8 #[.slice a bs.length c] W fun e w' => ∃ O : Gr, e = .returned (.tuple #[O.v, .int .i64 ((M.decF bs).1 : Nat), .int .i64 (M.decF bs).2]) ∧ O.m = M.decV bs ∧ RdG w' O ∧ Below W.heap.size W w'

end Go.Proofs.YtnmddlgcbljjdaaDoor

namespace Go.Proofs.YtnmddlgcbljjdaaDoor
open Go.ChangeShapes Go.WideShapes Go.ChangeAt Go.RowKit Go.Lib
set_option linter.unusedVariables false

theorem M.enc_max (g : M.Gv) : (M.encV g).length ≤ 6000 := by
  by_cases h : M.encF g = 0
  · exact M.enc_len h
  · unfold M.encV; rw [if_neg h]; exact Nat.zero_le _
theorem four_at {w W : World} {x0 x1 x2 x3 : Value} {t : TypeId} (h : Below (w.alloc (.cells #[x0, x1, x2, x3] t)).heap.size (w.alloc (.cells #[x0, x1, x2, x3] t)) W) : W.cell? ⟨w.heap.size, 0, none⟩ = some x0 ∧ W.cell? ⟨w.heap.size, 1, none⟩ = some x1 ∧ W.cell? ⟨w.heap.size, 2, none⟩ = some x2 ∧ W.cell? ⟨w.heap.size, 3, none⟩ = some x3 := by
  have r := (new_kept rfl h).1
  exact ⟨r 0 _ rfl, r 1 _ rfl, r 2 _ rfl, r 3 _ rfl⟩
theorem below_up {w W : World} (h : Below w.heap.size w W) (o : Obj) : Below w.heap.size w (W.alloc o) := h.alloc h.size o

/-- an operation that yields its value wherever a condition holds may be taken first; its slot is a letter -/
theorem take_ct {P : Program} {ops : Array Oper} {Q : Exit → Act → World → Prop} {md : Region.Mode} {S : World → Prop} {i : Nat} {d : Option Tmp} {oi : Oper} {v : Value} {fuel : Nat} {listed : Array Bool} {a : Act} {w : World} (hi : ops[i]? = some oi) (hd : oi.dst = d)
    (hs : Region.noSelect ops = true) (hf : Region.free md ops listed i = true) (hr : (Region.ready md ops listed).contains i = true)
    (hQ : ∀ c a w, Q (.panic c) (a.put d v) w → Q (.panic c) a w) (hy : YieldsIf P ops S oi v a) (hS : S w)
    (h : wpAnyH P md ops Q S fuel (listed.setIfInBounds i true) (a.put d v) w) : wpAnyH P md ops Q S (fuel + 1) listed a w := by
  subst hd
  exact wpAnyH_take hi hs hf hr hQ hy hS h

set_option maxHeartbeats 16000000 in
set_option maxRecDepth 10000 in
theorem codetells_walk (hN : CdNumGives) (hG : CdGetGives) (hE : CdEncGives) (hD : CdDecGives) (hRE : REncGives) (hRD : RDecGives) (G : Gr) (a : Option Addr) (bs : List Nat) (ca : Nat) (n : Int) (w : World)
    (hS : ∀ (G O : Gr) (W : World), RdG W G → RdG W O → G.m = O.m → Calls Tryd.prog 10 #[G.v, O.v] W fun e w' => e = .returned (.bool true) ∧ Below W.heap.size W w')
    (hER : ∀ e W, Below w.heap.size w W → Calls Tryd.prog 7 #[errV e, .int .i64 e] W fun r w' => r = .returned (.bool true) ∧ Below W.heap.size W w')
    (hg : RdG w G) (hb : RdB w a bs) (hl : bs.length ≤ ca) (hca : ca ≤ 9223372036854775807) (hnil : a = none → ca = 0) (hz : bs.length ≤ 140737488351232) (n1 : -9223372036854775808 ≤ n) (n2 : n ≤ 9223372036854775807) :
    Calls Tryd.prog 3 #[G.v, .slice a bs.length ca, .int .i64 n] w fun e w' => e = .returned (.bool true) ∧ Below w.heap.size w w' := by
  have B0 : Hid (∀ o, Below w.heap.size w (w.alloc o)) := fun o => (Below.refl _ w).alloc (Nat.le_refl _) o
  have HR1 := hide (fun W (hW : Below w.heap.size w W) => hRE G W (hg.below hW))
  have HE1 := hide (fun W (hW : Below w.heap.size w W) => hE G W (hg.below hW))
  have HR2 := hide (fun W (hW : Below w.heap.size w W) => hRD a bs ca W (hb.below hW) hl hca)
  have HD2 := hide (fun W (hW : Below w.heap.size w W) => hD a bs ca W (hb.below hW) hl hca)
  have HR3 := hide (fun W (hW : Below w.heap.size w W) => rget_any a bs ca W (hb.below hW))
  have HG3 := hide (fun W (hW : Below w.heap.size w W) => hG a bs ca W (hb.below hW))
  have HR4 := hide (fun W (hW : Below w.heap.size w W) => rnum_any a bs ca n W (hb.below hW) hnil (by omega) n1 n2)
  have HN4 := hide (fun W (hW : Below w.heap.size w W) => hN a bs ca n W (hb.below hW) hnil hz n1 n2)
  have HS := hide hS
  unfold Gr.v at HR1 HE1 HR2 HD2 HS
  have HER := hide hER
  have HB := hide hb
  have EM := M.enc_max G.m
  have EB := hide (M.enc_byte G.m)
  have NL := hide (M.num_len n1 n2)
  have N8 : Hid (∀ x ∈ bs ++ M.numL n, x < 256) := fun x hx => by
    rcases List.mem_append.1 hx with q | q
    · exact hb.2.1 x q
    · exact M.sev_byte _ x q
  clear hN hG hE hD hRE hRD hS hER hg hb
  unfold Gr.v
  generalize M.encF G.m = ef at *
  generalize M.encV G.m = Y at *
  generalize M.getL bs = gl at *
  obtain ⟨g1, g2, g3⟩ := gl
  generalize (M.decF bs).2 = d2 at *
  generalize (M.decF bs).1 = d1 at *
  go_enter Tryd.func3, Tryd.ntmps3
  go_upto_region 2 with (go_at_call 5; refine (HR1.out _ (B0.out _)).mono ?_; rintro e w1 ⟨v1, rfl, ho, hb1⟩; have k1 := hide (below_on (B0.out _) hb1); have KB := hide hb1; have O1 := hide ho; clear ho hb1)
  obtain ⟨c0, c1, c2, c3⟩ := four_at KB.out
  go_upto_region 3 with (go_at_call 6; refine (HE1.out _ k1.out).mono ?_; rintro e w2 ⟨v2, rfl, ho, hb1⟩; have k2 := hide (below_on k1.out hb1); have K12 := hide hb1; have O2 := hide ho; clear ho hb1)
  clear c0 c1 c2 c3 KB HR1 HE1
  go_upto_region 4 with (go_at_call 7; refine (HER.out _ _ k2.out).mono ?_; rintro e w3 ⟨rfl, hb1⟩; have k3 := hide (below_on k2.out hb1); have K23 := hide hb1; clear hb1)
  go_upto_region 5 with (go_at_call 8; refine (HR2.out _ k3.out).mono ?_; rintro e w4 ⟨O, rfl, om, hr, hb1⟩; have k4 := hide (below_on k3.out hb1); have K34 := hide hb1; have OM := hide om; have RO := hide hr; clear om hr hb1)
  go_upto_region 6 with (go_at_call 9; refine (HD2.out _ (below_up k4.out _)).mono ?_; rintro e w5 ⟨P, rfl, pm, hr, hb1⟩; have k5 := hide (below_on (below_up k4.out _) hb1); have K45 := hide hb1; have PM := hide pm; have RP := hide hr; clear pm hr hb1)
  go_upto_region 7 with (go_at_call 7; refine (HER.out _ _ (below_up k5.out _)).mono ?_; rintro e w6 ⟨rfl, hb1⟩; have k6 := hide (below_on (below_up k5.out _) hb1); have K56 := hide hb1; clear hb1)
  obtain ⟨p0, p1, p2, p3⟩ := four_at K56.out
  obtain ⟨o0, o1, o2, o3⟩ := four_at (below_on (below_up K45.out _) K56.out)
  have RP6 : Hid (RdG w6 P) := (RP.out.below (below_on ((Below.refl _ _).alloc (Nat.le_refl _) _) K56.out))
  have RO6 : Hid (RdG w6 O) := (RO.out.below (below_on (below_on ((Below.refl _ _).alloc (Nat.le_refl _) _) (below_up K45.out _)) K56.out))
  have SM := hide (HS.out P O w6 RP6.out RO6.out (PM.out.trans OM.out.symm))
  have K26 : Hid (Below w2.heap.size w2 w6) := below_on (below_up (below_on (below_up (below_on K23.out K34.out) _) K45.out) _) K56.out
  clear HS RP RO RP6 RO6 PM OM K56 K45 K34 K23
  go_upto_region 8 with (go_at_call 10; refine SM.out.mono ?_; rintro e w7 ⟨rfl, hb1⟩; have k7 := hide (below_on k6.out hb1); have K27 := hide (below_on K26.out hb1); clear hb1)
  clear p0 p1 p2 p3 o0 o1 o2 o3 SM K26
  go_upto_region 9 with (go_at_call 11; refine (HR3.out _ k7.out).mono ?_; rintro e w8 ⟨rfl, rfl⟩)
  go_upto_region 10 with (go_at_call 12; refine (HG3.out _ k7.out).mono ?_; rintro e w9 ⟨rfl, hb1⟩; have k9 := hide (below_on k7.out hb1); have K29 := hide (below_on K27.out hb1); clear hb1)
  go_upto_region 11 with (go_at_call 7; refine (HER.out _ _ k9.out).mono ?_; rintro e w10 ⟨rfl, hb1⟩; have k10 := hide (below_on k9.out hb1); have K2t := hide (below_on K29.out hb1); clear hb1)
  clear K27 K29 HR2 HD2 HR3 HG3 HER k3 k4 k5 k6 k9
  obtain ⟨a1, c1, rfl, r1, _⟩ := own_rdB1 rfl (by unfold maxLen; omega) EB.out O1.out
  obtain ⟨a2, c2, rfl, r2, _⟩ := own_rdB1 rfl (by unfold maxLen; omega) EB.out O2.out
  have R1 := hide (r1.below (below_on K12.out K2t.out))
  have R2 := hide (r2.below K2t.out)
  clear r1 r2 O1 O2 EB
  have CV1 : Hid (∀ V, Below w10.heap.size w10 V → (convert 26 9 (.slice a1 Y.length c1)).run Tryd.prog V = .ok (.string (byStr Y)) V) := fun V h => conv_by (R1.out.below h) c1
  have CV2 : Hid (∀ V, Below w10.heap.size w10 V → (convert 26 9 (.slice a2 Y.length c2)).run Tryd.prog V = .ok (.string (byStr Y)) V) := fun V h => conv_by (R2.out.below h) c2
  have XL : Hid ((bs ++ M.numL n).length ≤ 140737488351242) := by have := NL.out; unfold Hid; rw [List.length_append]; omega
  generalize bs ++ M.numL n = X at *
  have KD : Hid (Below w10.heap.size w10 w10.drew) := (Below.refl _ w10).drew
  have kd : Below w10.heap.size w10 w10.drew := KD.out
  clear R1 R2 EM
  refine wp_region_held_drew (S := fun V => Below w10.heap.size w10 V) (by kernel_rfl) kd (fun hHeld => ?_)
  refine take_ct (i := 0) (d := some 69) (v := ?v1) rfl rfl (by kernel_rfl) (by kernel_rfl) (by kernel_rfl) (fun _ _ _ h => h) (Or.inl ⟨by rfl, ?h1⟩) (by assumption) ?r1
  case h1 => (intro V hSw; have q1 := CV1.out V hSw; have q2 := CV2.out V hSw; clear hSw; go_simp; (try with_reducible rfl))
  simp only [Act.put, List.setIfInBounds_toArray, List.set_cons_zero, List.set_cons_succ]
  refine take_ct (i := 1) (d := some 70) (v := ?v2) rfl rfl (by kernel_rfl) (by kernel_rfl) (by kernel_rfl) (fun _ _ _ h => h) (Or.inl ⟨by rfl, ?h2⟩) (by assumption) ?r2
  case h2 => (intro V hSw; have q1 := CV1.out V hSw; have q2 := CV2.out V hSw; clear hSw; go_simp; (try with_reducible rfl))
  simp only [Act.put, List.setIfInBounds_toArray, List.set_cons_zero, List.set_cons_succ]
  refine take_ct (i := 2) (d := some 71) (v := ?v3) rfl rfl (by kernel_rfl) (by kernel_rfl) (by kernel_rfl) (fun _ _ _ h => h) (Or.inl ⟨by rfl, ?h3⟩) (by assumption) ?r3
  case h3 => (intro V hSw; have q1 := CV1.out V hSw; have q2 := CV2.out V hSw; clear hSw; go_simp; (try with_reducible rfl))
  simp only [Act.put, List.setIfInBounds_toArray, List.set_cons_zero, List.set_cons_succ]
  refine take_ct (i := 3) (d := some 72) (v := ?v4) rfl rfl (by kernel_rfl) (by kernel_rfl) (by kernel_rfl) (fun _ _ _ h => h) (Or.inl ⟨by rfl, ?h4⟩) (by assumption) ?r4
  case h4 => (intro V hSw; have q1 := CV1.out V hSw; have q2 := CV2.out V hSw; clear hSw; go_simp; (try with_reducible rfl))
  simp only [Act.put, List.setIfInBounds_toArray, List.set_cons_zero, List.set_cons_succ]
  refine take_ct (i := 4) (d := some 73) (v := ?v5) rfl rfl (by kernel_rfl) (by kernel_rfl) (by kernel_rfl) (fun _ _ _ h => h) (Or.inl ⟨by rfl, ?h5⟩) (by assumption) ?r5
  case h5 => (intro V hSw; have q1 := CV1.out V hSw; have q2 := CV2.out V hSw; clear hSw; go_simp; (try with_reducible rfl))
  simp only [Act.put, List.setIfInBounds_toArray, List.set_cons_zero, List.set_cons_succ]
  refine take_ct (i := 5) (d := some 74) (v := ?v6) rfl rfl (by kernel_rfl) (by kernel_rfl) (by kernel_rfl) (fun _ _ _ h => h) (Or.inl ⟨by rfl, ?h6⟩) (by assumption) ?r6
  case h6 => (intro V hSw; have q1 := CV1.out V hSw; have q2 := CV2.out V hSw; clear hSw; go_simp; (try with_reducible rfl))
  simp only [Act.put, List.setIfInBounds_toArray, List.set_cons_zero, List.set_cons_succ]
  refine take_ct (i := 6) (d := some 75) (v := ?v7) rfl rfl (by kernel_rfl) (by kernel_rfl) (by kernel_rfl) (fun _ _ _ h => h) (Or.inl ⟨by rfl, ?h7⟩) (by assumption) ?r7
  case h7 => (intro V hSw; have q1 := CV1.out V hSw; have q2 := CV2.out V hSw; clear hSw; go_simp; (try with_reducible rfl))
  simp only [Act.put, List.setIfInBounds_toArray, List.set_cons_zero, List.set_cons_succ]
  refine take_ct (i := 7) (d := some 76) (v := ?v8) rfl rfl (by kernel_rfl) (by kernel_rfl) (by kernel_rfl) (fun _ _ _ h => h) (Or.inl ⟨by rfl, ?h8⟩) (by assumption) ?r8
  case h8 => (intro V hSw; have q1 := CV1.out V hSw; have q2 := CV2.out V hSw; clear hSw; go_simp; (try with_reducible rfl))
  simp only [Act.put, List.setIfInBounds_toArray, List.set_cons_zero, List.set_cons_succ]
  refine take_ct (i := 8) (d := some 77) (v := ?v9) rfl rfl (by kernel_rfl) (by kernel_rfl) (by kernel_rfl) (fun _ _ _ h => h) (Or.inl ⟨by rfl, ?h9⟩) (by assumption) ?r9
  case h9 => (intro V hSw; have q1 := CV1.out V hSw; have q2 := CV2.out V hSw; clear hSw; go_simp; (try with_reducible rfl))
  simp only [Act.put, List.setIfInBounds_toArray, List.set_cons_zero, List.set_cons_succ]
  refine take_ct (i := 9) (d := some 78) (v := ?v10) rfl rfl (by kernel_rfl) (by kernel_rfl) (by kernel_rfl) (fun _ _ _ h => h) (Or.inl ⟨by rfl, ?h10⟩) (by assumption) ?r10
  case h10 => (intro V hSw; have q1 := CV1.out V hSw; have q2 := CV2.out V hSw; clear hSw; go_simp; (try with_reducible rfl))
  simp only [Act.put, List.setIfInBounds_toArray, List.set_cons_zero, List.set_cons_succ]
  refine take_ct (i := 10) (d := some 79) (v := ?v11) rfl rfl (by kernel_rfl) (by kernel_rfl) (by kernel_rfl) (fun _ _ _ h => h) (Or.inl ⟨by rfl, ?h11⟩) (by assumption) ?r11
  case h11 => (intro V hSw; have q1 := CV1.out V hSw; have q2 := CV2.out V hSw; clear hSw; go_simp; (try with_reducible rfl))
  simp only [Act.put, List.setIfInBounds_toArray, List.set_cons_zero, List.set_cons_succ]
  refine take_ct (i := 11) (d := some 80) (v := ?v12) rfl rfl (by kernel_rfl) (by kernel_rfl) (by kernel_rfl) (fun _ _ _ h => h) (Or.inl ⟨by rfl, ?h12⟩) (by assumption) ?r12
  case h12 => (intro V hSw; have q1 := CV1.out V hSw; have q2 := CV2.out V hSw; clear hSw; go_simp; (try with_reducible rfl))
  simp only [Act.put, List.setIfInBounds_toArray, List.set_cons_zero, List.set_cons_succ]
  refine take_ct (i := 12) (d := some 81) (v := ?v13) rfl rfl (by kernel_rfl) (by kernel_rfl) (by kernel_rfl) (fun _ _ _ h => h) (Or.inl ⟨by rfl, ?h13⟩) (by assumption) ?r13
  case h13 => (intro V hSw; have q1 := CV1.out V hSw; have q2 := CV2.out V hSw; clear hSw; go_simp; (try with_reducible rfl))
  simp only [Act.put, List.setIfInBounds_toArray, List.set_cons_zero, List.set_cons_succ]
  refine take_ct (i := 13) (d := some 82) (v := ?v14) rfl rfl (by kernel_rfl) (by kernel_rfl) (by kernel_rfl) (fun _ _ _ h => h) (Or.inl ⟨by rfl, ?h14⟩) (by assumption) ?r14
  case h14 => (intro V hSw; have q1 := CV1.out V hSw; have q2 := CV2.out V hSw; clear hSw; go_simp; (try with_reducible rfl))
  simp only [Act.put, List.setIfInBounds_toArray, List.set_cons_zero, List.set_cons_succ]
  refine take_ct (i := 14) (d := some 83) (v := ?v15) rfl rfl (by kernel_rfl) (by kernel_rfl) (by kernel_rfl) (fun _ _ _ h => h) (Or.inl ⟨by rfl, ?h15⟩) (by assumption) ?r15
  case h15 => (intro V hSw; have q1 := CV1.out V hSw; have q2 := CV2.out V hSw; clear hSw; go_simp; (try with_reducible rfl))
  simp only [Act.put, List.setIfInBounds_toArray, List.set_cons_zero, List.set_cons_succ]
  refine take_ct (i := 15) (d := some 84) (v := ?v16) rfl rfl (by kernel_rfl) (by kernel_rfl) (by kernel_rfl) (fun _ _ _ h => h) (Or.inl ⟨by rfl, ?h16⟩) (by assumption) ?r16
  case h16 => (intro V hSw; have q1 := CV1.out V hSw; have q2 := CV2.out V hSw; clear hSw; go_simp; (try with_reducible rfl))
  simp only [Act.put, List.setIfInBounds_toArray, List.set_cons_zero, List.set_cons_succ]
  refine take_ct (i := 16) (d := some 85) (v := ?v17) rfl rfl (by kernel_rfl) (by kernel_rfl) (by kernel_rfl) (fun _ _ _ h => h) (Or.inl ⟨by rfl, ?h17⟩) (by assumption) ?r17
  case h17 => (intro V hSw; have q1 := CV1.out V hSw; have q2 := CV2.out V hSw; clear hSw; go_simp; (try with_reducible rfl))
  simp only [Act.put, List.setIfInBounds_toArray, List.set_cons_zero, List.set_cons_succ]
  refine take_ct (i := 17) (d := some 86) (v := ?v18) rfl rfl (by kernel_rfl) (by kernel_rfl) (by kernel_rfl) (fun _ _ _ h => h) (Or.inl ⟨by rfl, ?h18⟩) (by assumption) ?r18
  case h18 => (intro V hSw; have q1 := CV1.out V hSw; have q2 := CV2.out V hSw; clear hSw; go_simp; (try with_reducible rfl))
  simp only [Act.put, List.setIfInBounds_toArray, List.set_cons_zero, List.set_cons_succ]
  refine take_ct (i := 18) (d := some 87) (v := ?v19) rfl rfl (by kernel_rfl) (by kernel_rfl) (by kernel_rfl) (fun _ _ _ h => h) (Or.inl ⟨by rfl, ?h19⟩) (by assumption) ?r19
  case h19 => (intro V hSw; have q1 := CV1.out V hSw; have q2 := CV2.out V hSw; clear hSw; go_simp; (try with_reducible rfl))
  simp only [Act.put, List.setIfInBounds_toArray, List.set_cons_zero, List.set_cons_succ]
  refine take_ct (i := 19) (d := some 88) (v := ?v20) rfl rfl (by kernel_rfl) (by kernel_rfl) (by kernel_rfl) (fun _ _ _ h => h) (Or.inl ⟨by rfl, ?h20⟩) (by assumption) ?r20
  case h20 => (intro V hSw; have q1 := CV1.out V hSw; have q2 := CV2.out V hSw; clear hSw; go_simp; (try with_reducible rfl))
  simp only [Act.put, List.setIfInBounds_toArray, List.set_cons_zero, List.set_cons_succ]
  refine take_ct (i := 20) (d := some 89) (v := ?v21) rfl rfl (by kernel_rfl) (by kernel_rfl) (by kernel_rfl) (fun _ _ _ h => h) (Or.inl ⟨by rfl, ?h21⟩) (by assumption) ?r21
  case h21 => (intro V hSw; have q1 := CV1.out V hSw; have q2 := CV2.out V hSw; clear hSw; go_simp; (try with_reducible rfl))
  simp only [Act.put, List.setIfInBounds_toArray, List.set_cons_zero, List.set_cons_succ]
  refine take_ct (i := 21) (d := some 90) (v := ?v22) rfl rfl (by kernel_rfl) (by kernel_rfl) (by kernel_rfl) (fun _ _ _ h => h) (Or.inl ⟨by rfl, ?h22⟩) (by assumption) ?r22
  case h22 => (intro V hSw; have q1 := CV1.out V hSw; have q2 := CV2.out V hSw; clear hSw; go_simp; (try with_reducible rfl))
  simp only [Act.put, List.setIfInBounds_toArray, List.set_cons_zero, List.set_cons_succ]
  refine take_ct (i := 22) (d := some 91) (v := ?v23) rfl rfl (by kernel_rfl) (by kernel_rfl) (by kernel_rfl) (fun _ _ _ h => h) (Or.inl ⟨by rfl, ?h23⟩) (by assumption) ?r23
  case h23 => (intro V hSw; have q1 := CV1.out V hSw; have q2 := CV2.out V hSw; clear hSw; go_simp; (try with_reducible rfl))
  simp only [Act.put, List.setIfInBounds_toArray, List.set_cons_zero, List.set_cons_succ]
  refine take_ct (i := 23) (d := some 92) (v := ?v24) rfl rfl (by kernel_rfl) (by kernel_rfl) (by kernel_rfl) (fun _ _ _ h => h) (Or.inl ⟨by rfl, ?h24⟩) (by assumption) ?r24
  case h24 => (intro V hSw; have q1 := CV1.out V hSw; have q2 := CV2.out V hSw; clear hSw; go_simp; (try with_reducible rfl))
  simp only [Act.put, List.setIfInBounds_toArray, List.set_cons_zero, List.set_cons_succ]
  refine take_ct (i := 24) (d := some 93) (v := ?v25) rfl rfl (by kernel_rfl) (by kernel_rfl) (by kernel_rfl) (fun _ _ _ h => h) (Or.inl ⟨by rfl, ?h25⟩) (by assumption) ?r25
  case h25 => (intro V hSw; have q1 := CV1.out V hSw; have q2 := CV2.out V hSw; clear hSw; go_simp; (try with_reducible rfl))
  simp only [Act.put, List.setIfInBounds_toArray, List.set_cons_zero, List.set_cons_succ]
  refine take_ct (i := 25) (d := some 94) (v := ?v26) rfl rfl (by kernel_rfl) (by kernel_rfl) (by kernel_rfl) (fun _ _ _ h => h) (Or.inl ⟨by rfl, ?h26⟩) (by assumption) ?r26
  case h26 => (intro V hSw; have q1 := CV1.out V hSw; have q2 := CV2.out V hSw; clear hSw; go_simp; (try with_reducible rfl))
  simp only [Act.put, List.setIfInBounds_toArray, List.set_cons_zero, List.set_cons_succ]
  refine take_ct (i := 26) (d := some 95) (v := ?v27) rfl rfl (by kernel_rfl) (by kernel_rfl) (by kernel_rfl) (fun _ _ _ h => h) (Or.inl ⟨by rfl, ?h27⟩) (by assumption) ?r27
  case h27 => (intro V hSw; have q1 := CV1.out V hSw; have q2 := CV2.out V hSw; clear hSw; go_simp; (try with_reducible rfl))
  simp only [Act.put, List.setIfInBounds_toArray, List.set_cons_zero, List.set_cons_succ]
  refine take_ct (i := 27) (d := some 96) (v := ?v28) rfl rfl (by kernel_rfl) (by kernel_rfl) (by kernel_rfl) (fun _ _ _ h => h) (Or.inl ⟨by rfl, ?h28⟩) (by assumption) ?r28
  case h28 => (intro V hSw; have q1 := CV1.out V hSw; have q2 := CV2.out V hSw; clear hSw; go_simp; (try with_reducible rfl))
  simp only [Act.put, List.setIfInBounds_toArray, List.set_cons_zero, List.set_cons_succ]
  refine take_ct (i := 28) (d := some 97) (v := ?v29) rfl rfl (by kernel_rfl) (by kernel_rfl) (by kernel_rfl) (fun _ _ _ h => h) (Or.inl ⟨by rfl, ?h29⟩) (by assumption) ?r29
  case h29 => (intro V hSw; have q1 := CV1.out V hSw; have q2 := CV2.out V hSw; clear hSw; go_simp; (try with_reducible rfl))
  simp only [Act.put, List.setIfInBounds_toArray, List.set_cons_zero, List.set_cons_succ]
  refine take_ct (i := 29) (d := some 98) (v := ?v30) rfl rfl (by kernel_rfl) (by kernel_rfl) (by kernel_rfl) (fun _ _ _ h => h) (Or.inl ⟨by rfl, ?h30⟩) (by assumption) ?r30
  case h30 => (intro V hSw; have q1 := CV1.out V hSw; have q2 := CV2.out V hSw; clear hSw; go_simp; (try with_reducible rfl))
  simp only [Act.put, List.setIfInBounds_toArray, List.set_cons_zero, List.set_cons_succ]
  refine take_ct (i := 30) (d := some 99) (v := ?v31) rfl rfl (by kernel_rfl) (by kernel_rfl) (by kernel_rfl) (fun _ _ _ h => h) (Or.inl ⟨by rfl, ?h31⟩) (by assumption) ?r31
  case h31 => (intro V hSw; have q1 := CV1.out V hSw; have q2 := CV2.out V hSw; clear hSw; go_simp; (try with_reducible rfl))
  simp only [Act.put, List.setIfInBounds_toArray, List.set_cons_zero, List.set_cons_succ]
  refine take_ct (i := 31) (d := some 100) (v := ?v32) rfl rfl (by kernel_rfl) (by kernel_rfl) (by kernel_rfl) (fun _ _ _ h => h) (Or.inl ⟨by rfl, ?h32⟩) (by assumption) ?r32
  case h32 => (intro V hSw; have q1 := CV1.out V hSw; have q2 := CV2.out V hSw; clear hSw; go_simp; (try with_reducible rfl))
  simp only [Act.put, List.setIfInBounds_toArray, List.set_cons_zero, List.set_cons_succ]
  refine take_ct (i := 32) (d := some 101) (v := ?v33) rfl rfl (by kernel_rfl) (by kernel_rfl) (by kernel_rfl) (fun _ _ _ h => h) (Or.inl ⟨by rfl, ?h33⟩) (by assumption) ?r33
  case h33 => (intro V hSw; have q1 := CV1.out V hSw; have q2 := CV2.out V hSw; clear hSw; go_simp; (try with_reducible rfl))
  simp only [Act.put, List.setIfInBounds_toArray, List.set_cons_zero, List.set_cons_succ]
  refine take_ct (i := 33) (d := some 102) (v := ?v34) rfl rfl (by kernel_rfl) (by kernel_rfl) (by kernel_rfl) (fun _ _ _ h => h) (Or.inl ⟨by rfl, ?h34⟩) (by assumption) ?r34
  case h34 => (intro V hSw; have q1 := CV1.out V hSw; have q2 := CV2.out V hSw; clear hSw; go_simp; (try with_reducible rfl))
  simp only [Act.put, List.setIfInBounds_toArray, List.set_cons_zero, List.set_cons_succ]
  refine take_ct (i := 34) (d := some 103) (v := ?v35) rfl rfl (by kernel_rfl) (by kernel_rfl) (by kernel_rfl) (fun _ _ _ h => h) (Or.inl ⟨by rfl, ?h35⟩) (by assumption) ?r35
  case h35 => (intro V hSw; have q1 := CV1.out V hSw; have q2 := CV2.out V hSw; clear hSw; go_simp; (try with_reducible rfl))
  simp only [Act.put, List.setIfInBounds_toArray, List.set_cons_zero, List.set_cons_succ]
  refine take_ct (i := 37) (d := some 106) (v := ?v36) rfl rfl (by kernel_rfl) (by kernel_rfl) (by kernel_rfl) (fun _ _ _ h => h) (Or.inl ⟨by rfl, ?h36⟩) (by assumption) ?r36
  case h36 => (intro V hSw; have q1 := CV1.out V hSw; have q2 := CV2.out V hSw; clear hSw; go_simp; (try with_reducible rfl))
  simp only [Act.put, List.setIfInBounds_toArray, List.set_cons_zero, List.set_cons_succ]
  refine take_ct (i := 38) (d := some 107) (v := ?v37) rfl rfl (by kernel_rfl) (by kernel_rfl) (by kernel_rfl) (fun _ _ _ h => h) (Or.inl ⟨by rfl, ?h37⟩) (by assumption) ?r37
  case h37 => (intro V hSw; have q1 := CV1.out V hSw; have q2 := CV2.out V hSw; clear hSw; go_simp; (try with_reducible rfl))
  simp only [Act.put, List.setIfInBounds_toArray, List.set_cons_zero, List.set_cons_succ]
  refine wpAnyH_ready (rs := [35]) (by kernel_rfl) (by simp) ?_
  refine AllReadyH.cons rfl (fun K hK => ?_) AllReadyH.nil
  go_simp
  go_at_call 13
  refine (HN4.out _ (below_on k10.out KD.out)).mono ?_
  rintro e w11 ⟨v1, rfl, o11, b11⟩
  obtain ⟨m1, cc1, rfl, r11, _⟩ := own_rdB1 rfl (by have := XL.out; unfold maxLen; omega) N8.out o11
  have K11 := hide (below_on KD.out b11)
  have k11 : Below w10.heap.size w10 w11 := K11.out
  have R11 := hide r11
  clear o11 b11 r11
  try go_wp2_with fail
  refine hK.out _ _ k11 (fun hHeld2 => ?_)
  clear hK K
  try simp only [Act.put, List.setIfInBounds_toArray, List.set_cons_zero, List.set_cons_succ]
  refine wpAnyH_ready (rs := [36, 39]) (by kernel_rfl) (by simp) ?_
  refine AllReadyH.cons rfl (fun K hK => ?_) ?_
  · have s0 := conv_by R11.out cc1
    go_simp
    refine hK.out _ _ (by assumption) (fun hHeld4 => ?_)
    clear hK K hHeld4
    try simp only [Act.put, List.setIfInBounds_toArray, List.set_cons_zero, List.set_cons_succ]
    clear s0
    refine wpAnyH_ready (rs := [39]) (by kernel_rfl) (by simp) ?_
    refine AllReadyH.cons rfl (fun K hK => ?_) AllReadyH.nil
    go_simp
    go_at_call 14
    refine (HR4.out _ (below_on k10.out K11.out)).mono ?_
    rintro e w12 ⟨v2, rfl, o12, b12⟩
    obtain ⟨m2, cc2, rfl, r12, _⟩ := own_rdB1 rfl (by have := XL.out; unfold maxLen; omega) N8.out o12
    have K12 := hide (below_on K11.out b12)
    have k12 : Below w10.heap.size w10 w12 := K12.out
    have s1 := conv_by (R11.out.below b12) cc1
    have s2 := conv_by r12 cc2
    clear o12 b12 r12
    try go_wp2_with fail
    refine hK.out _ _ k12 (fun hHeld3 => ?_)
    clear hK K
    try simp only [Act.put, List.setIfInBounds_toArray, List.set_cons_zero, List.set_cons_succ]
    refine wpAnyH_ready (rs := [40]) (by kernel_rfl) (by simp) ?_
    refine AllReadyH.cons rfl (fun K hK => ?_) AllReadyH.nil
    go_simp
    refine hK.out _ _ (by assumption) (fun hHeld4 => ?_)
    clear hK K hHeld4
    try simp only [Act.put, List.setIfInBounds_toArray, List.set_cons_zero, List.set_cons_succ]
    refine take_ct (i := 41) (d := some 110) (v := ?v38) rfl rfl (by kernel_rfl) (by kernel_rfl) (by kernel_rfl) (fun _ _ _ h => h) (Or.inl ⟨by rfl, ?h38⟩) (by assumption) ?r38
    case h38 => (intro V hSw; have q1 := CV1.out V hSw; have q2 := CV2.out V hSw; clear hSw; go_simp; (try with_reducible rfl))
    simp only [Act.put, List.setIfInBounds_toArray, List.set_cons_zero, List.set_cons_succ]
    refine take_ct (i := 42) (d := some 111) (v := ?v39) rfl rfl (by kernel_rfl) (by kernel_rfl) (by kernel_rfl) (fun _ _ _ h => h) (Or.inl ⟨by rfl, ?h39⟩) (by assumption) ?r39
    case h39 => (intro V hSw; have q1 := CV1.out V hSw; have q2 := CV2.out V hSw; clear hSw; go_simp; (try with_reducible rfl))
    simp only [Act.put, List.setIfInBounds_toArray, List.set_cons_zero, List.set_cons_succ]
    refine take_ct (i := 43) (d := some 6) (v := ?v40) rfl rfl (by kernel_rfl) (by kernel_rfl) (by kernel_rfl) (fun _ _ _ h => h) (Or.inl ⟨by rfl, ?h40⟩) (by assumption) ?r40
    case h40 => (intro V hSw; have q1 := CV1.out V hSw; have q2 := CV2.out V hSw; clear hSw; go_simp; (try with_reducible rfl))
    simp only [Act.put, List.setIfInBounds_toArray, List.set_cons_zero, List.set_cons_succ]
    refine wpAnyH_done (by kernel_rfl) ?_ _
    clear CV1 CV2 HN4 HR4
    go_wp2
    go_ret
    exact ⟨rfl, below_on k10.out K12.out⟩
  refine AllReadyH.cons rfl (fun K hK => ?_) AllReadyH.nil
  go_simp
  go_at_call 14
  refine (HR4.out _ (below_on k10.out K11.out)).mono ?_
  rintro e w12 ⟨v2, rfl, o12, b12⟩
  obtain ⟨m2, cc2, rfl, r12, _⟩ := own_rdB1 rfl (by have := XL.out; unfold maxLen; omega) N8.out o12
  have K12 := hide (below_on K11.out b12)
  have k12 : Below w10.heap.size w10 w12 := K12.out
  have s1 := conv_by (R11.out.below b12) cc1
  have s2 := conv_by r12 cc2
  clear o12 b12 r12
  try go_wp2_with fail
  refine hK.out _ _ k12 (fun hHeld3 => ?_)
  clear hK K
  try simp only [Act.put, List.setIfInBounds_toArray, List.set_cons_zero, List.set_cons_succ]
  refine wpAnyH_ready (rs := [36, 40]) (by kernel_rfl) (by simp) ?_
  refine AllReadyH.cons rfl (fun K hK => ?_) ?_
  · go_simp
    refine hK.out _ _ (by assumption) (fun hHeld4 => ?_)
    clear hK K hHeld4
    try simp only [Act.put, List.setIfInBounds_toArray, List.set_cons_zero, List.set_cons_succ]
    refine wpAnyH_ready (rs := [40]) (by kernel_rfl) (by simp) ?_
    refine AllReadyH.cons rfl (fun K hK => ?_) AllReadyH.nil
    go_simp
    refine hK.out _ _ (by assumption) (fun hHeld4 => ?_)
    clear hK K hHeld4
    try simp only [Act.put, List.setIfInBounds_toArray, List.set_cons_zero, List.set_cons_succ]
    refine take_ct (i := 41) (d := some 110) (v := ?v41) rfl rfl (by kernel_rfl) (by kernel_rfl) (by kernel_rfl) (fun _ _ _ h => h) (Or.inl ⟨by rfl, ?h41⟩) (by assumption) ?r41
    case h41 => (intro V hSw; have q1 := CV1.out V hSw; have q2 := CV2.out V hSw; clear hSw; go_simp; (try with_reducible rfl))
    simp only [Act.put, List.setIfInBounds_toArray, List.set_cons_zero, List.set_cons_succ]
    refine take_ct (i := 42) (d := some 111) (v := ?v42) rfl rfl (by kernel_rfl) (by kernel_rfl) (by kernel_rfl) (fun _ _ _ h => h) (Or.inl ⟨by rfl, ?h42⟩) (by assumption) ?r42
    case h42 => (intro V hSw; have q1 := CV1.out V hSw; have q2 := CV2.out V hSw; clear hSw; go_simp; (try with_reducible rfl))
    simp only [Act.put, List.setIfInBounds_toArray, List.set_cons_zero, List.set_cons_succ]
    refine take_ct (i := 43) (d := some 6) (v := ?v43) rfl rfl (by kernel_rfl) (by kernel_rfl) (by kernel_rfl) (fun _ _ _ h => h) (Or.inl ⟨by rfl, ?h43⟩) (by assumption) ?r43
    case h43 => (intro V hSw; have q1 := CV1.out V hSw; have q2 := CV2.out V hSw; clear hSw; go_simp; (try with_reducible rfl))
    simp only [Act.put, List.setIfInBounds_toArray, List.set_cons_zero, List.set_cons_succ]
    refine wpAnyH_done (by kernel_rfl) ?_ _
    clear CV1 CV2 HN4 HR4
    go_wp2
    go_ret
    exact ⟨rfl, below_on k10.out K12.out⟩
  refine AllReadyH.cons rfl (fun K hK => ?_) AllReadyH.nil
  go_simp
  refine hK.out _ _ (by assumption) (fun hHeld4 => ?_)
  clear hK K hHeld4
  try simp only [Act.put, List.setIfInBounds_toArray, List.set_cons_zero, List.set_cons_succ]
  refine wpAnyH_ready (rs := [36]) (by kernel_rfl) (by simp) ?_
  refine AllReadyH.cons rfl (fun K hK => ?_) AllReadyH.nil
  go_simp
  refine hK.out _ _ (by assumption) (fun hHeld4 => ?_)
  clear hK K hHeld4
  try simp only [Act.put, List.setIfInBounds_toArray, List.set_cons_zero, List.set_cons_succ]
  refine take_ct (i := 41) (d := some 110) (v := ?v44) rfl rfl (by kernel_rfl) (by kernel_rfl) (by kernel_rfl) (fun _ _ _ h => h) (Or.inl ⟨by rfl, ?h44⟩) (by assumption) ?r44
  case h44 => (intro V hSw; have q1 := CV1.out V hSw; have q2 := CV2.out V hSw; clear hSw; go_simp; (try with_reducible rfl))
  simp only [Act.put, List.setIfInBounds_toArray, List.set_cons_zero, List.set_cons_succ]
  refine take_ct (i := 42) (d := some 111) (v := ?v45) rfl rfl (by kernel_rfl) (by kernel_rfl) (by kernel_rfl) (fun _ _ _ h => h) (Or.inl ⟨by rfl, ?h45⟩) (by assumption) ?r45
  case h45 => (intro V hSw; have q1 := CV1.out V hSw; have q2 := CV2.out V hSw; clear hSw; go_simp; (try with_reducible rfl))
  simp only [Act.put, List.setIfInBounds_toArray, List.set_cons_zero, List.set_cons_succ]
  refine take_ct (i := 43) (d := some 6) (v := ?v46) rfl rfl (by kernel_rfl) (by kernel_rfl) (by kernel_rfl) (fun _ _ _ h => h) (Or.inl ⟨by rfl, ?h46⟩) (by assumption) ?r46
  case h46 => (intro V hSw; have q1 := CV1.out V hSw; have q2 := CV2.out V hSw; clear hSw; go_simp; (try with_reducible rfl))
  simp only [Act.put, List.setIfInBounds_toArray, List.set_cons_zero, List.set_cons_succ]
  refine wpAnyH_done (by kernel_rfl) ?_ _
  clear CV1 CV2 HN4 HR4
  go_wp2
  go_ret
  exact ⟨rfl, below_on k10.out K12.out⟩

end Go.Proofs.YtnmddlgcbljjdaaDoor

namespace Go.Proofs.YtnmddlgcbljjdaaDoor
open Go.ChangeShapes Go.WideShapes Go.ChangeAt Go.RowKit Go.Lib
set_option linter.unusedVariables false

/-- the numbers of a grove, so far -/
def M.preL (g : M.Gv) (k : Nat) : List Int := M.gf g :: M.gw g :: ((M.gt g).length : Int) :: (((M.gs g).zip (M.gt g)).take k).flatMap M.trL
theorem M.pre_zero (g : M.Gv) : M.preL g 0 = [M.gf g, M.gw g, ((M.gt g).length : Int)] := rfl
theorem M.nd_len (n : M.Nd) : (M.ndL n).length ≤ 5 := by
  unfold M.ndL
  split <;> simp
theorem M.nds_len : ∀ t : List M.Nd, (t.flatMap M.ndL).length ≤ 5 * t.length
  | [] => Nat.le_refl _
  | n :: t => by
    have a := M.nds_len t
    have b := M.nd_len n
    rw [List.flatMap_cons, List.length_append]
    show _ ≤ 5 * (t.length + 1)
    omega
theorem M.trs_len : ∀ l : List (Int × List M.Nd), (∀ x ∈ l, x.2.length ≤ 63) → (l.flatMap M.trL).length ≤ 317 * l.length
  | [], _ => Nat.le_refl _
  | x :: l, h => by
    have a := M.trs_len l fun y hy => h y (List.mem_cons_of_mem _ hy)
    have b := M.nds_len x.2
    have c := h x (List.mem_cons_self ..)
    rw [List.flatMap_cons, List.length_append]
    show (x.2.flatMap M.ndL).length + 1 + 1 + _ ≤ 317 * (l.length + 1)
    omega

theorem M.nds_more (P : List Int) {ts : List M.Nd} {j : Nat} (hj : j < ts.length) : P ++ (ts.take (j + 1)).flatMap M.ndL = P ++ (ts.take j).flatMap M.ndL ++ M.ndL (M.nAt ts j) := by
  have e : M.nAt ts j = ts[j] := by unfold M.nAt; rw [M.getD_at hj]
  rw [List.take_succ_eq_append_getElem hj, List.flatMap_append, e, List.append_assoc]
  simp
theorem M.pre_more (G : Gr) {k : Nat} (hk : k < G.ks.length) {x : Int} (hx : x = G.ws.getD k 0) (hz : ((M.gs G.m).zip (M.gt G.m)).length = G.ks.length) (ho : ∀ y ∈ (M.gs G.m).zip (M.gt G.m), M.TrOk y) :
    Hid (M.preL G.m (k + 1) = M.preL G.m k ++ [x] ++ [((G.ks[k]'hk).2.1.length : Int)] ++ (G.ks[k]'hk).2.1.flatMap M.ndL) ∧ (G.ks[k]'hk).2.1.length ≤ 63 := by
  have hz' : k < ((M.gs G.m).zip (M.gt G.m)).length := by rw [hz]; exact hk
  have hw : k < G.ws.length := by have := List.length_zip (l₁ := M.gs G.m) (l₂ := M.gt G.m); rw [hz] at this; have e : (M.gs G.m).length = G.ws.length := rfl; omega
  have e : ((M.gs G.m).zip (M.gt G.m))[k] = (x, (G.ks[k]'hk).2.1) := by
    rw [List.getElem_zip]
    refine Prod.ext ?_ ?_
    · show G.ws[k] = x
      rw [hx]; simp [List.getD, hw]
    · show (tl G.ks)[k]'_ = _
      simp [tl]
  have o := ho _ (List.getElem_mem hz')
  rw [e] at o
  refine ⟨?_, o.2.2.1⟩
  unfold Hid M.preL
  rw [List.take_succ_eq_append_getElem hz', List.flatMap_append, e]
  simp [M.trL, List.append_assoc]

theorem M.nd_in {n : M.Nd} (h : M.NdOk n) : ∀ x ∈ M.ndL n, M.I64 x := by
  intro x hx
  unfold M.ndL at hx
  split at hx
  · simp at hx
    rcases hx with rfl | rfl
    · exact h.1
    · exact h.2.2.2.2.1
  · have b := M.i64_01 (M.ns n)
    simp at hx
    rcases hx with rfl | rfl | rfl | rfl | rfl
    · exact h.1
    · exact h.2.1
    · exact h.2.2.1
    · exact h.2.2.2.1
    · exact b
theorem M.gr_in {g : M.Gv} (hf : M.I64 (M.gf g) ∧ M.I64 (M.gw g)) (ho : ∀ y ∈ (M.gs g).zip (M.gt g), M.TrOk y) (ht : (M.gt g).length ≤ 12) : ∀ x ∈ M.grL g, M.I64 x := by
  intro x hx
  unfold M.grL at hx
  rcases List.mem_cons.1 hx with rfl | hx
  · exact hf.1
  rcases List.mem_cons.1 hx with rfl | hx
  · exact hf.2
  rcases List.mem_cons.1 hx with rfl | hx
  · unfold M.I64; omega
  obtain ⟨y, hy, hx⟩ := List.mem_flatMap.1 hx
  have o := ho y hy
  unfold M.trL at hx
  rcases List.mem_cons.1 hx with rfl | hx
  · exact o.1
  rcases List.mem_cons.1 hx with rfl | hx
  · have := o.2.2.1
    unfold M.I64; omega
  obtain ⟨n, hn, hx⟩ := List.mem_flatMap.1 hx
  exact M.nd_in (o.2.2.2 n hn) x hx

end Go.Proofs.YtnmddlgcbljjdaaDoor

namespace Go.Proofs.YtnmddlgcbljjdaaDoor
open Go.ChangeShapes Go.WideShapes Go.ChangeAt Go.RowKit Go.Lib
set_option linter.unusedVariables false

theorem rd_lit (w : World) (ns : List Int) (t : TypeId) (hl : ns.length ≤ 1000) : Rd (w.alloc (.cells (ns.map (Value.int .i64)).toArray t)) (some ⟨w.heap.size, 0, none⟩) ns :=
  ⟨by unfold maxLen; omega, fun _ => ⟨w.heap.size, 0, rfl, by simp, fun i hi => by
    have e : (ns.map (Value.int .i64)).toArray[i]? = some (.int .i64 (ns.getD i 0)) := by simp [List.getD, hi]
    rw [Nat.zero_add, World.cell?_alloc_new]
    exact e⟩⟩
theorem add_below {w1 W : World} (ns : List Int) (va : Option Addr) (vc : Nat) (L : List Nat) (K : Below w1.heap.size w1 W) (ho : W.ownsRow w1.heap.size 5 1 (.slice va L.length vc) L.length (byCells L)) (hi : ∀ x ∈ ns, M.I64 x) (hl : L.length + 10 * ns.length ≤ 140737488355328) (hn : ns.length ≤ 1000) (o : Obj) (ho' : o = .cells (ns.map (Value.int .i64)).toArray 3) :
    Calls Tryd.prog 17 #[.slice va L.length vc, .slice (some ⟨W.heap.size, 0, none⟩) ns.length ns.length] (W.alloc o) fun e w' => ∃ va' vc', e = .returned (.slice va' (L ++ M.bysL ns).length vc') ∧ w'.ownsRow w1.heap.size 5 1 (.slice va' (L ++ M.bysL ns).length vc') (L ++ M.bysL ns).length (byCells (L ++ M.bysL ns)) ∧ Below w1.heap.size w1 w' := by
  subst ho'
  refine (add_any w1.heap.size va vc L (some ⟨W.heap.size, 0, none⟩) ns ns.length _ (by have := K.size; simp; omega) (ho.alloc _) (rd_lit W ns _ hn) hi ?_ hl).mono ?_
  · intro _ p hp
    cases hp
    intro e
    exact Nat.lt_irrefl _ (ho.lt _ e).2
  · rintro e w2 ⟨va', vc', rfl, hw⟩
    exact ⟨va', vc', rfl, hw.own, (K.alloc K.size _).grown hw.gr hw.le (fun k hk => (ho.lt k hk).1)⟩

set_option maxHeartbeats 4000000 in
set_option maxRecDepth 10000 in
theorem addnode_below {w1 w : World} (n : M.Nd) (va : Option Addr) (vc : Nat) (L : List Nat) (K : Below w1.heap.size w1 w) (ho : w.ownsRow w1.heap.size 5 1 (.slice va L.length vc) L.length (byCells L)) (hn : M.NdOk n) (hl : L.length + 50 ≤ 140737488355328) :
    Calls Tryd.prog 18 #[.slice va L.length vc, ndV n] w fun e w' => ∃ va' vc', e = .returned (.slice va' (L ++ M.bysL (M.ndL n)).length vc') ∧ w'.ownsRow w1.heap.size 5 1 (.slice va' (L ++ M.bysL (M.ndL n)).length vc') (L ++ M.bysL (M.ndL n)).length (byCells (L ++ M.bysL (M.ndL n))) ∧ Below w1.heap.size w1 w' := by
  have HI := hide (M.nd_in hn)
  obtain ⟨f, cc, l, r, b, v⟩ := n
  have nv : ndV (f, cc, l, r, b, v) = .agg #[.int .i64 f, .int .i64 cc, .int .i64 l, .int .i64 r, .bool b, .int .i64 v] := rfl
  rw [nv]
  obtain ⟨W0, hW0⟩ : ∃ X, X = w.alloc (.cells #[.int .i64 f, .int .i64 cc, .int .i64 l, .int .i64 r, .bool b, .int .i64 v] 49) := ⟨_, rfl⟩
  have K0 : Hid (Below w1.heap.size w1 W0) := by rw [hW0]; exact K.alloc K.size _
  have O0 : Hid (W0.ownsRow w1.heap.size 5 1 (.slice va L.length vc) L.length (byCells L)) := by rw [hW0]; exact ho.alloc _
  have k := new_kept hW0 (Below.refl _ _)
  have y0 := k.1 0 _ rfl
  have y1 := k.1 1 _ rfl
  have y2 := k.1 2 _ rfl
  have y3 := k.1 3 _ rfl
  have y4 := k.1 4 _ rfl
  have y5 := k.1 5 _ rfl
  have HW0 := hide hW0
  clear ho K hn nv k hW0
  by_cases q : f = -1
  · have ML : M.ndL (f, cc, l, r, b, v) = [f, v] := if_pos q
    rw [ML] at HI ⊢
    have A1 := hide (add_below [f, v] va vc L K0.out O0.out HI.out (by show L.length + 20 ≤ _; omega) (by show 2 ≤ 1000; omega) _ rfl)
    have t1 : (f == -1) = true := by rw [beq_iff_eq]; exact q
    simp only [List.length_cons, List.length_nil, List.map_cons, List.map_nil, Nat.zero_add] at A1
    generalize L ++ M.bysL [f, v] = Z at *
    clear ML q HI O0 K0
    go_enter Tryd.func18, Tryd.ntmps18
    go_upto_region 1 with fail
    rw [← HW0.out]
    clear HW0
    go_wp2_with (go_at_call 17; refine A1.out.mono ?_; rintro e w2 ⟨ua, uc, rfl, o2, k2⟩; have O2 := hide o2; have K2 := hide k2; clear o2 k2)
    go_ret
    exact ⟨ua, uc, rfl, O2.out, K2.out⟩
  · have ML : M.ndL (f, cc, l, r, b, v) = [f, cc, l, r, if b = true then 1 else 0] := if_neg q
    rw [ML] at HI ⊢
    obtain ⟨z, hz⟩ : ∃ z : Int, z = if b = true then 1 else 0 := ⟨_, rfl⟩
    rw [← hz] at HI ⊢
    have A1 := hide (add_below [f, cc, l, r, z] va vc L K0.out O0.out HI.out (by show L.length + 50 ≤ _; omega) (by show 5 ≤ 1000; omega) _ rfl)
    have t1 : (f == -1) = false := by rw [beq_eq_false_iff_ne]; exact q
    simp only [List.length_cons, List.length_nil, List.map_cons, List.map_nil, Nat.zero_add] at A1
    generalize L ++ M.bysL [f, cc, l, r, z] = Z at *
    clear ML q HI O0 K0
    cases b with
    | true =>
      have hz1 : z = 1 := hz
      clear hz
      subst hz1
      go_enter Tryd.func18, Tryd.ntmps18
      go_upto_region 1 with fail
      rw [← HW0.out]
      clear HW0
      go_wp2_with (go_at_call 17; refine A1.out.mono ?_; rintro e w2 ⟨ua, uc, rfl, o2, k2⟩; have O2 := hide o2; have K2 := hide k2; clear o2 k2)
      go_ret
      exact ⟨ua, uc, rfl, O2.out, K2.out⟩
    | false =>
      have hz1 : z = 0 := hz
      clear hz
      subst hz1
      go_enter Tryd.func18, Tryd.ntmps18
      go_upto_region 1 with fail
      rw [← HW0.out]
      clear HW0
      go_wp2_with (go_at_call 17; refine A1.out.mono ?_; rintro e w2 ⟨ua, uc, rfl, o2, k2⟩; have O2 := hide o2; have K2 := hide k2; clear o2 k2)
      go_ret
      exact ⟨ua, uc, rfl, O2.out, K2.out⟩

end Go.Proofs.YtnmddlgcbljjdaaDoor
