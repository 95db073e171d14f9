/-
  Several texts as one: Groves, CdQ, CBack, EncL, CdAddB, GCheck.
-/
import Derived.Test.YtdadjppdonephahDoorRunB5
import Derived.Lib.SmallJoins
import Derived.Test.YtdadjppdonephahDoorRunB1
import Derived.Test.YtdadjppdonephahDoorRunB6
import Derived.RegionTactic
import Derived.Deep.Cut
import Derived.Deep.CutRange
import Derived.BigQuiet
import Derived.Deep.QuietTactic
import Derived.Test.YtdadjppdonephahDoorRunB7
namespace Go.Proofs.YtdadjppdonephahDoor
open Go.ChangeShapes Go.WideShapes Go.ChangeAt Go.RowKit Go.Deep
set_option linter.unusedVariables false

abbrev Tc := Option Addr × List M.Nd × Nat
def tV (k : Tc) : Value := .slice k.1 k.2.1.length k.2.2
/-- trees, where they lie -/
def RdT (w : World) (a : Option Addr) (ks : List Tc) : Prop :=
  ks.length ≤ maxLen ∧ (∀ k ∈ ks, RdN w k.1 k.2.1) ∧ (ks ≠ [] → ∃ b off, a = some ⟨b, off, none⟩ ∧ b < w.heap.size ∧ ∀ i (h : i < ks.length), w.cell? ⟨b, off + i, none⟩ = some (tV ks[i]))
theorem RdT.below {w w' : World} {a : Option Addr} {ks : List Tc} (h : RdT w a ks) (hb : Below w.heap.size w w') : RdT w' a ks :=
  ⟨h.1, fun k hk => (h.2.1 k hk).below hb, fun hn => by
    obtain ⟨b, off, e, hl, hc⟩ := h.2.2 hn
    exact ⟨b, off, e, Nat.lt_of_lt_of_le hl hb.size, fun i hi => (hb.cell (p := ⟨b, off + i, none⟩) hl).trans (hc i hi)⟩⟩
def tl (ks : List Tc) : List (List M.Nd) := ks.map (·.2.1)
theorem tl_len (ks : List Tc) : (tl ks).length = ks.length := by simp [tl]
theorem tl_at (ks : List Tc) {k : Nat} (h : k < ks.length) : (tl ks).getD k [] = ks[k].2.1 := by
  rw [M.getD_at (by rw [tl_len]; exact h)]; simp [tl]

/-- a grove, as it is handed on -/
structure Gr where
  f : Int
  w : Int
  wa : Option Addr
  ws : List Int
  wc : Nat
  ta : Option Addr
  ks : List Tc
  tc : Nat
def Gr.v (G : Gr) : Value := .agg #[.int .i64 G.f, .int .i64 G.w, .slice G.wa G.ws.length G.wc, .slice G.ta G.ks.length G.tc]
def Gr.m (G : Gr) : M.Gv := (G.f, G.w, G.ws, tl G.ks)
def RdG (w : World) (G : Gr) : Prop := Rd w G.wa G.ws ∧ RdT w G.ta G.ks
theorem RdG.below {w w' : World} {G : Gr} (h : RdG w G) (hb : Below w.heap.size w w') : RdG w' G := ⟨h.1.below hb, h.2.below hb⟩

theorem cellsTree : Tryd.prog.cellsOf 45 = 1 := by kernel_rfl
set_option maxRecDepth 10000 in
theorem open_trees {H : Type} {enc : TypeId × Value → H} {W : World} {base : Nat} {spare : Nat → Bool} {held : Bool} {fuel : Nat} {a : Option Addr} {len cap : Nat} {x : DataW H × List MemPlace}
    (h : DataW.trod enc Tryd.prog W base spare held fuel 23 [.slice a len cap] = some x) : ∃ ks : List Tc, ks.length = len ∧ RdT W a ks := by
  rcases open_slice Tryd.underlying23 h with ⟨hcs, _⟩ | ⟨a', len', cap', m, n, D, Pl, hcs, _, hl, hm, hmm, _, hx⟩
  · cases hcs
    exact ⟨[], rfl, ⟨Nat.zero_le _, (fun k hk => by cases hk), fun h => absurd rfl h⟩⟩
  · cases hcs
    have hlm : len ≤ m := by rw [hmm]; split <;> omega
    have each : ∀ i, i < len → ∃ k : Tc, W.cell? (a'.add i) = some (tV k) ∧ RdN W k.1 k.2.1 := by
      intro i hi
      obtain ⟨cs, h1, h2⟩ := hx i (by omega)
      rw [cellsTree] at h1
      obtain ⟨_, hlen, hcell⟩ := World.cells?_some h1
      match cs, hlen with
      | [c0], _ =>
        have d0 := hcell 0 (by omega)
        rw [add_add] at d0
        simp at d0
        have sl : ∃ b l c, c0 = .slice b l c := by
          rcases open_slice Tryd.underlying45 h2 with ⟨hcs, _⟩ | ⟨a2, len2, cap2, _, _, _, _, hcs, _⟩
          · exact ⟨none, 0, 0, by cases hcs; rfl⟩
          · exact ⟨some a2, len2, cap2, by cases hcs; rfl⟩
        obtain ⟨b, l, c, rfl⟩ := sl
        obtain ⟨ts, e, hr⟩ := open_nodes h2
        subst e
        exact ⟨(b, ts, c), d0, hr⟩
    obtain ⟨f, hf⟩ := choose_lt each
    refine ⟨(List.range len).map f, by simp, ⟨by simp; omega, ?_, fun hne => ?_⟩⟩
    · intro k hk
      rw [List.mem_map] at hk
      obtain ⟨i, hi, rfl⟩ := hk
      exact (hf i (by simpa using hi)).2
    · have hp : 0 < len := by
        rcases Nat.eq_zero_or_pos len with h0 | h0
        · subst h0; exact absurd rfl hne
        · exact h0
      obtain ⟨b, off, spot⟩ := a'
      have hspot : spot = none := by
        have := World.cell?_spot (hf 0 hp).1
        simpa [Addr.add] using this
      subst hspot
      refine ⟨b, off, rfl, ?_, fun i hi => ?_⟩
      · have := (hf 0 hp).1
        rw [add_flat] at this
        exact block_lt_of_cell this
      · have hi' : i < len := by simpa using hi
        have q := (hf i hi').1
        rw [add_flat] at q
        rw [q]; simp

theorem cellsGrove : Tryd.prog.cellsOf 25 = 4 := by kernel_rfl
theorem cellsRow : Tryd.prog.cellsOf 22 = 1 := by kernel_rfl
theorem cellsTrees : Tryd.prog.cellsOf 23 = 1 := by kernel_rfl
set_option maxRecDepth 10000 in
theorem open_grove {H : Type} {enc : TypeId × Value → H} {W : World} {base b0 : Nat} {held : Bool} {v : Value} {d : DataW H} {ps : List MemPlace}
    (hv : Value.okWide Tryd.prog W .any base 25 v) (h : DataW.Trod enc Tryd.prog W b0 (fun _ => true) held 25 v d ps) : ∃ G : Gr, v = G.v ∧ RdG W G := by
  obtain ⟨cs, rfl, hsz⟩ := okWide_struct Tryd.underlying25 hv
  rw [cellsGrove] at hsz
  obtain ⟨c0, c1, c2, c3, rfl⟩ := Joins.array4 hsz
  obtain ⟨fuel, hf⟩ := h
  obtain ⟨y0, y1, y2, y3, n, _, _, g0, g1, g2, g3⟩ := Joins.trod_struct4 Tryd.underlying25 hf
  rw [cellsInt] at g0 g1
  rw [cellsRow] at g2
  rw [cellsTrees] at g3
  obtain ⟨n0, e0, _⟩ := DataW.trod_int Tryd.underlying3 g0
  obtain ⟨n1, e1, _⟩ := DataW.trod_int Tryd.underlying3 g1
  simp [Value.cells] at e0 e1 g2 g3
  subst e0
  subst e1
  obtain ⟨wa, ws, wc, rfl, hw⟩ : ∃ wa ws wc, c2 = .slice wa (List.length (α := Int) ws) wc ∧ Rd W wa ws := by
    rcases open_ints Tryd.underlying22 Tryd.underlying3 (by kernel_rfl) g2 with ⟨hcs, _⟩ | ⟨x, l, c, zs, hcs, _, hl, hm, hz, _, hcell, hwz⟩
    · cases hcs
      exact ⟨none, [], 0, rfl, ⟨Nat.zero_le _, fun h => absurd rfl h⟩⟩
    · cases hcs
      have y : IsRow .i64 W (some x) l c zs := .inr ⟨_, rfl, hl, hm, by simpa using hz, hcell, hwz⟩
      exact ⟨some x, zs.take l, c, by rw [(rd_of y).2], (rd_of y).1⟩
  obtain ⟨ta, ks, tc, rfl, hk⟩ : ∃ ta ks tc, c3 = .slice ta (List.length (α := Tc) ks) tc ∧ RdT W ta ks := by
    have sl : ∃ b l c, c3 = .slice b l c := by
      rcases open_slice Tryd.underlying23 g3 with ⟨hcs, _⟩ | ⟨a2, len2, cap2, _, _, _, _, hcs, _⟩
      · exact ⟨none, 0, 0, by cases hcs; rfl⟩
      · exact ⟨some a2, len2, cap2, by cases hcs; rfl⟩
    obtain ⟨b, l, c, rfl⟩ := sl
    obtain ⟨ks, e, hr⟩ := open_trees g3
    subst e
    exact ⟨b, ks, c, rfl, hr⟩
  exact ⟨⟨n0, n1, wa, ws, wc, ta, ks, tc⟩, rfl, hw, hk⟩

end Go.Proofs.YtdadjppdonephahDoor

namespace Go.Proofs.YtdadjppdonephahDoor
open Go.ChangeShapes Go.WideShapes Go.ChangeAt Go.RowKit Go.Lib
set_option linter.unusedVariables false

def CdEncGives : Prop := ∀ (G : Gr) (W : World), RdG W G → Calls Tryd.prog 6 #[G.v] W fun e w' => ∃ v, e = .returned (.tuple #[v, errV (M.encF G.m)]) ∧ w'.ownsRow W.heap.size 5 1 v (M.encV G.m).length (byCells (M.encV G.m)) ∧ Below W.heap.size W w'
def CdDecGives : Prop := ∀ (a : Option Addr) (bs : List Nat) (c : Nat) (W : World), RdB W a bs → bs.length ≤ c → c ≤ 9223372036854775807 → Calls Tryd.prog 7 #[.slice a bs.length c] W fun e w' => ∃ O : Gr, e = .returned (.tuple #[O.v, .int .i64 ((M.decF bs).1 : Nat), errV (M.decF bs).2]) ∧ O.m = M.decV bs ∧ RdG w' O ∧ Below W.heap.size W w'
theorem M.enc_byte (g : M.Gv) : ∀ x ∈ M.encV g, x < 256 := by
  unfold M.encV
  split
  · exact M.bys_byte _
  · intro x hx; cases hx
theorem M.enc_len {g : M.Gv} (h : M.encF g = 0) : (M.encV g).length ≤ 6000 := by
  unfold M.encV
  rw [if_pos h]
  unfold M.encF at h
  split at h
  · exact absurd h (by assumption)
  · split at h
    · simp at h
    · omega

end Go.Proofs.YtdadjppdonephahDoor

namespace Go.Proofs.YtdadjppdonephahDoor
open Go.ChangeShapes Go.WideShapes Go.ChangeAt Go.RowKit Go.Lib
set_option linter.unusedVariables false

theorem below_alloc {w W : World} (h : Below w.heap.size w W) (o : Obj) : Below w.heap.size w (W.alloc o) := h.alloc h.size o
theorem RdB.at {w : World} {a : Option Addr} {xs : List Nat} (h : RdB w a xs) {i : Nat} (hi : i < xs.length) : ∃ b off, a = some ⟨b, off, none⟩ ∧ b < w.heap.size ∧ w.cell? ⟨b, off + i, none⟩ = some (.int .u8 (xs.getD i 0 : Nat)) := by
  obtain ⟨b, off, e, hl, hc⟩ := h.2.2 (by intro e; rw [e] at hi; simp at hi)
  exact ⟨b, off, e, hl, hc i hi⟩

set_option maxHeartbeats 16000000 in
set_option maxRecDepth 10000 in
theorem codeback_walk (hN : CdNumGives) (hG : CdGetGives) (hE : CdEncGives) (hD : CdDecGives) (G : Gr) (a : Option Addr) (bs : List Nat) (ca : Nat) (c n : Int) (w : World)
    (hS : ∀ (G O : Gr) (W : World), RdG W G → RdG W O → G.m = O.m → Calls Tryd.prog 8 #[G.v, O.v] W fun e w' => e = .returned (.bool true) ∧ Below W.heap.size W w')
    (hER : ∀ e W, Below w.heap.size w W → Calls Tryd.prog 9 #[errV e, .int .i64 e] W fun r w' => r = .returned (.bool true) ∧ Below W.heap.size W w')
    (hg : RdG w G) (hb : RdB w a bs) (hl : bs.length ≤ ca) (hca : ca ≤ 9223372036854775807) (hnil : a = none → ca = 0) (hz : bs.length ≤ 140737488351232) (n1 : -9223372036854775808 ≤ n) (n2 : n ≤ 9223372036854775807) :
    Calls Tryd.prog 3 #[G.v, .slice a bs.length ca, .int .i64 c, .int .i64 n] w fun e w' => e = .returned (.bool true) ∧ Below w.heap.size w w' := by
  have B0 : Hid (∀ o, Below w.heap.size w (w.alloc o)) := fun o => (Below.refl _ w).alloc (Nat.le_refl _) o
  have N0 := hide (fun W => hN none [] 0 (-3) W ⟨Nat.zero_le _, (fun x hx => by cases hx), fun hn => absurd rfl hn⟩ (fun _ => rfl) (by simp) (by omega) (by omega))
  have e3 : M.numL (-3) = [5] := M.sev_last (x := 5) (by decide)
  simp only [e3, List.nil_append, List.length_nil, List.length_cons] at N0
  have N1 := hide (fun W (hW : Below w.heap.size w W) => hN a bs ca n W (hb.below hW) hnil hz n1 n2)
  have nl := M.num_len n1 n2
  have GN := hide (M.get_num n1 n2 [])
  rw [List.append_nil] at GN
  have NB : Hid (∀ x ∈ M.numL n, x < 256) := M.sev_byte _
  have HG := hide hG
  have HB := hide hb
  have HGr := hide hg
  have HE := hide (fun (G : Gr) (W : World) (h : RdG W G) => hE G W h)
  have HD := hide (fun a bs c W h1 h2 h3 => hD a bs c W h1 h2 h3)
  have HS := hide hS
  unfold Gr.v at HE HD HS
  have HER := hide hER
  clear hE hD hS hER hG
  clear e3 hb hg hN
  unfold Gr.v
  go_enter Tryd.func3, Tryd.ntmps3
  have GC : Hid (∀ W, Below (w.alloc (.cells #[.int .i64 G.f, .int .i64 G.w, .slice G.wa G.ws.length G.wc, .slice G.ta G.ks.length G.tc] 25)).heap.size (w.alloc (.cells #[.int .i64 G.f, .int .i64 G.w, .slice G.wa G.ws.length G.wc, .slice G.ta G.ks.length G.tc] 25)) W → W.cell? ⟨w.heap.size, 0, none⟩ = some (.int .i64 G.f) ∧ W.cell? ⟨w.heap.size, 1, none⟩ = some (.int .i64 G.w) ∧ W.cell? ⟨w.heap.size, 2, none⟩ = some (.slice G.wa G.ws.length G.wc) ∧ W.cell? ⟨w.heap.size, 3, none⟩ = some (.slice G.ta G.ks.length G.tc)) := fun W hW => by
    have r := (new_kept rfl hW).1
    exact ⟨r 0 _ rfl, r 1 _ rfl, r 2 _ rfl, r 3 _ rfl⟩
  go_upto_region 2 with (go_at_call 4; refine (N0.out _).mono ?_; rintro e w1 ⟨v1, rfl, ho, hb1⟩; have k1 := hide (below_on (B0.out _) hb1); have KB := hide hb1; obtain ⟨fa, fc, rfl, ho2⟩ := own_rdB1 (xs := [5]) rfl (by unfold maxLen; decide) (by simp) ho; have R1 := hide ho2.1; clear ho ho2 hb1)
  obtain ⟨fb, fo, rfl, hfb, hfc⟩ := R1.out.at (i := 0) (by simp)
  have hfc' : w1.cell? ⟨fb, fo, none⟩ = some (.int .u8 5) := hfc
  go_upto_region 5 with (go_at_call 4; refine (N1.out _ k1.out).mono ?_; rintro e w2 ⟨v2, rfl, ho, hb2⟩; have k2 := hide (below_on k1.out hb2); have KB2 := hide hb2; have HO := hide ho; clear ho hb2)
  obtain ⟨X, hX⟩ : ∃ X, X = bs ++ M.numL n := ⟨_, rfl⟩
  rw [← hX] at HO
  have xl : X.length = bs.length + (M.numL n).length := by rw [hX, List.length_append]
  have x8 : ∀ x ∈ X, x < 256 := by
    rw [hX]
    intro x hx
    rcases List.mem_append.1 hx with q | q
    · exact HB.out.2.1 x q
    · exact NB.out x q
  have XD : Hid (X.drop bs.length = M.numL n) := by unfold Hid; rw [hX, List.drop_left]
  have XT : Hid (X.take bs.length = bs) := by unfold Hid; rw [hX, List.take_left]
  obtain ⟨xa, xc, ex, rx, _, xle, xcm⟩ := own_rdB1 rfl (by unfold maxLen; omega) x8 HO.out
  rw [ex]
  have RX := hide rx
  have XL := hide xl
  have z0 : (0 : Int) ≤ (bs.length : Int) := by omega
  have z1 : (bs.length : Int) ≤ (X.length : Int) := by omega
  have z2 : (bs.length : Int) ≤ (xc : Int) := by omega
  have GT : Hid (∀ (W : World) a' n' c', n' = X.length - bs.length → RdB W a' (X.drop bs.length) → Calls Tryd.prog 5 #[.slice a' n' c'] W fun e w' => e = .returned (.tuple #[.int .i64 n, .int .i64 ((X.length - bs.length : Nat) : Int), .nilIface]) ∧ Below W.heap.size W w') := fun W a' n' c' hn h' => by
    have q := HG.out a' (X.drop bs.length) c' W h'
    rw [List.length_drop, ← hn] at q
    rw [show M.getL (X.drop bs.length) = (n, (M.numL n).length, 0) by rw [XD.out]; exact GN.out] at q
    have zn : errV 0 = .nilIface := if_pos rfl
    simp only [zn] at q
    rw [show (M.numL n).length = X.length - bs.length by omega] at q
    exact q
  have RS : Hid (RdB w2 (if xc = bs.length then xa else Option.map (fun x => x.add bs.length) xa) (X.drop bs.length)) := rdB_slice rx xle
  clear hX xl x8 HO ex rx N0 N1 GN HG hfc hfc' R1 nl
  go_upto_region 6 with (go_at_call 5; refine (GT.out _ _ _ _ rfl RS.out).mono ?_; rintro e w3 ⟨rfl, hb3⟩; have KB3 := hide hb3; have k3 := hide (below_on k2.out hb3); have R3 := hide (RX.out.below hb3); clear hb3)
  clear GT RS RX
  generalize (if xc = bs.length then xa else Option.map (fun x => x.add bs.length) xa) = ad
  have kc1 := fun m => conv_by ((HB.out.below k3.out).below (below_drew (Below.refl _ _) m (Nat.le_refl _))) ca
  have kc2 := fun m => conv_by ((R3.out.take bs.length).below (below_drew (Below.refl _ _) m (Nat.le_refl _))) xc
  rw [XT.out] at kc2
  have nx : ((X.length - bs.length : Nat) : Int) = (X.length : Int) - (bs.length : Int) := by omega
  rw [nx]
  clear nx
  have xm : X.length ≤ 140737488351242 := by have := XL.out; have := M.num_len n1 n2; omega
  go_quiet (fail)
  obtain ⟨w4, hw4⟩ : ∃ X, X = w3.drewN nq := ⟨_, rfl⟩
  rw [← hw4]
  have b34 : Below w3.heap.size w3 w4 := by rw [hw4]; exact below_drew (Below.refl _ _) nq (Nat.le_refl _)
  have k4 := hide (below_on k3.out b34)
  have KG : Hid (Below (w.alloc (.cells #[.int .i64 G.f, .int .i64 G.w, .slice G.wa G.ws.length G.wc, .slice G.ta G.ks.length G.tc] 25)).heap.size (w.alloc (.cells #[.int .i64 G.f, .int .i64 G.w, .slice G.wa G.ws.length G.wc, .slice G.ta G.ks.length G.tc] 25)) w4) := below_on (below_on (below_on KB.out KB2.out) KB3.out) b34
  clear hw4 b34 kc1 kc2 KB KB2 KB3 R3 XT XD XL xm
  obtain ⟨c0, c1, c2, c3⟩ := GC.out w4 KG.out
  go_upto_region 9 with (go_at_call 6; refine (HE.out G _ (HGr.out.below k4.out)).mono ?_; rintro e w5 ⟨v5, rfl, ho, hb5⟩; have k5 := hide (below_on k4.out hb5); have KG5 := hide (below_on KG.out hb5); have HO := hide ho; clear ho hb5)
  clear c0 c1 c2 c3
  by_cases he : M.encF G.m = 0
  · obtain ⟨de, dv⟩ := M.dec_enc he
    have ll := M.enc_len he
    obtain ⟨ea, ec, rfl, re, _, ele, ecm⟩ := own_rdB1 rfl (by unfold maxLen; omega) (M.enc_byte G.m) HO.out
    rw [he]
    have zn : errV 0 = .nilIface := if_pos rfl
    rw [zn]
    have HD1 := hide (HD.out ea (M.encV G.m) ec w5 re ele ecm)
    rw [de, dv] at HD1
    simp only [zn] at HD1
    have RE := hide re
    have CU := hide (fun (m : Nat) (hm : m < (M.encV G.m).length) => M.dec_cut he hm)
    clear he de dv re HO zn
    generalize M.encV G.m = Y at *
    go_upto_region 11 with (go_at_call 7; refine HD1.out.mono ?_; rintro e w6 ⟨O, rfl, om, hr, hb6⟩; have K56 := hide hb6; have k6 := hide (below_on k5.out hb6); have KG6 := hide (below_on KG5.out hb6); have OM := hide om; have RO := hide hr; clear om hr hb6)
    obtain ⟨wa, hwa⟩ : ∃ X, X = w6.alloc (.cells #[.int .i64 O.f, .int .i64 O.w, .slice O.wa O.ws.length O.wc, .slice O.ta O.ks.length O.tc] 25) := ⟨_, rfl⟩
    rw [← hwa]
    have b6a : Below w6.heap.size w6 wa := by rw [hwa]; exact (Below.refl _ _).alloc (Nat.le_refl _) _
    have ka := hide (below_on k6.out b6a)
    have KGa := hide (below_on KG6.out b6a)
    have K5a := hide (below_on K56.out b6a)
    obtain ⟨o0, o1, o2, o3⟩ : wa.cell? ⟨w6.heap.size, 0, none⟩ = some (.int .i64 O.f) ∧ wa.cell? ⟨w6.heap.size, 1, none⟩ = some (.int .i64 O.w) ∧ wa.cell? ⟨w6.heap.size, 2, none⟩ = some (.slice O.wa O.ws.length O.wc) ∧ wa.cell? ⟨w6.heap.size, 3, none⟩ = some (.slice O.ta O.ks.length O.tc) := by
      rw [hwa]
      exact ⟨World.cell?_alloc_at _ _ _ 0 rfl, World.cell?_alloc_at _ _ _ 1 rfl, World.cell?_alloc_at _ _ _ 2 rfl, World.cell?_alloc_at _ _ _ 3 rfl⟩
    obtain ⟨c0, c1, c2, c3⟩ := GC.out wa KGa.out
    have SM := hide (HS.out O G wa (RO.out.below b6a) (HGr.out.below ka.out) OM.out)
    clear hwa b6a HD1
    go_upto_region 12 with (go_at_call 8; refine SM.out.mono ?_; rintro e wb ⟨rfl, hbb⟩; have kb := hide (below_on ka.out hbb); have K5b := hide (below_on K5a.out hbb); clear hbb)
    clear o0 o1 o2 o3 c0 c1 c2 c3 SM GC KG KG5 KG6 KGa OM RO K5a K56 HS HGr ka k6
    go_upto_region 14 with fail
    by_cases cin : 0 ≤ c ∧ c < (Y.length : Int)
    · obtain ⟨cp, cl⟩ := cin
      obtain ⟨m, rfl⟩ := Int.eq_ofNat_of_zero_le cp
      have ml : m < Y.length := by omega
      have d8 := CU.out m ml
      have HD2 := hide (HD.out ea (Y.take m) ec wb ((RE.out.below K5b.out).take m) (by rw [List.length_take]; omega) ecm)
      rw [List.length_take, Nat.min_eq_left (by omega), d8.1] at HD2
      have pm : ¬ m < (M.decF (Y.take m)).1 := by have := d8.2; omega
      have z1 : (0 : Int) ≤ (m : Int) := by omega
      have z2 : (m : Int) ≤ (Y.length : Int) := by omega
      have z3 : (m : Int) ≤ (ec : Int) := by omega
      clear d8 CU
      generalize (M.decF (Y.take m)).1 = pl at *
      generalize hE8 : errV 8 = E8 at *
      have HE8 := hide hE8
      clear hE8
      go_upto_region 16 with (go_at_call 7; refine HD2.out.mono ?_; rintro e wc ⟨O2, rfl, om, hr, hbc⟩; have kc := hide (below_on kb.out hbc); clear om hr hbc)
      have ER := hide (HER.out 8 _ (below_alloc kc.out (.cells #[.int .i64 O2.f, .int .i64 O2.w, .slice O2.wa O2.ws.length O2.wc, .slice O2.ta O2.ks.length O2.tc] 25)))
      rw [HE8.out] at ER
      have ka2 := hide (below_alloc kc.out (.cells #[.int .i64 O2.f, .int .i64 O2.w, .slice O2.wa O2.ws.length O2.wc, .slice O2.ta O2.ks.length O2.tc] 25))
      go_upto_region 17 with (go_at_call 9; refine ER.out.mono ?_; rintro e we ⟨rfl, hbe⟩; have ke := hide (below_on ka2.out hbe); clear hbe)
      clear ER ka2 HD2
      go_upto_region 19 with fail
      have HDb := hide (fun W (hW : Below w.heap.size w W) => HD.out a bs ca W (HB.out.below hW) hl hca)
      by_cases hd : (M.decF bs).2 = 0
      · obtain ⟨ef, ev⟩ := M.enc_dec HB.out.2.1 hd
        rw [hd] at HDb
        simp only [show errV 0 = .nilIface from if_pos rfl] at HDb
        have EF := hide ef
        have EV := hide ev
        clear hd ef ev
        generalize ((M.decF bs).1 : Int) = pl at *
        go_upto_region 20 with (go_at_call 7; refine (HDb.out _ ke.out).mono ?_; rintro e w7 ⟨O, rfl, om, hr, hb7⟩; have k7 := hide (below_on ke.out hb7); have OM := hide om; have RO := hide hr; clear om hr hb7)
        obtain ⟨w8, hw8⟩ : ∃ X, X = w7.alloc (.cells #[.int .i64 O.f, .int .i64 O.w, .slice O.wa O.ws.length O.wc, .slice O.ta O.ks.length O.tc] 25) := ⟨_, rfl⟩
        rw [← hw8]
        have b78 : Below w7.heap.size w7 w8 := by rw [hw8]; exact (Below.refl _ _).alloc (Nat.le_refl _) _
        have k8 := hide (below_on k7.out b78)
        obtain ⟨o0, o1, o2, o3⟩ : w8.cell? ⟨w7.heap.size, 0, none⟩ = some (.int .i64 O.f) ∧ w8.cell? ⟨w7.heap.size, 1, none⟩ = some (.int .i64 O.w) ∧ w8.cell? ⟨w7.heap.size, 2, none⟩ = some (.slice O.wa O.ws.length O.wc) ∧ w8.cell? ⟨w7.heap.size, 3, none⟩ = some (.slice O.ta O.ks.length O.tc) := by
          rw [hw8]
          exact ⟨World.cell?_alloc_at _ _ _ 0 rfl, World.cell?_alloc_at _ _ _ 1 rfl, World.cell?_alloc_at _ _ _ 2 rfl, World.cell?_alloc_at _ _ _ 3 rfl⟩
        have HEo := hide (HE.out O w8 (RO.out.below b78))
        rw [OM.out, EF.out, EV.out] at HEo
        simp only [show errV 0 = .nilIface from if_pos rfl] at HEo
        clear hw8 b78 HDb HD HE
        go_upto_region 23 with (go_at_call 6; refine HEo.out.mono ?_; rintro e w9 ⟨v9, rfl, ho, hb9⟩; have k9 := hide (below_on k8.out hb9); have HZ := hide ho; clear ho hb9)
        obtain ⟨za, zc, rfl, rz, _⟩ := own_rdB1 rfl HB.out.1 HB.out.2.1 HZ.out
        have kc1 := conv_by (HB.out.below k9.out) ca
        have kc2 := conv_by rz zc
        clear o0 o1 o2 o3 HEo HZ rz
        go_wp2
        go_ret
        exact ⟨rfl, k9.out⟩
      · rw [show errV (M.decF bs).2 = .iface 42 (.int .i64 (M.decF bs).2) from if_neg hd] at HDb
        clear hd HD HE
        generalize ((M.decF bs).1 : Int) = pl at *
        generalize (M.decF bs).2 = er at *
        go_upto_region 20 with (go_at_call 7; refine (HDb.out _ ke.out).mono ?_; rintro e w7 ⟨O, rfl, om, hr, hb7⟩; have k7 := hide (below_on ke.out hb7); clear om hr hb7)
        go_wp2
        go_ret
        exact ⟨rfl, below_alloc k7.out _⟩
    · by_cases c0 : 0 ≤ c
      · have c1 : ¬ c < (Y.length : Int) := fun q => cin ⟨c0, q⟩
        clear cin
        go_upto_region 19 with fail
        have HDb := hide (fun W (hW : Below w.heap.size w W) => HD.out a bs ca W (HB.out.below hW) hl hca)
        by_cases hd : (M.decF bs).2 = 0
        · obtain ⟨ef, ev⟩ := M.enc_dec HB.out.2.1 hd
          rw [hd] at HDb
          simp only [show errV 0 = .nilIface from if_pos rfl] at HDb
          have EF := hide ef
          have EV := hide ev
          clear hd ef ev
          generalize ((M.decF bs).1 : Int) = pl at *
          go_upto_region 20 with (go_at_call 7; refine (HDb.out _ kb.out).mono ?_; rintro e w7 ⟨O, rfl, om, hr, hb7⟩; have k7 := hide (below_on kb.out hb7); have OM := hide om; have RO := hide hr; clear om hr hb7)
          obtain ⟨w8, hw8⟩ : ∃ X, X = w7.alloc (.cells #[.int .i64 O.f, .int .i64 O.w, .slice O.wa O.ws.length O.wc, .slice O.ta O.ks.length O.tc] 25) := ⟨_, rfl⟩
          rw [← hw8]
          have b78 : Below w7.heap.size w7 w8 := by rw [hw8]; exact (Below.refl _ _).alloc (Nat.le_refl _) _
          have k8 := hide (below_on k7.out b78)
          obtain ⟨o0, o1, o2, o3⟩ : w8.cell? ⟨w7.heap.size, 0, none⟩ = some (.int .i64 O.f) ∧ w8.cell? ⟨w7.heap.size, 1, none⟩ = some (.int .i64 O.w) ∧ w8.cell? ⟨w7.heap.size, 2, none⟩ = some (.slice O.wa O.ws.length O.wc) ∧ w8.cell? ⟨w7.heap.size, 3, none⟩ = some (.slice O.ta O.ks.length O.tc) := by
            rw [hw8]
            exact ⟨World.cell?_alloc_at _ _ _ 0 rfl, World.cell?_alloc_at _ _ _ 1 rfl, World.cell?_alloc_at _ _ _ 2 rfl, World.cell?_alloc_at _ _ _ 3 rfl⟩
          have HEo := hide (HE.out O w8 (RO.out.below b78))
          rw [OM.out, EF.out, EV.out] at HEo
          simp only [show errV 0 = .nilIface from if_pos rfl] at HEo
          clear hw8 b78 HDb HD HE
          go_upto_region 23 with (go_at_call 6; refine HEo.out.mono ?_; rintro e w9 ⟨v9, rfl, ho, hb9⟩; have k9 := hide (below_on k8.out hb9); have HZ := hide ho; clear ho hb9)
          obtain ⟨za, zc, rfl, rz, _⟩ := own_rdB1 rfl HB.out.1 HB.out.2.1 HZ.out
          have kc1 := conv_by (HB.out.below k9.out) ca
          have kc2 := conv_by rz zc
          clear o0 o1 o2 o3 HEo HZ rz
          go_wp2
          go_ret
          exact ⟨rfl, k9.out⟩
        · rw [show errV (M.decF bs).2 = .iface 42 (.int .i64 (M.decF bs).2) from if_neg hd] at HDb
          clear hd HD HE
          generalize ((M.decF bs).1 : Int) = pl at *
          generalize (M.decF bs).2 = er at *
          go_upto_region 20 with (go_at_call 7; refine (HDb.out _ kb.out).mono ?_; rintro e w7 ⟨O, rfl, om, hr, hb7⟩; have k7 := hide (below_on kb.out hb7); clear om hr hb7)
          go_wp2
          go_ret
          exact ⟨rfl, below_alloc k7.out _⟩
      · clear cin
        go_upto_region 19 with fail
        have HDb := hide (fun W (hW : Below w.heap.size w W) => HD.out a bs ca W (HB.out.below hW) hl hca)
        by_cases hd : (M.decF bs).2 = 0
        · obtain ⟨ef, ev⟩ := M.enc_dec HB.out.2.1 hd
          rw [hd] at HDb
          simp only [show errV 0 = .nilIface from if_pos rfl] at HDb
          have EF := hide ef
          have EV := hide ev
          clear hd ef ev
          generalize ((M.decF bs).1 : Int) = pl at *
          go_upto_region 20 with (go_at_call 7; refine (HDb.out _ kb.out).mono ?_; rintro e w7 ⟨O, rfl, om, hr, hb7⟩; have k7 := hide (below_on kb.out hb7); have OM := hide om; have RO := hide hr; clear om hr hb7)
          obtain ⟨w8, hw8⟩ : ∃ X, X = w7.alloc (.cells #[.int .i64 O.f, .int .i64 O.w, .slice O.wa O.ws.length O.wc, .slice O.ta O.ks.length O.tc] 25) := ⟨_, rfl⟩
          rw [← hw8]
          have b78 : Below w7.heap.size w7 w8 := by rw [hw8]; exact (Below.refl _ _).alloc (Nat.le_refl _) _
          have k8 := hide (below_on k7.out b78)
          obtain ⟨o0, o1, o2, o3⟩ : w8.cell? ⟨w7.heap.size, 0, none⟩ = some (.int .i64 O.f) ∧ w8.cell? ⟨w7.heap.size, 1, none⟩ = some (.int .i64 O.w) ∧ w8.cell? ⟨w7.heap.size, 2, none⟩ = some (.slice O.wa O.ws.length O.wc) ∧ w8.cell? ⟨w7.heap.size, 3, none⟩ = some (.slice O.ta O.ks.length O.tc) := by
            rw [hw8]
            exact ⟨World.cell?_alloc_at _ _ _ 0 rfl, World.cell?_alloc_at _ _ _ 1 rfl, World.cell?_alloc_at _ _ _ 2 rfl, World.cell?_alloc_at _ _ _ 3 rfl⟩
          have HEo := hide (HE.out O w8 (RO.out.below b78))
          rw [OM.out, EF.out, EV.out] at HEo
          simp only [show errV 0 = .nilIface from if_pos rfl] at HEo
          clear hw8 b78 HDb HD HE
          go_upto_region 23 with (go_at_call 6; refine HEo.out.mono ?_; rintro e w9 ⟨v9, rfl, ho, hb9⟩; have k9 := hide (below_on k8.out hb9); have HZ := hide ho; clear ho hb9)
          obtain ⟨za, zc, rfl, rz, _⟩ := own_rdB1 rfl HB.out.1 HB.out.2.1 HZ.out
          have kc1 := conv_by (HB.out.below k9.out) ca
          have kc2 := conv_by rz zc
          clear o0 o1 o2 o3 HEo HZ rz
          go_wp2
          go_ret
          exact ⟨rfl, k9.out⟩
        · rw [show errV (M.decF bs).2 = .iface 42 (.int .i64 (M.decF bs).2) from if_neg hd] at HDb
          clear hd HD HE
          generalize ((M.decF bs).1 : Int) = pl at *
          generalize (M.decF bs).2 = er at *
          go_upto_region 20 with (go_at_call 7; refine (HDb.out _ kb.out).mono ?_; rintro e w7 ⟨O, rfl, om, hr, hb7⟩; have k7 := hide (below_on kb.out hb7); clear om hr hb7)
          go_wp2
          go_ret
          exact ⟨rfl, below_alloc k7.out _⟩
  · rw [show errV (M.encF G.m) = .iface 42 (.int .i64 (M.encF G.m)) from if_neg he]
    clear he
    generalize M.encF G.m = ee at *
    clear HO KG KG5 GC
    go_upto_region 19 with fail
    have HDb := hide (fun W (hW : Below w.heap.size w W) => HD.out a bs ca W (HB.out.below hW) hl hca)
    by_cases hd : (M.decF bs).2 = 0
    · obtain ⟨ef, ev⟩ := M.enc_dec HB.out.2.1 hd
      rw [hd] at HDb
      simp only [show errV 0 = .nilIface from if_pos rfl] at HDb
      have EF := hide ef
      have EV := hide ev
      clear hd ef ev
      generalize ((M.decF bs).1 : Int) = pl at *
      go_upto_region 20 with (go_at_call 7; refine (HDb.out _ k5.out).mono ?_; rintro e w7 ⟨O, rfl, om, hr, hb7⟩; have k7 := hide (below_on k5.out hb7); have OM := hide om; have RO := hide hr; clear om hr hb7)
      obtain ⟨w8, hw8⟩ : ∃ X, X = w7.alloc (.cells #[.int .i64 O.f, .int .i64 O.w, .slice O.wa O.ws.length O.wc, .slice O.ta O.ks.length O.tc] 25) := ⟨_, rfl⟩
      rw [← hw8]
      have b78 : Below w7.heap.size w7 w8 := by rw [hw8]; exact (Below.refl _ _).alloc (Nat.le_refl _) _
      have k8 := hide (below_on k7.out b78)
      obtain ⟨o0, o1, o2, o3⟩ : w8.cell? ⟨w7.heap.size, 0, none⟩ = some (.int .i64 O.f) ∧ w8.cell? ⟨w7.heap.size, 1, none⟩ = some (.int .i64 O.w) ∧ w8.cell? ⟨w7.heap.size, 2, none⟩ = some (.slice O.wa O.ws.length O.wc) ∧ w8.cell? ⟨w7.heap.size, 3, none⟩ = some (.slice O.ta O.ks.length O.tc) := by
        rw [hw8]
        exact ⟨World.cell?_alloc_at _ _ _ 0 rfl, World.cell?_alloc_at _ _ _ 1 rfl, World.cell?_alloc_at _ _ _ 2 rfl, World.cell?_alloc_at _ _ _ 3 rfl⟩
      have HEo := hide (HE.out O w8 (RO.out.below b78))
      rw [OM.out, EF.out, EV.out] at HEo
      simp only [show errV 0 = .nilIface from if_pos rfl] at HEo
      clear hw8 b78 HDb HD HE
      go_upto_region 23 with (go_at_call 6; refine HEo.out.mono ?_; rintro e w9 ⟨v9, rfl, ho, hb9⟩; have k9 := hide (below_on k8.out hb9); have HZ := hide ho; clear ho hb9)
      obtain ⟨za, zc, rfl, rz, _⟩ := own_rdB1 rfl HB.out.1 HB.out.2.1 HZ.out
      have kc1 := conv_by (HB.out.below k9.out) ca
      have kc2 := conv_by rz zc
      clear o0 o1 o2 o3 HEo HZ rz
      go_wp2
      go_ret
      exact ⟨rfl, k9.out⟩
    · rw [show errV (M.decF bs).2 = .iface 42 (.int .i64 (M.decF bs).2) from if_neg hd] at HDb
      clear hd HD HE
      generalize ((M.decF bs).1 : Int) = pl at *
      generalize (M.decF bs).2 = er at *
      go_upto_region 20 with (go_at_call 7; refine (HDb.out _ k5.out).mono ?_; rintro e w7 ⟨O, rfl, om, hr, hb7⟩; have k7 := hide (below_on k5.out hb7); clear om hr hb7)
      go_wp2
      go_ret
      exact ⟨rfl, below_alloc k7.out _⟩

end Go.Proofs.YtdadjppdonephahDoor

namespace Go.Proofs.YtdadjppdonephahDoor
open Go.ChangeShapes Go.WideShapes Go.ChangeAt Go.RowKit Go.Lib
set_option linter.unusedVariables false

/-- the numbers of a grove, so far -/
def M.preL (g : M.Gv) (k : Nat) : List Int := M.gf g :: M.gw g :: ((M.gt g).length : Int) :: (((M.gs g).zip (M.gt g)).take k).flatMap M.trL
theorem M.pre_zero (g : M.Gv) : M.preL g 0 = [M.gf g, M.gw g, ((M.gt g).length : Int)] := rfl
theorem M.nd_len (n : M.Nd) : (M.ndL n).length ≤ 5 := by
  unfold M.ndL
  split <;> simp
theorem M.nds_len : ∀ t : List M.Nd, (t.flatMap M.ndL).length ≤ 5 * t.length
  | [] => Nat.le_refl _
  | n :: t => by
    have a := M.nds_len t
    have b := M.nd_len n
    rw [List.flatMap_cons, List.length_append]
    show _ ≤ 5 * (t.length + 1)
    omega
theorem M.trs_len : ∀ l : List (Int × List M.Nd), (∀ x ∈ l, x.2.length ≤ 63) → (l.flatMap M.trL).length ≤ 317 * l.length
  | [], _ => Nat.le_refl _
  | x :: l, h => by
    have a := M.trs_len l fun y hy => h y (List.mem_cons_of_mem _ hy)
    have b := M.nds_len x.2
    have c := h x (List.mem_cons_self ..)
    rw [List.flatMap_cons, List.length_append]
    show (x.2.flatMap M.ndL).length + 1 + 1 + _ ≤ 317 * (l.length + 1)
    omega

theorem M.nds_more (P : List Int) {ts : List M.Nd} {j : Nat} (hj : j < ts.length) : P ++ (ts.take (j + 1)).flatMap M.ndL = P ++ (ts.take j).flatMap M.ndL ++ M.ndL (M.nAt ts j) := by
  have e : M.nAt ts j = ts[j] := by unfold M.nAt; rw [M.getD_at hj]
  rw [List.take_succ_eq_append_getElem hj, List.flatMap_append, e, List.append_assoc]
  simp
theorem M.pre_more (G : Gr) {k : Nat} (hk : k < G.ks.length) {x : Int} (hx : x = G.ws.getD k 0) (hz : ((M.gs G.m).zip (M.gt G.m)).length = G.ks.length) (ho : ∀ y ∈ (M.gs G.m).zip (M.gt G.m), M.TrOk y) :
    Hid (M.preL G.m (k + 1) = M.preL G.m k ++ [x] ++ [((G.ks[k]'hk).2.1.length : Int)] ++ (G.ks[k]'hk).2.1.flatMap M.ndL) ∧ (G.ks[k]'hk).2.1.length ≤ 63 := by
  have hz' : k < ((M.gs G.m).zip (M.gt G.m)).length := by rw [hz]; exact hk
  have hw : k < G.ws.length := by have := List.length_zip (l₁ := M.gs G.m) (l₂ := M.gt G.m); rw [hz] at this; have e : (M.gs G.m).length = G.ws.length := rfl; omega
  have e : ((M.gs G.m).zip (M.gt G.m))[k] = (x, (G.ks[k]'hk).2.1) := by
    rw [List.getElem_zip]
    refine Prod.ext ?_ ?_
    · show G.ws[k] = x
      rw [hx]; simp [List.getD, hw]
    · show (tl G.ks)[k]'_ = _
      simp [tl]
  have o := ho _ (List.getElem_mem hz')
  rw [e] at o
  refine ⟨?_, o.2.2.1⟩
  unfold Hid M.preL
  rw [List.take_succ_eq_append_getElem hz', List.flatMap_append, e]
  simp [M.trL, List.append_assoc]

theorem M.nd_in {n : M.Nd} (h : M.NdOk n) : ∀ x ∈ M.ndL n, M.I64 x := by
  intro x hx
  unfold M.ndL at hx
  split at hx
  · simp at hx
    rcases hx with rfl | rfl
    · exact h.1
    · exact h.2.2.2.2.1
  · have b := M.i64_01 (M.ns n)
    simp at hx
    rcases hx with rfl | rfl | rfl | rfl | rfl
    · exact h.1
    · exact h.2.1
    · exact h.2.2.1
    · exact h.2.2.2.1
    · exact b
theorem M.gr_in {g : M.Gv} (hf : M.I64 (M.gf g) ∧ M.I64 (M.gw g)) (ho : ∀ y ∈ (M.gs g).zip (M.gt g), M.TrOk y) (ht : (M.gt g).length ≤ 12) : ∀ x ∈ M.grL g, M.I64 x := by
  intro x hx
  unfold M.grL at hx
  rcases List.mem_cons.1 hx with rfl | hx
  · exact hf.1
  rcases List.mem_cons.1 hx with rfl | hx
  · exact hf.2
  rcases List.mem_cons.1 hx with rfl | hx
  · unfold M.I64; omega
  obtain ⟨y, hy, hx⟩ := List.mem_flatMap.1 hx
  have o := ho y hy
  unfold M.trL at hx
  rcases List.mem_cons.1 hx with rfl | hx
  · exact o.1
  rcases List.mem_cons.1 hx with rfl | hx
  · have := o.2.2.1
    unfold M.I64; omega
  obtain ⟨n, hn, hx⟩ := List.mem_flatMap.1 hx
  exact M.nd_in (o.2.2.2 n hn) x hx

end Go.Proofs.YtdadjppdonephahDoor

namespace Go.Proofs.YtdadjppdonephahDoor
open Go.ChangeShapes Go.WideShapes Go.ChangeAt Go.RowKit Go.Lib
set_option linter.unusedVariables false

theorem rd_lit (w : World) (ns : List Int) (t : TypeId) (hl : ns.length ≤ 1000) : Rd (w.alloc (.cells (ns.map (Value.int .i64)).toArray t)) (some ⟨w.heap.size, 0, none⟩) ns :=
  ⟨by unfold maxLen; omega, fun _ => ⟨w.heap.size, 0, rfl, by simp, fun i hi => by
    have e : (ns.map (Value.int .i64)).toArray[i]? = some (.int .i64 (ns.getD i 0)) := by simp [List.getD, hi]
    rw [Nat.zero_add, World.cell?_alloc_new]
    exact e⟩⟩
theorem add_below {w1 W : World} (ns : List Int) (va : Option Addr) (vc : Nat) (L : List Nat) (K : Below w1.heap.size w1 W) (ho : W.ownsRow w1.heap.size 5 1 (.slice va L.length vc) L.length (byCells L)) (hi : ∀ x ∈ ns, M.I64 x) (hl : L.length + 10 * ns.length ≤ 140737488355328) (hn : ns.length ≤ 1000) (o : Obj) (ho' : o = .cells (ns.map (Value.int .i64)).toArray 3) :
    Calls Tryd.prog 10 #[.slice va L.length vc, .slice (some ⟨W.heap.size, 0, none⟩) ns.length ns.length] (W.alloc o) fun e w' => ∃ va' vc', e = .returned (.slice va' (L ++ M.bysL ns).length vc') ∧ w'.ownsRow w1.heap.size 5 1 (.slice va' (L ++ M.bysL ns).length vc') (L ++ M.bysL ns).length (byCells (L ++ M.bysL ns)) ∧ Below w1.heap.size w1 w' := by
  subst ho'
  refine (add_any w1.heap.size va vc L (some ⟨W.heap.size, 0, none⟩) ns ns.length _ (by have := K.size; simp; omega) (ho.alloc _) (rd_lit W ns _ hn) hi ?_ hl).mono ?_
  · intro _ p hp
    cases hp
    intro e
    exact Nat.lt_irrefl _ (ho.lt _ e).2
  · rintro e w2 ⟨va', vc', rfl, hw⟩
    exact ⟨va', vc', rfl, hw.own, (K.alloc K.size _).grown hw.gr hw.le (fun k hk => (ho.lt k hk).1)⟩

set_option maxHeartbeats 4000000 in
set_option maxRecDepth 10000 in
theorem addnode_below {w1 w : World} (n : M.Nd) (va : Option Addr) (vc : Nat) (L : List Nat) (K : Below w1.heap.size w1 w) (ho : w.ownsRow w1.heap.size 5 1 (.slice va L.length vc) L.length (byCells L)) (hn : M.NdOk n) (hl : L.length + 50 ≤ 140737488355328) :
    Calls Tryd.prog 14 #[.slice va L.length vc, ndV n] w fun e w' => ∃ va' vc', e = .returned (.slice va' (L ++ M.bysL (M.ndL n)).length vc') ∧ w'.ownsRow w1.heap.size 5 1 (.slice va' (L ++ M.bysL (M.ndL n)).length vc') (L ++ M.bysL (M.ndL n)).length (byCells (L ++ M.bysL (M.ndL n))) ∧ Below w1.heap.size w1 w' := by
  have HI := hide (M.nd_in hn)
  obtain ⟨f, cc, l, r, b, v⟩ := n
  have nv : ndV (f, cc, l, r, b, v) = .agg #[.int .i64 f, .int .i64 cc, .int .i64 l, .int .i64 r, .bool b, .int .i64 v] := rfl
  rw [nv]
  obtain ⟨W0, hW0⟩ : ∃ X, X = w.alloc (.cells #[.int .i64 f, .int .i64 cc, .int .i64 l, .int .i64 r, .bool b, .int .i64 v] 47) := ⟨_, rfl⟩
  have K0 : Hid (Below w1.heap.size w1 W0) := by rw [hW0]; exact K.alloc K.size _
  have O0 : Hid (W0.ownsRow w1.heap.size 5 1 (.slice va L.length vc) L.length (byCells L)) := by rw [hW0]; exact ho.alloc _
  have k := new_kept hW0 (Below.refl _ _)
  have y0 := k.1 0 _ rfl
  have y1 := k.1 1 _ rfl
  have y2 := k.1 2 _ rfl
  have y3 := k.1 3 _ rfl
  have y4 := k.1 4 _ rfl
  have y5 := k.1 5 _ rfl
  have HW0 := hide hW0
  clear ho K hn nv k hW0
  by_cases q : f = -1
  · have ML : M.ndL (f, cc, l, r, b, v) = [f, v] := if_pos q
    rw [ML] at HI ⊢
    have A1 := hide (add_below [f, v] va vc L K0.out O0.out HI.out (by show L.length + 20 ≤ _; omega) (by show 2 ≤ 1000; omega) _ rfl)
    have t1 : (f == -1) = true := by rw [beq_iff_eq]; exact q
    simp only [List.length_cons, List.length_nil, List.map_cons, List.map_nil, Nat.zero_add] at A1
    generalize L ++ M.bysL [f, v] = Z at *
    clear ML q HI O0 K0
    go_enter Tryd.func14, Tryd.ntmps14
    go_upto_region 1 with fail
    rw [← HW0.out]
    clear HW0
    go_wp2_with (go_at_call 10; refine A1.out.mono ?_; rintro e w2 ⟨ua, uc, rfl, o2, k2⟩; have O2 := hide o2; have K2 := hide k2; clear o2 k2)
    go_ret
    exact ⟨ua, uc, rfl, O2.out, K2.out⟩
  · have ML : M.ndL (f, cc, l, r, b, v) = [f, cc, l, r, if b = true then 1 else 0] := if_neg q
    rw [ML] at HI ⊢
    obtain ⟨z, hz⟩ : ∃ z : Int, z = if b = true then 1 else 0 := ⟨_, rfl⟩
    rw [← hz] at HI ⊢
    have A1 := hide (add_below [f, cc, l, r, z] va vc L K0.out O0.out HI.out (by show L.length + 50 ≤ _; omega) (by show 5 ≤ 1000; omega) _ rfl)
    have t1 : (f == -1) = false := by rw [beq_eq_false_iff_ne]; exact q
    simp only [List.length_cons, List.length_nil, List.map_cons, List.map_nil, Nat.zero_add] at A1
    generalize L ++ M.bysL [f, cc, l, r, z] = Z at *
    clear ML q HI O0 K0
    cases b with
    | true =>
      have hz1 : z = 1 := hz
      clear hz
      subst hz1
      go_enter Tryd.func14, Tryd.ntmps14
      go_upto_region 1 with fail
      rw [← HW0.out]
      clear HW0
      go_wp2_with (go_at_call 10; refine A1.out.mono ?_; rintro e w2 ⟨ua, uc, rfl, o2, k2⟩; have O2 := hide o2; have K2 := hide k2; clear o2 k2)
      go_ret
      exact ⟨ua, uc, rfl, O2.out, K2.out⟩
    | false =>
      have hz1 : z = 0 := hz
      clear hz
      subst hz1
      go_enter Tryd.func14, Tryd.ntmps14
      go_upto_region 1 with fail
      rw [← HW0.out]
      clear HW0
      go_wp2_with (go_at_call 10; refine A1.out.mono ?_; rintro e w2 ⟨ua, uc, rfl, o2, k2⟩; have O2 := hide o2; have K2 := hide k2; clear o2 k2)
      go_ret
      exact ⟨ua, uc, rfl, O2.out, K2.out⟩

end Go.Proofs.YtdadjppdonephahDoor

namespace Go.Proofs.YtdadjppdonephahDoor
open Go.ChangeShapes Go.WideShapes Go.ChangeAt Go.RowKit Go.Lib
set_option linter.unusedVariables false

theorem isway_any (x : Int) (w : World) (iw : Bool) (h : Hid (iw = decide (1 ≤ x ∧ x ≤ 3))) :
    Calls Tryd.prog 21 #[.int .i64 x] w fun e w' => e = .returned (.bool iw) ∧ w' = w := by
  rcases (show x = 1 ∨ x = 2 ∨ x = 3 ∨ (x ≠ 1 ∧ x ≠ 2 ∧ x ≠ 3) from by omega) with c | c | c | ⟨c1, c2, c3⟩
  · have q1 : (x == 1) = true := by rw [beq_iff_eq]; exact c
    have E : Hid (true = iw) := by unfold Hid; rw [h.out, decide_eq_true (by omega)]
    clear c h
    go_enter Tryd.func21, Tryd.ntmps21
    go_wp2
    go_ret
    exact ⟨ret_bool E.out, rfl⟩
  · have q1 : (x == 1) = false := by rw [beq_eq_false_iff_ne]; omega
    have q2 : (x == 2) = true := by rw [beq_iff_eq]; exact c
    have E : Hid (true = iw) := by unfold Hid; rw [h.out, decide_eq_true (by omega)]
    clear c h
    go_enter Tryd.func21, Tryd.ntmps21
    go_wp2
    go_ret
    exact ⟨ret_bool E.out, rfl⟩
  · have q1 : (x == 1) = false := by rw [beq_eq_false_iff_ne]; omega
    have q2 : (x == 2) = false := by rw [beq_eq_false_iff_ne]; omega
    have q3 : (x == 3) = true := by rw [beq_iff_eq]; exact c
    have E : Hid (true = iw) := by unfold Hid; rw [h.out, decide_eq_true (by omega)]
    clear c h
    go_enter Tryd.func21, Tryd.ntmps21
    go_wp2
    go_ret
    exact ⟨ret_bool E.out, rfl⟩
  · have q1 : (x == 1) = false := by rw [beq_eq_false_iff_ne]; omega
    have q2 : (x == 2) = false := by rw [beq_eq_false_iff_ne]; omega
    have q3 : (x == 3) = false := by rw [beq_eq_false_iff_ne]; omega
    have E : Hid (false = iw) := by unfold Hid; rw [h.out, decide_eq_false (by omega)]
    clear c1 c2 c3 h
    go_enter Tryd.func21, Tryd.ntmps21
    go_wp2
    go_ret
    exact ⟨ret_bool E.out, rfl⟩

theorem kept_box {w W : World} {a0 a1 a2 a3 : Value} {t : TypeId} (h : Below (w.alloc (.cells #[a0, a1, a2, a3] t)).heap.size (w.alloc (.cells #[a0, a1, a2, a3] t)) W) :
    W.cell? ⟨w.heap.size, 0, none⟩ = some a0 ∧ W.cell? ⟨w.heap.size, 1, none⟩ = some a1 ∧ W.cell? ⟨w.heap.size, 2, none⟩ = some a2 ∧ W.cell? ⟨w.heap.size, 3, none⟩ = some a3 := by
  have hs : w.heap.size < (w.alloc (.cells #[a0, a1, a2, a3] t)).heap.size := by simp
  exact ⟨(h.cell (p := ⟨w.heap.size, 0, none⟩) hs).trans (World.cell?_alloc_at _ _ _ 0 rfl), (h.cell (p := ⟨w.heap.size, 1, none⟩) hs).trans (World.cell?_alloc_at _ _ _ 1 rfl), (h.cell (p := ⟨w.heap.size, 2, none⟩) hs).trans (World.cell?_alloc_at _ _ _ 2 rfl), (h.cell (p := ⟨w.heap.size, 3, none⟩) hs).trans (World.cell?_alloc_at _ _ _ 3 rfl)⟩
theorem M.grove_rng {g : M.Gv} (h : M.gf g < 0 ∨ 8 < M.gf g ∨ M.gw g < 1 ∨ 3 < M.gw g) : M.groveF g = 1 := by unfold M.groveF; rw [if_pos h]
theorem err_num (c : Int) (h : c ≠ 0) : Ending.returned (.iface 42 (.int .i64 c)) = .returned (errV c) := by rw [err_some h]
theorem err_is {c d : Int} (h : c = d) (h0 : c ≠ 0) : Ending.returned (.iface 42 (.int .i64 c)) = .returned (errV d) := by rw [← h, err_some h0]
theorem err_none {d : Int} (h : d = 0) : Ending.returned .nilIface = .returned (errV d) := by rw [err_nil h]

/-- what is wrong with how many trees there are, or with their weights -/
def M.wtsF (ws : List Int) (n : Nat) : Int := if n = 0 then 5 else if 12 < n then 4 else if ws.length ≠ n then 3 else if ws.any M.wBad = true then 1 else 0
theorem err_go {c d : Int} (h : c = d) : Ending.returned (errV c) = .returned (errV d) := by rw [h]

set_option maxHeartbeats 4000000 in
theorem gwts_any (a : Option Addr) (ws : List Int) (ca n : Nat) (w : World) (h : Rd w a ws) :
    Calls Tryd.prog 22 #[.slice a ws.length ca, .int .i64 (n : Nat)] w fun e w' => e = .returned (errV (M.wtsF ws n)) ∧ w' = w := by
  have hm2 : ws.length ≤ 9223372036854775807 := h.1
  have HR := hide h
  clear h
  unfold M.wtsF
  by_cases t0 : n = 0
  · rw [if_pos t0]
    have q4 : ((n : Int) == 0) = true := by rw [beq_iff_eq]; omega
    clear t0
    go_enter Tryd.func22, Tryd.ntmps22
    go_wp2
    go_ret
    exact ⟨err_num 5 (by decide), rfl⟩
  · rw [if_neg t0]
    have q4 : ((n : Int) == 0) = false := by rw [beq_eq_false_iff_ne]; omega
    have t0' : 0 < n := by omega
    by_cases t12 : 12 < n
    · rw [if_pos t12]
      have q5 : decide (12 < (n : Int)) = true := decide_eq_true (by omega)
      clear t0 t12 t0'
      go_enter Tryd.func22, Tryd.ntmps22
      go_wp2
      go_ret
      exact ⟨err_num 4 (by decide), rfl⟩
    · rw [if_neg t12]
      have q5 : decide (12 < (n : Int)) = false := decide_eq_false (by omega)
      by_cases tw : ws.length ≠ n
      · rw [if_pos tw]
        have q6 : ((ws.length : Int) != (n : Int)) = true := by rw [bne_iff_ne]; omega
        clear t0 t12 t0' tw
        go_enter Tryd.func22, Tryd.ntmps22
        go_wp2
        go_ret
        exact ⟨err_num 3 (by decide), rfl⟩
      · rw [if_neg tw]
        have WB : Hid (∀ k (h : k < ws.length), M.wBad (ws.getD k 0) = true → ws.any M.wBad = true) := fun k h e => List.any_eq_true.2 ⟨_, by rw [M.getD_at h]; exact List.getElem_mem h, e⟩
        have WN : Hid ((∀ k, k < ws.length → M.wBad (ws.getD k 0) = false) → ws.any M.wBad = false) := fun h => by
          cases e : ws.any M.wBad with
          | false => rfl
          | true =>
            obtain ⟨x, hx, e2⟩ := List.any_eq_true.1 e
            obtain ⟨i, hi, rfl⟩ := List.getElem_of_mem hx
            have := h i hi
            rw [M.getD_at hi, e2] at this
            cases this
        have q6 : ((ws.length : Int) != (n : Int)) = false := by rw [bne_eq_false_iff_eq]; omega
        obtain ⟨bw, ow, ewa, hbw, hcw0⟩ := HR.out.2 (by intro e; rw [e] at tw; simp at tw; omega)
        have HCW := hide hcw0
        subst ewa
        clear HR t0 t12 tw t0' hcw0
        generalize hAB : ws.any M.wBad = AB at *
        have HAB := hide hAB
        clear hAB
        generalize hRV : (if AB = true then (1 : Int) else 0) = RV
        have HRV := hide hRV
        clear hRV
        go_enter Tryd.func22, Tryd.ntmps22
        go_wp2
        go_loopw [20] (fun i wr => ∃ k : Nat, k ≤ ws.length ∧ i = .int .i64 k ∧ Hid (∀ j, j < k → M.wBad (ws.getD j 0) = false) ∧ wr = w) (fun i _ => ws.length - (intOf i).toNat)
        case atStart => exact ⟨0, Nat.zero_le _, rfl, fun j hj => by omega, rfl⟩
        case round =>
          obtain ⟨k, hk, rfl, I, ew⟩ := hrel
          subst ew
          by_cases hlt : k < ws.length
          · have cw := HCW.out k hlt
            have kz : (k : Int) < (ws.length : Int) := by omega
            have wb : M.wBad (ws.getD k 0) = (decide (ws.getD k 0 < 1) || decide (1000 < ws.getD k 0)) := rfl
            by_cases b1 : ws.getD k 0 < 1
            · have E : Hid (AB = true) := WB.out k hlt (by rw [wb, decide_eq_true b1]; rfl)
              have p1 : decide (ws.getD k 0 < 1) = true := decide_eq_true b1
              have RE : Hid ((1 : Int) = RV) := by unfold Hid; rw [← HRV.out, if_pos E.out]
              clear WB WN wb b1 E HCW I
              generalize ws.getD k 0 = z at *
              go_wp2
              go_ret
              exact ⟨err_is RE.out (by decide), rfl⟩
            · by_cases b2 : 1000 < ws.getD k 0
              · have E : Hid (AB = true) := WB.out k hlt (by rw [wb, decide_eq_true b2]; simp)
                have p1 : decide (ws.getD k 0 < 1) = false := decide_eq_false b1
                have p2 : decide (1000 < ws.getD k 0) = true := decide_eq_true b2
                have RE : Hid ((1 : Int) = RV) := by unfold Hid; rw [← HRV.out, if_pos E.out]
                clear WB WN wb b1 b2 E HCW I
                generalize ws.getD k 0 = z at *
                go_wp2
                go_ret
                exact ⟨err_is RE.out (by decide), rfl⟩
              · have p1 : decide (ws.getD k 0 < 1) = false := decide_eq_false b1
                have p2 : decide (1000 < ws.getD k 0) = false := decide_eq_false b2
                have N : Hid (∀ j, j < k + 1 → M.wBad (ws.getD j 0) = false) := fun j hj => by
                  by_cases e : j = k
                  · rw [e, wb, p1, p2]; rfl
                  · exact I.out j (by omega)
                clear WB WN wb b1 b2 HCW I
                generalize ws.getD k 0 = z at *
                go_wp2
                go_roundw
                case rel => exact ⟨k + 1, by omega, by go_num, N, trivial⟩
                case measure => simp [intOf]; omega
          · have E : Hid (AB = false) := WN.out (fun j hj => I.out j (by omega))
            have RE : Hid (RV = 0) := by unfold Hid; rw [← HRV.out, E.out]; rfl
            clear WB WN I E HAB HCW
            go_wp2
            go_ret
            exact ⟨err_none RE.out, rfl⟩

theorem M.grove_wts {g : M.Gv} (h : ¬ (M.gf g < 0 ∨ 8 < M.gf g ∨ M.gw g < 1 ∨ 3 < M.gw g)) : M.groveF g = if M.wtsF (M.gs g) (M.gt g).length ≠ 0 then M.wtsF (M.gs g) (M.gt g).length else M.treesF (M.gf g) (M.gt g) := by
  unfold M.groveF M.wtsF
  rw [if_neg h]
  repeat' split
  all_goals first | rfl | omega | simp_all

set_option maxHeartbeats 16000000 in
set_option maxRecDepth 10000 in
theorem gcheck_any (G : Gr) (w : World) (h : RdG w G) :
    Calls Tryd.prog 13 #[G.v] w fun e w' => e = .returned (errV (M.groveF G.m)) ∧ Below w.heap.size w w' := by
  have hm1 : G.ks.length ≤ 9223372036854775807 := h.2.1
  have hm2 : G.ws.length ≤ 9223372036854775807 := h.1.1
  have HG := hide h
  have tlen : (M.gt G.m).length = G.ks.length := tl_len G.ks
  have B0 : Hid (∀ o, Below w.heap.size w (w.alloc o)) := fun o => (Below.refl _ w).alloc (Nat.le_refl _) o
  obtain ⟨iw, hiw⟩ : ∃ iw : Bool, iw = decide (1 ≤ G.w ∧ G.w ≤ 3) := ⟨_, rfl⟩
  have IW := hide (fun W => isway_any G.w W iw hiw)
  have CW := hide (fun W (hW : Below w.heap.size w W) => gwts_any G.wa G.ws G.wc G.ks.length W (HG.out.below hW).1)
  clear h
  unfold Gr.v
  by_cases hR : M.gf G.m < 0 ∨ 8 < M.gf G.m ∨ M.gw G.m < 1 ∨ 3 < M.gw G.m
  · rw [M.grove_rng hR]
    have hR' : G.f < 0 ∨ 8 < G.f ∨ G.w < 1 ∨ 3 < G.w := hR
    clear hR tlen HG CW
    by_cases c0 : G.f < 0
    · have q0 : decide (G.f < 0) = true := decide_eq_true (by omega)
      clear hR' c0 hiw
      go_enter Tryd.func13, Tryd.ntmps13
      go_wp2
      go_ret
      exact ⟨err_num 1 (by decide), B0.out _⟩
    · by_cases c1 : 8 < G.f
      · have q0 : decide (G.f < 0) = false := decide_eq_false (by omega)
        have q1 : decide (8 < G.f) = true := decide_eq_true (by omega)
        clear hR' c0 c1 hiw
        go_enter Tryd.func13, Tryd.ntmps13
        go_wp2
        go_ret
        exact ⟨err_num 1 (by decide), B0.out _⟩
      · have q0 : decide (G.f < 0) = false := decide_eq_false (by omega)
        have q1 : decide (8 < G.f) = false := decide_eq_false (by omega)
        have e : iw = false := by rw [hiw, decide_eq_false (by omega)]
        subst e
        clear hR' c0 c1 hiw
        go_enter Tryd.func13, Tryd.ntmps13
        go_wp2_with (go_at_call 21; refine (IW.out _).mono ?_; rintro e w1 ⟨rfl, e1⟩; subst w1)
        go_ret
        exact ⟨err_num 1 (by decide), B0.out _⟩
  · have hR' : ¬ (G.f < 0 ∨ 8 < G.f ∨ G.w < 1 ∨ 3 < G.w) := hR
    have q0 : decide (G.f < 0) = false := decide_eq_false (by omega)
    have q1 : decide (8 < G.f) = false := decide_eq_false (by omega)
    have e : iw = true := by rw [hiw, decide_eq_true (by omega)]
    subst e
    have E0 : M.groveF G.m = if M.wtsF G.ws G.ks.length ≠ 0 then M.wtsF G.ws G.ks.length else M.treesF G.f (tl G.ks) := by
      rw [← tlen]; exact M.grove_wts hR
    rw [E0]
    clear hR E0 hiw hR'
    by_cases hw : M.wtsF G.ws G.ks.length ≠ 0
    · rw [if_pos hw]
      have HW := hide hw
      rw [err_some hw] at CW
      clear tlen HG hw
      generalize M.wtsF G.ws G.ks.length = wf at *
      go_enter Tryd.func13, Tryd.ntmps13
      go_wp2_with (first
        | (go_at_call 21; refine (IW.out _).mono ?_; rintro e w1 ⟨rfl, e1⟩; subst w1)
        | (go_at_call 22; refine (CW.out _ (B0.out _)).mono ?_; rintro e w2 ⟨rfl, e2⟩; subst w2))
      go_ret
      exact ⟨err_num _ HW.out, B0.out _⟩
    · rw [if_neg hw]
      have w0 : M.wtsF G.ws G.ks.length = 0 := by omega
      rw [w0, err_nil rfl] at CW
      have t0' : 0 < G.ks.length := by
        rcases Nat.eq_zero_or_pos G.ks.length with q | q
        · unfold M.wtsF at w0; rw [if_pos q] at w0; cases w0
        · exact q
      have n12 : G.ks.length ≤ 12 := by
        unfold M.wtsF at w0; rw [if_neg (by omega)] at w0
        by_cases q : 12 < G.ks.length
        · rw [if_pos q] at w0; cases w0
        · omega
      have TA : Hid (∀ k, k < G.ks.length → (∀ j, j < k → (M.treeF ((tl G.ks).getD j []) G.f).2 = 0) → (M.treeF ((tl G.ks).getD k []) G.f).2 ≠ 0 → M.treesF G.f (tl G.ks) = (M.treeF ((tl G.ks).getD k []) G.f).2) := fun k hk h hn => M.trees_at (by rw [tl_len]; exact hk) h hn
      have TN : Hid ((∀ j, j < G.ks.length → (M.treeF ((tl G.ks).getD j []) G.f).2 = 0) → M.treesF G.f (tl G.ks) = 0) := fun h => M.trees_all (fun j hj => h j (by rw [tl_len] at hj; exact hj))
      have TL : Hid (∀ k (h : k < G.ks.length), (tl G.ks).getD k [] = G.ks[k].2.1) := fun k h => tl_at G.ks h
      have RT : Hid (∀ W, Below w.heap.size w W → RdT W G.ta G.ks) := fun W hW => (HG.out.below hW).2
      obtain ⟨bt, ot, eta, hbt, hct0⟩ := HG.out.2.2.2 (by intro e; rw [e] at t0'; simp at t0')
      have HCT : Hid (∀ W, Below w.heap.size w W → ∀ i (hi : i < G.ks.length), W.cell? ⟨bt, ot + i, none⟩ = some (tV G.ks[i])) := fun W hW i hi => (hW.cell (p := ⟨bt, ot + i, none⟩) hbt).trans (hct0 i hi)
      rw [eta]
      clear tlen HG hw w0 hct0 hbt eta
      generalize M.treesF G.f (tl G.ks) = TF at *
      have KG : Hid (∀ W, Below (w.alloc (.cells #[.int .i64 G.f, .int .i64 G.w, .slice G.wa G.ws.length G.wc, .slice (some ⟨bt, ot, none⟩) G.ks.length G.tc] 25)).heap.size (w.alloc (.cells #[.int .i64 G.f, .int .i64 G.w, .slice G.wa G.ws.length G.wc, .slice (some ⟨bt, ot, none⟩) G.ks.length G.tc] 25)) W → Below w.heap.size w W ∧ W.cell? ⟨w.heap.size, 0, none⟩ = some (.int .i64 G.f) ∧ W.cell? ⟨w.heap.size, 3, none⟩ = some (.slice (some ⟨bt, ot, none⟩) G.ks.length G.tc)) := fun W hW =>
        ⟨below_on ((Below.refl _ w).alloc (Nat.le_refl _) _) hW, (kept_box hW).1, (kept_box hW).2.2.2⟩
      go_enter Tryd.func13, Tryd.ntmps13
      go_wp2_with (first
        | (go_at_call 21; refine (IW.out _).mono ?_; rintro e w1 ⟨rfl, e1⟩; subst w1)
        | (go_at_call 22; refine (CW.out _ (B0.out _)).mono ?_; rintro e w2 ⟨rfl, e2⟩; subst w2))
      go_loopw [35] (fun i wr => ∃ k : Nat, k ≤ G.ks.length ∧ i = .int .i64 k ∧ Hid (∀ j, j < k → (M.treeF ((tl G.ks).getD j []) G.f).2 = 0) ∧ Hid (Below (w.alloc (.cells #[.int .i64 G.f, .int .i64 G.w, .slice G.wa G.ws.length G.wc, .slice (some ⟨bt, ot, none⟩) G.ks.length G.tc] 25)).heap.size (w.alloc (.cells #[.int .i64 G.f, .int .i64 G.w, .slice G.wa G.ws.length G.wc, .slice (some ⟨bt, ot, none⟩) G.ks.length G.tc] 25)) wr)) (fun i _ => G.ks.length - (intOf i).toNat)
      case atStart => exact ⟨0, Nat.zero_le _, rfl, fun j hj => by omega, Below.refl _ _⟩
      case round =>
        obtain ⟨k, hk, rfl, I, K⟩ := hrel
        obtain ⟨kw, c0, c3⟩ := KG.out _ K.out
        by_cases hlt : k < G.ks.length
        · obtain ⟨hk1, hk2, hk3⟩ := RT.out wr kw
          have ct := HCT.out wr kw k hlt
          have rk := hk2 _ (List.getElem_mem hlt)
          have TE := TL.out k hlt
          have TR := hide (tcheck_any G.ks[k].1 G.ks[k].2.1 G.ks[k].2.2 G.f wr rk)
          have TAK := hide (TA.out k hlt I.out)
          rw [TE] at TAK
          have kz : (k : Int) < (G.ks.length : Int) := by omega
          unfold tV at ct
          have N : Hid ((M.treeF G.ks[k].2.1 G.f).2 = 0 → ∀ j, j < k + 1 → (M.treeF ((tl G.ks).getD j []) G.f).2 = 0) := fun hz j hj => by
            by_cases e : j = k
            · rw [e, TE]; exact hz
            · exact I.out j (by omega)
          clear hk1 hk2 hk3 HCT rk TE TA TN TL RT I
          generalize (M.treeF G.ks[k].2.1 G.f).2 = te at *
          generalize (M.treeF G.ks[k].2.1 G.f).1 = tp at *
          generalize G.ks[k].2.1.length = tn at *
          generalize G.ks[k].2.2 = tcc at *
          generalize G.ks[k].1 = ta at *
          by_cases hz : te = 0
          · rw [err_nil hz] at TR
            have NN := hide (N.out hz)
            clear hz N TAK
            go_wp2_with (go_at_call 23; refine TR.out.mono ?_; rintro e w5 ⟨rfl, hb5⟩; have K6 := hide (below_on K.out hb5))
            go_roundw
            case rel => exact ⟨k + 1, by omega, by go_num, NN, K6⟩
            case measure => simp [intOf]; omega
          · rw [err_some hz] at TR
            have TE2 := hide (TAK.out hz)
            have HZ := hide hz
            clear hz N TAK
            go_wp2_with (go_at_call 23; refine TR.out.mono ?_; rintro e w5 ⟨rfl, hb5⟩; have kw6 := below_on kw hb5)
            go_ret
            exact ⟨err_is (by rw [TE2.out]) HZ.out, kw6⟩
        · have TZ : Hid (TF = 0) := TN.out (fun j hj => I.out j (by omega))
          clear TA TN TL RT I HCT
          go_wp2
          go_ret
          exact ⟨err_none TZ.out, kw⟩

end Go.Proofs.YtdadjppdonephahDoor
