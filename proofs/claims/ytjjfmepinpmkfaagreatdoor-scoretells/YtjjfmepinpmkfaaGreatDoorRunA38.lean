/-
  Several texts as one: ScM, ScK, ScKp.
-/
import Derived.Test.YtjjfmepinpmkfaaGreatDoorRunA37
import Derived.Deep.Cut
import Derived.Deep.RegionHeld3
import Derived.RegionTactic
import Derived.Test.YtjjfmepinpmkfaaGreatDoorRunA2
import Derived.Deep.AppendLies
import Derived.Deep.RegionWith
namespace Go.Proofs.YtjjfmepinpmkfaaGreatDoor
open Go.ChangeShapes Go.WideShapes Go.ChangeAt Go.RowKit Go.Lib Go.Maps
set_option linter.unusedVariables false
/-- a scorer between calls; its blocks -/
def SZ (W w : World) (s : Nat) (S : M.Sh) (i : Nat) (B : Nat → Prop) : Prop := ∃ f T ka kc K F, SC W w s f T S i ka kc K F ∧ ∀ q, B q ↔ SB s T ka F q
/-- what stays of all else -/
def KeptS (w : World) (B B' : Nat → Prop) (w' : World) : Prop := w.heap.size ≤ w'.heap.size ∧ ∀ q, q < w.heap.size → ¬ B q → ¬ B' q ∧ w'.heap[q]? = w.heap[q]?
theorem SZ.bl {W w : World} {s : Nat} {S : M.Sh} {i : Nat} {B : Nat → Prop} (h : SZ W w s S i B) : Below W.heap.size W w := by
  obtain ⟨f, T, ka, kc, K, F, h, _⟩ := h
  exact h.has.bl
theorem SZ.lt {W w : World} {s : Nat} {S : M.Sh} {i : Nat} {B : Nat → Prop} (h : SZ W w s S i B) {q : Nat} (hq : B q) : W.heap.size ≤ q ∧ q < w.heap.size := by
  obtain ⟨f, T, ka, kc, K, F, h, e⟩ := h
  exact h.lt ((e q).1 hq)
theorem SZ.up {W w w' : World} {s : Nat} {S : M.Sh} {i : Nat} {B : Nat → Prop} (h : SZ W w s S i B) (hb : Below w.heap.size w w') : SZ W w' s S i B := by
  obtain ⟨f, T, ka, kc, K, F, h, e⟩ := h
  exact ⟨f, T, ka, kc, K, F, h.up hb, e⟩
/-- it stays where its blocks do -/
theorem SZ.stay {W w w' : World} {s : Nat} {S : M.Sh} {i : Nat} {B : Nat → Prop} (h : SZ W w s S i B) (hb : Below W.heap.size W w') (hz : w.heap.size ≤ w'.heap.size) (hk : ∀ q, B q → w'.heap[q]? = w.heap[q]?) : SZ W w' s S i B := by
  obtain ⟨f, T, ka, kc, K, F, h, e⟩ := h
  exact ⟨f, T, ka, kc, K, F, h.stay hb hz (fun q hq => hk q ((e q).2 hq)), e⟩
theorem KeptS.refl {w w' : World} {B : Nat → Prop} (hb : Below w.heap.size w w') : KeptS w B B w' := ⟨hb.size, fun q hq hn => ⟨hn, hb.block q hq⟩⟩

set_option maxHeartbeats 4000000 in
theorem sc_Index {W w : World} {s : Nat} {S : M.Sh} {i : Nat} {B : Nat → Prop} (h : SZ W w s S i B) :
    Calls Tryz.prog 25 #[.pointer (some ⟨s, 0, none⟩)] w fun e w' => e = .returned (.int .i64 (i : Int)) ∧ w' = w := by
  obtain ⟨f, T, ka, kc, K, F, h, e⟩ := h
  have c1 := h.box.cell 1 _ rfl
  clear h e
  go_enter Tryz.func25, Tryz.ntmps25
  go_wp2
  go_ret
  exact ⟨rfl, rfl⟩
set_option maxHeartbeats 4000000 in
theorem sc_Cached {W w : World} {s : Nat} {S : M.Sh} {i : Nat} {B : Nat → Prop} (h : SZ W w s S i B) :
    Calls Tryz.prog 24 #[.pointer (some ⟨s, 0, none⟩)] w fun e w' => ∃ n : Nat, e = .returned (.int .i64 (n : Int)) ∧ n ≤ 4 ∧ w' = w := by
  obtain ⟨f, T, ka, kc, K, F, h, e⟩ := h
  have c2 := h.box.cell 2 _ rfl
  have kl := h.kl
  clear h e
  generalize K.length = n at *
  go_enter Tryz.func24, Tryz.ntmps24
  go_wp2
  go_ret
  exact ⟨n, rfl, kl, rfl⟩
set_option maxHeartbeats 4000000 in
theorem sc_New {W w : World} (hb : Below W.heap.size W w) :
    Calls Tryz.prog 21 #[] w fun e w' => ∃ s B, e = .returned (.pointer (some ⟨s, 0, none⟩)) ∧ SZ W w' s M.sh0 0 B ∧ Below w.heap.size w w' ∧ ∀ q, B q → w.heap.size ≤ q := by
  have NW := hide (sh_New w)
  have AFT : Hid (∀ f T w1, SA w1 f T M.sh0 → Below w.heap.size w w1 → (∀ q, T q ≠ 0 → w.heap.size ≤ q) → SZ W (w1.alloc (.cells #[.pointer (some ⟨f, 0, none⟩), .int .i64 0, .slice none 0 0] 112)) w1.heap.size M.sh0 0 (SB w1.heap.size T none (fun _ => False)) ∧ Below w.heap.size w (w1.alloc (.cells #[.pointer (some ⟨f, 0, none⟩), .int .i64 0, .slice none 0 0] 112)) ∧ ∀ q, SB w1.heap.size T none (fun _ => False) q → w.heap.size ≤ q) := fun f T w1 sa b1 tn => by
    have ba : Below w1.heap.size w1 (w1.alloc (.cells #[.pointer (some ⟨f, 0, none⟩), .int .i64 0, .slice none 0 0] 112)) := (Below.refl _ _).alloc (Nat.le_refl _) _
    have hz := hb.size
    have z1 := b1.size
    have hs : Has W w1 f T M.sh0 := ⟨sa, below_on hb b1, fun q hq => Nat.le_trans hz (tn q hq)⟩
    refine ⟨⟨f, T, none, 0, [], fun _ => False, ⟨hs.up ba, M.gg_zero, by show (0 : Int) ≤ ((0 : Nat) : Int); omega, bx_new w1 (scL f 0 none 0 0) _, World.ownsRow_nil _ _ _ _, by show 0 ≤ 4; omega, (fun x hx => by cases hx), (fun q hq => by cases hq), ⟨by omega, sa.lt (Nat.le_refl _), fun p hp => by cases hp⟩, fun p hp => by cases hp⟩, fun q => Iff.rfl⟩, below_on b1 ba, fun q hq => ?_⟩
    rcases hq with e | e | ⟨p, e, _⟩ | e
    · omega
    · exact tn q e
    · cases e
    · cases e
  clear hb
  go_enter Tryz.func21, Tryz.ntmps21
  go_wp2_with (go_at_call 6; refine NW.out.mono ?_; rintro e w1 ⟨f, T, rfl, sa, b1, tn⟩; have F1 := hide (AFT.out f T w1 sa b1 tn); clear sa b1 tn)
  go_ret
  exact ⟨_, _, rfl, F1.out⟩

/-- what is wrong with what is heard -/
def M.hrF (i : Nat) (n : Int) : Int := if n < 1 ∨ 1000000 < n then 1 else if n ≠ (i : Int) + 1 then 6 else 0
set_option maxHeartbeats 4000000 in
theorem sc_Hear_no {W w : World} {s : Nat} {S : M.Sh} {i : Nat} {B : Nat → Prop} (h : SZ W w s S i B) (x0 x1 x2 x3 x4 x5 x6 : Value) (n : Int) (hi : i ≤ 1000) (hn : M.hrF i n ≠ 0) :
    Calls Tryz.prog 22 #[.pointer (some ⟨s, 0, none⟩), .agg #[x0, x1, x2, x3, x4, x5, x6], .int .i64 n] w fun e w' => e = .returned (errV (M.hrF i n)) ∧ SZ W w' s S i B ∧ Below w.heap.size w w' := by
  have ba : Below w.heap.size w (w.alloc (.cells #[x0, x1, x2, x3, x4, x5, x6] 36)) := (Below.refl _ _).alloc (Nat.le_refl _) _
  have FIN : Hid (SZ W (w.alloc (.cells #[x0, x1, x2, x3, x4, x5, x6] 36)) s S i B ∧ Below w.heap.size w (w.alloc (.cells #[x0, x1, x2, x3, x4, x5, x6] 36))) := ⟨h.up ba, ba⟩
  obtain ⟨f, T, ka, kc, K, F, h, _⟩ := h
  have bx := h.box.keep (ba.block _ h.box.lt)
  have c1 := bx.cell 1 _ rfl
  rw [err_some hn]
  have i1 : IntKind.i64.wrap ((i : Int) + 1) = (i : Int) + 1 := i64_in (by omega) (by omega)
  unfold M.hrF at hn ⊢
  by_cases q : n < 1 ∨ 1000000 < n
  · rw [if_pos q]
    have tw : decide (n < 1) = true ∨ (decide (n < 1) = false ∧ decide (1000000 < n) = true) := by
      simp only [decide_eq_true_iff, decide_eq_false_iff_not]; omega
    clear h bx ba hn q
    rcases tw with t1 | ⟨t1, t2⟩
    all_goals (
      go_enter Tryz.func22, Tryz.ntmps22
      go_wp2
      go_ret
      exact ⟨rfl, FIN.out⟩)
  · rw [if_neg q] at hn ⊢
    by_cases r : n ≠ (i : Int) + 1
    · rw [if_pos r]
      have t1 : decide (n < 1) = false := decide_eq_false (by omega)
      have t2 : decide (1000000 < n) = false := decide_eq_false (by omega)
      have t3 : (n != (i : Int) + 1) = true := by rw [bne_iff_ne]; exact r
      clear h bx ba hn q r
      go_enter Tryz.func22, Tryz.ntmps22
      go_wp2
      go_ret
      exact ⟨rfl, FIN.out⟩
    · rw [if_neg r] at hn
      exact absurd rfl hn

set_option maxHeartbeats 8000000 in
theorem sc_Hear {W w : World} {s : Nat} {S : M.Sh} {i : Nat} {B : Nat → Prop} (h : SZ W w s S i B) {k : CaC} (hc : CaIn W k.1 k.2.1 k.2.2) (hi : i ≤ 900) :
    Calls Tryz.prog 22 #[.pointer (some ⟨s, 0, none⟩), caV k.1 k.2.1 k.2.2, .int .i64 ((i : Int) + 1)] w fun e w' => e = .returned .nilIface ∧ ∃ B', SZ W w' s (M.shDo S k.1).2.2 (i + 1) B' ∧ KeptS w B B' w' := by
  obtain ⟨f, T, ka, kc, K, F, h, eB⟩ := h
  have ix := h.ix
  obtain ⟨w0, hw0⟩ : ∃ X, X = w.alloc (.cells #[.int .i64 k.1.what, .int .i64 k.1.ses, .int .i64 k.1.seq, .string (byStr k.1.name), .int .i64 k.1.num, .int .i64 k.1.share, .slice k.2.1 k.1.bys.length k.2.2] 36) := ⟨_, rfl⟩
  have ba : Below w.heap.size w w0 := by rw [hw0]; exact (Below.refl _ _).alloc (Nat.le_refl _) _
  obtain ⟨cq, hcq⟩ : ∃ x, x = w.heap.size := ⟨_, rfl⟩
  have bq : Bx w0 cq [.int .i64 k.1.what, .int .i64 k.1.ses, .int .i64 k.1.seq, .string (byStr k.1.name), .int .i64 k.1.num, .int .i64 k.1.share, .slice k.2.1 k.1.bys.length k.2.2] := by rw [hw0, hcq]; exact bx_new w _ _
  have h0 := h.up ba
  have sl := h.box.lt
  have io : M.ShOk S := by
    obtain ⟨mm, ml, D, E, kb, mb, va, vc, G, hv⟩ := h.has.sa
    exact hv.inv.ok
  obtain ⟨w1, hw1⟩ : ∃ X, X = w0.setCell ⟨s, 1, none⟩ (.int .i64 ((i : Int) + 1)) := ⟨_, rfl⟩
  have z1 : w1.heap.size = w0.heap.size := by rw [hw1]; simp
  have eq1 : ∀ q, q ≠ s → w1.heap[q]? = w0.heap[q]? := fun q hq => by rw [hw1]; exact heap_setCell_other _ _ _ _ hq
  have h1 : Has W w1 f T S := ⟨h0.has.sa.up (fun q hq => eq1 q (fun e => hq (by rw [e]; exact h.sn.2.1))) (by omega), by rw [hw1]; exact h0.has.bl.setCell h.sn.1 _, h.has.tn⟩
  have bq1 : Bx w1 cq [.int .i64 k.1.what, .int .i64 k.1.ses, .int .i64 k.1.seq, .string (byStr k.1.name), .int .i64 k.1.num, .int .i64 k.1.share, .slice k.2.1 k.1.bys.length k.2.2] := bq.keep (eq1 cq (by omega))
  have b0 := h0.box
  have b1 : Bx w1 s (scL f (i + 1) ka K.length kc) := by
    have := b0.put (j := 1) (v := .int .i64 ((i : Int) + 1))
    rw [hw1]; exact this
  have DO := hide ((h1.up (Below.refl _ w1).drew).doIt hc (by omega))
  have AFT : Hid (∀ T' w', Has W w' f T' (M.shDo S k.1).2.2 → (∀ q, q < w1.heap.size → T q = 0 → T' q = 0 ∧ w'.heap[q]? = w1.heap[q]?) → w1.heap.size ≤ w'.heap.size → ∃ B', SZ W w' s (M.shDo S k.1).2.2 (i + 1) B' ∧ KeptS w B B' w') := fun T' w' hh hk hz => by
    have e1 : w1 = w0.setCell ⟨s, 1, none⟩ (.int .i64 ((i + 1 : Nat) : Int)) := by rw [hw1]; rfl
    have sc := h0.heard e1 hh hk hz (M.gg_do h.gg k.1) (M.do_keep S k.1) (M.do_ok io k.1).2.2.2
    refine ⟨SB s T' ka F, ⟨f, T', ka, kc, K, F, sc, fun q => Iff.rfl⟩, by have := ba.size; omega, fun q hq hn => ?_⟩
    have hn' : ¬ SB s T ka F q := fun z => hn ((eB q).2 z)
    have ns : q ≠ s := fun e => hn' (.inl e)
    have nt : T q = 0 := by
      by_cases z : T q = 0
      · exact z
      · exact absurd (.inr (.inl z)) hn'
    have kq := hk q (by have := ba.size; omega) nt
    refine ⟨fun z => ?_, ?_⟩
    · rcases z with e | e | e | e
      · exact ns e
      · exact e kq.1
      · exact hn' (.inr (.inr (.inl e)))
      · exact hn' (.inr (.inr (.inr e)))
    · rw [kq.2, eq1 q ns]
      exact ba.block q hq
  have t1 : decide ((i : Int) + 1 < 1) = false := decide_eq_false (by omega)
  have t2 : decide (1000000 < (i : Int) + 1) = false := decide_eq_false (by omega)
  have i1 : IntKind.i64.wrap ((i : Int) + 1) = (i : Int) + 1 := i64_in (by omega) (by omega)
  have c1 := b0.cell 1 _ rfl
  have f1 := b0.free 1
  have d0 := b1.cell 0 _ rfl
  have q0 := bq1.cell 0 _ rfl
  have q1 := bq1.cell 1 _ rfl
  have q2 := bq1.cell 2 _ rfl
  have q3 := bq1.cell 3 _ rfl
  have q4 := bq1.cell 4 _ rfl
  have q5 := bq1.cell 5 _ rfl
  have q6 := bq1.cell 6 _ rfl
  unfold caV at DO ⊢
  clear h h0 h1 hc b0 b1 bq bq1 ba eq1 z1 eB
  generalize (M.shDo S k.1).2.2 = S9 at *
  generalize errV (M.shDo S k.1).2.1 = e9 at *
  generalize anV (M.shDo S k.1).1 = a9 at *
  go_enter Tryz.func22, Tryz.ntmps22
  go_upto_region 1 with fail
  rw [← hw0]
  simp only [← hcq]
  clear hw0 hcq
  go_upto_region 6 with fail
  rw [← hw1]
  clear hw1
  go_region_with (go_at_call 8; refine DO.out.mono ?_; rintro e w2 ⟨rfl, T', hh, hk, hz⟩; have A2 := hide (AFT.out T' w2 hh hk hz); clear hh hk hz)
  all_goals (
    go_wp2
    go_ret
    exact ⟨rfl, A2.out⟩)
def vn4 (v : M.Vn) : List Value := [.string (byStr v.name), .int .i64 v.num, .int .i64 v.stage, .int .i64 v.share]
set_option maxHeartbeats 2000000 in
theorem isOf_any (x0 : ByteArray) (x1 x2 x3 : Int) (w : World) :
    Calls Tryz.prog 62 #[.agg #[.string x0, .int .i64 x1, .int .i64 x2, .int .i64 x3]] w fun e w' => ∃ vb, e = .returned (.func (.func 97) #[] #[.pointer (some ⟨vb, 0, none⟩)]) ∧ VB w' vb x0 x1 ∧ Below w.heap.size w w' ∧ w.heap.size ≤ vb := by
  have bn := bx_new w [.string x0, .int .i64 x1, .int .i64 x2, .int .i64 x3] 49
  have FIN : Hid (VB (w.alloc (.cells #[.string x0, .int .i64 x1, .int .i64 x2, .int .i64 x3] 49)) w.heap.size x0 x1 ∧ Below w.heap.size w (w.alloc (.cells #[.string x0, .int .i64 x1, .int .i64 x2, .int .i64 x3] 49))) := ⟨⟨bn.cell 0 _ rfl, bn.cell 1 _ rfl, bn.lt⟩, (Below.refl _ _).alloc (Nat.le_refl _) _⟩
  clear bn
  go_enter Tryz.func62, Tryz.ntmps62
  go_wp2
  go_ret
  exact ⟨w.heap.size, rfl, FIN.out.1, FIN.out.2, Nat.le_refl _⟩
/-- what is kept, while it turns -/
structure KR (W w wx : World) (s f i : Nat) (ka : Option Addr) (kc : Nat) (K : List Ld) (vb : Nat) (V4 : List Value) (m : Nat) (r : List Ld) : Prop where
  box : Bx wx s (scL f i ka m kc)
  own : wx.ownsRow W.heap.size 136 3 (.slice ka m kc) m (ldCs r)
  sub : ∀ x ∈ r, x ∈ K
  len : r.length = m
  vbx : Bx wx vb V4
  stay : StayBut (fun q => q = s ∨ ∃ p, ka = some p ∧ p.block = q) w wx
/-- some were struck -/
theorem KR.struck {W w wx wy wz : World} {s f i : Nat} {ka : Option Addr} {kc : Nat} {K : List Ld} {vb : Nat} {V4 : List Value} {m n : Nat} {r l : List Ld} (h : KR W w wx s f i ka kc K vb V4 m r) (hb : Below wx.heap.size wx wy) (hd : DelL wy wz W.heap.size ka kc r n l) (hs : ∀ p, ka = some p → p.block ≠ s) (hv : ∀ p, ka = some p → p.block ≠ vb) (hvs : vb ≠ s) : (wz.cell? ⟨s, 2, none⟩ = some (.slice ka m kc) ∧ wz.frozen? ⟨s, 2, none⟩ = false) ∧ KR W w (wz.setCell ⟨s, 2, none⟩ (.slice ka n kc)) s f i ka kc K vb V4 n l := by
  have b0 : Bx wz s (scL f i ka m kc) := (h.box.keep (hb.block _ h.box.lt)).keep (hd.stay.block _ (Nat.lt_of_lt_of_le h.box.lt hb.size) (fun ⟨p, e1, e2⟩ => hs p e1 e2))
  refine ⟨⟨b0.cell 2 _ rfl, b0.free 2⟩, ⟨b0.put, ?_, fun x hx => h.sub x (hd.sub x hx), hd.len, ?_, ?_⟩⟩
  · exact sp_stay hd.own (fun p hp => heap_setCell_other _ _ _ _ (hs p hp))
  · exact ((h.vbx.keep (hb.block _ h.vbx.lt)).keep (hd.stay.block _ (Nat.lt_of_lt_of_le h.vbx.lt hb.size) (fun ⟨p, e1, e2⟩ => hv p e1 e2))).else hvs
  · exact ((h.stay.trans (stay_of hb (Nat.le_refl _))).trans (hd.stay.mono (fun q _ e => .inr e))).trans (stay_set (.inl rfl))
/-- one more behind them -/
theorem KR.push {W w wx : World} {s f i : Nat} {T : Nat → Nat} {S : M.Sh} {ka : Option Addr} {kc : Nat} {K : List Ld} {F E : Nat → Prop} {vb : Nat} {V4 : List Value} {m : Nat} {r : List Ld} (h : SC W w s f T S i ka kc K F) (kr : KR W w wx s f i ka kc K vb V4 m r) (hm : m ≤ 3) {x : Ld} (hx : isB x.1 ∧ ∃ k, k < S.l.length ∧ (vAt S k).name = x.1 ∧ (vAt S k).num = x.2.1 ∧ FoIn E w x.2.2 (S.l.getD k M.vg0).2) (hFE : ∀ q, F q → E q)
    (hE : ∀ q, E q → W.heap.size ≤ q ∧ q < w.heap.size ∧ T q = 0 ∧ q ≠ s ∧ ∀ p, ka = some p → q ≠ p.block) {o : Obj} {w7 : World} {g7 c7 : Nat} (hov : w7.ownsRow W.heap.size 136 3 (.slice (some ⟨g7, 0, none⟩) (m + 1) c7) (m + 1) (ldCs r ++ ld3 x)) (hg : (wx.alloc o).grownBy w7 (Value.slice ka m kc).ownBlock) (hat : (Value.slice ka m kc).ownBlock = some g7 ∨ g7 = wx.heap.size + 1) :
    (w7.cell? ⟨s, 2, none⟩ = some (.slice ka m kc) ∧ w7.frozen? ⟨s, 2, none⟩ = false) ∧ SC W (w7.setCell ⟨s, 2, none⟩ (.slice (some ⟨g7, 0, none⟩) (m + 1) c7)) s f T S i (some ⟨g7, 0, none⟩) c7 (r ++ [x]) E ∧ StayBut (fun q => q = s ∨ ∃ p, ka = some p ∧ p.block = q) w (w7.setCell ⟨s, 2, none⟩ (.slice (some ⟨g7, 0, none⟩) (m + 1) c7)) ∧ ((∃ p, ka = some p ∧ p.block = g7) ∨ w.heap.size ≤ g7) := by
  have ob : ∀ q, (Value.slice ka m kc).ownBlock = some q → ∃ p, ka = some p ∧ p.block = q := fun q hq => by
    cases ka with
    | none => cases hq
    | some p => exact ⟨p, rfl, by simpa [Value.ownBlock] using hq⟩
  have sl := h.box.lt
  have ws := kr.stay.size
  have za : (wx.alloc o).heap.size = wx.heap.size + 1 := by simp
  have zg := hg.size
  have s7 : w7.heap[s]? = wx.heap[s]? := (hg.block s (by omega) (fun e => by
    obtain ⟨p, e1, e2⟩ := ob s e.symm
    exact h.sn.2.2 p e1 e2)).trans (Below.heap_alloc _ _ _ (by omega))
  have b7 : Bx w7 s (scL f i ka m kc) := kr.box.keep s7
  have far : ∀ q, q < w.heap.size → q ≠ s → (∀ p, ka = some p → q ≠ p.block) → (w7.setCell ⟨s, 2, none⟩ (.slice (some ⟨g7, 0, none⟩) (m + 1) c7)).heap[q]? = w.heap[q]? := fun q h1 h2 h3 => by
    rw [heap_setCell_other _ _ _ _ h2, hg.block q (by omega) (fun e => by
      obtain ⟨p, e1, e2⟩ := ob q e.symm
      exact h3 p e1 e2.symm), Below.heap_alloc _ _ _ (by omega)]
    exact kr.stay.block q h1 (fun z => by
      rcases z with z | ⟨p, e1, e2⟩
      · exact h2 z
      · exact h3 p e1 e2.symm)
  have gw : (∃ p, ka = some p ∧ p.block = g7) ∨ w.heap.size ≤ g7 := by
    rcases hat with z | z
    · exact .inl (ob _ z)
    · right; omega
  have g7s : g7 ≠ s := by
    rcases gw with ⟨p, e1, e2⟩ | z
    · intro e; exact h.sn.2.2 p e1 (e2.trans e)
    · omega
  have el : (r ++ [x]).length = m + 1 := by rw [List.length_append, kr.len]; rfl
  have st : StayBut (fun q => q = s ∨ ∃ p, ka = some p ∧ p.block = q) w (w7.setCell ⟨s, 2, none⟩ (.slice (some ⟨g7, 0, none⟩) (m + 1) c7)) := by
    refine ⟨?_, ?_, ?_, by simp; omega, fun q hq hn => far q hq (fun e => hn (.inl e)) (fun p hp e => hn (.inr ⟨p, hp, e.symm⟩))⟩
    · exact (hg.os.trans kr.stay.os)
    · exact (hg.tape.trans kr.stay.tape)
    · exact (hg.output.trans kr.stay.output)
  have bw : Below W.heap.size W (w7.setCell ⟨s, 2, none⟩ (.slice (some ⟨g7, 0, none⟩) (m + 1) c7)) := by
    have hb := h.has.bl
    refine ⟨st.os.trans hb.os, st.tape.trans hb.tape, st.output.trans hb.output, Nat.le_trans hb.size st.size, fun q hq => ?_⟩
    have hz := hb.size
    rw [st.block q (by omega) (fun z => by
      rcases z with z | ⟨p, e1, e2⟩
      · have := h.sn.1; omega
      · have := sp_in h.ko p e1; omega)]
    exact hb.block q hq
  refine ⟨⟨b7.cell 2 _ rfl, b7.free 2⟩, h.turned bw st.size (by rw [el]; exact b7.put) ?_ (by omega) ?_ (fun q hq => ?_) (fun q hq => ?_) (fun p hp => ?_) (fun p hp => ?_), st, gw⟩
  · rw [el, ldCs_app, ldCs_one]
    exact sp_stay hov (fun p hp => heap_setCell_other _ _ _ _ (by cases hp; exact g7s))
  · have kE : ∀ q, E q → (w7.setCell ⟨s, 2, none⟩ (.slice (some ⟨g7, 0, none⟩) (m + 1) c7)).heap[q]? = w.heap[q]? := fun q hq => far q (hE q hq).2.1 (hE q hq).2.2.2.1 (hE q hq).2.2.2.2
    intro y hy
    rcases List.mem_append.1 hy with z | z
    · obtain ⟨a, k, b, c, d, e⟩ := h.kv y (kr.sub y z)
      exact ⟨a, k, b, c, d, e.up st.size (fun q hq => kE q (hFE q hq)) hFE⟩
    · rw [List.mem_singleton] at z
      subst z
      obtain ⟨a, k, b, c, d, e⟩ := hx
      exact ⟨a, k, b, c, d, e.up st.size kE (fun q hq => hq)⟩
  · refine far q ?_ ?_ ?_
    · by_cases z : q < w.heap.size
      · exact z
      · exact absurd (h.has.sa.lt (by omega)) hq
    · intro e; exact hq (by rw [e]; exact h.sn.2.1)
    · intro p hp e; exact hq (by rw [e]; exact h.kn p hp)
  · obtain ⟨e1, e2, e3, e4, e5⟩ := hE q hq
    refine ⟨e1, Nat.lt_of_lt_of_le e2 st.size, e3, e4, fun p hp => ?_⟩
    cases hp
    show q ≠ g7
    rcases gw with ⟨p, a1, a2⟩ | z
    · rw [← a2]; exact e5 p a1
    · omega
  · cases hp; exact g7s
  · cases hp
    show T g7 = 0
    rcases gw with ⟨p, a1, a2⟩ | z
    · rw [← a2]; exact h.kn p a1
    · exact h.has.sa.lt z
set_option maxHeartbeats 16000000 in
set_option maxRecDepth 10000 in
theorem sc_keep {W w : World} {s f i : Nat} {T : Nat → Nat} {S : M.Sh} {ka : Option Addr} {kc : Nat} {K : List Ld} {F E : Nat → Prop} (h : SC W w s f T S i ka kc K F) (v : M.Vn) (p : Nat) (hx : isB v.name ∧ ∃ k, k < S.l.length ∧ (vAt S k).name = v.name ∧ (vAt S k).num = v.num ∧ FoIn E w p (S.l.getD k M.vg0).2) (hFE : ∀ q, F q → E q)
    (hE : ∀ q, E q → W.heap.size ≤ q ∧ q < w.heap.size ∧ T q = 0 ∧ q ≠ s ∧ ∀ p, ka = some p → q ≠ p.block) :
    Calls Tryz.prog 47 #[.pointer (some ⟨s, 0, none⟩), vnV v, .pointer (some ⟨p, 0, none⟩)] w fun e w' => e = .returned (.tuple #[]) ∧ ∃ g kd L, SC W w' s f T S i (some ⟨g, 0, none⟩) kd L E ∧ StayBut (fun q => q = s ∨ ∃ p, ka = some p ∧ p.block = q) w w' ∧ ((∃ p, ka = some p ∧ p.block = g) ∨ w.heap.size ≤ g) := by
  obtain ⟨w0, hw0⟩ : ∃ X, X = w.alloc (.cells #[.string (byStr v.name), .int .i64 v.num, .int .i64 v.stage, .int .i64 v.share] 49) := ⟨_, rfl⟩
  obtain ⟨vb, hvb⟩ : ∃ x, x = w.heap.size := ⟨_, rfl⟩
  have ba : Below w.heap.size w w0 := by rw [hw0]; exact (Below.refl _ _).alloc (Nat.le_refl _) _
  have bv : Bx w0 vb (vn4 v) := by rw [hw0, hvb]; exact bx_new w _ _
  have sl := h.box.lt
  have vs : vb ≠ s := by omega
  have va : ∀ p, ka = some p → p.block ≠ vb := fun p hp => by have := sp_in h.ko p hp; omega
  have kr0 : KR W w w0 s f i ka kc K vb (vn4 v) K.length K := ⟨h.box.keep (ba.block _ sl), own_up h.ko ba, (fun x hx => hx), rfl, bv, stay_of ba (Nat.le_refl _)⟩
  have kl := h.kl
  have IO := hide (isOf_any (byStr v.name) v.num v.stage v.share w0.drew)
  have DL : Hid (∀ wB vq, Below w0.drew.heap.size w0.drew wB → VB wB vq (byStr v.name) v.num → w0.heap.size ≤ vq → Calls Tryz.prog 67 #[.slice ka K.length kc, .func (.func 97) #[] #[.pointer (some ⟨vq, 0, none⟩)]] wB fun e wC => ∃ m : Nat, e = .returned (.slice ka m kc) ∧ (wC.cell? ⟨s, 2, none⟩ = some (.slice ka K.length kc) ∧ wC.frozen? ⟨s, 2, none⟩ = false) ∧ m ≤ 4 ∧ ∃ r, KR W w (wC.setCell ⟨s, 2, none⟩ (.slice ka m kc)) s f i ka kc K vb (vn4 v) m r) := fun wB vq hb hv hq => by
    have hb0 : Below w0.heap.size w0 wB := ((Below.refl _ w0).drew).trans hb
    refine (del_ld rfl (by omega) (own_up kr0.own hb0) hv (fun p hp => ?_)).mono ?_
    · have := sp_in h.ko p hp
      have := ba.size
      omega
    · rintro e wC ⟨m, rfl, r, dl⟩
      obtain ⟨c, k⟩ := kr0.struck hb0 dl h.sn.2.2 va vs
      exact ⟨m, rfl, c, by have := dl.le; omega, r, k⟩
  have D1 : Hid (∀ wx r, KR W w wx s f i ka kc K vb (vn4 v) 4 r → Calls Tryz.prog 68 #[.slice ka 4 kc, .int .i64 0, .int .i64 1] wx fun e wC => e = .returned (.slice ka 3 kc) ∧ (wC.cell? ⟨s, 2, none⟩ = some (.slice ka 4 kc) ∧ wC.frozen? ⟨s, 2, none⟩ = false) ∧ ∃ r', KR W w (wC.setCell ⟨s, 2, none⟩ (.slice ka 3 kc)) s f i ka kc K vb (vn4 v) 3 r') := fun wx r kr => by
    obtain ⟨g, e, _, _⟩ := own_form kr.own (by omega)
    have own' := kr.own
    rw [e] at own'
    rw [e]
    refine (del_one kr.len own').mono ?_
    rintro e' wC ⟨rfl, r', dl⟩
    rw [← e] at dl ⊢
    obtain ⟨c, k⟩ := kr.struck (Below.refl _ _) dl h.sn.2.2 va vs
    exact ⟨rfl, c, r', k⟩
  have PU : Hid (∀ wx m r, KR W w wx s f i ka kc K vb (vn4 v) m r → m ≤ 3 → ∀ (o : Obj) w7 g7 c7, w7.ownsRow W.heap.size 136 3 (.slice (some ⟨g7, 0, none⟩) (m + 1) c7) (m + 1) (ldCs r ++ ld3 (v.name, v.num, p)) → (wx.alloc o).grownBy w7 (Value.slice ka m kc).ownBlock → ((Value.slice ka m kc).ownBlock = some g7 ∨ g7 = wx.heap.size + 1) → (w7.cell? ⟨s, 2, none⟩ = some (.slice ka m kc) ∧ w7.frozen? ⟨s, 2, none⟩ = false) ∧ Hid (SC W (w7.setCell ⟨s, 2, none⟩ (.slice (some ⟨g7, 0, none⟩) (m + 1) c7)) s f T S i (some ⟨g7, 0, none⟩) c7 (r ++ [(v.name, v.num, p)]) E ∧ StayBut (fun q => q = s ∨ ∃ p, ka = some p ∧ p.block = q) w (w7.setCell ⟨s, 2, none⟩ (.slice (some ⟨g7, 0, none⟩) (m + 1) c7)) ∧ ((∃ p, ka = some p ∧ p.block = g7) ∨ w.heap.size ≤ g7))) := fun wx m r kr hm o w7 g7 c7 h1 h2 h3 => KR.push h kr hm (x := (v.name, v.num, p)) hx hFE hE h1 h2 h3
  have KR0 := hide kr0
  have BS := hide (fun wx m r (kr : KR W w wx s f i ka kc K vb (vn4 v) m r) => And.intro kr.box (And.intro kr.vbx kr.own))
  have BZ : Hid (∀ wx m r, KR W w wx s f i ka kc K vb (vn4 v) m r → W.heap.size ≤ wx.heap.size ∧ s < wx.heap.size ∧ vb < wx.heap.size) := fun wx m r kr => ⟨by have := kr.stay.size; have := h.has.bl.size; omega, kr.box.lt, kr.vbx.lt⟩
  obtain ⟨j0, hj0, hz0, hz1, hz2⟩ := info_parts infoLd
  have J0 := hide hj0
  unfold vnV
  unfold vn4 at BS KR0 IO
  clear h hx hFE hE kr0 bv ba sl va hj0
  unfold ld3 at PU
  simp only at PU
  unfold vn4 at DL D1 PU BZ
  generalize byStr v.name = x0 at *
  generalize v.num = x1 at *
  generalize v.stage = x2 at *
  generalize v.share = x3 at *
  generalize K.length = n at *
  go_enter Tryz.func47, Tryz.ntmps47
  go_upto_region 1 with fail
  rw [← hw0]
  simp only [← hvb]
  clear hw0 hvb
  go_cut [] from 6 to 15 (fun wx => ∃ (m : Nat) (r : List Ld), m ≤ 4 ∧ Hid (KR W w wx s f i ka kc K vb [.string x0, .int .i64 x1, .int .i64 x2, .int .i64 x3] m r))
  case first =>
    obtain ⟨b1, b2, _⟩ := BS.out _ _ _ KR0.out
    have c2 := b1.cell 2 _ rfl
    have v0 := b2.cell 0 _ rfl
    have v1 := b2.cell 1 _ rfl
    have v2 := b2.cell 2 _ rfl
    have v3 := b2.cell 3 _ rfl
    have C2 : Hid (∀ wB, Below w0.drew.heap.size w0.drew wB → wB.cell? ⟨s, 2, none⟩ = some (.slice ka n kc)) := fun wB hb => (hb.cell (p := ⟨s, 2, none⟩) b1.lt).trans c2
    clear b1 b2 D1 PU BS BZ J0
    go_region_with (first
      | (go_at_call 67; refine (DL.out wB vq KB.out VQ.out LQ.out).mono ?_; rintro e wC ⟨m, rfl, ⟨cc, cf⟩, m4, r, kr⟩; have KR1 := hide kr; have M4 := hide m4; clear kr m4)
      | (go_at_call 62; refine IO.out.mono ?_; rintro e wB ⟨vq, rfl, vb2, kb, lq⟩; have VQ := hide vb2; have KB := hide kb; have LQ : Hid (w0.heap.size ≤ vq) := lq; have c2b := C2.out wB kb; clear vb2 kb lq))
    all_goals (
      go_wp2
      go_meet
      case rel => exact ⟨m, r, M4.out, KR1⟩)
  case rest =>
    obtain ⟨m, r, m4, KR1⟩ := hcut
    obtain ⟨wx, hwx⟩ : ∃ X, X = wc := ⟨_, rfl⟩
    subst hwx
    clear DL IO KR0
    obtain ⟨b1, b2, _⟩ := BS.out _ _ _ KR1.out
    have c2 := b1.cell 2 _ rfl
    clear b1 b2
    go_upto_if 21 with fail
    go_cut [] from 22 to 29 (fun wx => ∃ (m : Nat) (r : List Ld), m ≤ 3 ∧ Hid (KR W w wx s f i ka kc K vb [.string x0, .int .i64 x1, .int .i64 x2, .int .i64 x3] m r))
    case first =>
      by_cases q : m = 4
      · subst q
        have D2 := hide (D1.out wx r KR1.out)
        clear D1 PU BS BZ
        go_wp2_with (go_at_call 68; refine D2.out.mono ?_; rintro e wC ⟨rfl, ⟨cc, cf⟩, r', kr⟩; have KR2 := hide kr; clear kr)
        go_meet
        case rel => exact ⟨3, r', by omega, KR2⟩
      · have t1 : ((m : Int) == 4) = false := by rw [beq_eq_false_iff_ne]; omega
        have t2 : (m == 4) = false := by rw [beq_eq_false_iff_ne]; exact q
        have M3 : Hid (m ≤ 3) := by unfold Hid; omega
        clear D1 PU BS BZ q
        go_wp2
        go_meet
        case rel => exact ⟨m, r, M3.out, KR1⟩
    case rest =>
      obtain ⟨m2, r2, m3, KR2⟩ := hcut
      obtain ⟨wy, hwy⟩ : ∃ X, X = wc := ⟨_, rfl⟩
      subst hwy
      clear D1 KR1 c2
      obtain ⟨b1, b2, ow⟩ := BS.out _ _ _ KR2.out
      obtain ⟨bz1, bz2, bz3⟩ := BZ.out _ _ _ KR2.out
      have c2 := b1.cell 2 _ rfl
      have v0 := b2.cell 0 _ rfl
      have v1 := b2.cell 1 _ rfl
      have c2a : ∀ o, (wy.alloc o).cell? ⟨s, 2, none⟩ = some (.slice ka m2 kc) := fun o => (World.cell?_of_block (a := ⟨s, 2, none⟩) (Below.heap_alloc _ _ _ bz2)).trans c2
      have v0a : ∀ o, (wy.alloc o).cell? ⟨vb, 0, none⟩ = some (.string x0) := fun o => (World.cell?_of_block (a := ⟨vb, 0, none⟩) (Below.heap_alloc _ _ _ bz3)).trans v0
      have v1a : ∀ o, (wy.alloc o).cell? ⟨vb, 1, none⟩ = some (.int .i64 x1) := fun o => (World.cell?_of_block (a := ⟨vb, 1, none⟩) (Below.heap_alloc _ _ _ bz3)).trans v1
      have OW := hide ow
      have P2 := hide (PU.out wy m2 r2 KR2.out m3)
      clear PU BS BZ b1 b2 ow
      go_upto_region 4 with fail
      go_region_law (refine step_append_lies _ rfl (.tmp 34) (.tmp 41) 110 rfl W.heap.size 136 j0 (.agg #[.string ⟨#[]⟩, .int .i64 0, .pointer none]) 3 32 Tryz.underlying110 J0.out hz0 hz1 hz2 rfl (by omega) (.slice ka m2 kc) m2 (ldCs r2) rfl (by first | exact OW.out.alloc _ | exact (OW.out.alloc _).drew) ⟨wy.heap.size, 0, none⟩ 1 1 [.string x0, .int .i64 x1, .pointer (some ⟨p, 0, none⟩)] rfl rfl (World.news_of_block (by first | exact heap_alloc_new _ _ | (simp; done))) (by simp [Value.oneCell']) (by omega) (by unfold maxLen; omega) (by omega) (by simp; omega) (wy.heap.size + 1) (by simp) ?_; intro g7 c7 w7 hov7 hgrow7 hat7 hlt7; obtain ⟨⟨z2, zf⟩, N7⟩ := P2.out _ w7 g7 c7 hov7 (grown_undrew hgrow7) hat7; clear hov7 hgrow7 hat7 hlt7)
      all_goals (
        clear P2 OW
        go_wp2
        refine bodyPost_end (results_none rfl _ _ _) rfl ?_
        exact ⟨rfl, g7, c7, _, N7.out⟩)
end Go.Proofs.YtjjfmepinpmkfaaGreatDoor
