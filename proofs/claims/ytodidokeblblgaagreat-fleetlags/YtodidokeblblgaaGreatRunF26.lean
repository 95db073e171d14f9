/-
  Several texts as one: FlatN.
-/
import Derived.Test.YtodidokeblblgaaGreatRunF25
import Derived.Test.YtodidokeblblgaaGreatRunF17
namespace Go.Proofs.YtodidokeblblgaaGreat
open Go.ChangeShapes Go.WideShapes Go.ChangeAt Go.RowKit Go.Lib
set_option linter.unusedVariables false
/-- a Flat while it is laid: its block, its nodes and where its trees begin -/
structure Nw (wx wr : World) (fb : Nat) (f wy : Int) (wv : Value) (X : List M.Nd) (R : List Int) (u v : Value) : Prop where
  gr : wx.grownBy wr (some fb)
  c0 : wr.cell? ⟨fb, 0, none⟩ = some (.int .i64 f)
  c1 : wr.cell? ⟨fb, 1, none⟩ = some (.int .i64 wy)
  c2 : wr.cell? ⟨fb, 2, none⟩ = some wv
  c3 : wr.cell? ⟨fb, 3, none⟩ = some u
  c4 : wr.cell? ⟨fb, 4, none⟩ = some v
  fr : ∀ j, wr.frozen? ⟨fb, j, none⟩ = false
  lt : fb < wx.heap.size
  ou : wr.ownsRow wx.heap.size 158 6 u X.length (ndCells X)
  ov : wr.ownsRow wx.heap.size 3 1 v R.length (R.map (Value.int .i64))
  dj : u.ownBlock = none ∨ v.ownBlock = none ∨ u.ownBlock ≠ v.ownBlock
theorem own_set_far {W : World} {p o B e size n : Nat} {v x : Value} {l : List Value} (h : W.ownsRow B e size v n l) (hp : p < B) : (W.setCell ⟨p, o, none⟩ x).ownsRow B e size v n l := ownsRow_setCell_below h (a := ⟨p, o, none⟩) hp x
theorem set_other {W : World} {p i j : Nat} {x : Value} (h : i ≠ j) : (W.setCell ⟨p, i, none⟩ x).cell? ⟨p, j, none⟩ = W.cell? ⟨p, j, none⟩ := World.cell?_setCell_other _ _ _ _ (by intro e; cases e; exact h rfl)
/-- one more beginning -/
theorem Nw.roots {wx wr w1 : World} {fb : Nat} {f wy : Int} {wv : Value} {X : List M.Nd} {R : List Int} {u v : Value} (h : Nw wx wr fb f wy wv X R u v) {z : Int} {o : Obj} {g c : Nat} (hg : (wr.alloc o).grownBy w1 v.ownBlock)
    (ho : w1.ownsRow wx.heap.size 3 1 (.slice (some ⟨g, 0, none⟩) (R.length + 1) c) (R.length + 1) (R.map (Value.int .i64) ++ [.int .i64 z])) (ha : v.ownBlock = some g ∨ g = wr.heap.size + 1) :
    Nw wx (w1.setCell ⟨fb, 4, none⟩ (.slice (some ⟨g, 0, none⟩) (R.length + 1) c)) fb f wy wv X (R ++ [z]) u (.slice (some ⟨g, 0, none⟩) (R.length + 1) c) := by
  have hl := h.lt
  have hs := h.gr.size
  have vb : ∀ q, v.ownBlock = some q → wx.heap.size ≤ q := fun q hq => (h.ov.lt q hq).1
  have gf : w1.heap[fb]? = wr.heap[fb]? := (hg.block fb (by simp; omega) (fun e => by have := vb fb e.symm; omega)).trans (Below.heap_alloc _ _ _ (by omega))
  have cf : ∀ j, w1.cell? ⟨fb, j, none⟩ = wr.cell? ⟨fb, j, none⟩ := fun j => World.cell?_of_block (a := ⟨fb, j, none⟩) gf
  refine ⟨?_, ?_, ?_, ?_, ?_, ?_, ?_, hl, ?_, ?_, ?_⟩
  · refine grown_trans (grown_trans (grown_trans h.gr (World.grownBy_alloc wr o none) (.inr (fun q hq => by cases hq))) hg (.inr (fun q hq => vb q hq))) grown_set (.inl rfl)
  · rw [set_other (by decide), cf]; exact h.c0
  · rw [set_other (by decide), cf]; exact h.c1
  · rw [set_other (by decide), cf]; exact h.c2
  · rw [set_other (by decide), cf]; exact h.c3
  · exact World.cell?_setCell_same (u := v) _ _ _ ((cf 4).trans h.c4)
  · intro j
    have : w1.frozen? ⟨fb, j, none⟩ = false := (World.frozen?_of_block (a := ⟨fb, j, none⟩) gf).trans (h.fr j)
    simpa using this
  · refine own_set_far ((h.ou.alloc o).kept hg ?_) hl
    rcases h.dj with q | q | q
    · exact .inl q
    · rw [q]
      cases hu : u.ownBlock with
      | none => exact .inl rfl
      | some y => exact .inr (by simp)
    · exact .inr q
  · have := own_set_far (p := fb) (o := 4) (x := .slice (some ⟨g, 0, none⟩) (R.length + 1) c) ho hl
    rw [List.map_append, List.length_append]
    exact this
  · cases hu : u.ownBlock with
    | none => exact .inl rfl
    | some y =>
      refine .inr (.inr (fun e => ?_))
      have e' : y = g := by simpa [Value.ownBlock] using e
      have hy := (h.ou.lt y hu).2
      rcases ha with q | q
      · rcases h.dj with d | d | d
        · rw [d] at hu; cases hu
        · rw [d] at q; cases q
        · exact d (by rw [hu, q, e'])
      · omega
/-- one more tree -/
theorem Nw.nodes {wx wr w1 : World} {fb : Nat} {f wy : Int} {wv : Value} {X Y : List M.Nd} {R : List Int} {u v : Value} (h : Nw wx wr fb f wy wv X R u v) {g c n : Nat} (hg : wr.grownBy w1 u.ownBlock)
    (ho : w1.ownsRow wx.heap.size 158 6 (.slice (some ⟨g, 0, none⟩) n c) n (ndCells Y)) (hn : Y.length = n) (ha : u.ownBlock = some g ∨ wr.heap.size ≤ g) :
    Nw wx (w1.setCell ⟨fb, 3, none⟩ (.slice (some ⟨g, 0, none⟩) n c)) fb f wy wv Y R (.slice (some ⟨g, 0, none⟩) n c) v := by
  have hl := h.lt
  have hs := h.gr.size
  have ub : ∀ q, u.ownBlock = some q → wx.heap.size ≤ q := fun q hq => (h.ou.lt q hq).1
  have gf : w1.heap[fb]? = wr.heap[fb]? := hg.block fb (by omega) (fun e => by have := ub fb e.symm; omega)
  have cf : ∀ j, w1.cell? ⟨fb, j, none⟩ = wr.cell? ⟨fb, j, none⟩ := fun j => World.cell?_of_block (a := ⟨fb, j, none⟩) gf
  refine ⟨?_, ?_, ?_, ?_, ?_, ?_, ?_, hl, ?_, ?_, ?_⟩
  · refine grown_trans (grown_trans h.gr hg (.inr (fun q hq => ub q hq))) grown_set (.inl rfl)
  · rw [set_other (by decide), cf]; exact h.c0
  · rw [set_other (by decide), cf]; exact h.c1
  · rw [set_other (by decide), cf]; exact h.c2
  · exact World.cell?_setCell_same (u := u) _ _ _ ((cf 3).trans h.c3)
  · rw [set_other (by decide), cf]; exact h.c4
  · intro j
    have : w1.frozen? ⟨fb, j, none⟩ = false := (World.frozen?_of_block (a := ⟨fb, j, none⟩) gf).trans (h.fr j)
    simpa using this
  · have := own_set_far (p := fb) (o := 3) (x := .slice (some ⟨g, 0, none⟩) n c) ho hl
    rw [hn]
    exact this
  · refine own_set_far (h.ov.kept hg ?_) hl
    rcases h.dj with q | q | q
    · rw [q]
      cases hv : v.ownBlock with
      | none => exact .inl rfl
      | some y => exact .inr (by simp)
    · exact .inl q
    · exact .inr (fun e => q e.symm)
  · cases hv : v.ownBlock with
    | none => exact .inr (.inl rfl)
    | some y =>
      refine .inr (.inr (fun e => ?_))
      have e' : g = y := by simpa [Value.ownBlock] using e
      have hy := (h.ov.lt y hv).2
      rcases ha with q | q
      · rcases h.dj with d | d | d
        · rw [d] at q; cases q
        · rw [d] at hv; cases hv
        · exact d (by rw [q, hv, e'])
      · omega

theorem nw_start {w2 : World} {f wy : Int} {wv : Value} (W : World) (e : W = w2.alloc (.cells #[.int .i64 f, .int .i64 wy, wv, .slice none 0 0, .slice none 0 0] 125)) : Nw W W w2.heap.size f wy wv [] [] (.slice none 0 0) (.slice none 0 0) := by
  subst e
  refine ⟨World.grownBy.refl _ _, World.cell?_alloc_at _ _ _ 0 rfl, World.cell?_alloc_at _ _ _ 1 rfl, World.cell?_alloc_at _ _ _ 2 rfl, World.cell?_alloc_at _ _ _ 3 rfl, World.cell?_alloc_at _ _ _ 4 rfl, fun j => ?_, by simp, World.ownsRow_nil _ _ _ _, World.ownsRow_nil _ _ _ _, .inl rfl⟩
  unfold World.frozen?
  rw [heap_alloc_new w2 _]
  simp
theorem nw_done {w wx wr : World} {fb : Nat} {g : M.Gv} {wa : Option Addr} {wc : Nat} {u v : Value} (h : Nw wx wr fb (M.gf g) (M.gw g) (.slice wa (M.gs g).length wc) (M.allN g) (M.allR g) u v) (hw : Rd wx wa (M.gs g)) (hn : ∀ p, wa = some p → p.block ≠ fb) (hN : (M.allN g).length ≤ 1000) : FO wr fb g := by
  have gs := h.gr.size
  have lt := h.lt
  obtain ⟨ra, rc, ev, rr, _⟩ := own_rd h.ov
  subst ev
  obtain ⟨na, nc, eu, rn, _⟩ := own_rdN rfl (by unfold maxLen; omega) h.ou
  subst eu
  refine ⟨⟨wa, wc, na, nc, ra, rc⟩, by omega, h.c0, h.c1, h.c2, h.c3, h.c4, ⟨hw.1, fun hne => ?_⟩, rn, rr, ?_⟩
  · obtain ⟨b, off, e, hl, hc⟩ := hw.2 hne
    subst e
    have hb := hn _ rfl
    have hk : wr.heap[b]? = wx.heap[b]? := h.gr.block b hl (fun e => hb (by cases e; rfl))
    exact ⟨b, off, rfl, Nat.lt_of_lt_of_le hl gs, fun i hi => (World.cell?_of_block (a := ⟨b, off + i, none⟩) hk).trans (hc i hi)⟩
  · rcases h.ou.2 with ⟨e, h0⟩ | ⟨_, _, _, e, _, _, h1, _⟩
    · rw [h0]; exact Nat.zero_le _
    · cases e; exact h1

/-- a Flat in blocks that are new: it stays as long as these do -/
def FoH (w w' : World) (p : Nat) (g : M.Gv) : Prop := ∀ W : World, w'.heap.size ≤ W.heap.size → (∀ b, w.heap.size ≤ b → b < w'.heap.size → W.heap[b]? = w'.heap[b]?) → FO W p g
theorem nw_new {w wx wr : World} {fb : Nat} {g : M.Gv} {wa : Option Addr} {wc : Nat} {u v : Value} (h : Nw wx wr fb (M.gf g) (M.gw g) (.slice wa (M.gs g).length wc) (M.allN g) (M.allR g) u v) (hw : Rd wx wa (M.gs g)) (hn : ∀ p, wa = some p → p.block ≠ fb) (hN : (M.allN g).length ≤ 1000) (h1 : w.heap.size ≤ fb) (h2 : w.heap.size ≤ wx.heap.size) (h3 : ∀ p, wa = some p → w.heap.size ≤ p.block) : FoH w wr fb g := by
  intro W hz hk
  have gs := h.gr.size
  have lt := h.lt
  obtain ⟨ra, rc, ev, rr, _⟩ := own_rd h.ov
  subst ev
  obtain ⟨na, nc, eu, rn, _⟩ := own_rdN rfl (by unfold maxLen; omega) h.ou
  subst eu
  have cf : ∀ j, W.cell? ⟨fb, j, none⟩ = wr.cell? ⟨fb, j, none⟩ := fun j => World.cell?_of_block (a := ⟨fb, j, none⟩) (hk fb h1 (by omega))
  refine ⟨⟨wa, wc, na, nc, ra, rc⟩, by omega, (cf 0).trans h.c0, (cf 1).trans h.c1, (cf 2).trans h.c2, (cf 3).trans h.c3, (cf 4).trans h.c4, ⟨hw.1, fun hne => ?_⟩, ⟨rn.1, fun hne => ?_⟩, ⟨rr.1, fun hne => ?_⟩, ?_⟩
  · obtain ⟨b, off, e, hl, hc⟩ := hw.2 hne
    subst e
    have hb := hn _ rfl
    have hq : wr.heap[b]? = wx.heap[b]? := h.gr.block b hl (fun e => hb (by cases e; rfl))
    have hr : W.heap[b]? = wx.heap[b]? := (hk b (h3 _ rfl) (by omega)).trans hq
    exact ⟨b, off, rfl, by omega, fun i hi => (World.cell?_of_block (a := ⟨b, off + i, none⟩) hr).trans (hc i hi)⟩
  · obtain ⟨b, off, e, hl, hc⟩ := rn.2 hne
    subst e
    have o := h.ou.lt b rfl
    have hr : W.heap[b]? = wr.heap[b]? := hk b (by omega) hl
    have k : ∀ j v, wr.cell? ⟨b, j, none⟩ = some v → W.cell? ⟨b, j, none⟩ = some v := fun j v hv => (World.cell?_of_block (a := ⟨b, j, none⟩) hr).trans hv
    exact ⟨b, off, rfl, by omega, fun i hi => ⟨k _ _ (hc i hi).1, k _ _ (hc i hi).2.1, k _ _ (hc i hi).2.2.1, k _ _ (hc i hi).2.2.2.1, k _ _ (hc i hi).2.2.2.2.1, k _ _ (hc i hi).2.2.2.2.2⟩⟩
  · obtain ⟨b, off, e, hl, hc⟩ := rr.2 hne
    subst e
    have o := h.ov.lt b rfl
    have hr : W.heap[b]? = wr.heap[b]? := hk b (by omega) hl
    exact ⟨b, off, rfl, by omega, fun i hi => (World.cell?_of_block (a := ⟨b, off + i, none⟩) hr).trans (hc i hi)⟩
  · rcases h.ou.2 with ⟨e, h0⟩ | ⟨_, _, _, e, _, _, h1, _⟩
    · rw [h0]; exact Nat.zero_le _
    · cases e; exact h1

set_option maxHeartbeats 8000000 in
set_option maxRecDepth 10000 in
theorem fnew_new (G : Gr) (w : World) (h : RdG w G) (hg : M.groveF G.m = 0) :
    Calls Tryz.prog 50 #[G.v] w fun e w' => ∃ p, e = .returned (.tuple #[.pointer (some ⟨p, 0, none⟩), .nilIface]) ∧ FoH w w' p G.m ∧ Below w.heap.size w w' := by
  have K := (M.good_iff G.m).1 hg
  have C1 := hide (fun W (hW : Below w.heap.size w W) => gcheck_any G W (h.below hW))
  rw [hg, err_nil rfl] at C1
  have tlen : (M.gt G.m).length = G.ks.length := tl_len G.ks
  have n0 : 0 < G.ks.length := by rw [← tlen]; exact K.t0
  have n12 : G.ks.length ≤ 12 := by rw [← tlen]; exact K.t12
  have wl : G.ws.length = G.ks.length := by rw [← tlen]; exact K.len
  have w0 : 0 < G.ws.length := by omega
  have hN := M.allN_le K
  have B0 : Hid (∀ o, Below w.heap.size w (w.alloc o)) := fun o => (Below.refl _ w).alloc (Nat.le_refl _) o
  obtain ⟨bw, ow, ewa, hbw, hcw⟩ := h.1.2 (by intro e; rw [e] at wl; simp at wl; omega)
  have CC := hide (fun W (hW : Below w.heap.size w W) => clone_ints bw ow G.wc G.ws W (fun i hi => (hW.cell (p := ⟨bw, ow + i, none⟩) hbw).trans (hcw i hi)) (by omega) (Nat.lt_of_lt_of_le hbw hW.size))
  obtain ⟨bt, ot, eta, hbt, hct⟩ := h.2.2.2 (by intro e; rw [e] at n0; simp at n0)
  have HCT : Hid (∀ W, Below w.heap.size w W → ∀ i (hi : i < G.ks.length), W.cell? ⟨bt, ot + i, none⟩ = some (tV G.ks[i])) := fun W hW i hi => (hW.cell (p := ⟨bt, ot + i, none⟩) hbt).trans (hct i hi)
  have HT : Hid (∀ k (hk : k < G.ks.length), (∀ W, Below w.heap.size w W → RdN W G.ks[k].1 G.ks[k].2.1) ∧ (∀ p, G.ks[k].1 = some p → p.block < w.heap.size) ∧ M.Fair G.ks[k].2.1 G.f ∧ G.ks[k].2.1.length ≤ 63 ∧ M.laidK (tl G.ks) (k + 1) = M.laid (M.laidK (tl G.ks) k) G.ks[k].2.1 ∧ M.rootsK (tl G.ks) (k + 1) = M.rootsK (tl G.ks) k ++ [((M.laidK (tl G.ks) k).length : Int)] ∧ (M.laidK (tl G.ks) k).length ≤ 1000) := fun k hk => by
    have F := (M.tree_ok (M.tree_in K (show k < (M.gt G.m).length by rw [tlen]; exact hk))).1
    have e : (M.gt G.m).getD k [] = G.ks[k].2.1 := tl_at G.ks hk
    rw [e] at F
    have rk := h.2.2.1 _ (List.getElem_mem hk)
    refine ⟨fun W hW => rk.below hW, fun p hp => ?_, F, F.1, ?_, rfl, ?_⟩
    · obtain ⟨b, off, e2, hl, _⟩ := rk.2 (by intro e2; have := F.2.1; rw [e2] at this; simp at this)
      rw [hp] at e2
      cases e2
      exact hl
    · show M.laid _ ((tl G.ks).getD k []) = _
      rw [tl_at G.ks hk]
    · have := M.laidK_le (tl G.ks) (show k ≤ (tl G.ks).length by rw [tl_len]; omega)
      have e3 : (M.allN G.m).length = (M.laidK (tl G.ks) (tl G.ks).length).length := rfl
      omega
  have EN : Hid (M.laidK (tl G.ks) G.ks.length = M.allN G.m ∧ M.rootsK (tl G.ks) G.ks.length = M.allR G.m) := by
    have e : (M.gt G.m).length = G.ks.length := tlen
    unfold Hid M.allN M.allR
    rw [e]
    exact ⟨rfl, rfl⟩
  have HM : Hid (M.gf G.m = G.f ∧ M.gw G.m = G.w ∧ M.gs G.m = G.ws) := ⟨rfl, rfl, rfl⟩
  have HN := hide hN
  have RLN : Hid (∀ k, (M.rootsK (tl G.ks) k).length = k) := fun k => M.rootsK_len _ k
  have R0 : Hid (M.laidK (tl G.ks) 0 = [] ∧ M.rootsK (tl G.ks) 0 = []) := ⟨rfl, rfl⟩
  obtain ⟨i0, hi, hz0, hz1, hz2⟩ := info_parts info3
  have I0 := hide hi
  unfold Gr.v at C1 ⊢
  rw [ewa, eta] at C1
  rw [ewa, eta]
  clear h hg K tlen hbw hcw hct hbt ewa eta hN hi wl
  generalize M.laidK (tl G.ks) = LK at *
  generalize M.rootsK (tl G.ks) = RK at *
  go_enter Tryz.func50, Tryz.ntmps50
  go_upto_region 4 with (go_at_call 67; refine (C1.out _ (B0.out _)).mono ?_; rintro e w1 ⟨rfl, hb1⟩; have hb1' := below_on (B0.out _) hb1; obtain ⟨c0, c1, c2, c3⟩ := kept_box hb1; have HB1 := hide hb1)
  go_cut [5] from 13 to 21 (fun v wx => ∃ fb wa wc, v = .pointer (some ⟨fb, 0, none⟩) ∧ Hid (Nw wx wx fb G.f G.w (.slice wa G.ws.length wc) [] [] (.slice none 0 0) (.slice none 0 0)) ∧ Hid (Rd wx wa G.ws ∧ (∀ p, wa = some p → p.block ≠ fb) ∧ w.heap.size ≤ fb ∧ ∀ p, wa = some p → w.heap.size ≤ p.block) ∧ Hid (Below w.heap.size w wx) ∧ wx.cell? ⟨w.heap.size, 3, none⟩ = some (.slice (some ⟨bt, ot, none⟩) G.ks.length G.tc))
  case first =>
    have C2 := hide (CC.out _ (below_on (B0.out _) ((HB1.out).drew)))
    have KB : Hid (∀ W, Below w1.drew.heap.size w1.drew W → Below w.heap.size w W ∧ W.cell? ⟨w.heap.size, 0, none⟩ = some (.int .i64 G.f) ∧ W.cell? ⟨w.heap.size, 1, none⟩ = some (.int .i64 G.w) ∧ W.cell? ⟨w.heap.size, 2, none⟩ = some (.slice (some ⟨bw, ow, none⟩) G.ws.length G.wc) ∧ W.cell? ⟨w.heap.size, 3, none⟩ = some (.slice (some ⟨bt, ot, none⟩) G.ks.length G.tc)) := fun W hW => by
      have := below_on HB1.out (((Below.refl _ _).drew).trans hW)
      exact ⟨below_on (B0.out _) this, kept_box this⟩
    have FIN : Hid (∀ (w2 : World) (wa : Option Addr) (o : Obj), Below w.heap.size w w2 → w2.cell? ⟨w.heap.size, 3, none⟩ = some (.slice (some ⟨bt, ot, none⟩) G.ks.length G.tc) → Rd w2 wa G.ws → Hid (Rd (w2.alloc o) wa G.ws ∧ (∀ p, wa = some p → p.block ≠ w2.heap.size) ∧ w.heap.size ≤ w2.heap.size) ∧ Hid (Below w.heap.size w (w2.alloc o)) ∧ (w2.alloc o).cell? ⟨w.heap.size, 3, none⟩ = some (.slice (some ⟨bt, ot, none⟩) G.ks.length G.tc)) := fun w2 wa o hb hc hr => by
      have ba : Below w2.heap.size w2 (w2.alloc o) := (Below.refl _ _).alloc (Nat.le_refl _) o
      refine ⟨⟨hr.below ba, fun p hp => ?_, hb.size⟩, below_on hb ba, (ba.cell (p := ⟨w.heap.size, 3, none⟩) (block_lt_of_cell hc)).trans hc⟩
      obtain ⟨b, off, e, hl, _⟩ := hr.2 (by intro e; rw [e] at w0; simp at w0)
      rw [hp] at e
      cases e
      exact Nat.ne_of_lt hl
    clear CC HCT HT EN C1 hb1
    go_region_with (go_at_call 68; refine C2.out.mono ?_; rintro e w2 ⟨wa, wc, rfl, hr2, ha2, hb2⟩; obtain ⟨k0, d0, d1, d2, d3⟩ := KB.out w2 hb2; have HR2 := hide hr2; have HA2 : Hid (∀ p, wa = some p → w.heap.size ≤ p.block) := (fun p hp => Nat.le_trans (by first | (have q := HB1.out.size; simp at q; simp; omega) | simp) (ha2 p hp)))
    all_goals (
      have F2 := hide (FIN.out w2 wa (.cells #[.int .i64 G.f, .int .i64 G.w, .slice wa G.ws.length wc, .slice none 0 0, .slice none 0 0] 125) k0 d3 HR2.out)
      clear KB C2 FIN hr2 ha2 hb2
      go_wp2
      go_meet
      case rel => exact ⟨w2.heap.size, wa, wc, rfl, nw_start _ rfl, ⟨F2.out.1.out.1, F2.out.1.out.2.1, F2.out.1.out.2.2, HA2.out⟩, F2.out.2.1, F2.out.2.2⟩)
  case rest =>
    obtain ⟨fb, wa, wcc, rfl, NW, RW, K, c3⟩ := hcut
    obtain ⟨wx, hwx⟩ : ∃ W, W = wc := ⟨_, rfl⟩
    subst hwx
    have KB : Hid (∀ W, wx.grownBy W (some fb) → Below w.heap.size w W) := fun W hW => K.out.grown hW K.out.size (fun k hk => by cases hk; exact RW.out.2.2.1)
    have BX : Hid (w.heap.size ≤ wx.heap.size) := K.out.size
    clear CC C1 hb1 hb1' c0 c1 c2 HB1 B0
    go_wp2
    go_loopw [25] (fun i wr => ∃ (k : Nat) (u v : Value), k ≤ G.ks.length ∧ i = .int .i64 k ∧ Hid (Nw wx wr fb G.f G.w (.slice wa G.ws.length wcc) (LK k) (RK k) u v)) (fun i _ => G.ks.length - (intOf i).toNat)
    case atStart => exact ⟨0, .slice none 0 0, .slice none 0 0, Nat.zero_le _, rfl, by unfold Hid; rw [R0.out.1, R0.out.2]; exact NW.out⟩
    case round =>
      clear NW
      obtain ⟨k, u, v, hk, rfl, NW⟩ := hrel
      by_cases hlt : k < G.ks.length
      · obtain ⟨t1, t2, t3, t4, t5, t6, t7⟩ := HT.out k hlt
        have kb := KB.out wr NW.out.gr
        have ct := HCT.out wr kb k hlt
        unfold tV at ct
        have kz : (k : Int) < (G.ks.length : Int) := by omega
        obtain ⟨va, vc, ev, _, _⟩ := own_rd NW.out.ov
        obtain ⟨ua, uc, eu, _, _⟩ := own_rdN rfl (by unfold maxLen; omega) NW.out.ou
        subst ev
        subst eu
        have y0 := NW.out.c0
        have y3 := NW.out.c3
        have y4 := NW.out.c4
        have f3 := NW.out.fr 3
        have f4 := NW.out.fr 4
        have RL : Hid ((RK k).length = k) := RLN.out k
        have rl : (RK k).length ≤ 12 := by rw [RL.out]; omega
        have T6 := hide t6
        have T5 := hide t5
        have LY := hide (fun W (hW : Below w.heap.size w W) (ho : W.ownsRow wx.heap.size 158 6 (.slice ua (LK k).length uc) (LK k).length (ndCells (LK k))) (hs : wx.heap.size ≤ W.heap.size) => lay_any (LK k) G.ks[k].2.1 ua uc G.ks[k].1 G.ks[k].2.2 G.f wx.heap.size W (t1 W hW) (fun p hp => Nat.lt_of_lt_of_le (t2 p hp) BX.out) t3 ho hs t7)
        have LL : Hid ((M.laid (LK k) G.ks[k].2.1).length = (LK k).length + G.ks[k].2.1.length) := M.laid_len _ _
        clear t1 t2 t3 t5 t6 HT HCT kb EN
        generalize G.ks[k].2.1 = ts at *
        generalize G.ks[k].2.2 = tcc at *
        generalize G.ks[k].1 = ta at *
        go_upto_region 8 with fail
        go_cut [42] from 29 to 42 (fun _ wz => ∃ v', Hid (Nw wx wz fb G.f G.w (.slice wa G.ws.length wcc) (LK k) (RK (k + 1)) (.slice ua (LK k).length uc) v'))
        case first =>
          have NR := hide (fun w1 o g c (hg : (wr.alloc o).drew.grownBy w1 (Value.slice va (RK k).length vc).ownBlock) ho ha => NW.out.roots (z := ((LK k).length : Int)) (w1 := w1) (o := o) (g := g) (c := c) (grown_undrew hg) ho ha)
          have OV := hide NW.out.ov
          have GZ := NW.out.gr.size
          have FL : Hid (∀ w1 (o : Obj), (wr.alloc o).drew.grownBy w1 (Value.slice va (RK k).length vc).ownBlock → w1.cell? ⟨fb, 4, none⟩ = some (.slice va (RK k).length vc) ∧ w1.frozen? ⟨fb, 4, none⟩ = false) := fun w1 o hg => by
            have hl := NW.out.lt
            have gf : w1.heap[fb]? = wr.heap[fb]? := ((grown_undrew hg).block fb (by simp; omega) (fun e => by have := (NW.out.ov.lt fb e.symm).1; omega)).trans (Below.heap_alloc _ _ _ (by omega))
            exact ⟨(World.cell?_of_block (a := ⟨fb, 4, none⟩) gf).trans NW.out.c4, (World.frozen?_of_block (a := ⟨fb, 4, none⟩) gf).trans (NW.out.fr 4)⟩
          rw [← T6.out] at NR
          have fbl : fb < wr.heap.size := Nat.lt_of_lt_of_le NW.out.lt GZ
          have y4a : ∀ o, (wr.alloc o).cell? ⟨fb, 4, none⟩ = some (.slice va (RK k).length vc) := fun o => (World.cell?_of_block (a := ⟨fb, 4, none⟩) (Below.heap_alloc _ _ _ fbl)).trans y4
          have y3a : ∀ o, (wr.alloc o).cell? ⟨fb, 3, none⟩ = some (.slice ua (LK k).length uc) := fun o => (World.cell?_of_block (a := ⟨fb, 3, none⟩) (Below.heap_alloc _ _ _ fbl)).trans y3
          clear LY T5 LL
          generalize (LK k).length = LN at *
          generalize (RK k).length = RN at *
          go_region_law (refine step_append_lies _ rfl (.tmp 33) (.tmp 39) 23 rfl wx.heap.size 3 i0 (.int .i64 0) 1 8 Tryz.underlying23 I0.out hz0 hz1 hz2 rfl (by omega) (.slice va RN vc) RN ((RK k).map (Value.int .i64)) rfl (by first | exact OV.out.alloc _ | exact (OV.out.alloc _).drew) ⟨wr.heap.size, 0, none⟩ 1 1 [.int .i64 (LN : Int)] rfl rfl (World.news_of_block (by first | exact heap_alloc_new _ _ | (simp; done))) (by simp [Value.oneCell']) (by omega) (by unfold maxLen; omega) (by omega) (by simp; omega) (wr.heap.size + 1) (by simp) ?_; intro g7 c7 w7 hov7 hgrow7 hat7 hlt7; obtain ⟨z4, zf⟩ := FL.out w7 _ hgrow7)
          all_goals (
            have N7 := hide (NR.out w7 _ g7 c7 hgrow7 hov7 hat7)
            clear hov7 hgrow7 hat7 NR FL
            go_wp2
            go_meet
            case rel => exact ⟨_, N7⟩)
        case rest =>
          obtain ⟨v', NX⟩ := hcut
          have x3 := NX.out.c3
          have xf := NX.out.fr 3
          have L1 := hide (LY.out wc (KB.out wc NX.out.gr) NX.out.ou NX.out.gr.size)
          have NF : Hid (∀ w2 g c, wc.grownBy w2 (Value.slice ua (LK k).length uc).ownBlock → w2.ownsRow wx.heap.size 158 6 (.slice (some ⟨g, 0, none⟩) ((LK k).length + ts.length) c) ((LK k).length + ts.length) (ndCells (M.laid (LK k) ts)) → ((Value.slice ua (LK k).length uc).ownBlock = some g ∨ wc.heap.size ≤ g) → (w2.cell? ⟨fb, 3, none⟩ = some (.slice ua (LK k).length uc) ∧ w2.frozen? ⟨fb, 3, none⟩ = false) ∧ Hid (Nw wx (w2.setCell ⟨fb, 3, none⟩ (.slice (some ⟨g, 0, none⟩) ((LK k).length + ts.length) c)) fb G.f G.w (.slice wa G.ws.length wcc) (LK (k + 1)) (RK (k + 1)) (.slice (some ⟨g, 0, none⟩) ((LK k).length + ts.length) c) v')) := fun w2 g c hg ho ha => by
            have hl := NX.out.lt
            have hs := NX.out.gr.size
            have gf : w2.heap[fb]? = wc.heap[fb]? := hg.block fb (by omega) (fun e => by have := (NX.out.ou.lt fb e.symm).1; omega)
            refine ⟨⟨(World.cell?_of_block (a := ⟨fb, 3, none⟩) gf).trans NX.out.c3, (World.frozen?_of_block (a := ⟨fb, 3, none⟩) gf).trans (NX.out.fr 3)⟩, ?_⟩
            have := NX.out.nodes hg ho LL.out ha
            rw [← T5.out] at this
            exact this
          clear LY T5 T6 LL y0 y3 y4 f3 f4
          generalize (LK k).length = LN at *
          go_wp2_with (go_at_call 69; refine L1.out.mono ?_; rintro e w2 ⟨g2, c2, rfl, ho2, hg2, ha2⟩; obtain ⟨⟨z3, zf3⟩, N2⟩ := NF.out w2 g2 c2 hg2 ho2 ha2)
          go_roundw
          case rel => exact ⟨k + 1, _, v', by omega, by go_num, N2⟩
          case measure => simp [intOf]; omega
      · have hke : k = G.ks.length := by omega
        have kb := KB.out wr NW.out.gr
        have FIN : Hid (FoH w wr fb G.m) := by
          have := NW.out
          rw [hke, EN.out.1, EN.out.2] at this
          exact nw_new (wx := wx) (w := w) this RW.out.1 RW.out.2.1 HN.out RW.out.2.2.1 BX.out RW.out.2.2.2
        have KK := hide kb
        have kz : ¬ ((k : Int) < (G.ks.length : Int)) := by omega
        clear hke HT HCT EN kb
        go_wp2
        go_ret2
        exact ⟨fb, rfl, FIN.out, KK.out⟩

theorem fnew_any (G : Gr) (w : World) (h : RdG w G) (hg : M.groveF G.m = 0) :
    Calls Tryz.prog 50 #[G.v] w fun e w' => ∃ p, e = .returned (.tuple #[.pointer (some ⟨p, 0, none⟩), .nilIface]) ∧ FO w' p G.m ∧ Below w.heap.size w w' := (fnew_new G w h hg).mono (by
  rintro e w' ⟨p, rfl, a, b⟩
  exact ⟨p, rfl, a w' (Nat.le_refl _) (fun _ _ _ => rfl), b⟩)

theorem fnew_bad (G : Gr) (w : World) (h : RdG w G) (hg : M.groveF G.m ≠ 0) :
    Calls Tryz.prog 50 #[G.v] w fun e w' => e = .returned (.tuple #[.pointer none, errV (M.groveF G.m)]) ∧ Below w.heap.size w w' := by
  have C1 := hide (fun W (hW : Below w.heap.size w W) => gcheck_any G W (h.below hW))
  have B0 : Hid (∀ o, Below w.heap.size w (w.alloc o)) := fun o => (Below.refl _ w).alloc (Nat.le_refl _) o
  have E := hide (err_some hg)
  rw [err_some hg] at C1
  unfold Gr.v at C1 ⊢
  clear h hg
  generalize errV (M.groveF G.m) = er at *
  generalize M.groveF G.m = gF at *
  go_enter Tryz.func50, Tryz.ntmps50
  go_wp2_with (go_at_call 67; refine (C1.out _ (B0.out _)).mono ?_; rintro e w1 ⟨rfl, hb1⟩; have k1 := below_on (B0.out _) hb1)
  go_ret2
  exact ⟨by rw [E.out]; rfl, k1⟩
end Go.Proofs.YtodidokeblblgaaGreat
