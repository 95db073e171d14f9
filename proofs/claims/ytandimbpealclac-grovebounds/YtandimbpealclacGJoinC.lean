/-
  What package grove's Join answers of two groves that go together: both as one.
-/
import Derived.Test.YtandimbpealclacGJoinB
import Derived.Test.YtandimbpealclacGroveQ
import Derived.Deep.RegionHeld3
namespace Go.Proofs.Ytandimbpealclac
open Go.ChangeShapes Go.WideShapes Go.ChangeAt Go.RowKit Go.Lib
set_option linter.unusedVariables false

/-- two lists of weights as one, where the call lays them -/
theorem concat_weights (b1 o1 b2 o2 : Nat) (xs ys : List Int) (ca cb : Nat) (V : World) (hx : Rd V (some ⟨b1, o1, none⟩) xs) (hy : Rd V (some ⟨b2, o2, none⟩) ys) (lp : 0 < xs.length) (la : xs.length ≤ 12) (lb : ys.length ≤ 12)
    (B : Nat) (hB : B < V.heap.size) (h0 : V.cell? ⟨B, 0, none⟩ = some (.slice (some ⟨b1, o1, none⟩) xs.length ca)) (h1 : V.cell? ⟨B, 1, none⟩ = some (.slice (some ⟨b2, o2, none⟩) ys.length cb)) :
    Calls Try.prog 41 #[.slice (some ⟨B, 0, none⟩) 2 2] V fun e w' => ∃ bA cg, e = .returned (.slice (some ⟨bA, 0, none⟩) (xs ++ ys).length cg) ∧ V.heap.size ≤ bA ∧ bA < w'.heap.size ∧ (∀ i, i < (xs ++ ys).length → w'.cell? ⟨bA, i, none⟩ = some (.int .i64 ((xs ++ ys).getD i 0))) ∧ Below V.heap.size V w' := by
  refine (concat_two B (some ⟨b1, o1, none⟩) (some ⟨b2, o2, none⟩) xs ys ca cb V hB h0 h1 hx hy (fun e => by cases e) (fun e => by cases e) (by omega) (by omega)).mono ?_
  rintro e w' ⟨v, rfl, ho, hb⟩
  obtain ⟨g, cap, rfl, h1, h2⟩ := own_shape ho (by rw [List.length_append]; omega)
  refine ⟨g, cap, rfl, h1, h2, fun i hi => ?_, hb⟩
  rw [own_at ho rfl i hi, M.getD_at hi]
/-- two lists of trees as one -/
theorem concat_both (b1 o1 b2 o2 : Nat) (xs ys : List Tc) (ca cb : Nat) (w V : World) (T : TypeId) (hx : RdT w (some ⟨b1, o1, none⟩) xs) (hy : RdT w (some ⟨b2, o2, none⟩) ys) (lp : 0 < xs.length) (lq : 0 < ys.length) (la : xs.length ≤ 12) (lb : ys.length ≤ 12)
    (hV : V = w.alloc (.cells #[.slice (some ⟨b1, o1, none⟩) xs.length ca, .slice (some ⟨b2, o2, none⟩) ys.length cb] T)) (B : Nat) (hB : B = w.heap.size) :
    Calls Try.prog 42 #[.slice (some ⟨B, 0, none⟩) 2 2] V fun e w' => ∃ g cg, e = .returned (.slice (some ⟨g, 0, none⟩) (xs ++ ys).length cg) ∧ w.heap.size < g ∧ g < w'.heap.size ∧ (∀ i (h : i < (xs ++ ys).length), w'.cell? ⟨g, i, none⟩ = some (tV (xs ++ ys)[i])) ∧ Below w.heap.size w w' := by
  subst hV
  subst hB
  have b0 : Below w.heap.size w (w.alloc (.cells #[.slice (some ⟨b1, o1, none⟩) xs.length ca, .slice (some ⟨b2, o2, none⟩) ys.length cb] T)) := (Below.refl _ w).alloc (Nat.le_refl _) _
  obtain ⟨_, _, e1, l1, c1⟩ := (hx.below b0).2.2 (by intro e; rw [e] at lp; simp at lp)
  obtain ⟨_, _, e2, l2, c2⟩ := (hy.below b0).2.2 (by intro e; rw [e] at lq; simp at lq)
  cases e1
  cases e2
  refine (concat_trees w.heap.size b1 o1 b2 o2 xs ys ca cb _ (by simp) (World.cell?_alloc_at _ _ _ 0 rfl) (World.cell?_alloc_at _ _ _ 1 rfl) l1 l2 c1 c2 la lb lp).mono ?_
  rintro e w' ⟨v, rfl, ho, hb⟩
  rcases ho.2 with ⟨_, h0⟩ | ⟨g, cap, cur, rfl, h1, hg, h3⟩
  · rw [List.length_append] at h0; omega
  · refine ⟨g, cap, rfl, by simp at h1; omega, (Array.getElem?_eq_some_iff.1 hg).1, fun i hi => ?_, below_on b0 hb⟩
    refine (ho.cellAt i (by omega)).trans ?_
    rw [List.getElem?_map, List.getElem?_eq_getElem hi]
    rfl

theorem jt_start {a0 a1 a2 a3 b0 b1 b2 b3 : Value} {w W : World} {Ws : List Int} {bA cg : Nat} (h : Kj a0 a1 a2 a3 b0 b1 b2 b3 w W) (h1 : w.heap.size + 3 ≤ bA) (h2 : bA < W.heap.size) (hc : ∀ i, i < Ws.length → W.cell? ⟨bA, i, none⟩ = some (.int .i64 (Ws.getD i 0))) :
    Jt a0 a1 a2 a3 b0 b1 b2 b3 w Ws (W.alloc (.cells #[a0, a1, .slice (some ⟨bA, 0, none⟩) Ws.length cg, .slice none 0 0] 46)) W.heap.size bA cg (.slice none 0 0) := by
  have hb : Below W.heap.size W (W.alloc (.cells #[a0, a1, .slice (some ⟨bA, 0, none⟩) Ws.length cg, .slice none 0 0] 46)) := (Below.refl _ W).alloc (Nat.le_refl _) _
  exact ⟨h.up hb, World.cell?_alloc_at _ _ _ 0 rfl, World.cell?_alloc_at _ _ _ 1 rfl, World.cell?_alloc_at _ _ _ 2 rfl, World.cell?_alloc_at _ _ _ 3 rfl, frozen_new _ _ _ 3, by omega, h1, h.size, by simp, by simp; omega, fun i hi => (hb.cell (p := ⟨bA, i, none⟩) h2).trans (hc i hi)⟩

theorem below_two (W : World) (o1 o2 : Obj) : Below W.heap.size W ((W.alloc o1).alloc o2).drew := (((Below.refl _ W).alloc (Nat.le_refl _) _).alloc (by simp) _).drew
theorem below_one (W : World) (o1 : Obj) : Below W.heap.size W (W.alloc o1).drew := ((Below.refl _ W).alloc (Nat.le_refl _) _).drew
theorem pair_a (W : World) (x y : Value) (T : TypeId) (o : Obj) : ((W.alloc (.cells #[x, y] T)).alloc o).drew.cell? ⟨W.heap.size, 0, none⟩ = some x ∧ ((W.alloc (.cells #[x, y] T)).alloc o).drew.cell? ⟨W.heap.size, 1, none⟩ = some y :=
  ⟨(((Below.refl _ _).alloc (Nat.le_refl _) o).drew.cell (p := ⟨W.heap.size, 0, none⟩) (by simp)).trans (World.cell?_alloc_at _ _ _ 0 rfl), (((Below.refl _ _).alloc (Nat.le_refl _) o).drew.cell (p := ⟨W.heap.size, 1, none⟩) (by simp)).trans (World.cell?_alloc_at _ _ _ 1 rfl)⟩
theorem pair_b (W : World) (x y : Value) (T : TypeId) (o : Obj) : ((W.alloc o).alloc (.cells #[x, y] T)).drew.cell? ⟨W.heap.size + 1, 0, none⟩ = some x ∧ ((W.alloc o).alloc (.cells #[x, y] T)).drew.cell? ⟨W.heap.size + 1, 1, none⟩ = some y := by
  have e : (W.alloc o).heap.size = W.heap.size + 1 := by simp
  rw [← e]
  exact ⟨World.cell?_alloc_at (w := W.alloc o) _ _ _ 0 rfl, World.cell?_alloc_at (w := W.alloc o) _ _ _ 1 rfl⟩
theorem lt_two (W : World) (o1 o2 : Obj) : W.heap.size < ((W.alloc o1).alloc o2).drew.heap.size ∧ W.heap.size + 1 < ((W.alloc o1).alloc o2).drew.heap.size := by
  have e : ((W.alloc o1).alloc o2).drew.heap.size = W.heap.size + 1 + 1 := by
    show ((W.alloc o1).alloc o2).heap.size = _
    simp
  omega
abbrev zObj : Obj := .cells #[.int .i64 0, .int .i64 0, .slice none 0 0, .slice none 0 0] 46
/-- a block of nothing -/
structure Z4 (V : World) (gb : Nat) : Prop where
  c0 : V.cell? ⟨gb, 0, none⟩ = some (.int .i64 0)
  c1 : V.cell? ⟨gb, 1, none⟩ = some (.int .i64 0)
  c2 : V.cell? ⟨gb, 2, none⟩ = some (.slice none 0 0)
  c3 : V.cell? ⟨gb, 3, none⟩ = some (.slice none 0 0)
  fr : ∀ j, V.frozen? ⟨gb, j, none⟩ = false
  sz : gb < V.heap.size
theorem z_made (W : World) : Z4 (W.alloc zObj) W.heap.size := ⟨World.cell?_alloc_at _ _ _ 0 rfl, World.cell?_alloc_at _ _ _ 1 rfl, World.cell?_alloc_at _ _ _ 2 rfl, World.cell?_alloc_at _ _ _ 3 rfl, fun j => frozen_new _ _ _ j, by simp⟩
theorem Z4.up {V V' : World} {gb : Nat} (h : Z4 V gb) (hb : Below V.heap.size V V') : Z4 V' gb := by
  have s := hb.block gb h.sz
  exact ⟨(same_cell s).trans h.c0, (same_cell s).trans h.c1, (same_cell s).trans h.c2, (same_cell s).trans h.c3, fun j => (same_frozen s).trans (h.fr j), Nat.lt_of_lt_of_le h.sz hb.size⟩
theorem z_a (W : World) (o : Obj) : Z4 ((W.alloc o).alloc zObj).drew (W.heap.size + 1) := by
  have h := (z_made (W.alloc o)).up (Below.refl _ _).drew
  have e : (W.alloc o).heap.size = W.heap.size + 1 := by simp
  rw [e] at h
  exact h
theorem z_b (W : World) (o : Obj) : Z4 ((W.alloc zObj).alloc o).drew W.heap.size := (z_made W).up (((Below.refl _ _).alloc (Nat.le_refl _) _).drew)
theorem jt_put4 {a0 a1 a2 a3 b0 b1 b2 b3 : Value} {w W : World} {Ws : List Int} {gb bA cg : Nat} (h : Kj a0 a1 a2 a3 b0 b1 b2 b3 w W) (z : Z4 W gb) (hg : w.heap.size + 3 ≤ gb) (h0 : gb < bA) (h2 : bA < W.heap.size) (hc : ∀ i, i < Ws.length → W.cell? ⟨bA, i, none⟩ = some (.int .i64 (Ws.getD i 0))) :
    Jt a0 a1 a2 a3 b0 b1 b2 b3 w Ws ((((W.setCell ⟨gb, 0, none⟩ a0).setCell ⟨gb, 1, none⟩ a1).setCell ⟨gb, 2, none⟩ (.slice (some ⟨bA, 0, none⟩) Ws.length cg)).setCell ⟨gb, 3, none⟩ (.slice none 0 0)) gb bA cg (.slice none 0 0) := by
  obtain ⟨e0, e1, e2, e3⟩ := set4 (x0 := a0) (x1 := a1) (x2 := .slice (some ⟨bA, 0, none⟩) Ws.length cg) (x3 := .slice none 0 0) z.c0 z.c1 z.c2 z.c3
  have o : ∀ (V : World) (i j : Nat) (v : Value), i ≠ j → (V.setCell ⟨gb, i, none⟩ v).cell? ⟨gb, j, none⟩ = V.cell? ⟨gb, j, none⟩ := fun V i j v hij => World.cell?_setCell_other _ _ _ _ (by intro e; cases e; exact hij rfl)
  have far : ∀ q, q ≠ gb → ((((W.setCell ⟨gb, 0, none⟩ a0).setCell ⟨gb, 1, none⟩ a1).setCell ⟨gb, 2, none⟩ (.slice (some ⟨bA, 0, none⟩) Ws.length cg)).setCell ⟨gb, 3, none⟩ (.slice none 0 0)).heap[q]? = W.heap[q]? := fun q hq => by
    rw [far_set (fun e => hq e.symm), far_set (fun e => hq e.symm), far_set (fun e => hq e.symm), far_set (fun e => hq e.symm)]
  have sz : ((((W.setCell ⟨gb, 0, none⟩ a0).setCell ⟨gb, 1, none⟩ a1).setCell ⟨gb, 2, none⟩ (.slice (some ⟨bA, 0, none⟩) Ws.length cg)).setCell ⟨gb, 3, none⟩ (.slice none 0 0)).heap.size = W.heap.size := by simp
  refine ⟨h.same (fun q _ hq => far q (by omega)) (by rw [sz]; exact Nat.le_refl _) (below4 h.below (by omega)), ?_, ?_, ?_, e3, ?_, by omega, by omega, hg, by rw [sz]; exact z.sz, by rw [sz]; exact h2, fun i hi => (same_cell (far bA (by omega))).trans (hc i hi)⟩
  · rw [o _ _ _ _ (by decide), o _ _ _ _ (by decide), o _ _ _ _ (by decide)]; exact e0
  · rw [o _ _ _ _ (by decide), o _ _ _ _ (by decide)]; exact e1
  · rw [o _ _ _ _ (by decide)]; exact e2
  · have := z.fr 3
    simpa using this

/-- behind the weights' call, the block that is to hold the grove already laid -/
structure Wf (a0 a1 a2 a3 b0 b1 b2 b3 : Value) (w : World) (Ws : List Int) (W : World) (gb bA cg : Nat) : Prop where
  kj : Kj a0 a1 a2 a3 b0 b1 b2 b3 w W
  z : Z4 W gb
  jt : Jt a0 a1 a2 a3 b0 b1 b2 b3 w Ws ((((W.setCell ⟨gb, 0, none⟩ a0).setCell ⟨gb, 1, none⟩ a1).setCell ⟨gb, 2, none⟩ (.slice (some ⟨bA, 0, none⟩) Ws.length cg)).setCell ⟨gb, 3, none⟩ (.slice none 0 0)) gb bA cg (.slice none 0 0)
theorem after_a {a0 a1 a2 a3 c0 c1 c2 c3 : Value} {w W w3 : World} {o : Obj} {Ws : List Int} {bA : Nat} (cg : Nat) (K : Kj a0 a1 a2 a3 c0 c1 c2 c3 w W) (h1 : ((W.alloc o).alloc zObj).drew.heap.size ≤ bA) (h2 : bA < w3.heap.size) (h3 : ∀ i, i < Ws.length → w3.cell? ⟨bA, i, none⟩ = some (.int .i64 (Ws.getD i 0))) (hb : Below ((W.alloc o).alloc zObj).drew.heap.size ((W.alloc o).alloc zObj).drew w3) : Wf a0 a1 a2 a3 c0 c1 c2 c3 w Ws w3 (W.heap.size + 1) bA cg := by
  have s := K.size
  have K3 := K.up (below_on (below_two W o zObj) hb)
  have Z := (z_a W o).up hb
  refine ⟨K3, Z, jt_put4 K3 Z (by omega) ?_ h2 h3⟩
  simp at h1
  omega
theorem after_b {a0 a1 a2 a3 c0 c1 c2 c3 : Value} {w W w3 : World} {o : Obj} {Ws : List Int} {bA : Nat} (cg : Nat) (K : Kj a0 a1 a2 a3 c0 c1 c2 c3 w W) (h1 : ((W.alloc zObj).alloc o).drew.heap.size ≤ bA) (h2 : bA < w3.heap.size) (h3 : ∀ i, i < Ws.length → w3.cell? ⟨bA, i, none⟩ = some (.int .i64 (Ws.getD i 0))) (hb : Below ((W.alloc zObj).alloc o).drew.heap.size ((W.alloc zObj).alloc o).drew w3) : Wf a0 a1 a2 a3 c0 c1 c2 c3 w Ws w3 W.heap.size bA cg := by
  have s := K.size
  have K3 := K.up (below_on (below_two W zObj o) hb)
  have Z := (z_b W o).up hb
  refine ⟨K3, Z, jt_put4 K3 Z (by omega) ?_ h2 h3⟩
  simp at h1
  omega
theorem after_c {a0 a1 a2 a3 c0 c1 c2 c3 : Value} {w W w3 : World} {o : Obj} {Ws : List Int} {bA : Nat} (cg : Nat) (K : Kj a0 a1 a2 a3 c0 c1 c2 c3 w W) (h1 : (W.alloc o).drew.heap.size ≤ bA) (h2 : bA < w3.heap.size) (h3 : ∀ i, i < Ws.length → w3.cell? ⟨bA, i, none⟩ = some (.int .i64 (Ws.getD i 0))) (hb : Below (W.alloc o).drew.heap.size (W.alloc o).drew w3) :
    Kj a0 a1 a2 a3 c0 c1 c2 c3 w w3 ∧ Jt a0 a1 a2 a3 c0 c1 c2 c3 w Ws (w3.alloc (.cells #[a0, a1, .slice (some ⟨bA, 0, none⟩) Ws.length cg, .slice none 0 0] 46)) w3.heap.size bA cg (.slice none 0 0) := by
  have s := K.size
  have K3 := K.up (below_on (below_one W o) hb)
  refine ⟨K3, jt_start K3 ?_ h2 h3⟩
  simp at h1
  omega

theorem lj_start {a0 a1 a2 a3 b0 b1 b2 b3 : Value} {w W W' : World} {Ws : List Int} {S : List Tc} {gb bA cg g : Nat} (h : Jt a0 a1 a2 a3 b0 b1 b2 b3 w Ws W gb bA cg (.slice none 0 0)) (h1 : W.heap.size < g) (h2 : g < W'.heap.size) (h3 : ∀ i (h : i < S.length), W'.cell? ⟨g, i, none⟩ = some (tV S[i])) (hb : Below W.heap.size W W') :
    Lj a0 a1 a2 a3 b0 b1 b2 b3 w Ws S W'.heap.size gb bA cg g W' 0 (.slice none 0 0) [] :=
  ⟨h.up hb, World.ownsRow_nil _ _ _ _, rfl, (by simp [tl]), (fun c hc => by cases hc), (fun c hc => by cases hc), h3, h2, by have := h.sz; omega, by have := h.sA; omega, Nat.le_refl _⟩
theorem one_new (W : World) (v : Value) (t : TypeId) : ∀ j u, [v][j]? = some u → (W.alloc (.cells #[v] t)).cell? ((⟨W.heap.size, 0, none⟩ : Addr).add j) = some u := by
  intro j u hj
  rcases j with _ | j
  · cases hj
    rw [add_flat]
    exact World.cell?_alloc_at _ _ _ 0 rfl
  · cases hj

set_option maxHeartbeats 16000000 in
set_option maxRecDepth 10000 in
theorem gjoin_good (G O : Gr) (w : World) (h : RdG w G) (ho : RdG w O) (he : M.joinF G.m O.m = 0) :
    Calls Try.prog 17 #[G.v, O.v] w fun e w' => ∃ J : Gr, e = .returned (.tuple #[J.v, .nilIface]) ∧ J.m = M.joinG G.m O.m ∧ RdG w' J ∧ Below w.heap.size w w' := by
  obtain ⟨A, B, e1, e2, e3⟩ := M.join_ok he
  have tg : (M.gt G.m).length = G.ks.length := tl_len G.ks
  have to' : (M.gt O.m).length = O.ks.length := tl_len O.ks
  have g0 : 0 < G.ks.length := by rw [← tg]; exact A.t0
  have o0 : 0 < O.ks.length := by rw [← to']; exact B.t0
  have n12 : G.ks.length + O.ks.length ≤ 12 := by rw [← tg, ← to']; exact e3
  have lg : G.ws.length = G.ks.length := by rw [← tg]; exact A.len
  have lo : O.ws.length = O.ks.length := by rw [← to']; exact B.len
  have gg : M.groveF G.m = 0 := (M.good_iff _).2 A
  have go : M.groveF O.m = 0 := (M.good_iff _).2 B
  have C1 := hide (fun W (hW : Below w.heap.size w W) => gcheck_any G W (h.below hW))
  have C2 := hide (fun W (hW : Below w.heap.size w W) => gcheck_any O W (ho.below hW))
  rw [gg, err_nil rfl] at C1
  rw [go, err_nil rfl] at C2
  obtain ⟨bt, ot, eta, hbt, hct⟩ := h.2.2.2 (by intro e; rw [e] at g0; simp at g0)
  obtain ⟨bu, ou, etu, hbu, hcu⟩ := ho.2.2.2 (by intro e; rw [e] at o0; simp at o0)
  obtain ⟨bw, ow, ewa, hbw, hcw⟩ := h.1.2 (by intro e; rw [e] at lg; simp at lg; omega)
  obtain ⟨bv, ov, ewo, hbv, hcv⟩ := ho.1.2 (by intro e; rw [e] at lo; simp at lo; omega)
  have CW := hide (fun V (hV : Below w.heap.size w V) B hB h0 h1 => concat_weights bw ow bv ov G.ws O.ws G.wc O.wc V (by rw [← ewa]; exact h.1.below hV) (by rw [← ewo]; exact ho.1.below hV) (by omega) (by omega) (by omega) B hB h0 h1)
  have CT := hide (fun W V T (hW : Below w.heap.size w W) hV B hB => concat_both bt ot bu ou G.ks O.ks G.tc O.tc W V T (by rw [← eta]; exact h.2.below hW) (by rw [← etu]; exact ho.2.below hW) (by omega) (by omega) (by omega) (by omega) hV B hB)
  have K0 := hide (kj_start w (.int .i64 G.f) (.int .i64 G.w) (.slice (some ⟨bw, ow, none⟩) G.ws.length G.wc) (.slice (some ⟨bt, ot, none⟩) G.ks.length G.tc) (.int .i64 O.f) (.int .i64 O.w) (.slice (some ⟨bv, ov, none⟩) O.ws.length O.wc) (.slice (some ⟨bu, ou, none⟩) O.ks.length O.tc))
  have TS : Hid (∀ k ∈ G.ks ++ O.ks, M.Fair k.2.1 G.f ∧ ∀ W, Below w.heap.size w W → RdN W k.1 k.2.1) := fun k hk => by
    rcases List.mem_append.1 hk with q | q
    · exact ⟨(M.tree_ok (A.trees k.2.1 (List.mem_map.2 ⟨k, q, rfl⟩))).1, fun W hW => (h.below hW).2.2.1 k q⟩
    · refine ⟨?_, fun W hW => (ho.below hW).2.2.1 k q⟩
      have := (M.tree_ok (B.trees k.2.1 (List.mem_map.2 ⟨k, q, rfl⟩))).1
      rw [← e1] at this
      exact this
  have EJ : Hid (∀ J : Gr, J.f = G.f → J.w = G.w → J.ws = G.ws ++ O.ws → tl J.ks = tl (G.ks ++ O.ks) → J.m = M.joinG G.m O.m) := fun J q1 q2 q3 q4 => by
    unfold Gr.m M.joinG
    rw [q1, q2, q3, q4]
    show _ = (G.f, G.w, G.ws ++ O.ws, tl G.ks ++ tl O.ks)
    simp [tl]
  have q1 : (G.f != O.f) = false := by rw [bne_eq_false_iff_eq]; exact e1
  have q2 : (G.w != O.w) = false := by rw [bne_eq_false_iff_eq]; exact e2
  have q3 : decide (12 < (G.ks.length : Int) + (O.ks.length : Int)) = false := decide_eq_false (by omega)
  have N12 : (G.ks ++ O.ks).length ≤ 12 := by rw [List.length_append]; exact n12
  have N0 : 0 < (G.ks ++ O.ks).length := by rw [List.length_append]; omega
  have W12 : Hid ((G.ws ++ O.ws).length ≤ 12) := by unfold Hid; rw [List.length_append]; omega
  have gk : G.ks.length ≤ 12 := by omega
  have ok : O.ks.length ≤ 12 := by omega
  unfold Gr.v at C1 C2 ⊢
  rw [ewa, eta] at C1 ⊢
  rw [ewo, etu] at C2 ⊢
  clear h ho he A B e1 e2 e3 tg to' lg lo gg go hbt hct hbu hcu hbw hcw hbv hcv eta etu ewa ewo n12 g0 o0
  generalize hS : G.ks ++ O.ks = S at *
  have HS := hide hS
  clear hS
  generalize hWs : G.ws ++ O.ws = Ws at *
  have HWs := hide hWs
  clear hWs
  go_enter Try.func17, Try.ntmps17
  go_upto_region 11 with (first
    | (go_at_call 37; have hone := z1; refine (C2.out _ K1.out.below).mono ?_; rintro e w2 ⟨rfl, hb2⟩; have K2 := hide (K1.out.up hb2); have y0 := K2.out.a.1; have y1 := K2.out.a.2.1; have y2 := K2.out.a.2.2.1; have y3 := K2.out.a.2.2.2; have z2 := K2.out.b.1; have z3 := K2.out.b.2.1; have z5 := K2.out.b.2.2.1; have z4 := K2.out.b.2.2.2; clear z1)
    | (go_at_call 37; refine (C1.out _ K0.out.below).mono ?_; rintro e w1 ⟨rfl, hb1⟩; have K1 := hide (K0.out.up hb1); have z1 := K1.out.b.1; have z11 := K1.out.b.2.1; have z12 := K1.out.b.2.2.1; have z13 := K1.out.b.2.2.2))
  go_cut [8] from 47 to 57 (fun u wx => ∃ gb bA cg, u = .pointer (some ⟨gb, 0, none⟩) ∧ Hid (Jt (.int .i64 G.f) (.int .i64 G.w) (.slice (some ⟨bw, ow, none⟩) G.ws.length G.wc) (.slice (some ⟨bt, ot, none⟩) G.ks.length G.tc) (.int .i64 O.f) (.int .i64 O.w) (.slice (some ⟨bv, ov, none⟩) O.ws.length O.wc) (.slice (some ⟨bu, ou, none⟩) O.ks.length O.tc) w Ws wx gb bA cg (.slice none 0 0)))
  case first =>
    have n1 : ¬ w2.heap.size + 1 = w.heap.size := by have := K2.out.size; omega
    have n2 : ¬ w2.heap.size = w.heap.size := by have := K2.out.size; omega
    have n3 : ¬ w2.heap.size = w.heap.size + 1 := by have := K2.out.size; omega
    go_region_held3 (fun W => W.cell? ⟨w.heap.size, 0, none⟩ = some (.int .i64 G.f) ∧ W.cell? ⟨w.heap.size, 1, none⟩ = some (.int .i64 G.w) ∧ W.cell? ⟨w.heap.size, 2, none⟩ = some (.slice (some ⟨bw, ow, none⟩) G.ws.length G.wc) ∧ W.cell? ⟨w.heap.size + 1, 2, none⟩ = some (.slice (some ⟨bv, ov, none⟩) O.ws.length O.wc)) (go_keep) (first
      | ((go_at_call 41; refine (CW.out _ ?qw _ ?qB ?q0 ?q1).mono ?_; (case qw => exact below_on K2.out.below (below_two _ _ _)); (case qB => first | exact (lt_two _ _ _).1 | exact (lt_two _ _ _).2); (case q0 => first | exact (pair_a _ _ _ _ _).1 | exact (pair_b _ _ _ _ _).1); (case q1 => first | exact (pair_a _ _ _ _ _).2 | exact (pair_b _ _ _ _ _).2); rintro e w3 ⟨bA, cg, rfl, h1, h2, h3, hb3⟩; first | (have HW := after_a cg K2.out h1 h2 h3 hb3; have za := HW.z.c0; have zb := HW.z.c1; have zc := HW.z.c2; have zd := HW.z.c3; have fa := HW.z.fr 0; have fb := HW.z.fr 1; have fc := HW.z.fr 2; have fd := HW.z.fr 3; have y00 := HW.kj.a.1; have y11 := HW.kj.a.2.1; have y22 := HW.kj.a.2.2.1; have z55 := HW.kj.b.2.2.1; have J3 := hide HW.jt; clear HW) | (have HW := after_b cg K2.out h1 h2 h3 hb3; have za := HW.z.c0; have zb := HW.z.c1; have zc := HW.z.c2; have zd := HW.z.c3; have fa := HW.z.fr 0; have fb := HW.z.fr 1; have fc := HW.z.fr 2; have fd := HW.z.fr 3; have y00 := HW.kj.a.1; have y11 := HW.kj.a.2.1; have y22 := HW.kj.a.2.2.1; have z55 := HW.kj.b.2.2.1; have J3 := hide HW.jt; clear HW)))
      | (go_at_call 41; refine (CW.out _ ?qw _ ?qB ?q0 ?q1).mono ?_; (case qw => exact below_on K2.out.below (below_one _ _)); (case qB => simp); (case q0 => go_simp); (case q1 => go_simp); rintro e w3 ⟨bA, cg, rfl, h1, h2, h3, hb3⟩; obtain ⟨HK, HJ⟩ := after_c cg K2.out h1 h2 h3 hb3; have y00 := HK.a.1; have y11 := HK.a.2.1; have y22 := HK.a.2.2.1; have z55 := HK.b.2.2.1; have J3 := hide HJ; clear HJ HK))
    all_goals go_wp2
    all_goals go_meet
    all_goals (case rel => exact ⟨_, _, _, rfl, J3⟩)
  case rest =>
    obtain ⟨gb, bA, cg, rfl, JT⟩ := hcut
    have t3 := JT.out.kj.a.2.2.2
    have u3 := JT.out.kj.b.2.2.2
    clear y0 y1 y2 y3 z2 z3 z4 z5 K2 CW C1 C2 K0 K1
    go_wp2_with (go_at_call 42; refine (CT.out _ _ _ JT.out.kj.below rfl _ rfl).mono ?_; rintro e w4 ⟨g, cg2, rfl, h1, h2, h3, hb4⟩; have L0 := hide (lj_start (S := S) JT.out h1 h2 h3 hb4); clear h3)
    generalize w4.heap.size = B at *
    go_loopw [65] (fun i wr => ∃ k : Nat, k ≤ S.length ∧ i = .int .i64 k ∧ Hid (∃ x C, Lj (.int .i64 G.f) (.int .i64 G.w) (.slice (some ⟨bw, ow, none⟩) G.ws.length G.wc) (.slice (some ⟨bt, ot, none⟩) G.ks.length G.tc) (.int .i64 O.f) (.int .i64 O.w) (.slice (some ⟨bv, ov, none⟩) O.ws.length O.wc) (.slice (some ⟨bu, ou, none⟩) O.ks.length O.tc) w Ws S B gb bA cg g wr k x C)) (fun i _ => S.length - (intOf i).toNat)
    case atStart => exact ⟨0, Nat.zero_le _, rfl, ⟨_, _, L0.out⟩⟩
    case round =>
      clear L0 hb4 h1 h2 JT t3 u3 CT
      obtain ⟨k, hk, rfl, LJ⟩ := hrel
      obtain ⟨x, C, hL⟩ := LJ.out
      have HL := hide hL
      by_cases hlt : k < S.length
      · obtain ⟨i0, hi, hz0, hz1, hz2⟩ := info_parts infoT
        obtain ⟨F, hrk⟩ := TS.out _ (List.getElem_mem hlt)
        have ne : S[k].2.1 ≠ [] := by
          intro e
          have := F.2.1
          rw [e] at this
          simp at this
        obtain ⟨bs, os, es, hbs, hcs⟩ := (hrk wr hL.jt.kj.below).2 ne
        have ct := hL.src k hlt
        unfold tV at ct
        rw [es] at ct
        have kz : (k : Int) < (S.length : Int) := by omega
        have CL := hide (clone_nodes bs os S[k].2.2 S[k].2.1 wr.drew hcs F.1 hbs)
        have c30 := hL.jt.c3
        have c31 : wr.drew.cell? ⟨gb, 3, none⟩ = some x := c30
        have HT : Hid (S[k].2.1 = S[k].2.1) := rfl
        have NE := hide ne
        have OX : Hid (∀ q, x.ownBlock = some q → q < wr.heap.size) := fun q hq => (hL.own.lt q hq).2
        have hn1 := hL.sz
        have MO : Hid (∀ (w5 : World) (o : Obj) a cp g2 cap2 w6, Below wr.heap.size wr w5 → RdN w5 a S[k].2.1 → (∀ p, a = some p → wr.heap.size ≤ p.block) → (w5.alloc o).grownBy w6 x.ownBlock → w6.ownsRow B 22 1 (.slice (some ⟨g2, 0, none⟩) (k + 1) cap2) (k + 1) (C.map tV ++ [.slice a S[k].2.1.length cp]) → (x.ownBlock = some g2 ∨ g2 = w5.heap.size + 1) → Jt (.int .i64 G.f) (.int .i64 G.w) (.slice (some ⟨bw, ow, none⟩) G.ws.length G.wc) (.slice (some ⟨bt, ot, none⟩) G.ks.length G.tc) (.int .i64 O.f) (.int .i64 O.w) (.slice (some ⟨bv, ov, none⟩) O.ws.length O.wc) (.slice (some ⟨bu, ou, none⟩) O.ks.length O.tc) w Ws w6 gb bA cg x ∧ ∃ x2 C2, x2 = .slice (some ⟨g2, 0, none⟩) (k + 1) cap2 ∧ Lj (.int .i64 G.f) (.int .i64 G.w) (.slice (some ⟨bw, ow, none⟩) G.ws.length G.wc) (.slice (some ⟨bt, ot, none⟩) G.ks.length G.tc) (.int .i64 O.f) (.int .i64 O.w) (.slice (some ⟨bv, ov, none⟩) O.ws.length O.wc) (.slice (some ⟨bu, ou, none⟩) O.ks.length O.tc) w Ws S B gb bA cg g (w6.setCell ⟨gb, 3, none⟩ x2) (k + 1) x2 C2) := by
          intro w5 o a cp g2 cap2 w6 hb hr ha hg ho hor
          have hb2 : Below w5.heap.size w5 (w5.alloc o) := (Below.refl _ w5).alloc (Nat.le_refl _) o
          have L6 := (hL.up hb).up hb2
          refine ⟨L6.mid hg, _, _, rfl, L6.more (W0 := wr) ?_ OX.out hn1 hlt rfl ne (hr.below hb2) ha hg ho ?_⟩
          · have := hb.size
            simp
            omega
          · simpa using hor
        have OW : Hid (∀ (w5 : World) (o : Obj), Below wr.heap.size wr w5 → (w5.alloc o).ownsRow B 22 1 x k (C.map tV) ∧ B ≤ (w5.alloc o).heap.size ∧ w5.cell? ⟨gb, 3, none⟩ = some x ∧ (w5.alloc o).cell? ⟨gb, 3, none⟩ = some x) := by
          intro w5 o hb
          have hb2 : Below w5.heap.size w5 (w5.alloc o) := (Below.refl _ w5).alloc (Nat.le_refl _) o
          have L6 := (hL.up hb).up hb2
          exact ⟨L6.own, L6.sz, (hL.up hb).jt.c3, L6.jt.c3⟩
        clear hL F hrk hbs hcs es HT LJ NE OX TS EJ
        generalize S[k].2.1 = ts at *
        generalize S[k].2.2 = tcc at *
        go_upto_region 15 with fail
        go_region_law (first
          | (refine step_append_lies _ rfl (.tmp 70) (.tmp 73) 44 rfl B 22 i0 (.slice none 0 0) 1 24 Try.underlying44 hi hz0 hz1 hz2 rfl (by decide) x k (C.map tV) rfl A5.out.1 ⟨w5.heap.size, 0, none⟩ 1 1 [.slice ac ts.length cap5] rfl rfl (one_new _ _ _) (by intro u hu; simp at hu; subst hu; rfl) (by decide) (by unfold maxLen; omega) (by omega) A5.out.2.1 (w5.heap.size + 1) (by simp) ?_; intro g2 cap2 w6 hown6 hgrow6 hor6 hlt6; obtain ⟨J6, x2, C2, ex2, NL⟩ := MO.out w5 _ ac cap5 g2 cap2 w6 hb5' hr5 ha5 hgrow6 hown6 hor6; have c37 := J6.c3; have f37 := J6.fr; subst ex2; have NX := hide NL; clear NL J6 hown6 hgrow6 hor6)
          | (go_simp; go_at_call 43; refine CL.out.mono ?_; rintro e w5 ⟨ac, cap5, rfl, hr5, ha5, hb5⟩; have hb5' : Below wr.heap.size wr w5 := below_on (Below.refl _ wr).drew hb5; have A5 := hide (OW.out w5 (.cells #[.slice ac ts.length cap5] 22) hb5'); have c35 := A5.out.2.2.1; have c36 := A5.out.2.2.2))
        all_goals (
          go_wp2
          go_roundw
          case rel => exact ⟨k + 1, by omega, by go_num, ⟨_, _, NX.out⟩⟩
          case measure => simp [intOf]; omega)
      · have ek : k = S.length := by omega
        subst ek
        obtain ⟨gx, cpx, ex⟩ : ∃ gx cpx, x = .slice (some ⟨gx, 0, none⟩) S.length cpx := by
          rcases hL.own.2 with ⟨_, h0⟩ | ⟨gx, cap, cur, hv, _⟩
          · omega
          · exact ⟨gx, cap, hv⟩
        subst ex
        have d0 := hL.jt.c0
        have d1 := hL.jt.c1
        have d2 := hL.jt.c2
        have d3 := hL.jt.c3
        have r0 := hL.jt.kj.c.1
        have r1 := hL.jt.kj.c.2.1
        have r2 := hL.jt.kj.c.2.2.1
        have r3 := hL.jt.kj.c.2.2.2
        have f0 := hL.jt.kj.fr 0
        have f1 := hL.jt.kj.fr 1
        have f2 := hL.jt.kj.fr 2
        have f3 := hL.jt.kj.fr 3
        obtain ⟨e0, e1, e2, e3⟩ := set4 (x0 := .int .i64 G.f) (x1 := .int .i64 G.w) (x2 := .slice (some ⟨bA, 0, none⟩) Ws.length cg) (x3 := .slice (some ⟨gx, 0, none⟩) S.length cpx) r0 r1 r2 r3
        clear hL TS LJ hk hlt
        go_wp2
        (try simp only [Exit.inBlock, Exit.then])
        refine bodyPost_ret (v := .tuple #[.agg #[.int .i64 G.f, .int .i64 G.w, .slice (some ⟨bA, 0, none⟩) Ws.length cg, .slice (some ⟨gx, 0, none⟩) S.length cpx], .nilIface]) (by simp [results, Try.results17, go_sem, e0, e1, e2, e3]) rfl ?_
        obtain ⟨J, j1, j2, j3, j4, j5, j6, j7, hR⟩ := HL.out.done N0 N12 W12.out (.int .i64 G.f) (.int .i64 G.w) (.slice (some ⟨bA, 0, none⟩) Ws.length cg) (.slice (some ⟨gx, 0, none⟩) S.length cpx)
        refine ⟨J, ?_, EJ.out J j2 j3 j5 j7, hR, below4 HL.out.jt.kj.below (by omega)⟩
        rw [j2, j3, j4, j5, j6, ← j1]

theorem gjoin_any : JoinGives := by
  intro G O W h ho
  by_cases he : M.joinF G.m O.m = 0
  · refine (gjoin_good G O W h ho he).mono ?_
    rintro e w' ⟨J, rfl, hm, hr, hb⟩
    refine ⟨J, by rw [err_nil he], ?_, hr, hb⟩
    rw [hm]; unfold M.joinV; rw [if_pos he]
  · refine (gjoin_bad G O W h ho he).mono ?_
    rintro e w' ⟨rfl, hb⟩
    refine ⟨noGr, rfl, ?_, noGr_rdg w', hb⟩
    unfold M.joinV; rw [if_neg he]; rfl

end Go.Proofs.Ytandimbpealclac
