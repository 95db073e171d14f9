/-
  Several texts as one: RefSort, RefUp, RefAny, RefReg, RefGive, RefPrune.
-/
import Derived.Test.YtjnkkniefpmgdadDoorGrown
import Derived.Test.YtjnkkniefpmgdadDoorPruneMath
import Derived.Deep.Cut
import Derived.Deep.CutRange
import Derived.Test.YtjnkkniefpmgdadDoorNodes
import Derived.Test.YtjnkkniefpmgdadDoorMathZ
import Derived.Deep.AppendLies
import Derived.BigQuiet
import Derived.Deep.QuietTactic
import Derived.Test.YtjnkkniefpmgdadDoorSpans
import Derived.Test.YtjnkkniefpmgdadDoorRefCell
namespace Go.Proofs.YtjnkkniefpmgdadDoor
open Go.ChangeShapes Go.WideShapes Go.ChangeAt Go.RowKit Go.Lib
set_option linter.unusedVariables false

theorem M.leaf_whole {t : List M.Nd} {m : Int} (h : M.Right t m) {i : Nat} (hi : i < t.length) (hf : M.nf (M.nAt t i) = -1) : M.nAt t i = (-1, 0, 0, 0, false, M.nv (M.nAt t i)) := by
  have := h i hi
  unfold M.nodeF at this
  rw [if_pos hf] at this
  unfold M.lfF at this
  generalize M.nAt t i = n at *
  by_cases q1 : M.outI (M.nv n) = true
  · rw [if_pos q1] at this; cases this
  · rw [if_neg q1] at this
    by_cases q : M.nc n ≠ 0 ∨ M.nl n ≠ 0 ∨ M.nr n ≠ 0 ∨ M.ns n = true
    · rw [if_pos q] at this; cases this
    · have b0 : M.nc n = 0 := Decidable.not_not.1 (fun h => q (.inl h))
      have c0 : M.nl n = 0 := Decidable.not_not.1 (fun h => q (.inr (.inl h)))
      have d0 : M.nr n = 0 := Decidable.not_not.1 (fun h => q (.inr (.inr (.inl h))))
      have e0 : M.ns n = false := by
        cases e : M.ns n with
        | false => rfl
        | true => exact absurd (.inr (.inr (.inr e))) q
      have w : n = (M.nf n, M.nc n, M.nl n, M.nr n, M.ns n, M.nv n) := rfl
      rw [hf, b0, c0, d0, e0] at w
      exact w
theorem nAt_snoc (O : List M.Nd) (n : M.Nd) (C : List M.Nd) : M.nAt (O ++ n :: C) O.length = n := by unfold M.nAt; simp [List.getD]
theorem set_snoc (O : List M.Nd) (n n' : M.Nd) (C : List M.Nd) : (O ++ n :: C).set O.length n' = O ++ n' :: C := by
  rw [List.set_append_right _ _ (Nat.le_refl _), Nat.sub_self, List.set_cons_zero]

set_option maxHeartbeats 8000000 in
set_option maxRecDepth 10000 in
theorem rsort_any (ts : List M.Nd) (m : Int) (hR : M.Right ts m) (l63 : ts.length ≤ 63) (bt ot cap B : Nat) : ∀ (f i : Nat), i < ts.length → ts.length ≤ f + i → ∀ (O : List M.Nd) (va : Option Addr) (vc : Nat) (w : World), bt < w.heap.size → (∀ j, j < ts.length → SixAt w bt (ot + j * 6) (M.nAt ts j)) → (Value.slice va O.length vc).ownBlock ≠ some bt → w.ownsRow B 28 6 (.slice va O.length vc) O.length (ndCells O) → B ≤ w.heap.size → O.length + (M.bt ts i).size ≤ 1000 →
    Calls Tryd.prog 20 #[.slice (some ⟨bt, ot, none⟩) ts.length cap, .int .i64 (i : Nat), .slice va O.length vc] w fun e w' => ∃ g c, e = .returned (.slice (some ⟨g, 0, none⟩) (O.length + (M.bt ts i).size) c) ∧ w'.ownsRow B 28 6 (.slice (some ⟨g, 0, none⟩) (O.length + (M.bt ts i).size) c) (O.length + (M.bt ts i).size) (ndCells (O ++ M.lay (M.bt ts i) O.length)) ∧ w.grownBy w' (Value.slice va O.length vc).ownBlock ∧ ((Value.slice va O.length vc).ownBlock = some g ∨ w.heap.size ≤ g)
  | 0, i, hi, hf => by omega
  | f + 1, i, hi, hf => by
    intro O va vc w hbt hct hne hv hB hsz
    have iz : (i : Int) < (ts.length : Int) := by omega
    obtain ⟨j0, hj, hy0, hy1, hy2⟩ := info_parts infoN
    have J0 := hide hj
    obtain ⟨r0, r1, r2, r3, r4, r5⟩ := hct i hi
    have HV := hide hv
    have HC : Hid (∀ W, w.grownBy W (Value.slice va O.length vc).ownBlock → ∀ j, j < ts.length → SixAt W bt (ot + j * 6) (M.nAt ts j)) := fun W hW j hj => by
      have hb : W.heap[bt]? = w.heap[bt]? := hW.block bt hbt (fun e => hne e.symm)
      obtain ⟨h0, h1, h2, h3, h4, h5⟩ := hct j hj
      exact ⟨(World.cell?_of_block (a := ⟨bt, _, none⟩) hb).trans h0, (World.cell?_of_block (a := ⟨bt, _, none⟩) hb).trans h1, (World.cell?_of_block (a := ⟨bt, _, none⟩) hb).trans h2, (World.cell?_of_block (a := ⟨bt, _, none⟩) hb).trans h3, (World.cell?_of_block (a := ⟨bt, _, none⟩) hb).trans h4, (World.cell?_of_block (a := ⟨bt, _, none⟩) hb).trans h5⟩
    have NE := hide hne
    have zp := (M.bt ts i).size_pos
    have NC0 : Hid (ndCells [M.nAt ts i] = [.int .i64 (M.nf (M.nAt ts i)), .int .i64 (M.nc (M.nAt ts i)), .int .i64 (M.nl (M.nAt ts i)), .int .i64 (M.nr (M.nAt ts i)), .bool (M.ns (M.nAt ts i)), .int .i64 (M.nv (M.nAt ts i))]) := rfl
    have ol : O.length ≤ 1000 := by omega
    by_cases hl : M.nf (M.nAt ts i) = -1
    · have t1 : (M.nf (M.nAt ts i) == -1) = true := by rw [beq_iff_eq]; exact hl
      have EB : Hid ((M.bt ts i).size = 1 ∧ M.lay (M.bt ts i) O.length = [M.nAt ts i]) := by
        rw [M.bt_leaf hi hl]
        refine ⟨rfl, ?_⟩
        rw [M.leaf_whole hR hi hl]
        rfl
      have HC1 : Hid (∀ W, w.grownBy W (Value.slice va O.length vc).ownBlock → W.cell? ⟨bt, ot + i * 6, none⟩ = some (.int .i64 (M.nf (M.nAt ts i)))) := fun W hW => (HC.out W hW i hi).1
      rw [EB.out.1, EB.out.2]
      clear hv hct hj hne HC hl hsz zp
      generalize hn : M.nAt ts i = n at *
      have HN := hide hn
      clear hn
      generalize M.nf n = nf at *
      generalize M.nc n = nc at *
      generalize M.nl n = nl at *
      generalize M.nr n = nr at *
      generalize M.ns n = ns at *
      generalize M.nv n = nv at *
      go_enter Tryd.func20, Tryd.ntmps20
      go_wp2_with (at_builtin; refine wpList_append_lies _ rfl (.tmp 10) (.tmp 15) 29 rfl B 28 j0 (.agg #[.int .i64 0, .int .i64 0, .int .i64 0, .int .i64 0, .bool false, .int .i64 0]) 6 48 Tryd.underlying29 J0.out hy0 hy1 hy2 rfl (by omega) (.slice va O.length vc) O.length (ndCells O) rfl (HV.out.alloc _) ⟨w.heap.size, 0, none⟩ 1 1 [.int .i64 nf, .int .i64 nc, .int .i64 nl, .int .i64 nr, .bool ns, .int .i64 nv] rfl rfl (World.news_of_block (heap_alloc_new _ _)) (by simp [Value.oneCell']) (by omega) (by unfold maxLen; omega) (by omega) (by simp; omega) (w.heap.size + 1) (by simp) ?_)
      intro g1 c1 w1 hov hgrow hat hlt1
      have HO1 : Hid (w1.ownsRow B 28 6 (.slice (some ⟨g1, 0, none⟩) (O.length + 1) c1) (O.length + 1) (ndCells (O ++ [n]))) := by
        unfold Hid; rw [ndCells_app, NC0.out]; exact hov
      have G1 : Hid (w.grownBy w1 (Value.slice va O.length vc).ownBlock) := grown_trans (World.grownBy_alloc w _ _) hgrow (.inl rfl)
      have A1 : Hid ((Value.slice va O.length vc).ownBlock = some g1 ∨ w.heap.size ≤ g1) := by
        rcases hat with q | q
        · exact .inl q
        · exact .inr (by omega)
      have s0 := HC1.out w1 G1.out
      clear hov hgrow hat HV r0 r1 r2 r3 r4 r5
      go_wp2
      go_ret
      exact ⟨g1, c1, rfl, HO1.out, G1.out, A1.out⟩
    · have t1 : (M.nf (M.nAt ts i) == -1) = false := by rw [beq_eq_false_iff_ne]; exact hl
      obtain ⟨a, b, ea, eb, h1, h2, h3, h4, _⟩ := M.ask_at hR hi hl
      have hnv : M.nv (M.nAt ts i) = 0 := (M.node_ask (hR i hi) hl).2.2.2.2.2.2.2.1
      have EB := M.bt_ask hR hi hl ea eb
      have ES : (M.bt ts i).size = 1 + (M.bt ts a).size + (M.bt ts b).size := by rw [EB]; rfl
      have IA := hide (rsort_any ts m hR l63 bt ot cap B f a h2 (by omega))
      have IB := hide (rsort_any ts m hR l63 bt ot cap B f b h4 (by omega))
      have EL : Hid (M.lay (M.bt ts i) O.length = (M.nf (M.nAt ts i), M.nc (M.nAt ts i), ((O.length + 1 : Nat) : Int), ((O.length + 1 + (M.bt ts a).size : Nat) : Int), M.ns (M.nAt ts i), 0) :: (M.lay (M.bt ts a) (O.length + 1) ++ M.lay (M.bt ts b) (O.length + 1 + (M.bt ts a).size))) := by unfold Hid; rw [EB]; rfl
      have LA : Hid (∀ k, (M.lay (M.bt ts a) k).length = (M.bt ts a).size) := fun k => M.lay_len _ k
      rw [ES] at hsz
      have cz1 : ((O.length + 1 : Nat) : Int) = (O.length : Int) + 1 := by omega
      have cz2 : ((O.length + 1 + (M.bt ts a).size : Nat) : Int) = (O.length : Int) + 1 + ((M.bt ts a).size : Int) := by omega
      rw [ES, EL.out, cz1, cz2, show O.length + (1 + (M.bt ts a).size + (M.bt ts b).size) = O.length + 1 + (M.bt ts a).size + (M.bt ts b).size by omega]
      clear cz1 cz2
      rw [ea] at r2
      rw [eb] at r3
      rw [ea, eb, hnv] at NC0
      rw [hnv] at r5
      have HCI : Hid (∀ W, w.grownBy W (Value.slice va O.length vc).ownBlock → (W.cell? ⟨bt, ot + i * 6, none⟩ = some (.int .i64 (M.nf (M.nAt ts i))) ∧ W.cell? ⟨bt, ot + i * 6 + 2, none⟩ = some (.int .i64 (a : Int)) ∧ W.cell? ⟨bt, ot + i * 6 + 3, none⟩ = some (.int .i64 (b : Int))) ∧ ∀ j, j < ts.length → SixAt W bt (ot + j * 6) (M.nAt ts j)) := fun W hW => by
        obtain ⟨q0, q1, q2, q3, q4, q5⟩ := HC.out W hW i hi
        rw [ea] at q2
        rw [eb] at q3
        exact ⟨⟨q0, q2, q3⟩, HC.out W hW⟩
      have OS : Hid (∀ n, ndCells (O ++ [n]) = ndCells O ++ ndCells [n]) := fun n => ndCells_app _ _
      have NA : Hid (M.nAt ts i = (M.nf (M.nAt ts i), M.nc (M.nAt ts i), (a : Int), (b : Int), M.ns (M.nAt ts i), (0 : Int))) := by
        unfold Hid
        rw [← ea, ← eb, ← hnv]
        rfl
      rw [NA.out] at NC0
      clear hv hct hj hne HC hl zp EB ES EL NA
      generalize M.nf (M.nAt ts i) = nf at *
      generalize M.nc (M.nAt ts i) = nc at *
      generalize M.ns (M.nAt ts i) = ns at *
      generalize M.bt ts a = TA at *
      generalize M.bt ts b = TB at *
      go_enter Tryd.func20, Tryd.ntmps20
      go_wp2_with (at_builtin; refine wpList_append_lies _ rfl (.tmp 10) (.tmp 15) 29 rfl B 28 j0 (.agg #[.int .i64 0, .int .i64 0, .int .i64 0, .int .i64 0, .bool false, .int .i64 0]) 6 48 Tryd.underlying29 J0.out hy0 hy1 hy2 rfl (by omega) (.slice va O.length vc) O.length (ndCells O) rfl (HV.out.alloc _) ⟨w.heap.size, 0, none⟩ 1 1 [.int .i64 nf, .int .i64 nc, .int .i64 (a : Int), .int .i64 (b : Int), .bool ns, .int .i64 0] rfl rfl (World.news_of_block (heap_alloc_new _ _)) (by simp [Value.oneCell']) (by omega) (by unfold maxLen; omega) (by omega) (by simp; omega) (w.heap.size + 1) (by simp) ?_)
      intro g1 c1 w1 hov hgrow hat hlt1
      have HO1 : Hid (w1.ownsRow B 28 6 (.slice (some ⟨g1, 0, none⟩) (O.length + 1) c1) (O.length + 1) (ndCells (O ++ [(nf, nc, (a : Int), (b : Int), ns, (0 : Int))]))) := by
        unfold Hid; rw [ndCells_app, NC0.out]; exact hov
      have G1 : Hid (w.grownBy w1 (Value.slice va O.length vc).ownBlock) := grown_trans (World.grownBy_alloc w _ _) hgrow (.inl rfl)
      have A1 : Hid ((Value.slice va O.length vc).ownBlock = some g1 ∨ w.heap.size ≤ g1) := by
        rcases hat with q | q
        · exact .inl q
        · exact .inr (by omega)
      have L0 : O.length < (O ++ [(nf, nc, (a : Int), (b : Int), ns, (0 : Int))]).length := by simp
      obtain ⟨⟨s0, s2, s3⟩, _⟩ := HCI.out w1 G1.out
      obtain ⟨x0, x1, x2, x3, x4, x5⟩ := ndCells_at _ O.length L0
      have q2 := (HO1.out.cellAt (O.length * 6 + 2) (by omega)).trans x2
      have fz2 := HO1.out.frozenAt (O.length * 6 + 2)
      have oz : ((O.length : Nat) : Int) < ((O.length + 1 : Nat) : Int) := by omega
      clear hov hgrow hat HV r0 r1 r2 r3 r4 r5 x0 x1 x2 x3 x4 x5 L0
      go_upto_region 6 with fail
      obtain ⟨w2, hw2⟩ : ∃ W, W = w1.setCell ⟨g1, O.length * 6 + 2, none⟩ (.int .i64 ((O.length : Int) + 1)) := ⟨_, rfl⟩
      rw [← hw2]
      have g1s : Hid ((some g1 : Option Nat) = (Value.slice va O.length vc).ownBlock ∨ ∀ q, (some g1 : Option Nat) = some q → w.heap.size ≤ q) := by
        rcases A1.out with q | q
        · exact .inl q.symm
        · exact .inr (fun z hz => by cases hz; exact q)
      have HO2 : Hid (w2.ownsRow B 28 6 (.slice (some ⟨g1, 0, none⟩) (O.length + 1) c1) (O.length + 1) (ndCells (O ++ [(nf, nc, (O.length : Int) + 1, (b : Int), ns, (0 : Int))]))) := by
        have st := (HO1.out.stored (O.length * 6 + 2) (.int .i64 ((O.length : Int) + 1))).1
        rw [ndCells_setL _ O.length (by simp), nAt_snoc, set_snoc] at st
        rw [hw2]
        exact st
      have G2 : Hid (w.grownBy w2 (Value.slice va O.length vc).ownBlock) := by
        rw [hw2]
        exact grown_trans G1.out grown_set g1s.out
      have gne : Hid (g1 ≠ bt) := fun e => by
        subst e
        rcases A1.out with q | q
        · exact NE.out q
        · omega
      have w2s : Hid (w.heap.size ≤ w2.heap.size) := G2.out.size
      have I1 := IA.out (O ++ [(nf, nc, (O.length : Int) + 1, (b : Int), ns, (0 : Int))]) (some ⟨g1, 0, none⟩) c1 w2 (Nat.lt_of_lt_of_le hbt w2s.out) (HCI.out w2 G2.out).2 (fun e => gne.out (by cases e; rfl)) (by rw [List.length_append]; exact HO2.out) (Nat.le_trans hB w2s.out) (by rw [List.length_append]; simp; omega)
      rw [show (O ++ [(nf, nc, (O.length : Int) + 1, (b : Int), ns, (0 : Int))]).length = O.length + 1 by simp] at I1
      have HI1 := hide I1
      obtain ⟨⟨u0, u2, u3⟩, _⟩ := HCI.out w2 G2.out
      clear hw2 I1 HO1 q2 fz2 s0 s2 s3
      go_upto_region 7 with (go_at_call 20; refine HI1.out.mono ?_; rintro e w3 ⟨g3, c3, rfl, ho3, hg3, ha3⟩)
      have G3 : Hid (w.grownBy w3 (Value.slice va O.length vc).ownBlock) := grown_trans G2.out hg3 g1s.out
      have A3 : Hid ((Value.slice va O.length vc).ownBlock = some g3 ∨ w.heap.size ≤ g3) := by
        rcases ha3 with q | q
        · have e : g1 = g3 := by simpa [Value.ownBlock] using q
          rw [← e]; exact A1.out
        · exact .inr (Nat.le_trans w2s.out q)
      have HO3 : Hid (w3.ownsRow B 28 6 (.slice (some ⟨g3, 0, none⟩) (O.length + 1 + TA.size) c3) (O.length + 1 + TA.size) (ndCells (O ++ (nf, nc, (O.length : Int) + 1, (b : Int), ns, (0 : Int)) :: M.lay TA (O.length + 1)))) := by
        have := ho3
        rw [List.append_assoc] at this
        exact this
      have L3 : O.length < (O ++ (nf, nc, (O.length : Int) + 1, (b : Int), ns, (0 : Int)) :: M.lay TA (O.length + 1)).length := by simp
      obtain ⟨x0, x1, x2, x3, x4, x5⟩ := ndCells_at _ O.length L3
      have q3 := (HO3.out.cellAt (O.length * 6 + 3) (by omega)).trans x3
      have fz3 := HO3.out.frozenAt (O.length * 6 + 3)
      have oz3 : ((O.length : Nat) : Int) < ((O.length + 1 + TA.size : Nat) : Int) := by omega
      clear ho3 hg3 ha3 HO2 x0 x1 x2 x3 x4 x5 L3 u0 u2 u3 HI1
      go_upto_region 8 with fail
      obtain ⟨w4, hw4⟩ : ∃ W, W = w3.setCell ⟨g3, O.length * 6 + 3, none⟩ (.int .i64 ((O.length : Int) + 1 + (TA.size : Int))) := ⟨_, rfl⟩
      rw [← hw4]
      have g3s : Hid ((some g3 : Option Nat) = (Value.slice va O.length vc).ownBlock ∨ ∀ q, (some g3 : Option Nat) = some q → w.heap.size ≤ q) := by
        rcases A3.out with q | q
        · exact .inl q.symm
        · exact .inr (fun z hz => by cases hz; exact q)
      have HO4 : Hid (w4.ownsRow B 28 6 (.slice (some ⟨g3, 0, none⟩) (O.length + 1 + TA.size) c3) (O.length + 1 + TA.size) (ndCells (O ++ (nf, nc, (O.length : Int) + 1, (O.length : Int) + 1 + (TA.size : Int), ns, (0 : Int)) :: M.lay TA (O.length + 1)))) := by
        have st := (HO3.out.stored (O.length * 6 + 3) (.int .i64 ((O.length : Int) + 1 + (TA.size : Int)))).1
        rw [ndCells_setR _ O.length (by simp), nAt_snoc, set_snoc] at st
        rw [hw4]
        exact st
      have G4 : Hid (w.grownBy w4 (Value.slice va O.length vc).ownBlock) := by
        rw [hw4]
        exact grown_trans G3.out grown_set g3s.out
      have gne3 : Hid (g3 ≠ bt) := fun e => by
        subst e
        rcases A3.out with q | q
        · exact NE.out q
        · omega
      have w4s : Hid (w.heap.size ≤ w4.heap.size) := G4.out.size
      have len4 : (O ++ (nf, nc, (O.length : Int) + 1, (O.length : Int) + 1 + (TA.size : Int), ns, (0 : Int)) :: M.lay TA (O.length + 1)).length = O.length + 1 + TA.size := by
        rw [List.length_append, List.length_cons, LA.out]; omega
      have I2 := IB.out (O ++ (nf, nc, (O.length : Int) + 1, (O.length : Int) + 1 + (TA.size : Int), ns, (0 : Int)) :: M.lay TA (O.length + 1)) (some ⟨g3, 0, none⟩) c3 w4 (Nat.lt_of_lt_of_le hbt w4s.out) (HCI.out w4 G4.out).2 (fun e => gne3.out (by cases e; rfl)) (by rw [len4]; exact HO4.out) (Nat.le_trans hB w4s.out) (by rw [len4]; omega)
      rw [len4] at I2
      have HI2 := hide I2
      obtain ⟨⟨u0, u2, u3⟩, _⟩ := HCI.out w4 G4.out
      clear hw4 I2 HO3 q3 fz3 len4 HCI IA IB NC0 OS
      go_wp2_with (go_at_call 20; refine HI2.out.mono ?_; rintro e w5 ⟨g5, c5, rfl, ho5, hg5, ha5⟩)
      go_ret
      refine ⟨g5, c5, rfl, ?_, grown_trans G4.out hg5 g3s.out, ?_⟩
      · rw [List.append_assoc, List.cons_append] at ho5
        exact ho5
      · rcases ha5 with q | q
        · have e : g3 = g5 := by simpa [Value.ownBlock] using q
          rw [← e]; exact A3.out
        · exact .inr (Nat.le_trans w4s.out q)

end Go.Proofs.YtjnkkniefpmgdadDoor

namespace Go.Proofs.YtjnkkniefpmgdadDoor
open Go.ChangeShapes Go.WideShapes Go.ChangeAt Go.RowKit
set_option linter.unusedVariables false

/-- the node above a place, as a number -/
def M.upI (t : List M.Nd) (k : Nat) : Int := match M.abv t k with
  | none => -1
  | some u => (u : Int)
def M.upP (t : List M.Nd) (k : Nat) (i : Nat) : Bool := decide (M.nf (M.nAt t i) ≠ -1) && (decide (M.nl (M.nAt t i) = (k : Int)) || decide (M.nr (M.nAt t i) = (k : Int)))
theorem M.up_hit {t : List M.Nd} {k i : Nat} (hi : i < t.length) (hp : M.upP t k i = true) (hj : ∀ j, j < i → M.upP t k j = false) : M.upI t k = (i : Int) := by
  unfold M.upI
  have : M.abv t k = some i := M.first_hit (p := M.upP t k) hp hj hi
  rw [this]
theorem M.up_miss {t : List M.Nd} {k : Nat} (hj : ∀ j, j < t.length → M.upP t k j = false) : M.upI t k = -1 := by
  unfold M.upI
  have : M.abv t k = none := M.first_miss (p := M.upP t k) hj
  rw [this]

set_option maxHeartbeats 2000000 in
theorem up_any (a0 : Option Addr) (ts : List M.Nd) (cap k : Nat) (w : World) (h : RdN w a0 ts) :
    Calls Tryd.prog 63 #[.slice a0 ts.length cap, .int .i64 (k : Nat)] w fun e w' => e = .returned (.int .i64 (M.upI ts k)) ∧ w' = w := by
  have hm : ts.length ≤ 9223372036854775807 := h.1
  have HR := hide h.2
  have UH : Hid (∀ i, i < ts.length → M.upP ts k i = true → (∀ j, j < i → M.upP ts k j = false) → M.upI ts k = (i : Int)) := fun i => M.up_hit
  have UM : Hid ((∀ j, j < ts.length → M.upP ts k j = false) → M.upI ts k = -1) := M.up_miss
  clear h
  generalize M.upI ts k = o at *
  go_enter Tryd.func63, Tryd.ntmps63
  go_wp2
  go_loop [5] (fun i => ∃ j : Nat, j ≤ ts.length ∧ i = .int .i64 j ∧ Hid (∀ p, p < j → M.upP ts k p = false)) (fun i => ts.length - (intOf i).toNat)
  case atStart => exact ⟨0, Nat.zero_le _, rfl, fun p hp => by omega⟩
  case round =>
    obtain ⟨j, hj, rfl, I⟩ := hrel
    by_cases hlt : j < ts.length
    · obtain ⟨b, off, rfl, hb, hc⟩ := HR.out (by intro e; subst e; simp at hlt)
      obtain ⟨s0, s1, s2, s3, s4, s5⟩ := hc j hlt
      have N : Hid (M.upP ts k j = false → ∀ p, p < j + 1 → M.upP ts k p = false) := fun hf p hp => by
        by_cases e : p = j
        · subst e; exact hf
        · exact I.out p (by omega)
      have HT : Hid (M.upP ts k j = true → o = (j : Int)) := fun ht => UH.out j hlt ht I.out
      have PE : Hid (M.upP ts k j = (decide (M.nf (M.nAt ts j) ≠ -1) && (decide (M.nl (M.nAt ts j) = (k : Int)) || decide (M.nr (M.nAt ts j) = (k : Int))))) := rfl
      clear hc UH UM
      generalize M.upP ts k j = pp at *
      generalize M.nf (M.nAt ts j) = f at *
      generalize M.nl (M.nAt ts j) = l at *
      generalize M.nr (M.nAt ts j) = r at *
      by_cases hf : f = -1
      · have q : (f != -1) = false := by rw [bne_eq_false_iff_eq]; exact hf
        have E := hide (N.out (by rw [PE.out]; simp [hf]))
        clear hf N HT PE
        go_wp2
        go_round
        case rel => exact ⟨j + 1, by omega, by go_num, E⟩
        case measure => simp [intOf]; omega
      · have q : (f != -1) = true := by rw [bne_iff_ne]; exact hf
        by_cases h1 : l = (k : Int)
        · have q1 : (l == (k : Int)) = true := by rw [beq_iff_eq]; exact h1
          have E := hide (HT.out (by rw [PE.out]; simp [hf, h1]))
          clear hf h1 N HT PE
          go_wp2
          go_ret
          exact ⟨ret_int E.out.symm, rfl⟩
        · have q1 : (l == (k : Int)) = false := by rw [beq_eq_false_iff_ne]; exact h1
          by_cases h2 : r = (k : Int)
          · have q2 : (r == (k : Int)) = true := by rw [beq_iff_eq]; exact h2
            have E := hide (HT.out (by rw [PE.out]; simp [hf, h2]))
            clear hf h1 h2 N HT PE
            go_wp2
            go_ret
            exact ⟨ret_int E.out.symm, rfl⟩
          · have q2 : (r == (k : Int)) = false := by rw [beq_eq_false_iff_ne]; exact h2
            have E := hide (N.out (by rw [PE.out]; simp [h1, h2]))
            clear hf h1 h2 N HT PE
            go_wp2
            go_round
            case rel => exact ⟨j + 1, by omega, by go_num, E⟩
            case measure => simp [intOf]; omega
    · have E := hide (UM.out fun p hp => I.out p (by omega))
      go_wp2
      go_ret
      exact ⟨ret_int E.out.symm, rfl⟩

end Go.Proofs.YtjnkkniefpmgdadDoor

namespace Go.Proofs.YtjnkkniefpmgdadDoor
open Go.ChangeShapes Go.WideShapes Go.ChangeAt Go.RowKit
set_option linter.unusedVariables false

theorem RdS.at {w : World} {b off : Nat} {ss : List M.Sp} (hc : ∀ i, i < ss.length → w.cell? ⟨b, off + i * 3, none⟩ = some (.int .i64 (ss.getD i (0, 0, false)).1) ∧ w.cell? ⟨b, off + i * 3 + 1, none⟩ = some (.int .i64 (ss.getD i (0, 0, false)).2.1) ∧ w.cell? ⟨b, off + i * 3 + 2, none⟩ = some (.bool (ss.getD i (0, 0, false)).2.2)) (k : Nat) (hk : k < ss.length) :
    w.cell? ⟨b, off + k * 3, none⟩ = some (.int .i64 ss[k].1) ∧ w.cell? ⟨b, off + k * 3 + 1, none⟩ = some (.int .i64 ss[k].2.1) ∧ w.cell? ⟨b, off + k * 3 + 2, none⟩ = some (.bool ss[k].2.2) := by
  have := hc k hk
  rw [M.getD_at hk] at this
  exact this
theorem M.any_no {ss : List M.Sp} {k : Nat} (hk : k < ss.length) (h : M.hasS ss[k] = false) : M.anyS ss = false := by
  unfold M.anyS
  rw [List.all_eq_false]
  exact ⟨_, List.getElem_mem hk, by simp [h]⟩
theorem M.any_yes {ss : List M.Sp} {k : Nat} (hk : ss.length ≤ k) (h : (ss.take k).all M.hasS = true) : M.anyS ss = true := by
  rw [List.take_of_length_le hk] at h; exact h
theorem M.all_next {ss : List M.Sp} {k : Nat} (hk : k < ss.length) (h : (ss.take k).all M.hasS = true) (hb : M.hasS ss[k] = true) : (ss.take (k + 1)).all M.hasS = true := by
  rw [List.take_succ_eq_append_getElem hk, List.all_append, h]; simp [hb]

set_option maxHeartbeats 2000000 in
theorem any_any (a : Option Addr) (ss : List M.Sp) (cap : Nat) (w : World) (h : RdS w a ss) :
    Calls Tryd.prog 42 #[.slice a ss.length cap] w fun e w' => e = .returned (.bool (M.anyS ss)) ∧ Below w.heap.size w w' := by
  have hm : ss.length ≤ 9223372036854775807 := h.1
  have HR := hide h.2
  have AN : Hid (∀ k (hk : k < ss.length), M.hasS ss[k] = false → M.anyS ss = false) := fun k => M.any_no
  have AY : Hid (∀ k, ss.length ≤ k → (ss.take k).all M.hasS = true → M.anyS ss = true) := fun k => M.any_yes
  clear h
  generalize M.anyS ss = o at *
  go_enter Tryd.func42, Tryd.ntmps42
  go_wp2
  go_loopw [3] (fun i wr => ∃ k : Nat, k ≤ ss.length ∧ i = .int .i64 k ∧ Hid ((ss.take k).all M.hasS = true) ∧ Below w.heap.size w wr) (fun i _ => ss.length - (intOf i).toNat)
  case atStart => exact ⟨0, Nat.zero_le _, rfl, by unfold Hid; simp, Below.refl _ _⟩
  case round =>
    obtain ⟨k, hk, rfl, I, hbl⟩ := hrel
    by_cases hlt : k < ss.length
    · obtain ⟨b, off, rfl, hb, hc0⟩ := HR.out (by intro e; subst e; simp at hlt)
      obtain ⟨c0, c1, c2⟩ := RdS.at hc0 k hlt
      have s0 := (hbl.cell (p := ⟨b, off + k * 3, none⟩) hb).trans c0
      have s1 := (hbl.cell (p := ⟨b, off + k * 3 + 1, none⟩) hb).trans c1
      have s2 := (hbl.cell (p := ⟨b, off + k * 3 + 2, none⟩) hb).trans c2
      have NX : Hid (M.hasS ss[k] = true → (ss.take (k + 1)).all M.hasS = true) := fun q => M.all_next hlt I.out q
      have HN : Hid (M.hasS ss[k] = false → o = false) := AN.out k hlt
      have HE : Hid (M.hasS ss[k] = (decide (ss[k].1 ≤ ss[k].2.1) || ss[k].2.2)) := rfl
      clear hc0 c0 c1 c2 AN AY I
      generalize M.hasS ss[k] = hs at *
      generalize ss[k].1 = lo at *
      generalize ss[k].2.1 = hi at *
      generalize ss[k].2.2 = nl at *
      by_cases hg : hi < lo
      · have q : decide (hi < lo) = true := decide_eq_true hg
        cases nl with
        | true =>
          have E := hide (NX.out (by rw [HE.out]; simp))
          clear hg NX HN HE
          go_wp2
          go_quiet (fail)
          go_wp2
          go_roundw
          case rel => exact ⟨k + 1, by omega, by go_num, E, below_drew hbl _ hbl.size⟩
          case measure => simp [intOf]; omega
        | false =>
          have E := hide (HN.out (by rw [HE.out, decide_eq_false (by omega)]; rfl))
          clear hg NX HN HE
          go_wp2
          go_quiet (fail)
          go_wp2
          go_ret
          exact ⟨ret_bool E.out.symm, below_drew hbl _ hbl.size⟩
      · have q : decide (hi < lo) = false := decide_eq_false hg
        have E := hide (NX.out (by rw [HE.out, decide_eq_true (by omega)]; rfl))
        clear hg NX HN HE
        go_wp2
        go_quiet (fail)
        go_wp2
        go_roundw
        case rel => exact ⟨k + 1, by omega, by go_num, E, below_drew hbl _ hbl.size⟩
        case measure => simp [intOf]; omega
    · have E := hide (AY.out k (by omega) I.out)
      go_wp2
      go_ret
      exact ⟨ret_bool E.out.symm, hbl⟩

end Go.Proofs.YtjnkkniefpmgdadDoor

namespace Go.Proofs.YtjnkkniefpmgdadDoor
open Go.ChangeShapes Go.WideShapes Go.ChangeAt Go.RowKit
set_option linter.unusedVariables false

theorem M.reg_enough {t : List M.Nd} {m : Int} (F : M.Fair t m) : ∀ (f g k : Nat) (l : List M.Sp), k < t.length → k < f → k < g → M.regD t f k l = M.regD t g k l
  | 0, g, k, l, hk, hf, hg => by omega
  | f + 1, 0, k, l, hk, hf, hg => by omega
  | f + 1, g + 1, k, l, hk, hf, hg => by
    unfold M.regD
    cases e : M.abv t k with
    | none => rfl
    | some u =>
      have h1 := ((M.abv_iff F hk).1 e).1
      have h2 := M.abv_lt F hk e
      exact M.reg_enough F f g u _ h1 (by omega) (by omega)
theorem M.reg_none {t : List M.Nd} {k : Nat} {l : List M.Sp} (e : M.abv t k = none) : M.regD t t.length k l = l := by
  cases h : t.length with
  | zero => rfl
  | succ n => unfold M.regD; rw [e]
theorem M.reg_step {t : List M.Nd} {m : Int} (F : M.Fair t m) {k u : Nat} {l : List M.Sp} (hk : k < t.length) (e : M.abv t k = some u) :
    M.regD t t.length k l = M.regD t t.length u (l.set (M.nf (M.nAt t u)).toNat (M.narrow (M.nAt t u) (decide (M.nl (M.nAt t u) = (k : Int))) (l.getD (M.nf (M.nAt t u)).toNat (0, 0, false)))) := by
  have h1 := ((M.abv_iff F hk).1 e).1
  have h2 := M.abv_lt F hk e
  obtain ⟨f, q⟩ : ∃ f, t.length = f + 1 := ⟨t.length - 1, by omega⟩
  rw [show M.regD t t.length k l = M.regD t f u (l.set (M.nf (M.nAt t u)).toNat (M.narrow (M.nAt t u) (decide (M.nl (M.nAt t u) = (k : Int))) (l.getD (M.nf (M.nAt t u)).toNat (0, 0, false)))) by rw [q]; conv => lhs; unfold M.regD; rw [e]]
  exact M.reg_enough F f t.length u _ h1 (by omega) (by omega)
theorem M.up_none {t : List M.Nd} {k : Nat} (e : M.abv t k = none) : M.upI t k = -1 := by unfold M.upI; rw [e]
theorem M.up_some' {t : List M.Nd} {k u : Nat} (e : M.abv t k = some u) : M.upI t k = (u : Int) := by unfold M.upI; rw [e]
theorem own_shape3 {w : World} {base n e size : Nat} {v : Value} {l : List Value} (h : w.ownsRow base e size v n l) (hn : 0 < n) : ∃ g cap, v = .slice (some ⟨g, 0, none⟩) n cap ∧ base ≤ g ∧ g < w.heap.size := by
  rcases h.2 with ⟨_, h0⟩ | ⟨g, cap, cur, hv, hb, hg, _⟩
  · omega
  · exact ⟨g, cap, hv, hb, (Array.getElem?_eq_some_iff.1 hg).1⟩
/-- the cells of a span in such a row, behind new blocks -/
theorem own_spanAt {w : World} {base n g cap : Nat} {ss : List M.Sp} (h : w.ownsRow base 96 3 (.slice (some ⟨g, 0, none⟩) n cap) n (spCells ss)) (hn : ss.length = n) {i : Nat} (hi : i < ss.length) :
    w.cell? ⟨g, i * 3, none⟩ = some (.int .i64 ss[i].1) ∧ w.cell? ⟨g, i * 3 + 1, none⟩ = some (.int .i64 ss[i].2.1) ∧ w.cell? ⟨g, i * 3 + 2, none⟩ = some (.bool ss[i].2.2) := by
  obtain ⟨q0, q1, q2⟩ := spCells_at ss i hi
  rw [M.getD_at hi] at q0 q1 q2
  exact ⟨(h.cellAt (i * 3) (by omega)).trans q0, (h.cellAt (i * 3 + 1) (by omega)).trans q1, (h.cellAt (i * 3 + 2) (by omega)).trans q2⟩

set_option maxHeartbeats 16000000 in
set_option maxRecDepth 10000 in
theorem rregion_any (a0 : Option Addr) (ts : List M.Nd) (cap m k : Nat) (w : World) (h : RdN w a0 ts) (F : M.Fair ts (m : Int)) (hk : k < ts.length) :
    Calls Tryd.prog 41 #[.slice a0 ts.length cap, .int .i64 (m : Nat), .int .i64 (k : Nat)] w fun e w' => ∃ v, e = .returned v ∧ w'.ownsRow w.heap.size 96 3 v m (spCells (M.region ts m k)) ∧ Below w.heap.size w w' := by
  have hm : ts.length ≤ 9223372036854775807 := h.1
  have m8 : m ≤ 8 := by have := F.2.2.2.1; omega
  have l63 := F.1
  have HT := hide h
  have HF := hide F
  have R0 : Hid (M.regD ts ts.length k (List.replicate m M.all0) = M.region ts m k) := rfl
  have CU := hide (fun q W (hW : Below w.heap.size w W) => up_any a0 ts cap q W (h.below hW))
  obtain ⟨i0, hi, hz0, hz1, hz2⟩ := info_parts info33
  have I0 := hide hi
  clear h F hi
  generalize M.region ts m k = V at *
  go_enter Tryd.func41, Tryd.ntmps41
  go_wp2
  go_loopw [7, 8] (fun v i wr => ∃ j : Nat, j ≤ m ∧ i = .int .i64 j ∧ wr.ownsRow w.heap.size 96 3 v j (spCells (List.replicate j M.all0)) ∧ Below w.heap.size w wr) (fun _ i _ => m - (intOf i).toNat)
  case atStart => exact ⟨0, Nat.zero_le _, rfl, World.ownsRow_nil _ _ _ _, Below.refl _ _⟩
  case round =>
    obtain ⟨j, hj, rfl, hown, hbl⟩ := hrel
    rename_i u7
    have HO := hide hown
    have kw := hbl.size
    clear hown
    by_cases hlt : j < m
    · have NX : Hid (spCells (List.replicate (j + 1) M.all0) = spCells (List.replicate j M.all0) ++ [.int .i64 (-1000000), .int .i64 1000000, .bool true]) := by
        unfold Hid; rw [List.replicate_succ', spCells_snoc]; rfl
      go_wp2_with (at_builtin; refine wpList_append_lies _ rfl (.tmp 18) (.tmp 20) 77 rfl w.heap.size 96 i0 (.agg #[.int .i64 0, .int .i64 0, .bool false]) 3 24 Tryd.underlying77 I0.out hz0 hz1 hz2 rfl (by omega) u7 j (spCells (List.replicate j M.all0)) rfl (HO.out.alloc _) ⟨wr.heap.size, 0, none⟩ 1 1 [.int .i64 (-1000000), .int .i64 1000000, .bool true] rfl rfl (World.news_of_block (heap_alloc_new _ _)) (by simp [Value.oneCell']) (by omega) (by unfold maxLen; omega) (by omega) (by simp; omega) (wr.heap.size + 1) (by simp) ?_)
      intro g cap2 w5 hov hgrow hat hlt5
      have hb5 : Below w.heap.size w w5 := (hbl.alloc hbl.size _).grown hgrow (by simp; omega) (fun k hk => (HO.out.lt k hk).1)
      have HO5 : Hid (w5.ownsRow w.heap.size 96 3 (.slice (some ⟨g, 0, none⟩) (j + 1) cap2) (j + 1) (spCells (List.replicate (j + 1) M.all0))) := by
        unfold Hid; rw [NX.out]; exact hov
      clear hov hgrow hat
      go_wp2
      go_roundw
      case rel => exact ⟨j + 1, by omega, by go_num, HO5.out, hb5⟩
      case measure => simp [intOf]; omega
    · have hjm : j = m := by omega
      subst hjm
      have U1 := hide (CU.out k wr hbl)
      go_wp2_with (go_at_call 63; refine U1.out.mono ?_; rintro e w1 ⟨rfl, rfl⟩)
      go_loopw [9, 10] (fun kk up wx => ∃ (q : Nat) (l : List M.Sp), q < ts.length ∧ l.length = j ∧ kk = .int .i64 q ∧ up = .int .i64 (M.upI ts q) ∧ Hid (M.regD ts ts.length q l = V) ∧ wx.ownsRow w.heap.size 96 3 u7 j (spCells l) ∧ Below w.heap.size w wx) (fun kk _ _ => (intOf kk).toNat)
      case atStart => exact ⟨k, List.replicate j M.all0, hk, by simp, rfl, rfl, R0, HO.out, hbl⟩
      case round =>
        clear U1 HO R0 hbl kw
        obtain ⟨q, l, hq, hl, rfl, rfl, I, hown, hbl⟩ := hrel
        cases e : M.abv ts q with
        | none =>
          have EV : Hid (V = l) := by unfold Hid; rw [← I.out, M.reg_none e]
          have HO := hide hown
          rw [M.up_none e]
          clear e hown I
          go_wp2
          go_ret
          exact ⟨u7, rfl, by rw [EV.out]; exact HO.out, hbl⟩
        | some u =>
          obtain ⟨h1, h2⟩ := (M.abv_iff HF.out hq).1 e
          have hu := M.abv_lt HF.out hq e
          rw [M.up_some' e]
          have na := M.node_ask (HF.out.2.2.2.2.1 u h1) h2.1
          have hc := M.out_false na.2.2.1
          obtain ⟨fi, hfi⟩ : ∃ fi : Nat, M.nf (M.nAt ts u) = fi := ⟨(M.nf (M.nAt ts u)).toNat, by have := na.1; omega⟩
          have hfl : fi < l.length := by have := na.2.1; omega
          obtain ⟨g, cap2, rfl, hg1, hg2⟩ := own_shape3 hown (by omega)
          obtain ⟨p0, p1, p2⟩ := own_spanAt hown hl hfl
          have z0 := hown.frozenAt (fi * 3)
          have z1 := hown.frozenAt (fi * 3 + 1)
          have z2 := hown.frozenAt (fi * 3 + 2)
          have NR : Hid (M.regD ts ts.length u (l.set fi (M.narrow (M.nAt ts u) (decide (M.nl (M.nAt ts u) = (q : Int))) l[fi])) = V) := by
            unfold Hid
            have := M.reg_step HF.out (l := l) hq e
            rw [hfi, Int.toNat_natCast, M.getD_at hfl] at this
            rw [← this]; exact I.out
          obtain ⟨b0, off, rfl, hb0, hc6⟩ := (HT.out.below hbl).2 (by intro e; subst e; simp at hq)
          obtain ⟨s0, s1, s2, s3, s4, s5⟩ := hc6 u h1
          rw [hfi] at s0
          have OS : Hid (∀ (o1 o2 : Obj) (s : M.Sp), (((((wr.setCell ⟨g, fi * 3, none⟩ (.int .i64 s.1)).setCell ⟨g, fi * 3 + 1, none⟩ (.int .i64 s.2.1)).setCell ⟨g, fi * 3 + 2, none⟩ (.bool s.2.2)).alloc o1).alloc o2).ownsRow w.heap.size 96 3 (.slice (some ⟨g, 0, none⟩) j cap2) j (spCells (l.set fi s))) := fun o1 o2 s => ((own_setS hown fi s).alloc o1).alloc o2
          have BS : Hid (∀ (o1 o2 : Obj) (s : M.Sp), Below w.heap.size w (((((wr.setCell ⟨g, fi * 3, none⟩ (.int .i64 s.1)).setCell ⟨g, fi * 3 + 1, none⟩ (.int .i64 s.2.1)).setCell ⟨g, fi * 3 + 2, none⟩ (.bool s.2.2)).alloc o1).alloc o2)) := fun o1 o2 s => by
            have k1 := ((hbl.setCell (p := ⟨g, fi * 3, none⟩) hg1 (.int .i64 s.1)).setCell (p := ⟨g, fi * 3 + 1, none⟩) hg1 (.int .i64 s.2.1)).setCell (p := ⟨g, fi * 3 + 2, none⟩) hg1 (.bool s.2.2)
            exact (k1.alloc k1.size o1).alloc (k1.alloc k1.size o1).size o2
          have NW : Hid (∀ b s, M.narrow (M.nAt ts u) b s = if b = true then (s.1, if M.nc (M.nAt ts u) - 1 < s.2.1 then M.nc (M.nAt ts u) - 1 else s.2.1, s.2.2 && M.ns (M.nAt ts u)) else (if s.1 < M.nc (M.nAt ts u) then M.nc (M.nAt ts u) else s.1, s.2.1, s.2.2 && !M.ns (M.nAt ts u))) := fun b s => rfl
          have CU2 := hide (fun W (hW : Below w.heap.size w W) => CU.out u W hW)
          have ln : (l.set fi (M.narrow (M.nAt ts u) (decide (M.nl (M.nAt ts u) = (q : Int))) l[fi])).length = j := by rw [List.length_set]; exact hl
          have LN := hide ln
          obtain ⟨hc1, hc2⟩ := hc
          have fz : (fi : Int) < (j : Int) := by omega
          have uz : (u : Int) < (ts.length : Int) := by omega
          clear ln na hc6 hown I e h2 hfi CU HF HT
          rw [NW.out] at NR LN
          clear NW
          generalize M.nf (M.nAt ts u) = f at *
          generalize M.nc (M.nAt ts u) = c at *
          generalize M.nl (M.nAt ts u) = ll at *
          generalize M.nr (M.nAt ts u) = rr at *
          generalize M.ns (M.nAt ts u) = sl at *
          generalize M.nv (M.nAt ts u) = vv at *
          generalize l[fi].1 = lo at *
          generalize l[fi].2.1 = hi at *
          generalize l[fi].2.2 = nl at *
          by_cases hL : ll = (q : Int)
          · have qL : (ll == (q : Int)) = true := by rw [beq_iff_eq]; exact hL
            by_cases hC : c - 1 < hi
            · have qC : decide (c - 1 < hi) = true := decide_eq_true hC
              cases nl with
              | true =>
                have NR2 : Hid (M.regD ts ts.length u (l.set fi (lo, c - 1, sl)) = V) := by unfold Hid; rw [← NR.out]; simp [hL, hC]
                have LN2 : Hid ((l.set fi (lo, c - 1, sl)).length = j) := by unfold Hid; rw [List.length_set]; exact hl
                clear NR LN hL hC
                go_wp2_with (go_at_call 63; refine (CU2.out _ (BS.out _ _ (lo, c - 1, sl))).mono ?_; rintro e w1 ⟨rfl, rfl⟩)
                go_roundw
                case rel => exact ⟨u, l.set fi (lo, c - 1, sl), h1, LN2.out, rfl, rfl, NR2.out, OS.out _ _ (lo, c - 1, sl), BS.out _ _ (lo, c - 1, sl)⟩
                case measure => simp [intOf]; omega
              | false =>
                have NR2 : Hid (M.regD ts ts.length u (l.set fi (lo, c - 1, false)) = V) := by unfold Hid; rw [← NR.out]; simp [hL, hC]
                have LN2 : Hid ((l.set fi (lo, c - 1, false)).length = j) := by unfold Hid; rw [List.length_set]; exact hl
                clear NR LN hL hC
                go_wp2_with (go_at_call 63; refine (CU2.out _ (BS.out _ _ (lo, c - 1, false))).mono ?_; rintro e w1 ⟨rfl, rfl⟩)
                go_roundw
                case rel => exact ⟨u, l.set fi (lo, c - 1, false), h1, LN2.out, rfl, rfl, NR2.out, OS.out _ _ (lo, c - 1, false), BS.out _ _ (lo, c - 1, false)⟩
                case measure => simp [intOf]; omega
            · have qC : decide (c - 1 < hi) = false := decide_eq_false hC
              cases nl with
              | true =>
                have NR2 : Hid (M.regD ts ts.length u (l.set fi (lo, hi, sl)) = V) := by unfold Hid; rw [← NR.out]; simp [hL, hC]
                have LN2 : Hid ((l.set fi (lo, hi, sl)).length = j) := by unfold Hid; rw [List.length_set]; exact hl
                clear NR LN hL hC
                go_wp2_with (go_at_call 63; refine (CU2.out _ (BS.out _ _ (lo, hi, sl))).mono ?_; rintro e w1 ⟨rfl, rfl⟩)
                go_roundw
                case rel => exact ⟨u, l.set fi (lo, hi, sl), h1, LN2.out, rfl, rfl, NR2.out, OS.out _ _ (lo, hi, sl), BS.out _ _ (lo, hi, sl)⟩
                case measure => simp [intOf]; omega
              | false =>
                have NR2 : Hid (M.regD ts ts.length u (l.set fi (lo, hi, false)) = V) := by unfold Hid; rw [← NR.out]; simp [hL, hC]
                have LN2 : Hid ((l.set fi (lo, hi, false)).length = j) := by unfold Hid; rw [List.length_set]; exact hl
                clear NR LN hL hC
                go_wp2_with (go_at_call 63; refine (CU2.out _ (BS.out _ _ (lo, hi, false))).mono ?_; rintro e w1 ⟨rfl, rfl⟩)
                go_roundw
                case rel => exact ⟨u, l.set fi (lo, hi, false), h1, LN2.out, rfl, rfl, NR2.out, OS.out _ _ (lo, hi, false), BS.out _ _ (lo, hi, false)⟩
                case measure => simp [intOf]; omega
          · have qL : (ll == (q : Int)) = false := by rw [beq_eq_false_iff_ne]; exact hL
            by_cases hC : lo < c
            · have qC : decide (lo < c) = true := decide_eq_true hC
              cases nl with
              | true =>
                have NR2 : Hid (M.regD ts ts.length u (l.set fi (c, hi, !sl)) = V) := by unfold Hid; rw [← NR.out]; simp [hL, hC]
                have LN2 : Hid ((l.set fi (c, hi, !sl)).length = j) := by unfold Hid; rw [List.length_set]; exact hl
                clear NR LN hL hC
                go_wp2_with (go_at_call 63; refine (CU2.out _ (BS.out _ _ (c, hi, !sl))).mono ?_; rintro e w1 ⟨rfl, rfl⟩)
                go_roundw
                case rel => exact ⟨u, l.set fi (c, hi, !sl), h1, LN2.out, rfl, rfl, NR2.out, OS.out _ _ (c, hi, !sl), BS.out _ _ (c, hi, !sl)⟩
                case measure => simp [intOf]; omega
              | false =>
                have NR2 : Hid (M.regD ts ts.length u (l.set fi (c, hi, false)) = V) := by unfold Hid; rw [← NR.out]; simp [hL, hC]
                have LN2 : Hid ((l.set fi (c, hi, false)).length = j) := by unfold Hid; rw [List.length_set]; exact hl
                clear NR LN hL hC
                go_wp2_with (go_at_call 63; refine (CU2.out _ (BS.out _ _ (c, hi, false))).mono ?_; rintro e w1 ⟨rfl, rfl⟩)
                go_roundw
                case rel => exact ⟨u, l.set fi (c, hi, false), h1, LN2.out, rfl, rfl, NR2.out, OS.out _ _ (c, hi, false), BS.out _ _ (c, hi, false)⟩
                case measure => simp [intOf]; omega
            · have qC : decide (lo < c) = false := decide_eq_false hC
              cases nl with
              | true =>
                have NR2 : Hid (M.regD ts ts.length u (l.set fi (lo, hi, !sl)) = V) := by unfold Hid; rw [← NR.out]; simp [hL, hC]
                have LN2 : Hid ((l.set fi (lo, hi, !sl)).length = j) := by unfold Hid; rw [List.length_set]; exact hl
                clear NR LN hL hC
                go_wp2_with (go_at_call 63; refine (CU2.out _ (BS.out _ _ (lo, hi, !sl))).mono ?_; rintro e w1 ⟨rfl, rfl⟩)
                go_roundw
                case rel => exact ⟨u, l.set fi (lo, hi, !sl), h1, LN2.out, rfl, rfl, NR2.out, OS.out _ _ (lo, hi, !sl), BS.out _ _ (lo, hi, !sl)⟩
                case measure => simp [intOf]; omega
              | false =>
                have NR2 : Hid (M.regD ts ts.length u (l.set fi (lo, hi, false)) = V) := by unfold Hid; rw [← NR.out]; simp [hL, hC]
                have LN2 : Hid ((l.set fi (lo, hi, false)).length = j) := by unfold Hid; rw [List.length_set]; exact hl
                clear NR LN hL hC
                go_wp2_with (go_at_call 63; refine (CU2.out _ (BS.out _ _ (lo, hi, false))).mono ?_; rintro e w1 ⟨rfl, rfl⟩)
                go_roundw
                case rel => exact ⟨u, l.set fi (lo, hi, false), h1, LN2.out, rfl, rfl, NR2.out, OS.out _ _ (lo, hi, false), BS.out _ _ (lo, hi, false)⟩
                case measure => simp [intOf]; omega

end Go.Proofs.YtjnkkniefpmgdadDoor

namespace Go.Proofs.YtjnkkniefpmgdadDoor
open Go.ChangeShapes Go.WideShapes Go.ChangeAt Go.RowKit Go.Lib
set_option linter.unusedVariables false

/-- a tree that became of another one -/
structure Less2 (m : Nat) (T T' : M.BT) : Prop where
  prn : M.prn (M.vld m) T' = M.prn (M.vld m) T
  size : T'.size < T.size
  deep : T'.deep ≤ T.deep
  ok : M.okB (m : Int) T'

/-- Sort behind nothing -/
theorem rsort_new (ts : List M.Nd) (m : Int) (hR : M.Right ts m) (l63 : ts.length ≤ 63) (bt ot cap i : Nat) (hi : i < ts.length) (w : World) (hbt : bt < w.heap.size) (hct : ∀ j, j < ts.length → SixAt w bt (ot + j * 6) (M.nAt ts j)) (hs : (M.bt ts i).size ≤ 1000) :
    Calls Tryd.prog 20 #[.slice (some ⟨bt, ot, none⟩) ts.length cap, .int .i64 (i : Nat), .slice none 0 0] w fun e w' => ∃ a c, e = .returned (.slice a (M.bt ts i).size c) ∧ RdN w' a (M.lay (M.bt ts i) 0) ∧ (∀ p, a = some p → w.heap.size ≤ p.block) ∧ Below w.heap.size w w' := by
  refine (rsort_any ts m hR l63 bt ot cap w.heap.size ts.length i hi (by omega) [] none 0 w hbt hct (fun e => by cases e) (World.ownsRow_nil _ _ _ _) (Nat.le_refl _) (by simpa using hs)).mono ?_
  rintro e w' ⟨g, c, rfl, ho, hg, ha⟩
  simp only [List.length_nil, Nat.zero_add, List.nil_append] at ho ⊢
  obtain ⟨a, cp, e2, hr, hp⟩ := own_rdN (M.lay_len _ _) (by unfold maxLen; omega) ho
  cases e2
  exact ⟨_, c, rfl, hr, hp, ⟨hg.os, hg.tape, hg.output, hg.size, fun k hk => hg.block k hk (fun e => by cases e)⟩⟩

set_option maxHeartbeats 8000000 in
set_option maxRecDepth 10000 in
theorem rgive_any (a0 : Option Addr) (ts : List M.Nd) (cap m at' tt : Nat) (w : World) (h : RdN w a0 ts) (F : M.Fair ts (m : Int)) (hat : at' < ts.length) (hto : tt < ts.length) (hc : M.chL (M.nAt ts at') (tt : Nat)) (he : M.prn (M.Pw ts m at') (M.bt ts tt) = M.prn (M.Pw ts m at') (M.bt ts at')) (hs : (M.bt ts 0).size ≤ 63) :
    Calls Tryd.prog 43 #[.slice a0 ts.length cap, .int .i64 (at' : Nat), .int .i64 (tt : Nat)] w fun e w' => ∃ T a c, e = .returned (.slice a T.size c) ∧ RdN w' a (M.lay T 0) ∧ Less2 m (M.bt ts 0) T ∧ (∀ p, a = some p → w.heap.size ≤ p.block) ∧ Below w.heap.size w w' := by
  have hR := F.2.2.2.2.1
  have l63 := F.1
  have l0 := F.2.1
  obtain ⟨bt, ot, rfl, hbt, hct⟩ := h.2 (by intro e; rw [e] at l0; simp at l0)
  have CU := hide (fun W (hW : Below w.heap.size w W) => up_any (some ⟨bt, ot, none⟩) ts cap at' W (h.below hW))
  obtain ⟨j0, hj, hy0, hy1, hy2⟩ := info_parts infoN
  have J0 := hide hj
  have SR := hide (nd_src hct)
  rcases Nat.eq_zero_or_pos at' with h0 | h0
  · subst h0
    have eu : M.upI ts 0 = -1 := M.up_none (M.abv_root F)
    rw [eu] at CU
    have LS : Hid (Less2 m (M.bt ts 0) (M.bt ts tt)) := by
      have sl := M.side_lt hR hat hc
      refine ⟨?_, sl.1, sl.2, M.bt_ok hR ts.length tt hto (by omega)⟩
      rw [M.pw_root F] at he
      exact he
    have hs2 : (M.bt ts tt).size ≤ 63 := by have := (M.side_lt hR hat hc).1; omega
    have CS := hide (fun W (hW : Below w.heap.size w W) => rsort_new ts (m : Int) hR l63 bt ot cap tt hto W (Nat.lt_of_lt_of_le hbt hW.size) (fun j hj => (hct j hj).below hW hbt) (by omega))
    clear h F hR hct hc he hj hs hs2 eu
    generalize M.bt ts tt = T at *
    generalize M.bt ts 0 = T0 at *
    go_enter Tryd.func43, Tryd.ntmps43
    go_wp2_with (first
      | (at_builtin; refine wpList_append_lies _ rfl (.tmp 9) (.tmp 10) 29 rfl w.heap.size 28 j0 (.agg #[.int .i64 0, .int .i64 0, .int .i64 0, .int .i64 0, .bool false, .int .i64 0]) 6 48 Tryd.underlying29 J0.out hy0 hy1 hy2 rfl (by omega) (.slice none 0 0) 0 [] rfl (World.ownsRow_nil _ _ _ _) ⟨bt, ot, none⟩ ts.length cap (ndCells ts) rfl (ndCells_len ts) SR.out (ndCells_one ts) (by omega) (by unfold maxLen; omega) (by omega) (Nat.le_refl _) w.heap.size rfl ?_; intro g c w1 hov hgrow hat hlt; have B1 : Below w.heap.size w w1 := ⟨hgrow.os, hgrow.tape, hgrow.output, hgrow.size, fun k hk => hgrow.block k hk (fun e => by cases e)⟩; clear hov hgrow hat)
      | (go_at_call 63; refine (CU.out _ B1).mono ?_; rintro e w2 ⟨rfl, e2⟩; subst w2)
      | (go_at_call 20; refine (CS.out _ B1).mono ?_; rintro e w3 ⟨a3, c3, rfl, hr3, hp3, hb3⟩; have HR3 := hide hr3; clear hr3))
    go_ret
    exact ⟨T, a3, c3, rfl, HR3.out, LS.out, fun p hp => Nat.le_trans B1.size (hp3 p hp), below_on B1 hb3⟩
  · obtain ⟨up, hu⟩ := M.abv_some F hat h0
    have eu : M.upI ts at' = (up : Int) := M.up_some' hu
    rw [eu] at CU
    obtain ⟨hup, cup⟩ := (M.abv_iff F hat).1 hu
    have B : M.Below2 ts m up at' tt := ⟨F, hup, hat, hto, cup, hc⟩
    have LS : Hid (Less2 m (M.bt ts 0) (M.bt (ts.set up (M.turnN (M.nAt ts up) at' tt)) 0)) := ⟨B.same he, B.lt.1, B.lt.2.1, B.lt.2.2⟩
    have CS : Hid (∀ W g c, Below w.heap.size w W → W.ownsRow w.heap.size 28 6 (.slice (some ⟨g, 0, none⟩) ts.length c) ts.length (ndCells (ts.set up (M.turnN (M.nAt ts up) at' tt))) → Calls Tryd.prog 20 #[.slice (some ⟨g, 0, none⟩) ts.length c, .int .i64 0, .slice none 0 0] W fun e w' => ∃ a c, e = .returned (.slice a (M.bt (ts.set up (M.turnN (M.nAt ts up) at' tt)) 0).size c) ∧ RdN w' a (M.lay (M.bt (ts.set up (M.turnN (M.nAt ts up) at' tt)) 0) 0) ∧ (∀ p, a = some p → W.heap.size ≤ p.block) ∧ Below W.heap.size W w') := fun W g c hW ho => by
      have hlU : (ts.set up (M.turnN (M.nAt ts up) at' tt)).length = ts.length := List.length_set
      obtain ⟨a, cp, e, hr, hp⟩ := own_rdN hlU (by unfold maxLen; omega) ho
      cases e
      obtain ⟨b2, o2, e2, hl2, hc2⟩ := hr.2 (by intro q; rw [q] at hlU; simp at hlU; omega)
      cases e2
      have := rsort_new (ts.set up (M.turnN (M.nAt ts up) at' tt)) (m : Int) B.right (by rw [hlU]; exact l63) g 0 c 0 (by rw [hlU]; exact l0) W hl2 hc2 (by have := B.lt.1; omega)
      rw [hlU] at this
      exact this
    have upz : ¬ ((up : Int) < 0) := by omega
    have upl : (up : Int) < (ts.length : Int) := by omega
    by_cases c : M.nl (M.nAt ts up) = (at' : Int)
    · have t1 : (M.nl (M.nAt ts up) == (at' : Int)) = true := by rw [beq_iff_eq]; exact c
      rw [show M.turnN (M.nAt ts up) at' tt = (M.nf (M.nAt ts up), M.nc (M.nAt ts up), (tt : Int), M.nr (M.nAt ts up), M.ns (M.nAt ts up), M.nv (M.nAt ts up)) by unfold M.turnN; rw [if_pos c]] at LS
      have UE : Hid (M.turnN (M.nAt ts up) at' tt = (M.nf (M.nAt ts up), M.nc (M.nAt ts up), (tt : Int), M.nr (M.nAt ts up), M.ns (M.nAt ts up), M.nv (M.nAt ts up))) := by unfold Hid M.turnN; rw [if_pos c]
      rw [UE.out] at CS
      have STL : Hid (∀ (W : World) (g c : Nat), W.ownsRow w.heap.size 28 6 (.slice (some ⟨g, 0, none⟩) ts.length c) ts.length (ndCells ts) → (W.setCell ⟨g, up * 6 + 2, none⟩ (.int .i64 (tt : Int))).ownsRow w.heap.size 28 6 (.slice (some ⟨g, 0, none⟩) ts.length c) ts.length (ndCells (ts.set up (M.nf (M.nAt ts up), M.nc (M.nAt ts up), (tt : Int), M.nr (M.nAt ts up), M.ns (M.nAt ts up), M.nv (M.nAt ts up))))) := fun W g c ho => by
        have st := (ho.stored (up * 6 + 2) (.int .i64 (tt : Int))).1
        rw [ndCells_setL ts up hup] at st
        exact st
      have CEL : Hid (∀ (W : World) (g c : Nat), W.ownsRow w.heap.size 28 6 (.slice (some ⟨g, 0, none⟩) ts.length c) ts.length (ndCells ts) → W.cell? ⟨g, up * 6 + 2, none⟩ = some (.int .i64 (M.nl (M.nAt ts up))) ∧ W.cell? ⟨g, up * 6 + 3, none⟩ = some (.int .i64 (M.nr (M.nAt ts up))) ∧ W.frozen? ⟨g, up * 6 + 2, none⟩ = false) := fun W g c ho => by
        obtain ⟨x0, x1, x2, x3, x4, x5⟩ := ndCells_at ts up hup
        exact ⟨(ho.cellAt (up * 6 + 2) (by omega)).trans x2, (ho.cellAt (up * 6 + 3) (by omega)).trans x3, ho.frozenAt _⟩
      generalize ts.set up (M.nf (M.nAt ts up), M.nc (M.nAt ts up), (tt : Int), M.nr (M.nAt ts up), M.ns (M.nAt ts up), M.nv (M.nAt ts up)) = U at *
      clear h F hR hct hc he hj hs eu B cup hu c
      generalize M.nl (M.nAt ts up) = nl at *
      generalize M.nr (M.nAt ts up) = nr at *
      generalize M.bt U 0 = T at *
      generalize M.bt ts 0 = T0 at *
      go_enter Tryd.func43, Tryd.ntmps43
      go_wp2_with (first
        | (at_builtin; refine wpList_append_lies _ rfl (.tmp 9) (.tmp 10) 29 rfl w.heap.size 28 j0 (.agg #[.int .i64 0, .int .i64 0, .int .i64 0, .int .i64 0, .bool false, .int .i64 0]) 6 48 Tryd.underlying29 J0.out hy0 hy1 hy2 rfl (by omega) (.slice none 0 0) 0 [] rfl (World.ownsRow_nil _ _ _ _) ⟨bt, ot, none⟩ ts.length cap (ndCells ts) rfl (ndCells_len ts) SR.out (ndCells_one ts) (by omega) (by unfold maxLen; omega) (by omega) (Nat.le_refl _) w.heap.size rfl ?_; intro g c w1 hov hgrow hat hlt; have B1 : Below w.heap.size w w1 := ⟨hgrow.os, hgrow.tape, hgrow.output, hgrow.size, fun k hk => hgrow.block k hk (fun e => by cases e)⟩; rw [Nat.zero_add, List.nil_append] at hov; have HO1 := hide hov; have gB := (hov.lt g rfl).1; have CE1 := CEL.out w1 g c hov; have y2 := CE1.1; have y3 := CE1.2.1; have yf := CE1.2.2; have HS1 := hide (STL.out w1 g c hov); clear hov hgrow hat CE1)
        | (go_at_call 63; refine (CU.out _ B1).mono ?_; rintro e w2 ⟨rfl, e2⟩; subst w2)
        | (go_at_call 20; refine (CS.out _ g c (B1.setCell (p := ⟨g, up * 6 + 2, none⟩) gB _) HS1.out).mono ?_; rintro e w3 ⟨a3, c3, rfl, hr3, hp3, hb3⟩; have HR3 := hide hr3; have B3 := below_on (B1.setCell (p := ⟨g, up * 6 + 2, none⟩) gB (.int .i64 (tt : Int))) hb3; clear hr3))
      go_ret
      exact ⟨T, a3, c3, rfl, HR3.out, LS.out, fun p hp => Nat.le_trans B1.size (by have := hp3 p hp; simpa using this), B3⟩
    · have t1 : (M.nl (M.nAt ts up) == (at' : Int)) = false := by rw [beq_eq_false_iff_ne]; exact c
      rw [show M.turnN (M.nAt ts up) at' tt = (M.nf (M.nAt ts up), M.nc (M.nAt ts up), M.nl (M.nAt ts up), (tt : Int), M.ns (M.nAt ts up), M.nv (M.nAt ts up)) by unfold M.turnN; rw [if_neg c]] at LS
      have UE : Hid (M.turnN (M.nAt ts up) at' tt = (M.nf (M.nAt ts up), M.nc (M.nAt ts up), M.nl (M.nAt ts up), (tt : Int), M.ns (M.nAt ts up), M.nv (M.nAt ts up))) := by unfold Hid M.turnN; rw [if_neg c]
      rw [UE.out] at CS
      have STL : Hid (∀ (W : World) (g c : Nat), W.ownsRow w.heap.size 28 6 (.slice (some ⟨g, 0, none⟩) ts.length c) ts.length (ndCells ts) → (W.setCell ⟨g, up * 6 + 3, none⟩ (.int .i64 (tt : Int))).ownsRow w.heap.size 28 6 (.slice (some ⟨g, 0, none⟩) ts.length c) ts.length (ndCells (ts.set up (M.nf (M.nAt ts up), M.nc (M.nAt ts up), M.nl (M.nAt ts up), (tt : Int), M.ns (M.nAt ts up), M.nv (M.nAt ts up))))) := fun W g c ho => by
        have st := (ho.stored (up * 6 + 3) (.int .i64 (tt : Int))).1
        rw [ndCells_setR ts up hup] at st
        exact st
      have CEL : Hid (∀ (W : World) (g c : Nat), W.ownsRow w.heap.size 28 6 (.slice (some ⟨g, 0, none⟩) ts.length c) ts.length (ndCells ts) → W.cell? ⟨g, up * 6 + 2, none⟩ = some (.int .i64 (M.nl (M.nAt ts up))) ∧ W.cell? ⟨g, up * 6 + 3, none⟩ = some (.int .i64 (M.nr (M.nAt ts up))) ∧ W.frozen? ⟨g, up * 6 + 3, none⟩ = false) := fun W g c ho => by
        obtain ⟨x0, x1, x2, x3, x4, x5⟩ := ndCells_at ts up hup
        exact ⟨(ho.cellAt (up * 6 + 2) (by omega)).trans x2, (ho.cellAt (up * 6 + 3) (by omega)).trans x3, ho.frozenAt _⟩
      generalize ts.set up (M.nf (M.nAt ts up), M.nc (M.nAt ts up), M.nl (M.nAt ts up), (tt : Int), M.ns (M.nAt ts up), M.nv (M.nAt ts up)) = U at *
      clear h F hR hct hc he hj hs eu B cup hu c
      generalize M.nl (M.nAt ts up) = nl at *
      generalize M.nr (M.nAt ts up) = nr at *
      generalize M.bt U 0 = T at *
      generalize M.bt ts 0 = T0 at *
      go_enter Tryd.func43, Tryd.ntmps43
      go_wp2_with (first
        | (at_builtin; refine wpList_append_lies _ rfl (.tmp 9) (.tmp 10) 29 rfl w.heap.size 28 j0 (.agg #[.int .i64 0, .int .i64 0, .int .i64 0, .int .i64 0, .bool false, .int .i64 0]) 6 48 Tryd.underlying29 J0.out hy0 hy1 hy2 rfl (by omega) (.slice none 0 0) 0 [] rfl (World.ownsRow_nil _ _ _ _) ⟨bt, ot, none⟩ ts.length cap (ndCells ts) rfl (ndCells_len ts) SR.out (ndCells_one ts) (by omega) (by unfold maxLen; omega) (by omega) (Nat.le_refl _) w.heap.size rfl ?_; intro g c w1 hov hgrow hat hlt; have B1 : Below w.heap.size w w1 := ⟨hgrow.os, hgrow.tape, hgrow.output, hgrow.size, fun k hk => hgrow.block k hk (fun e => by cases e)⟩; rw [Nat.zero_add, List.nil_append] at hov; have HO1 := hide hov; have gB := (hov.lt g rfl).1; have CE1 := CEL.out w1 g c hov; have y2 := CE1.1; have y3 := CE1.2.1; have yf := CE1.2.2; have HS1 := hide (STL.out w1 g c hov); clear hov hgrow hat CE1)
        | (go_at_call 63; refine (CU.out _ B1).mono ?_; rintro e w2 ⟨rfl, e2⟩; subst w2)
        | (go_at_call 20; refine (CS.out _ g c (B1.setCell (p := ⟨g, up * 6 + 3, none⟩) gB _) HS1.out).mono ?_; rintro e w3 ⟨a3, c3, rfl, hr3, hp3, hb3⟩; have HR3 := hide hr3; have B3 := below_on (B1.setCell (p := ⟨g, up * 6 + 3, none⟩) gB (.int .i64 (tt : Int))) hb3; clear hr3))
      go_ret
      exact ⟨T, a3, c3, rfl, HR3.out, LS.out, fun p hp => Nat.le_trans B1.size (by have := hp3 p hp; simpa using this), B3⟩

end Go.Proofs.YtjnkkniefpmgdadDoor

namespace Go.Proofs.YtjnkkniefpmgdadDoor
open Go.ChangeShapes Go.WideShapes Go.ChangeAt Go.RowKit Go.Lib
set_option linter.unusedVariables false

/-- how long a slice is -/
def lenOf : Value → Nat | .slice _ n _ => n | _ => 0
/-- a node that cannot give way -/
def Irr (L : List M.Nd) (m i : Nat) : Prop := M.nf (M.nAt L i) ≠ -1 → M.anyS (M.region L m (M.nl (M.nAt L i)).toNat) = true ∧ M.anyS (M.region L m (M.nr (M.nAt L i)).toNat) = true ∧ ¬ (M.nf (M.nAt L (M.nl (M.nAt L i)).toNat) = -1 ∧ M.nf (M.nAt L (M.nr (M.nAt L i)).toNat) = -1 ∧ M.nv (M.nAt L (M.nl (M.nAt L i)).toNat) = M.nv (M.nAt L (M.nr (M.nAt L i)).toNat))
/-- a tree while it is pruned, its nodes from k on looked at -/
structure Pk (m : Nat) (P : M.BT) (T : M.BT) (k : Nat) : Prop where
  ok : M.okB (m : Int) T
  sz : T.size ≤ 63
  prn : M.prn (M.vld m) T = P
  irr : ∀ i, k ≤ i → i < T.size → Irr (M.lay T 0) m i
theorem Pk.fair {m : Nat} {P T : M.BT} {k : Nat} (h : Pk m P T k) (m8 : m ≤ 8) : M.Fair (M.lay T 0) (m : Int) := M.lay_fair h.ok (by omega) (by omega) h.sz
theorem Pk.done {m : Nat} {P T : M.BT} (h : Pk m P T 0) (m8 : m ≤ 8) : T = P := by
  have F := h.fair m8
  have b := M.bare_of F (fun i hi => h.irr i (Nat.zero_le _) (by rw [M.lay_len] at hi; exact hi)) (M.lay T 0).length 0 F.2.1 (by omega)
  rw [M.pw_root F, M.bt_of_lay h.ok] at b
  rw [← h.prn, M.prn_bare T _ b]

set_option maxHeartbeats 16000000 in
set_option maxRecDepth 10000 in
theorem rprune_any (a0 : Option Addr) (ts : List M.Nd) (cap m : Nat) (w : World) (h : RdN w a0 ts) (F : M.Fair ts (m : Int)) (hs : (M.bt ts 0).size ≤ 63) :
    Calls Tryd.prog 19 #[.slice a0 ts.length cap, .int .i64 (m : Nat)] w fun e w' => ∃ a c, e = .returned (.slice a (M.prn (M.vld m) (M.bt ts 0)).size c) ∧ RdN w' a (M.lay (M.prn (M.vld m) (M.bt ts 0)) 0) ∧ (∀ p, a = some p → w.heap.size ≤ p.block) ∧ Below w.heap.size w w' := by
  have hR := F.2.2.2.2.1
  have l63 := F.1
  have l0 := F.2.1
  have m8 : m ≤ 8 := by have := F.2.2.2.1; omega
  obtain ⟨bt, ot, rfl, hbt, hct⟩ := h.2 (by intro e; rw [e] at l0; simp at l0)
  have CS := hide (rsort_new ts (m : Int) hR l63 bt ot cap 0 l0 w hbt hct (by omega))
  have P0 : Hid (Pk m (M.prn (M.vld m) (M.bt ts 0)) (M.bt ts 0) (M.bt ts 0).size) := ⟨M.bt_ok hR ts.length 0 l0 (by omega), hs, rfl, fun i h1 h2 => by omega⟩
  have z0 := (M.bt ts 0).size_pos
  have n63 : (M.bt ts 0).size ≤ 63 := hs
  clear h F hR hct hs hbt
  generalize M.prn (M.vld m) (M.bt ts 0) = P at *
  generalize M.bt ts 0 = T0 at *
  go_enter Tryd.func19, Tryd.ntmps19
  go_wp2_with (go_at_call 20; refine CS.out.mono ?_; rintro e w1 ⟨a1, c1, rfl, hr1, hp1, hb1⟩; have HR1 := hide hr1; have HP1 := hide hp1; have HB1 := hide hb1; clear hr1 hp1 hb1)
  go_loopw [0, 5] (fun u i wr => ∃ (T : M.BT) (a : Option Addr) (c k : Nat), u = .slice a T.size c ∧ i = .int .i64 ((k : Int) - 1) ∧ k ≤ T.size ∧ T.size ≤ 63 ∧ 0 < T.size ∧ Hid (Pk m P T k) ∧ Hid (RdN wr a (M.lay T 0)) ∧ Hid (∀ p, a = some p → w.heap.size ≤ p.block) ∧ Hid (Below w.heap.size w wr)) (fun u i _ => lenOf u * 64 + (intOf i + 1).toNat)
  case atStart => exact ⟨T0, a1, c1, T0.size, rfl, rfl, Nat.le_refl _, n63, z0, P0, HR1, HP1, HB1⟩
  case round =>
    clear HR1 HP1 HB1 P0
    obtain ⟨T, a, c, k, rfl, rfl, hk, hT63, hT0, PK, RD, FR, K⟩ := hrel
    rcases k with _ | j
    · have E : Hid (T = P) := PK.out.done m8
      clear PK CS
      go_wp2
      go_ret
      exact ⟨a, c, by rw [← E.out]; rfl, by rw [← E.out]; exact RD.out, FR.out, K.out⟩
    · have FA := hide (PK.out.fair m8)
      have hLL : (M.lay T 0).length = T.size := M.lay_len T 0
      have hj : j < T.size := by omega
      have hjL : j < (M.lay T 0).length := by omega
      rw [show (((j + 1 : Nat) : Int) - 1) = (j : Int) by omega]
      obtain ⟨b1, off, rfl, hb1, hc1⟩ := RD.out.2 (by intro e; rw [e] at hjL; simp at hjL)
      have NS : Hid (∀ W, Below wr.heap.size wr W → ∀ q, q < (M.lay T 0).length → SixAt W b1 (off + q * 6) (M.nAt (M.lay T 0) q)) := fun W hW q hq => (hc1 q hq).below hW hb1
      obtain ⟨n0, n1, n2, n3, n4, n5⟩ := hc1 j hjL
      have jz : (j : Int) < (T.size : Int) := by omega
      have PN : Hid (Irr (M.lay T 0) m j → Pk m P T j) := fun hi => ⟨PK.out.ok, PK.out.sz, PK.out.prn, fun i h1 h2 => by
        by_cases e : i = j
        · subst e; exact hi
        · exact PK.out.irr i (by omega) h2⟩
      by_cases hf : M.nf (M.nAt (M.lay T 0) j) = -1
      · have t1 : (M.nf (M.nAt (M.lay T 0) j) == -1) = true := by rw [beq_iff_eq]; exact hf
        have PJ : Hid (Pk m P T j) := PN.out (fun q => absurd hf q)
        have KA : Hid (∀ o, Below w.heap.size w (wr.alloc o)) := fun o => K.out.alloc K.out.size o
        have RA : Hid (∀ o, RdN (wr.alloc o) (some ⟨b1, off, none⟩) (M.lay T 0)) := fun o => RD.out.below ((Below.refl _ _).alloc (Nat.le_refl _) o)
        clear hf PN NS hc1 FA PK CS hLL hjL
        generalize M.nf (M.nAt (M.lay T 0) j) = nf at *
        generalize M.nc (M.nAt (M.lay T 0) j) = nc at *
        generalize M.nl (M.nAt (M.lay T 0) j) = nl at *
        generalize M.nr (M.nAt (M.lay T 0) j) = nr at *
        generalize M.ns (M.nAt (M.lay T 0) j) = ns at *
        generalize M.nv (M.nAt (M.lay T 0) j) = nv at *
        go_wp2
        go_roundw
        case rel => exact ⟨T, some ⟨b1, off, none⟩, c, j, rfl, rfl, by omega, hT63, hT0, PJ, RA.out _, FR, KA.out _⟩
        case measure => simp [intOf, lenOf]
      · have t1 : (M.nf (M.nAt (M.lay T 0) j) == -1) = false := by rw [beq_eq_false_iff_ne]; exact hf
        obtain ⟨la, rb, ea, eb, h1, h2, h3, h4, h5⟩ := M.ask_at FA.out.2.2.2.2.1 hjL hf
        have WHY := hide (M.give_why FA.out hjL hf ea eb)
        have CR := hide (fun q (hq : q < (M.lay T 0).length) W (hW : Below wr.heap.size wr W) => rregion_any (some ⟨b1, off, none⟩) (M.lay T 0) c m q W (RD.out.below hW) FA.out hq)
        rw [hLL] at CR
        have AN := hide (fun q sa sc W (hr : RdS W sa (M.region (M.lay T 0) m q)) => any_any sa (M.region (M.lay T 0) m q) sc W hr)
        have RL : Hid (∀ q, (M.region (M.lay T 0) m q).length = m) := fun q => M.region_len _ _ _
        have GV := hide (fun tt (ht : tt < (M.lay T 0).length) (hc : M.chL (M.nAt (M.lay T 0) j) (tt : Nat)) he W (hW : Below wr.heap.size wr W) => rgive_any (some ⟨b1, off, none⟩) (M.lay T 0) c m j tt W (RD.out.below hW) FA.out hjL ht hc he (by rw [M.bt_of_lay PK.out.ok]; exact hT63))
        rw [hLL, M.bt_of_lay PK.out.ok] at GV
        have IR : Hid (M.anyS (M.region (M.lay T 0) m la) = true → M.anyS (M.region (M.lay T 0) m rb) = true → ¬ (M.nf (M.nAt (M.lay T 0) la) = -1 ∧ M.nf (M.nAt (M.lay T 0) rb) = -1 ∧ M.nv (M.nAt (M.lay T 0) la) = M.nv (M.nAt (M.lay T 0) rb)) → Pk m P T j) := fun q1 q2 q3 => PN.out (fun _ => by
          rw [ea, eb, Int.toNat_natCast, Int.toNat_natCast]
          exact ⟨q1, q2, q3⟩)
        have PS : Hid (∀ T', Less2 m T T' → Pk m P T' T'.size) := fun T' hL => ⟨hL.ok, by have := hL.size; omega, by rw [hL.prn]; exact PK.out.prn, fun i q1 q2 => by omega⟩
        have CHL : Hid (M.chL (M.nAt (M.lay T 0) j) (la : Nat) ∧ M.chL (M.nAt (M.lay T 0) j) (rb : Nat)) := ⟨⟨hf, .inl ea⟩, ⟨hf, .inr eb⟩⟩
        rw [ea] at n2
        rw [eb] at n3
        have h2' : la < T.size := by omega
        have h4' : rb < T.size := by omega
        have laz : (la : Int) < (T.size : Int) := by omega
        have rbz : (rb : Int) < (T.size : Int) := by omega
        have NSA : Hid (∀ W, Below wr.heap.size wr W → SixAt W b1 (off + la * 6) (M.nAt (M.lay T 0) la) ∧ SixAt W b1 (off + rb * 6) (M.nAt (M.lay T 0) rb)) := fun W hW => ⟨NS.out W hW la h2, NS.out W hW rb h4⟩
        have CR1 := hide (fun W (hW : Below wr.heap.size wr W) => CR.out la h2' W hW)
        have CR2 := hide (fun W (hW : Below wr.heap.size wr W) => CR.out rb h4' W hW)
        have GL := hide (fun he W (hW : Below wr.heap.size wr W) => GV.out la h2' CHL.out.1 he W hW)
        have GR := hide (fun he W (hW : Below wr.heap.size wr W) => GV.out rb h4' CHL.out.2 he W hW)
        have mm : m ≤ maxLen := by unfold maxLen; omega
        have OS : Hid (∀ W q v B, W.ownsRow B 96 3 v m (spCells (M.region (M.lay T 0) m q)) → ∃ sa sc, v = .slice sa m sc ∧ RdS W sa (M.region (M.lay T 0) m q)) := fun W q v B ho => own_rdS (RL.out q) mm ho
        have AN1 : Hid (∀ q sa sc W, RdS W sa (M.region (M.lay T 0) m q) → Calls Tryd.prog 42 #[.slice sa m sc] W fun e w' => e = .returned (.bool (M.anyS (M.region (M.lay T 0) m q))) ∧ Below W.heap.size W w') := fun q sa sc W hr => by
          have := AN.out q sa sc W hr
          rw [RL.out q] at this
          exact this
        unfold SixAt at NSA
        clear hf PN NS hc1 FA CR GV AN CHL PK hLL hjL CS h1 h2 h3 h4 h5
        generalize M.nf (M.nAt (M.lay T 0) j) = nf at *
        generalize M.nc (M.nAt (M.lay T 0) j) = nc at *
        generalize M.ns (M.nAt (M.lay T 0) j) = ns at *
        generalize M.nv (M.nAt (M.lay T 0) j) = nv at *
        generalize M.nAt (M.lay T 0) la = xn at *
        generalize M.nAt (M.lay T 0) rb = yn at *
        have BN : Hid (∀ W, Below (wr.alloc (.cells #[.int .i64 nf, .int .i64 nc, .int .i64 (la : Int), .int .i64 (rb : Int), .bool ns, .int .i64 nv] 28)).heap.size (wr.alloc (.cells #[.int .i64 nf, .int .i64 nc, .int .i64 (la : Int), .int .i64 (rb : Int), .bool ns, .int .i64 nv] 28)) W → Below wr.heap.size wr W ∧ W.cell? ⟨wr.heap.size, 2, none⟩ = some (.int .i64 (la : Int)) ∧ W.cell? ⟨wr.heap.size, 3, none⟩ = some (.int .i64 (rb : Int))) := fun W hW => by
          have hs : wr.heap.size < (wr.alloc (.cells #[.int .i64 nf, .int .i64 nc, .int .i64 (la : Int), .int .i64 (rb : Int), .bool ns, .int .i64 nv] 28)).heap.size := by simp
          exact ⟨below_on ((Below.refl _ wr).alloc (Nat.le_refl _) _) hW, (hW.cell (p := ⟨wr.heap.size, 2, none⟩) hs).trans (World.cell?_alloc_at _ _ _ 2 rfl), (hW.cell (p := ⟨wr.heap.size, 3, none⟩) hs).trans (World.cell?_alloc_at _ _ _ 3 rfl)⟩
        have B0 : Hid (Below (wr.alloc (.cells #[.int .i64 nf, .int .i64 nc, .int .i64 (la : Int), .int .i64 (rb : Int), .bool ns, .int .i64 nv] 28)).heap.size (wr.alloc (.cells #[.int .i64 nf, .int .i64 nc, .int .i64 (la : Int), .int .i64 (rb : Int), .bool ns, .int .i64 nv] 28)) (wr.alloc (.cells #[.int .i64 nf, .int .i64 nc, .int .i64 (la : Int), .int .i64 (rb : Int), .bool ns, .int .i64 nv] 28))) := Below.refl _ _
        go_upto_region 11 with (first
          | (go_at_call 42; have hone := g4; refine (AN1.out rb sb tb _ HS2.out).mono ?_; rintro e w5 ⟨rfl, h5⟩; have g5 := below_on g4 h5)
          | (go_at_call 42; refine (AN1.out la sa ta _ HS1.out).mono ?_; rintro e w4 ⟨rfl, h4⟩; have g4 := below_on g3 h4; have HS2 := hide (HS2'.out.below h4))
          | (go_at_call 41; have hone := g2; refine (CR2.out _ (BN.out _ g2).1).mono ?_; rintro e w3 ⟨v3, rfl, ho3, h3⟩; obtain ⟨sb, tb, ev3, hs3⟩ := OS.out _ _ _ _ ho3; subst ev3; have HS2' := hide hs3; have g3 := below_on g2 h3; have HS1 := hide (HS1'.out.below h3); clear ho3 hs3)
          | (go_at_call 41; refine (CR1.out _ (BN.out _ B0.out).1).mono ?_; rintro e w2 ⟨v2, rfl, ho2, h2⟩; obtain ⟨sa, ta, ev2, hs2⟩ := OS.out _ _ _ _ ho2; subst ev2; have HS1' := hide hs2; have g2 := below_on B0.out h2; have r2 := (BN.out _ g2).2.1; have r3 := (BN.out _ g2).2.2; clear ho2 hs2))
        have G5 := hide g5
        obtain ⟨k5, r2, r3⟩ := BN.out w5 G5.out
        have ba : Hid (∀ o, Below w5.heap.size w5 (w5.alloc o)) := fun o => (Below.refl _ _).alloc (Nat.le_refl _) o
        obtain ⟨⟨x0, x1, x2, x3, x4, x5⟩, _⟩ := NSA.out w5 k5
        have ra3 : ∀ o, (w5.alloc o).cell? ⟨wr.heap.size, 3, none⟩ = some (.int .i64 (rb : Int)) := fun o => (BN.out _ (below_on G5.out (ba.out o))).2.2
        have ya : ∀ o, ((w5.alloc o).cell? ⟨b1, off + rb * 6, none⟩ = some (.int .i64 (M.nf yn)) ∧ (w5.alloc o).cell? ⟨b1, off + rb * 6 + 1, none⟩ = some (.int .i64 (M.nc yn)) ∧ (w5.alloc o).cell? ⟨b1, off + rb * 6 + 2, none⟩ = some (.int .i64 (M.nl yn)) ∧ (w5.alloc o).cell? ⟨b1, off + rb * 6 + 3, none⟩ = some (.int .i64 (M.nr yn)) ∧ (w5.alloc o).cell? ⟨b1, off + rb * 6 + 4, none⟩ = some (.bool (M.ns yn)) ∧ (w5.alloc o).cell? ⟨b1, off + rb * 6 + 5, none⟩ = some (.int .i64 (M.nv yn))) := fun o => (NSA.out _ (below_on k5 (ba.out o))).2
        have y0 := fun o => (ya o).1
        have y1 := fun o => (ya o).2.1
        have y2 := fun o => (ya o).2.2.1
        have y3 := fun o => (ya o).2.2.2.1
        have y4 := fun o => (ya o).2.2.2.2.1
        have y5 := fun o => (ya o).2.2.2.2.2
        clear ya g2 g3 g4 g5 HS1 HS1' HS2 HS2' h2 h3 h4 h5 CR1 CR2 OS AN1 B0 hone
        generalize M.anyS (M.region (M.lay T 0) m la) = bl at *
        generalize M.anyS (M.region (M.lay T 0) m rb) = br at *
        generalize M.nf xn = xf at *
        generalize M.nc xn = xc at *
        generalize M.nl xn = xl at *
        generalize M.nr xn = xr at *
        generalize M.ns xn = xs at *
        generalize M.nv xn = xv at *
        generalize M.nf yn = yf at *
        generalize M.nc yn = yc at *
        generalize M.nl yn = yl at *
        generalize M.nr yn = yr at *
        generalize M.ns yn = ys at *
        generalize M.nv yn = yv at *
        go_upto_region 14 with fail
        obtain ⟨wx, hwx⟩ : ∃ W, W = (w5.alloc (.cells #[.int .i64 xf, .int .i64 xc, .int .i64 xl, .int .i64 xr, .bool xs, .int .i64 xv] 28)).alloc (.cells #[.int .i64 yf, .int .i64 yc, .int .i64 yl, .int .i64 yr, .bool ys, .int .i64 yv] 28) := ⟨_, rfl⟩
        rw [← hwx]
        have bx5 : Below w5.heap.size w5 wx := by rw [hwx]; exact ((Below.refl _ _).alloc (Nat.le_refl _) _).alloc (by simp) _
        obtain ⟨kx, p2, p3⟩ := BN.out wx (below_on G5.out bx5)
        have bxx : Below (w5.alloc (.cells #[.int .i64 xf, .int .i64 xc, .int .i64 xl, .int .i64 xr, .bool xs, .int .i64 xv] 28)).heap.size (w5.alloc (.cells #[.int .i64 xf, .int .i64 xc, .int .i64 xl, .int .i64 xr, .bool xs, .int .i64 xv] 28)) wx := by rw [hwx]; exact (Below.refl _ _).alloc (Nat.le_refl _) _
        have ux : wx.cell? ⟨w5.heap.size, 0, none⟩ = some (.int .i64 xf) ∧ wx.cell? ⟨w5.heap.size, 5, none⟩ = some (.int .i64 xv) := by
          have hs : w5.heap.size < (w5.alloc (.cells #[.int .i64 xf, .int .i64 xc, .int .i64 xl, .int .i64 xr, .bool xs, .int .i64 xv] 28)).heap.size := by simp
          exact ⟨(bxx.cell (p := ⟨w5.heap.size, 0, none⟩) hs).trans (World.cell?_alloc_at _ _ _ 0 rfl), (bxx.cell (p := ⟨w5.heap.size, 5, none⟩) hs).trans (World.cell?_alloc_at _ _ _ 5 rfl)⟩
        have uy : wx.cell? ⟨w5.heap.size + 1, 0, none⟩ = some (.int .i64 yf) ∧ wx.cell? ⟨w5.heap.size + 1, 5, none⟩ = some (.int .i64 yv) := by
          have e1 : (w5.alloc (.cells #[.int .i64 xf, .int .i64 xc, .int .i64 xl, .int .i64 xr, .bool xs, .int .i64 xv] 28)).heap.size = w5.heap.size + 1 := by simp
          rw [hwx, ← e1]
          exact ⟨World.cell?_alloc_at _ _ _ 0 rfl, World.cell?_alloc_at _ _ _ 5 rfl⟩
        obtain ⟨ux0, ux5⟩ := ux
        obtain ⟨uy0, uy5⟩ := uy
        clear hwx bxx r2 r3 ra3 x0 x1 x2 x3 x4 x5 y0 y1 y2 y3 y4 y5 n0 n1 n2 n3 n4 n5 t1 bx5 k5 G5
        cases bl with
        | false =>
          have GG := hide (GR.out (WHY.out.1 rfl) wx kx)
          clear IR WHY GL GR NSA BN ba
          go_wp2_with (go_at_call 43; refine GG.out.mono ?_; rintro e w7 ⟨T7, a7, c7, rfl, hr7, hl7, hp7, h7⟩; have HR7 := hide hr7; have HL7 := hide (PS.out T7 hl7); have HP7 : Hid (∀ p, a7 = some p → w.heap.size ≤ p.block) := (fun p hp => Nat.le_trans (below_on K.out kx).size (hp7 p hp)); have HB7 := hide (below_on (below_on K.out kx) h7); have s7 := hl7.size; have z7 := T7.size_pos; clear hr7 hl7 hp7 h7)
          go_roundw
          case rel => exact ⟨T7, a7, c7, T7.size, rfl, rfl, Nat.le_refl _, by omega, z7, HL7, HR7, HP7, HB7⟩
          case measure => simp [intOf, lenOf]; omega
        | true =>
          cases br with
          | false =>
            have GG := hide (GL.out (WHY.out.2.1 rfl rfl) wx kx)
            clear IR WHY GL GR NSA BN ba
            go_wp2_with (go_at_call 43; refine GG.out.mono ?_; rintro e w7 ⟨T7, a7, c7, rfl, hr7, hl7, hp7, h7⟩; have HR7 := hide hr7; have HL7 := hide (PS.out T7 hl7); have HP7 : Hid (∀ p, a7 = some p → w.heap.size ≤ p.block) := (fun p hp => Nat.le_trans (below_on K.out kx).size (hp7 p hp)); have HB7 := hide (below_on (below_on K.out kx) h7); have s7 := hl7.size; have z7 := T7.size_pos; clear hr7 hl7 hp7 h7)
            go_roundw
            case rel => exact ⟨T7, a7, c7, T7.size, rfl, rfl, Nat.le_refl _, by omega, z7, HL7, HR7, HP7, HB7⟩
            case measure => simp [intOf, lenOf]; omega
          | true =>
            by_cases q1 : xf = -1
            · have t1 : (xf == -1) = true := by rw [beq_iff_eq]; exact q1
              by_cases q2 : yf = -1
              · have t2 : (yf == -1) = true := by rw [beq_iff_eq]; exact q2
                by_cases q3 : xv = yv
                · have t3 : (xv == yv) = true := by rw [beq_iff_eq]; exact q3
                  have GG := hide (GL.out (WHY.out.2.2 rfl rfl q1 q2 q3) wx kx)
                  clear q1 q2 q3 IR WHY GL GR NSA BN ba
                  go_wp2_with (go_at_call 43; refine GG.out.mono ?_; rintro e w7 ⟨T7, a7, c7, rfl, hr7, hl7, hp7, h7⟩; have HR7 := hide hr7; have HL7 := hide (PS.out T7 hl7); have HP7 : Hid (∀ p, a7 = some p → w.heap.size ≤ p.block) := (fun p hp => Nat.le_trans (below_on K.out kx).size (hp7 p hp)); have HB7 := hide (below_on (below_on K.out kx) h7); have s7 := hl7.size; have z7 := T7.size_pos; clear hr7 hl7 hp7 h7)
                  go_roundw
                  case rel => exact ⟨T7, a7, c7, T7.size, rfl, rfl, Nat.le_refl _, by omega, z7, HL7, HR7, HP7, HB7⟩
                  case measure => simp [intOf, lenOf]; omega
                · have t3 : (xv == yv) = false := by rw [beq_eq_false_iff_ne]; exact q3
                  have PJ : Hid (Pk m P T j) := IR.out rfl rfl (fun z => q3 z.2.2)
                  have RX : Hid (RdN wx (some ⟨b1, off, none⟩) (M.lay T 0)) := RD.out.below kx
                  have KX := hide (below_on K.out kx)
                  clear q1 q2 q3 IR WHY GL GR NSA BN ba
                  go_wp2
                  go_roundw
                  case rel => exact ⟨T, some ⟨b1, off, none⟩, c, j, rfl, rfl, by omega, hT63, hT0, PJ, RX, FR, KX⟩
                  case measure => simp [intOf, lenOf]
              · have t2 : (yf == -1) = false := by rw [beq_eq_false_iff_ne]; exact q2
                have PJ : Hid (Pk m P T j) := IR.out rfl rfl (fun z => q2 z.2.1)
                have RX : Hid (RdN wx (some ⟨b1, off, none⟩) (M.lay T 0)) := RD.out.below kx
                have KX := hide (below_on K.out kx)
                clear q1 q2 IR WHY GL GR NSA BN ba
                go_wp2
                go_roundw
                case rel => exact ⟨T, some ⟨b1, off, none⟩, c, j, rfl, rfl, by omega, hT63, hT0, PJ, RX, FR, KX⟩
                case measure => simp [intOf, lenOf]
            · have t1 : (xf == -1) = false := by rw [beq_eq_false_iff_ne]; exact q1
              have PJ : Hid (Pk m P T j) := IR.out rfl rfl (fun z => q1 z.1)
              have RX : Hid (RdN wx (some ⟨b1, off, none⟩) (M.lay T 0)) := RD.out.below kx
              have KX := hide (below_on K.out kx)
              clear q1 IR WHY GL GR NSA BN ba
              go_wp2
              go_roundw
              case rel => exact ⟨T, some ⟨b1, off, none⟩, c, j, rfl, rfl, by omega, hT63, hT0, PJ, RX, FR, KX⟩
              case measure => simp [intOf, lenOf]

end Go.Proofs.YtjnkkniefpmgdadDoor
