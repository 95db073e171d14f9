/-
  Several texts as one: RefSort, MathH, MathZ, RefUp, RefGive, MathWd, RefWo.
-/
import Derived.Test.YtlloiccodjnkcagGreatDoorRunW6
import Derived.Test.YtlloiccodjnkcagGreatDoorRunW4
import Derived.Deep.Cut
import Derived.Deep.CutRange
import Derived.Test.YtlloiccodjnkcagGreatDoorRunW2
import Derived.Test.YtlloiccodjnkcagGreatDoorRunW3
import Derived.Test.YtlloiccodjnkcagGreatDoorRunW5
import Derived.Deep.AppendLies
import Derived.BigQuiet
import Derived.Deep.QuietTactic
namespace Go.Proofs.YtlloiccodjnkcagGreatDoor
open Go.ChangeShapes Go.WideShapes Go.ChangeAt Go.RowKit Go.Lib
set_option linter.unusedVariables false

theorem M.leaf_whole {t : List M.Nd} {m : Int} (h : M.Right t m) {i : Nat} (hi : i < t.length) (hf : M.nf (M.nAt t i) = -1) : M.nAt t i = (-1, 0, 0, 0, false, M.nv (M.nAt t i)) := by
  have := h i hi
  unfold M.nodeF at this
  rw [if_pos hf] at this
  unfold M.lfF at this
  generalize M.nAt t i = n at *
  by_cases q1 : M.outI (M.nv n) = true
  · rw [if_pos q1] at this; cases this
  · rw [if_neg q1] at this
    by_cases q : M.nc n ≠ 0 ∨ M.nl n ≠ 0 ∨ M.nr n ≠ 0 ∨ M.ns n = true
    · rw [if_pos q] at this; cases this
    · have b0 : M.nc n = 0 := Decidable.not_not.1 (fun h => q (.inl h))
      have c0 : M.nl n = 0 := Decidable.not_not.1 (fun h => q (.inr (.inl h)))
      have d0 : M.nr n = 0 := Decidable.not_not.1 (fun h => q (.inr (.inr (.inl h))))
      have e0 : M.ns n = false := by
        cases e : M.ns n with
        | false => rfl
        | true => exact absurd (.inr (.inr (.inr e))) q
      have w : n = (M.nf n, M.nc n, M.nl n, M.nr n, M.ns n, M.nv n) := rfl
      rw [hf, b0, c0, d0, e0] at w
      exact w
set_option maxHeartbeats 8000000 in
set_option maxRecDepth 10000 in
theorem rsort_any (ts : List M.Nd) (m : Int) (hR : M.Right ts m) (l63 : ts.length ≤ 63) (bt ot cap B : Nat) : ∀ (f i : Nat), i < ts.length → ts.length ≤ f + i → ∀ (O : List M.Nd) (va : Option Addr) (vc : Nat) (w : World), bt < w.heap.size → (∀ j, j < ts.length → SixAt w bt (ot + j * 6) (M.nAt ts j)) → (Value.slice va O.length vc).ownBlock ≠ some bt → w.ownsRow B 64 6 (.slice va O.length vc) O.length (ndCells O) → B ≤ w.heap.size → O.length + (M.bt ts i).size ≤ 1000 →
    Calls Tryz.prog 29 #[.slice (some ⟨bt, ot, none⟩) ts.length cap, .int .i64 (i : Nat), .slice va O.length vc] w fun e w' => ∃ g c, e = .returned (.slice (some ⟨g, 0, none⟩) (O.length + (M.bt ts i).size) c) ∧ w'.ownsRow B 64 6 (.slice (some ⟨g, 0, none⟩) (O.length + (M.bt ts i).size) c) (O.length + (M.bt ts i).size) (ndCells (O ++ M.lay (M.bt ts i) O.length)) ∧ w.grownBy w' (Value.slice va O.length vc).ownBlock ∧ ((Value.slice va O.length vc).ownBlock = some g ∨ w.heap.size ≤ g)
  | 0, i, hi, hf => by omega
  | f + 1, i, hi, hf => by
    intro O va vc w hbt hct hne hv hB hsz
    have iz : (i : Int) < (ts.length : Int) := by omega
    obtain ⟨j0, hj, hy0, hy1, hy2⟩ := info_parts infoN
    have J0 := hide hj
    obtain ⟨r0, r1, r2, r3, r4, r5⟩ := hct i hi
    have HV := hide hv
    have HC : Hid (∀ W, w.grownBy W (Value.slice va O.length vc).ownBlock → ∀ j, j < ts.length → SixAt W bt (ot + j * 6) (M.nAt ts j)) := fun W hW j hj => by
      have hb : W.heap[bt]? = w.heap[bt]? := hW.block bt hbt (fun e => hne e.symm)
      obtain ⟨h0, h1, h2, h3, h4, h5⟩ := hct j hj
      exact ⟨(World.cell?_of_block (a := ⟨bt, _, none⟩) hb).trans h0, (World.cell?_of_block (a := ⟨bt, _, none⟩) hb).trans h1, (World.cell?_of_block (a := ⟨bt, _, none⟩) hb).trans h2, (World.cell?_of_block (a := ⟨bt, _, none⟩) hb).trans h3, (World.cell?_of_block (a := ⟨bt, _, none⟩) hb).trans h4, (World.cell?_of_block (a := ⟨bt, _, none⟩) hb).trans h5⟩
    have NE := hide hne
    have zp := (M.bt ts i).size_pos
    have NC0 : Hid (ndCells [M.nAt ts i] = [.int .i64 (M.nf (M.nAt ts i)), .int .i64 (M.nc (M.nAt ts i)), .int .i64 (M.nl (M.nAt ts i)), .int .i64 (M.nr (M.nAt ts i)), .bool (M.ns (M.nAt ts i)), .int .i64 (M.nv (M.nAt ts i))]) := rfl
    have ol : O.length ≤ 1000 := by omega
    by_cases hl : M.nf (M.nAt ts i) = -1
    · have t1 : (M.nf (M.nAt ts i) == -1) = true := by rw [beq_iff_eq]; exact hl
      have EB : Hid ((M.bt ts i).size = 1 ∧ M.lay (M.bt ts i) O.length = [M.nAt ts i]) := by
        rw [M.bt_leaf hi hl]
        refine ⟨rfl, ?_⟩
        rw [M.leaf_whole hR hi hl]
        rfl
      have HC1 : Hid (∀ W, w.grownBy W (Value.slice va O.length vc).ownBlock → W.cell? ⟨bt, ot + i * 6, none⟩ = some (.int .i64 (M.nf (M.nAt ts i)))) := fun W hW => (HC.out W hW i hi).1
      rw [EB.out.1, EB.out.2]
      clear hv hct hj hne HC hl hsz zp
      generalize hn : M.nAt ts i = n at *
      have HN := hide hn
      clear hn
      generalize M.nf n = nf at *
      generalize M.nc n = nc at *
      generalize M.nl n = nl at *
      generalize M.nr n = nr at *
      generalize M.ns n = ns at *
      generalize M.nv n = nv at *
      go_enter Tryz.func29, Tryz.ntmps29
      go_wp2_with (at_builtin; refine wpList_append_lies _ rfl (.tmp 10) (.tmp 15) 26 rfl B 64 j0 (.agg #[.int .i64 0, .int .i64 0, .int .i64 0, .int .i64 0, .bool false, .int .i64 0]) 6 48 Tryz.underlying26 J0.out hy0 hy1 hy2 rfl (by omega) (.slice va O.length vc) O.length (ndCells O) rfl (HV.out.alloc _) ⟨w.heap.size, 0, none⟩ 1 1 [.int .i64 nf, .int .i64 nc, .int .i64 nl, .int .i64 nr, .bool ns, .int .i64 nv] rfl rfl (World.news_of_block (heap_alloc_new _ _)) (by simp [Value.oneCell']) (by omega) (by unfold maxLen; omega) (by omega) (by simp; omega) (w.heap.size + 1) (by simp) ?_)
      intro g1 c1 w1 hov hgrow hat hlt1
      have HO1 : Hid (w1.ownsRow B 64 6 (.slice (some ⟨g1, 0, none⟩) (O.length + 1) c1) (O.length + 1) (ndCells (O ++ [n]))) := by
        unfold Hid; rw [ndCells_app, NC0.out]; exact hov
      have G1 : Hid (w.grownBy w1 (Value.slice va O.length vc).ownBlock) := grown_trans (World.grownBy_alloc w _ _) hgrow (.inl rfl)
      have A1 : Hid ((Value.slice va O.length vc).ownBlock = some g1 ∨ w.heap.size ≤ g1) := by
        rcases hat with q | q
        · exact .inl q
        · exact .inr (by omega)
      have s0 := HC1.out w1 G1.out
      clear hov hgrow hat HV r0 r1 r2 r3 r4 r5
      go_wp2
      go_ret
      exact ⟨g1, c1, rfl, HO1.out, G1.out, A1.out⟩
    · have t1 : (M.nf (M.nAt ts i) == -1) = false := by rw [beq_eq_false_iff_ne]; exact hl
      obtain ⟨a, b, ea, eb, h1, h2, h3, h4, _⟩ := M.ask_at hR hi hl
      have hnv : M.nv (M.nAt ts i) = 0 := (M.node_ask (hR i hi) hl).2.2.2.2.2.2.2.1
      have EB := M.bt_ask hR hi hl ea eb
      have ES : (M.bt ts i).size = 1 + (M.bt ts a).size + (M.bt ts b).size := by rw [EB]; rfl
      have IA := hide (rsort_any ts m hR l63 bt ot cap B f a h2 (by omega))
      have IB := hide (rsort_any ts m hR l63 bt ot cap B f b h4 (by omega))
      have EL : Hid (M.lay (M.bt ts i) O.length = (M.nf (M.nAt ts i), M.nc (M.nAt ts i), ((O.length + 1 : Nat) : Int), ((O.length + 1 + (M.bt ts a).size : Nat) : Int), M.ns (M.nAt ts i), 0) :: (M.lay (M.bt ts a) (O.length + 1) ++ M.lay (M.bt ts b) (O.length + 1 + (M.bt ts a).size))) := by unfold Hid; rw [EB]; rfl
      have LA : Hid (∀ k, (M.lay (M.bt ts a) k).length = (M.bt ts a).size) := fun k => M.lay_len _ k
      rw [ES] at hsz
      have cz1 : ((O.length + 1 : Nat) : Int) = (O.length : Int) + 1 := by omega
      have cz2 : ((O.length + 1 + (M.bt ts a).size : Nat) : Int) = (O.length : Int) + 1 + ((M.bt ts a).size : Int) := by omega
      rw [ES, EL.out, cz1, cz2, show O.length + (1 + (M.bt ts a).size + (M.bt ts b).size) = O.length + 1 + (M.bt ts a).size + (M.bt ts b).size by omega]
      clear cz1 cz2
      rw [ea] at r2
      rw [eb] at r3
      rw [ea, eb, hnv] at NC0
      rw [hnv] at r5
      have HCI : Hid (∀ W, w.grownBy W (Value.slice va O.length vc).ownBlock → (W.cell? ⟨bt, ot + i * 6, none⟩ = some (.int .i64 (M.nf (M.nAt ts i))) ∧ W.cell? ⟨bt, ot + i * 6 + 2, none⟩ = some (.int .i64 (a : Int)) ∧ W.cell? ⟨bt, ot + i * 6 + 3, none⟩ = some (.int .i64 (b : Int))) ∧ ∀ j, j < ts.length → SixAt W bt (ot + j * 6) (M.nAt ts j)) := fun W hW => by
        obtain ⟨q0, q1, q2, q3, q4, q5⟩ := HC.out W hW i hi
        rw [ea] at q2
        rw [eb] at q3
        exact ⟨⟨q0, q2, q3⟩, HC.out W hW⟩
      have OS : Hid (∀ n, ndCells (O ++ [n]) = ndCells O ++ ndCells [n]) := fun n => ndCells_app _ _
      have NA : Hid (M.nAt ts i = (M.nf (M.nAt ts i), M.nc (M.nAt ts i), (a : Int), (b : Int), M.ns (M.nAt ts i), (0 : Int))) := by
        unfold Hid
        rw [← ea, ← eb, ← hnv]
        rfl
      rw [NA.out] at NC0
      clear hv hct hj hne HC hl zp EB ES EL NA
      generalize M.nf (M.nAt ts i) = nf at *
      generalize M.nc (M.nAt ts i) = nc at *
      generalize M.ns (M.nAt ts i) = ns at *
      generalize M.bt ts a = TA at *
      generalize M.bt ts b = TB at *
      go_enter Tryz.func29, Tryz.ntmps29
      go_wp2_with (at_builtin; refine wpList_append_lies _ rfl (.tmp 10) (.tmp 15) 26 rfl B 64 j0 (.agg #[.int .i64 0, .int .i64 0, .int .i64 0, .int .i64 0, .bool false, .int .i64 0]) 6 48 Tryz.underlying26 J0.out hy0 hy1 hy2 rfl (by omega) (.slice va O.length vc) O.length (ndCells O) rfl (HV.out.alloc _) ⟨w.heap.size, 0, none⟩ 1 1 [.int .i64 nf, .int .i64 nc, .int .i64 (a : Int), .int .i64 (b : Int), .bool ns, .int .i64 0] rfl rfl (World.news_of_block (heap_alloc_new _ _)) (by simp [Value.oneCell']) (by omega) (by unfold maxLen; omega) (by omega) (by simp; omega) (w.heap.size + 1) (by simp) ?_)
      intro g1 c1 w1 hov hgrow hat hlt1
      have HO1 : Hid (w1.ownsRow B 64 6 (.slice (some ⟨g1, 0, none⟩) (O.length + 1) c1) (O.length + 1) (ndCells (O ++ [(nf, nc, (a : Int), (b : Int), ns, (0 : Int))]))) := by
        unfold Hid; rw [ndCells_app, NC0.out]; exact hov
      have G1 : Hid (w.grownBy w1 (Value.slice va O.length vc).ownBlock) := grown_trans (World.grownBy_alloc w _ _) hgrow (.inl rfl)
      have A1 : Hid ((Value.slice va O.length vc).ownBlock = some g1 ∨ w.heap.size ≤ g1) := by
        rcases hat with q | q
        · exact .inl q
        · exact .inr (by omega)
      have L0 : O.length < (O ++ [(nf, nc, (a : Int), (b : Int), ns, (0 : Int))]).length := by simp
      obtain ⟨⟨s0, s2, s3⟩, _⟩ := HCI.out w1 G1.out
      obtain ⟨x0, x1, x2, x3, x4, x5⟩ := ndCells_at _ O.length L0
      have q2 := (HO1.out.cellAt (O.length * 6 + 2) (by omega)).trans x2
      have fz2 := HO1.out.frozenAt (O.length * 6 + 2)
      have oz : ((O.length : Nat) : Int) < ((O.length + 1 : Nat) : Int) := by omega
      clear hov hgrow hat HV r0 r1 r2 r3 r4 r5 x0 x1 x2 x3 x4 x5 L0
      go_upto_region 6 with fail
      obtain ⟨w2, hw2⟩ : ∃ W, W = w1.setCell ⟨g1, O.length * 6 + 2, none⟩ (.int .i64 ((O.length : Int) + 1)) := ⟨_, rfl⟩
      rw [← hw2]
      have g1s : Hid ((some g1 : Option Nat) = (Value.slice va O.length vc).ownBlock ∨ ∀ q, (some g1 : Option Nat) = some q → w.heap.size ≤ q) := by
        rcases A1.out with q | q
        · exact .inl q.symm
        · exact .inr (fun z hz => by cases hz; exact q)
      have HO2 : Hid (w2.ownsRow B 64 6 (.slice (some ⟨g1, 0, none⟩) (O.length + 1) c1) (O.length + 1) (ndCells (O ++ [(nf, nc, (O.length : Int) + 1, (b : Int), ns, (0 : Int))]))) := by
        have st := (HO1.out.stored (O.length * 6 + 2) (.int .i64 ((O.length : Int) + 1))).1
        rw [ndCells_setL _ O.length (by simp), nAt_snoc, set_snoc] at st
        rw [hw2]
        exact st
      have G2 : Hid (w.grownBy w2 (Value.slice va O.length vc).ownBlock) := by
        rw [hw2]
        exact grown_trans G1.out grown_set g1s.out
      have gne : Hid (g1 ≠ bt) := fun e => by
        subst e
        rcases A1.out with q | q
        · exact NE.out q
        · omega
      have w2s : Hid (w.heap.size ≤ w2.heap.size) := G2.out.size
      have I1 := IA.out (O ++ [(nf, nc, (O.length : Int) + 1, (b : Int), ns, (0 : Int))]) (some ⟨g1, 0, none⟩) c1 w2 (Nat.lt_of_lt_of_le hbt w2s.out) (HCI.out w2 G2.out).2 (fun e => gne.out (by cases e; rfl)) (by rw [List.length_append]; exact HO2.out) (Nat.le_trans hB w2s.out) (by rw [List.length_append]; simp; omega)
      rw [show (O ++ [(nf, nc, (O.length : Int) + 1, (b : Int), ns, (0 : Int))]).length = O.length + 1 by simp] at I1
      have HI1 := hide I1
      obtain ⟨⟨u0, u2, u3⟩, _⟩ := HCI.out w2 G2.out
      clear hw2 I1 HO1 q2 fz2 s0 s2 s3
      go_upto_region 7 with (go_at_call 29; refine HI1.out.mono ?_; rintro e w3 ⟨g3, c3, rfl, ho3, hg3, ha3⟩)
      have G3 : Hid (w.grownBy w3 (Value.slice va O.length vc).ownBlock) := grown_trans G2.out hg3 g1s.out
      have A3 : Hid ((Value.slice va O.length vc).ownBlock = some g3 ∨ w.heap.size ≤ g3) := by
        rcases ha3 with q | q
        · have e : g1 = g3 := by simpa [Value.ownBlock] using q
          rw [← e]; exact A1.out
        · exact .inr (Nat.le_trans w2s.out q)
      have HO3 : Hid (w3.ownsRow B 64 6 (.slice (some ⟨g3, 0, none⟩) (O.length + 1 + TA.size) c3) (O.length + 1 + TA.size) (ndCells (O ++ (nf, nc, (O.length : Int) + 1, (b : Int), ns, (0 : Int)) :: M.lay TA (O.length + 1)))) := by
        have := ho3
        rw [List.append_assoc] at this
        exact this
      have L3 : O.length < (O ++ (nf, nc, (O.length : Int) + 1, (b : Int), ns, (0 : Int)) :: M.lay TA (O.length + 1)).length := by simp
      obtain ⟨x0, x1, x2, x3, x4, x5⟩ := ndCells_at _ O.length L3
      have q3 := (HO3.out.cellAt (O.length * 6 + 3) (by omega)).trans x3
      have fz3 := HO3.out.frozenAt (O.length * 6 + 3)
      have oz3 : ((O.length : Nat) : Int) < ((O.length + 1 + TA.size : Nat) : Int) := by omega
      clear ho3 hg3 ha3 HO2 x0 x1 x2 x3 x4 x5 L3 u0 u2 u3 HI1
      go_upto_region 8 with fail
      obtain ⟨w4, hw4⟩ : ∃ W, W = w3.setCell ⟨g3, O.length * 6 + 3, none⟩ (.int .i64 ((O.length : Int) + 1 + (TA.size : Int))) := ⟨_, rfl⟩
      rw [← hw4]
      have g3s : Hid ((some g3 : Option Nat) = (Value.slice va O.length vc).ownBlock ∨ ∀ q, (some g3 : Option Nat) = some q → w.heap.size ≤ q) := by
        rcases A3.out with q | q
        · exact .inl q.symm
        · exact .inr (fun z hz => by cases hz; exact q)
      have HO4 : Hid (w4.ownsRow B 64 6 (.slice (some ⟨g3, 0, none⟩) (O.length + 1 + TA.size) c3) (O.length + 1 + TA.size) (ndCells (O ++ (nf, nc, (O.length : Int) + 1, (O.length : Int) + 1 + (TA.size : Int), ns, (0 : Int)) :: M.lay TA (O.length + 1)))) := by
        have st := (HO3.out.stored (O.length * 6 + 3) (.int .i64 ((O.length : Int) + 1 + (TA.size : Int)))).1
        rw [ndCells_setR _ O.length (by simp), nAt_snoc, set_snoc] at st
        rw [hw4]
        exact st
      have G4 : Hid (w.grownBy w4 (Value.slice va O.length vc).ownBlock) := by
        rw [hw4]
        exact grown_trans G3.out grown_set g3s.out
      have gne3 : Hid (g3 ≠ bt) := fun e => by
        subst e
        rcases A3.out with q | q
        · exact NE.out q
        · omega
      have w4s : Hid (w.heap.size ≤ w4.heap.size) := G4.out.size
      have len4 : (O ++ (nf, nc, (O.length : Int) + 1, (O.length : Int) + 1 + (TA.size : Int), ns, (0 : Int)) :: M.lay TA (O.length + 1)).length = O.length + 1 + TA.size := by
        rw [List.length_append, List.length_cons, LA.out]; omega
      have I2 := IB.out (O ++ (nf, nc, (O.length : Int) + 1, (O.length : Int) + 1 + (TA.size : Int), ns, (0 : Int)) :: M.lay TA (O.length + 1)) (some ⟨g3, 0, none⟩) c3 w4 (Nat.lt_of_lt_of_le hbt w4s.out) (HCI.out w4 G4.out).2 (fun e => gne3.out (by cases e; rfl)) (by rw [len4]; exact HO4.out) (Nat.le_trans hB w4s.out) (by rw [len4]; omega)
      rw [len4] at I2
      have HI2 := hide I2
      obtain ⟨⟨u0, u2, u3⟩, _⟩ := HCI.out w4 G4.out
      clear hw4 I2 HO3 q3 fz3 len4 HCI IA IB NC0 OS
      go_wp2_with (go_at_call 29; refine HI2.out.mono ?_; rintro e w5 ⟨g5, c5, rfl, ho5, hg5, ha5⟩)
      go_ret
      refine ⟨g5, c5, rfl, ?_, grown_trans G4.out hg5 g3s.out, ?_⟩
      · rw [List.append_assoc, List.cons_append] at ho5
        exact ho5
      · rcases ha5 with q | q
        · have e : g3 = g5 := by simpa [Value.ownBlock] using q
          rw [← e]; exact A3.out
        · exact .inr (Nat.le_trans w4s.out q)

end Go.Proofs.YtlloiccodjnkcagGreatDoor

namespace Go.Proofs.YtlloiccodjnkcagGreatDoor.M
set_option linter.unusedVariables false

/-- a cell that no question asks for, changed -/
theorem getD_set {r : List Int} {k j : Nat} {c : Int} (h : j ≠ k) : r.getD j 0 = (r.set k c).getD j 0 := by
  simp [List.getD, List.getElem?_set_ne (Ne.symm h)]
theorem ready_set {t : List Nd} {r : List Int} {k : Nat} {c : Int} (h : readyF t r = 0) (hc : outI c = false) : readyF t (r.set k c) = 0 := by
  obtain ⟨h1, h2⟩ := ready_ok h
  obtain ⟨g1, g2⟩ := (row_ok r).1 h1
  have h3 : rowF (r.set k c) = 0 := (row_ok _).2 ⟨by rw [List.length_set]; exact g1, fun x hx => by
    rcases List.mem_or_eq_of_mem_set hx with q | q
    · exact g2 x q
    · subst q; exact good_cell hc⟩
  rw [ready_tree h3, List.length_set]; exact h2
theorem leaf_set {t : List Nd} {r : List Int} {k : Nat} {c : Int} (h : readyF t r = 0) (hc : outI c = false) (hn : ∀ j, j < t.length → nf (nAt t j) ≠ (k : Int)) : leafV t (r.set k c) = leafV t r := by
  obtain ⟨F, _⟩ := tree_ok (ready_ok h).2
  unfold leafV
  rw [if_pos h, if_pos (ready_set h hc)]
  exact (go_same F.2.2.2.2.1 (fun j hj => getD_set hj) hn t.length 0 F.2.1).symm
theorem any_take {l : List Int} {x : Int} {k : Nat} (h : k < l.length) : (l.take (k + 1)).any (· == x) = ((l.take k).any (· == x) || l[k] == x) := by
  rw [List.take_succ_eq_append_getElem h, List.any_append]; simp
theorem leaf_among {t : List Nd} {r : List Int} (h : readyF t r = 0) (h8 : (treeF t 8).2 = 0) : (leavesV t).any (· == (leafV t r : Int)) = true := by
  obtain ⟨F, _⟩ := tree_ok (ready_ok h).2
  obtain ⟨h1, h2⟩ := to_end F.2.2.2.2.1 r t.length 0 F.2.1 (by omega)
  unfold leavesV leafV
  rw [if_pos h8, if_pos h, List.any_eq_true]
  exact ⟨_, lvs_mem t t.length _ h1 h2, by simp⟩
theorem leaves_half {t : List Nd} (h : (treeF t 8).2 = 0) : 2 * (leavesV t).length = t.length + 1 := by
  obtain ⟨F, _⟩ := tree_ok h
  unfold leavesV
  rw [if_pos h]; exact halves F
/-- the tree of one question -/
def oneT : List Nd := [(0, 5, 1, 2, false, 0), (-1, 0, 0, 0, false, 7), (-1, 0, 0, 0, false, 9)]
theorem one_ready (x : Int) (h : x = 4 ∨ x = 5) : readyF oneT [x] = 0 := by rcases h with rfl | rfl <;> decide +kernel
theorem one_four : evalV oneT [4] = 7 := by decide +kernel
theorem one_five : evalV oneT [5] = 9 := by decide +kernel

end Go.Proofs.YtlloiccodjnkcagGreatDoor.M

namespace Go.Proofs.YtlloiccodjnkcagGreatDoor.M
set_option linter.unusedVariables false

def isLf (t : List Nd) (k : Int) : Bool := decide (0 ≤ k) && decide (k < (t.length : Int)) && leafB (nAt t k.toNat)
def regF (t : List Nd) (m k : Int) : Int := if (treeF t m).2 ≠ 0 then (treeF t m).2 else if isLf t k = false then 1 else 0
def regV (t : List Nd) (m k : Int) : List Sp := if regF t m k = 0 then (region t m.toNat k.toNat).map norm else []
def regB (t : List Nd) (m k : Int) : Bool := if regF t m k = 0 then anyS (region t m.toNat k.toNat) else false
def rchV (t : List Nd) (m : Int) : List Int := if (treeF t m).2 = 0 then rch t m.toNat t.length else []
def witV (l : List Sp) : List Int := if spF l = 0 then pick l else []

theorem within_norm {r : List Int} {l : List Sp} : within r (l.map norm) ↔ within r l := by
  unfold within
  rw [List.length_map]
  constructor
  · intro h j hj
    have := h j hj
    rw [getD_at (l := l.map norm) (by rw [List.length_map]; exact hj), List.getElem_map, in_norm] at this
    rw [getD_at (l := l) hj]; exact this
  · intro h j hj
    have := h j hj
    rw [getD_at (l := l) hj] at this
    rw [getD_at (l := l.map norm) (by rw [List.length_map]; exact hj), List.getElem_map, in_norm]; exact this
theorem fit_within {xs : List Int} {ss : List Sp} (h : rowF xs = 0) (hl : ss.length = xs.length) : fitV xs ss = true ↔ within xs ss := by
  rw [(fit_ok h hl).2]
  unfold within outAt
  rw [Bool.not_eq_true', List.any_eq_false, hl]
  constructor
  · intro q j hj
    have := q j (List.mem_range.2 hj)
    simpa using this
  · intro q j hj
    have := q j (List.mem_range.1 hj)
    rw [this]; simp

/-- what a leaf's place gives -/
theorem leaf_place {t : List Nd} {r : List Int} (h : readyF t r = 0) {k : Nat} (hk : k < t.length) (hl : nf (nAt t k) = -1) :
    regF t (r.length : Int) (k : Int) = 0 ∧ fitF r (regV t (r.length : Int) (k : Int)) = 0 ∧ fitV r (regV t (r.length : Int) (k : Int)) = decide (k = leafV t r) ∧
    regB t (r.length : Int) (k : Int) = (rchV t (r.length : Int)).any (· == (k : Int)) ∧ (k = leafV t r → regB t (r.length : Int) (k : Int) = true) := by
  obtain ⟨h1, h2⟩ := ready_ok h
  obtain ⟨F, _⟩ := tree_ok h2
  have e0 : regF t (r.length : Int) (k : Int) = 0 := by
    unfold regF isLf
    rw [if_neg (by simp [h2]), if_neg]
    rw [decide_eq_true (show (0 : Int) ≤ (k : Int) by omega), decide_eq_true (show (k : Int) < (t.length : Int) by omega), Int.toNat_natCast]
    unfold leafB
    rw [decide_eq_true hl]; simp
  have eV : regV t (r.length : Int) (k : Int) = (region t r.length k).map norm := by unfold regV; rw [if_pos e0, Int.toNat_natCast, Int.toNat_natCast]
  have eB : regB t (r.length : Int) (k : Int) = anyS (region t r.length k) := by unfold regB; rw [if_pos e0, Int.toNat_natCast, Int.toNat_natCast]
  have eL : leafV t r = toD t r 0 := by unfold leafV; rw [if_pos h]
  have eR : rchV t (r.length : Int) = rch t r.length t.length := by unfold rchV; rw [if_pos h2, Int.toNat_natCast]
  have hlen : ((region t r.length k).map norm).length = r.length := by rw [List.length_map, region_len]
  have hw := region_leaf F h1 rfl hk hl
  refine ⟨e0, by rw [eV]; exact (fit_ok h1 hlen).1, ?_, ?_, ?_⟩
  · rw [eV, eL]
    have : fitV r ((region t r.length k).map norm) = true ↔ k = toD t r 0 := by rw [fit_within h1 hlen, within_norm, hw]
    by_cases q : k = toD t r 0
    · rw [this.2 q, decide_eq_true q]
    · rw [decide_eq_false q]
      cases e : fitV r ((region t r.length k).map norm) with
      | false => rfl
      | true => exact absurd (this.1 e) q
  · rw [eB, eR]
    cases ha : anyS (region t r.length k) with
    | true =>
      symm
      rw [List.any_eq_true]
      exact ⟨(k : Int), (rch_mem t r.length t.length _).2 ⟨k, rfl, hk, by unfold leafB; exact decide_eq_true hl, ha⟩, by simp⟩
    | false =>
      symm
      rw [List.any_eq_false]
      intro x hx hq
      obtain ⟨j, e, _, _, hj⟩ := (rch_mem t r.length t.length _).1 hx
      have : x = (k : Int) := by simpa using hq
      have : j = k := by omega
      subst this
      rw [ha] at hj; cases hj
  · intro q
    rw [eB]
    exact any_within (hw.2 (by rw [q, eL]))
theorem wit_place {t : List Nd} {r : List Int} (h : readyF t r = 0) {k : Nat} (hk : k < t.length) (hl : nf (nAt t k) = -1) (hb : regB t (r.length : Int) (k : Int) = true) :
    spF (regV t (r.length : Int) (k : Int)) = 0 ∧ readyF t (witV (regV t (r.length : Int) (k : Int))) = 0 ∧ leafV t (witV (regV t (r.length : Int) (k : Int))) = k := by
  obtain ⟨h1, h2⟩ := ready_ok h
  obtain ⟨F, _⟩ := tree_ok h2
  have e0 := (leaf_place h hk hl).1
  have eV : regV t (r.length : Int) (k : Int) = (region t r.length k).map norm := by unfold regV; rw [if_pos e0, Int.toNat_natCast, Int.toNat_natCast]
  have eB : regB t (r.length : Int) (k : Int) = anyS (region t r.length k) := by unfold regB; rw [if_pos e0, Int.toNat_natCast, Int.toNat_natCast]
  rw [eB] at hb
  obtain ⟨g1, g2, g3⟩ := witness F hk hl hb
  rw [eV]
  have eW : witV ((region t r.length k).map norm) = pick ((region t r.length k).map norm) := by unfold witV; rw [if_pos g1]
  have hp : (pick ((region t r.length k).map norm)).length = r.length := by unfold pick; rw [List.length_map, List.length_map, region_len]
  have hready : readyF t (pick ((region t r.length k).map norm)) = 0 := by rw [ready_tree g2, hp]; exact h2
  refine ⟨g1, by rw [eW]; exact hready, ?_⟩
  rw [eW]; unfold leafV; rw [if_pos hready]; exact g3
theorem one_region : regF oneT 1 2 = 0 ∧ regV oneT 1 2 = [(5, 1000000, true)] ∧ regB oneT 1 2 = true := by decide +kernel
theorem leafV_leaf {t : List Nd} {r : List Int} (h : readyF t r = 0) : leafV t r < t.length ∧ nf (nAt t (leafV t r)) = -1 := by
  obtain ⟨F, _⟩ := tree_ok (ready_ok h).2
  unfold leafV
  rw [if_pos h]
  exact to_end F.2.2.2.2.1 r t.length 0 F.2.1 (by omega)

end Go.Proofs.YtlloiccodjnkcagGreatDoor.M

namespace Go.Proofs.YtlloiccodjnkcagGreatDoor
open Go.ChangeShapes Go.WideShapes Go.ChangeAt Go.RowKit
set_option linter.unusedVariables false

/-- the node above a place, as a number -/
def M.upI (t : List M.Nd) (k : Nat) : Int := match M.abv t k with
  | none => -1
  | some u => (u : Int)
def M.upP (t : List M.Nd) (k : Nat) (i : Nat) : Bool := decide (M.nf (M.nAt t i) ≠ -1) && (decide (M.nl (M.nAt t i) = (k : Int)) || decide (M.nr (M.nAt t i) = (k : Int)))
theorem M.up_hit {t : List M.Nd} {k i : Nat} (hi : i < t.length) (hp : M.upP t k i = true) (hj : ∀ j, j < i → M.upP t k j = false) : M.upI t k = (i : Int) := by
  unfold M.upI
  have : M.abv t k = some i := M.first_hit (p := M.upP t k) hp hj hi
  rw [this]
theorem M.up_miss {t : List M.Nd} {k : Nat} (hj : ∀ j, j < t.length → M.upP t k j = false) : M.upI t k = -1 := by
  unfold M.upI
  have : M.abv t k = none := M.first_miss (p := M.upP t k) hj
  rw [this]

theorem M.up_none {t : List M.Nd} {k : Nat} (e : M.abv t k = none) : M.upI t k = -1 := by unfold M.upI; rw [e]
theorem M.up_some' {t : List M.Nd} {k u : Nat} (e : M.abv t k = some u) : M.upI t k = (u : Int) := by unfold M.upI; rw [e]

set_option maxHeartbeats 2000000 in
theorem up_any (a0 : Option Addr) (ts : List M.Nd) (cap k : Nat) (w : World) (h : RdN w a0 ts) :
    Calls Tryz.prog 60 #[.slice a0 ts.length cap, .int .i64 (k : Nat)] w fun e w' => e = .returned (.int .i64 (M.upI ts k)) ∧ w' = w := by
  have hm : ts.length ≤ 9223372036854775807 := h.1
  have HR := hide h.2
  have UH : Hid (∀ i, i < ts.length → M.upP ts k i = true → (∀ j, j < i → M.upP ts k j = false) → M.upI ts k = (i : Int)) := fun i => M.up_hit
  have UM : Hid ((∀ j, j < ts.length → M.upP ts k j = false) → M.upI ts k = -1) := M.up_miss
  clear h
  generalize M.upI ts k = o at *
  go_enter Tryz.func60, Tryz.ntmps60
  go_wp2
  go_loop [5] (fun i => ∃ j : Nat, j ≤ ts.length ∧ i = .int .i64 j ∧ Hid (∀ p, p < j → M.upP ts k p = false)) (fun i => ts.length - (intOf i).toNat)
  case atStart => exact ⟨0, Nat.zero_le _, rfl, fun p hp => by omega⟩
  case round =>
    obtain ⟨j, hj, rfl, I⟩ := hrel
    by_cases hlt : j < ts.length
    · obtain ⟨b, off, rfl, hb, hc⟩ := HR.out (by intro e; subst e; simp at hlt)
      obtain ⟨s0, s1, s2, s3, s4, s5⟩ := hc j hlt
      have N : Hid (M.upP ts k j = false → ∀ p, p < j + 1 → M.upP ts k p = false) := fun hf p hp => by
        by_cases e : p = j
        · subst e; exact hf
        · exact I.out p (by omega)
      have HT : Hid (M.upP ts k j = true → o = (j : Int)) := fun ht => UH.out j hlt ht I.out
      have PE : Hid (M.upP ts k j = (decide (M.nf (M.nAt ts j) ≠ -1) && (decide (M.nl (M.nAt ts j) = (k : Int)) || decide (M.nr (M.nAt ts j) = (k : Int))))) := rfl
      clear hc UH UM
      generalize M.upP ts k j = pp at *
      generalize M.nf (M.nAt ts j) = f at *
      generalize M.nl (M.nAt ts j) = l at *
      generalize M.nr (M.nAt ts j) = r at *
      by_cases hf : f = -1
      · have q : (f != -1) = false := by rw [bne_eq_false_iff_eq]; exact hf
        have E := hide (N.out (by rw [PE.out]; simp [hf]))
        clear hf N HT PE
        go_wp2
        go_round
        case rel => exact ⟨j + 1, by omega, by go_num, E⟩
        case measure => simp [intOf]; omega
      · have q : (f != -1) = true := by rw [bne_iff_ne]; exact hf
        by_cases h1 : l = (k : Int)
        · have q1 : (l == (k : Int)) = true := by rw [beq_iff_eq]; exact h1
          have E := hide (HT.out (by rw [PE.out]; simp [hf, h1]))
          clear hf h1 N HT PE
          go_wp2
          go_ret
          exact ⟨ret_int E.out.symm, rfl⟩
        · have q1 : (l == (k : Int)) = false := by rw [beq_eq_false_iff_ne]; exact h1
          by_cases h2 : r = (k : Int)
          · have q2 : (r == (k : Int)) = true := by rw [beq_iff_eq]; exact h2
            have E := hide (HT.out (by rw [PE.out]; simp [hf, h2]))
            clear hf h1 h2 N HT PE
            go_wp2
            go_ret
            exact ⟨ret_int E.out.symm, rfl⟩
          · have q2 : (r == (k : Int)) = false := by rw [beq_eq_false_iff_ne]; exact h2
            have E := hide (N.out (by rw [PE.out]; simp [h1, h2]))
            clear hf h1 h2 N HT PE
            go_wp2
            go_round
            case rel => exact ⟨j + 1, by omega, by go_num, E⟩
            case measure => simp [intOf]; omega
    · have E := hide (UM.out fun p hp => I.out p (by omega))
      go_wp2
      go_ret
      exact ⟨ret_int E.out.symm, rfl⟩

end Go.Proofs.YtlloiccodjnkcagGreatDoor

namespace Go.Proofs.YtlloiccodjnkcagGreatDoor
open Go.ChangeShapes Go.WideShapes Go.ChangeAt Go.RowKit Go.Lib
set_option linter.unusedVariables false

/-- a tree that became of another one -/
structure Less2 (m : Nat) (T T' : M.BT) : Prop where
  prn : M.prn (M.vld m) T' = M.prn (M.vld m) T
  size : T'.size < T.size
  deep : T'.deep ≤ T.deep
  ok : M.okB (m : Int) T'

/-- Sort behind nothing -/
theorem rsort_new (ts : List M.Nd) (m : Int) (hR : M.Right ts m) (l63 : ts.length ≤ 63) (bt ot cap i : Nat) (hi : i < ts.length) (w : World) (hbt : bt < w.heap.size) (hct : ∀ j, j < ts.length → SixAt w bt (ot + j * 6) (M.nAt ts j)) (hs : (M.bt ts i).size ≤ 1000) :
    Calls Tryz.prog 29 #[.slice (some ⟨bt, ot, none⟩) ts.length cap, .int .i64 (i : Nat), .slice none 0 0] w fun e w' => ∃ a c, e = .returned (.slice a (M.bt ts i).size c) ∧ RdN w' a (M.lay (M.bt ts i) 0) ∧ (∀ p, a = some p → w.heap.size ≤ p.block) ∧ Below w.heap.size w w' := by
  refine (rsort_any ts m hR l63 bt ot cap w.heap.size ts.length i hi (by omega) [] none 0 w hbt hct (fun e => by cases e) (World.ownsRow_nil _ _ _ _) (Nat.le_refl _) (by simpa using hs)).mono ?_
  rintro e w' ⟨g, c, rfl, ho, hg, ha⟩
  simp only [List.length_nil, Nat.zero_add, List.nil_append] at ho ⊢
  obtain ⟨a, cp, e2, hr, hp⟩ := own_rdN (M.lay_len _ _) (by unfold maxLen; omega) ho
  cases e2
  exact ⟨_, c, rfl, hr, hp, ⟨hg.os, hg.tape, hg.output, hg.size, fun k hk => hg.block k hk (fun e => by cases e)⟩⟩

set_option maxHeartbeats 8000000 in
set_option maxRecDepth 10000 in
/-- what became of it, whatever is asked of that -/
theorem rgive_gen (P : M.BT → Prop) (a0 : Option Addr) (ts : List M.Nd) (cap m at' tt : Nat) (w : World) (h : RdN w a0 ts) (F : M.Fair ts (m : Int)) (hat : at' < ts.length) (hto : tt < ts.length) (hc : M.chL (M.nAt ts at') (tt : Nat)) (hs : (M.bt ts 0).size ≤ 63) (hP0 : at' = 0 → P (M.bt ts tt)) (hP1 : ∀ up, M.Below2 ts m up at' tt → P (M.bt (ts.set up (M.turnN (M.nAt ts up) at' tt)) 0)) :
    Calls Tryz.prog 30 #[.slice a0 ts.length cap, .int .i64 (at' : Nat), .int .i64 (tt : Nat)] w fun e w' => ∃ T a c, e = .returned (.slice a T.size c) ∧ RdN w' a (M.lay T 0) ∧ P T ∧ (∀ p, a = some p → w.heap.size ≤ p.block) ∧ Below w.heap.size w w' := by
  have hR := F.2.2.2.2.1
  have l63 := F.1
  have l0 := F.2.1
  obtain ⟨bt, ot, rfl, hbt, hct⟩ := h.2 (by intro e; rw [e] at l0; simp at l0)
  have CU := hide (fun W (hW : Below w.heap.size w W) => up_any (some ⟨bt, ot, none⟩) ts cap at' W (h.below hW))
  obtain ⟨j0, hj, hy0, hy1, hy2⟩ := info_parts infoN
  have J0 := hide hj
  have SR := hide (nd_src hct)
  rcases Nat.eq_zero_or_pos at' with h0 | h0
  · subst h0
    have eu : M.upI ts 0 = -1 := M.up_none (M.abv_root F)
    rw [eu] at CU
    have LS : Hid (P (M.bt ts tt)) := hP0 rfl
    have hs2 : (M.bt ts tt).size ≤ 63 := by have := (M.side_lt hR hat hc).1; omega
    have CS := hide (fun W (hW : Below w.heap.size w W) => rsort_new ts (m : Int) hR l63 bt ot cap tt hto W (Nat.lt_of_lt_of_le hbt hW.size) (fun j hj => (hct j hj).below hW hbt) (by omega))
    clear h F hR hct hc hj hs hs2 eu hP0 hP1
    generalize M.bt ts tt = T at *
    generalize M.bt ts 0 = T0 at *
    go_enter Tryz.func30, Tryz.ntmps30
    go_wp2_with (first
      | (at_builtin; refine wpList_append_lies _ rfl (.tmp 9) (.tmp 10) 26 rfl w.heap.size 64 j0 (.agg #[.int .i64 0, .int .i64 0, .int .i64 0, .int .i64 0, .bool false, .int .i64 0]) 6 48 Tryz.underlying26 J0.out hy0 hy1 hy2 rfl (by omega) (.slice none 0 0) 0 [] rfl (World.ownsRow_nil _ _ _ _) ⟨bt, ot, none⟩ ts.length cap (ndCells ts) rfl (ndCells_len ts) SR.out (ndCells_one ts) (by omega) (by unfold maxLen; omega) (by omega) (Nat.le_refl _) w.heap.size rfl ?_; intro g c w1 hov hgrow hat hlt; have B1 : Below w.heap.size w w1 := ⟨hgrow.os, hgrow.tape, hgrow.output, hgrow.size, fun k hk => hgrow.block k hk (fun e => by cases e)⟩; clear hov hgrow hat)
      | (go_at_call 60; refine (CU.out _ B1).mono ?_; rintro e w2 ⟨rfl, e2⟩; subst w2)
      | (go_at_call 29; refine (CS.out _ B1).mono ?_; rintro e w3 ⟨a3, c3, rfl, hr3, hp3, hb3⟩; have HR3 := hide hr3; clear hr3))
    go_ret
    exact ⟨T, a3, c3, rfl, HR3.out, LS.out, fun p hp => Nat.le_trans B1.size (hp3 p hp), below_on B1 hb3⟩
  · obtain ⟨up, hu⟩ := M.abv_some F hat h0
    have eu : M.upI ts at' = (up : Int) := M.up_some' hu
    rw [eu] at CU
    obtain ⟨hup, cup⟩ := (M.abv_iff F hat).1 hu
    have B : M.Below2 ts m up at' tt := ⟨F, hup, hat, hto, cup, hc⟩
    have LS : Hid (P (M.bt (ts.set up (M.turnN (M.nAt ts up) at' tt)) 0)) := hP1 up B
    have CS : Hid (∀ W g c, Below w.heap.size w W → W.ownsRow w.heap.size 64 6 (.slice (some ⟨g, 0, none⟩) ts.length c) ts.length (ndCells (ts.set up (M.turnN (M.nAt ts up) at' tt))) → Calls Tryz.prog 29 #[.slice (some ⟨g, 0, none⟩) ts.length c, .int .i64 0, .slice none 0 0] W fun e w' => ∃ a c, e = .returned (.slice a (M.bt (ts.set up (M.turnN (M.nAt ts up) at' tt)) 0).size c) ∧ RdN w' a (M.lay (M.bt (ts.set up (M.turnN (M.nAt ts up) at' tt)) 0) 0) ∧ (∀ p, a = some p → W.heap.size ≤ p.block) ∧ Below W.heap.size W w') := fun W g c hW ho => by
      have hlU : (ts.set up (M.turnN (M.nAt ts up) at' tt)).length = ts.length := List.length_set
      obtain ⟨a, cp, e, hr, hp⟩ := own_rdN hlU (by unfold maxLen; omega) ho
      cases e
      obtain ⟨b2, o2, e2, hl2, hc2⟩ := hr.2 (by intro q; rw [q] at hlU; simp at hlU; omega)
      cases e2
      have := rsort_new (ts.set up (M.turnN (M.nAt ts up) at' tt)) (m : Int) B.right (by rw [hlU]; exact l63) g 0 c 0 (by rw [hlU]; exact l0) W hl2 hc2 (by have := B.lt.1; omega)
      rw [hlU] at this
      exact this
    have upz : ¬ ((up : Int) < 0) := by omega
    have upl : (up : Int) < (ts.length : Int) := by omega
    by_cases c : M.nl (M.nAt ts up) = (at' : Int)
    · have t1 : (M.nl (M.nAt ts up) == (at' : Int)) = true := by rw [beq_iff_eq]; exact c
      rw [show M.turnN (M.nAt ts up) at' tt = (M.nf (M.nAt ts up), M.nc (M.nAt ts up), (tt : Int), M.nr (M.nAt ts up), M.ns (M.nAt ts up), M.nv (M.nAt ts up)) by unfold M.turnN; rw [if_pos c]] at LS
      have UE : Hid (M.turnN (M.nAt ts up) at' tt = (M.nf (M.nAt ts up), M.nc (M.nAt ts up), (tt : Int), M.nr (M.nAt ts up), M.ns (M.nAt ts up), M.nv (M.nAt ts up))) := by unfold Hid M.turnN; rw [if_pos c]
      rw [UE.out] at CS
      have STL : Hid (∀ (W : World) (g c : Nat), W.ownsRow w.heap.size 64 6 (.slice (some ⟨g, 0, none⟩) ts.length c) ts.length (ndCells ts) → (W.setCell ⟨g, up * 6 + 2, none⟩ (.int .i64 (tt : Int))).ownsRow w.heap.size 64 6 (.slice (some ⟨g, 0, none⟩) ts.length c) ts.length (ndCells (ts.set up (M.nf (M.nAt ts up), M.nc (M.nAt ts up), (tt : Int), M.nr (M.nAt ts up), M.ns (M.nAt ts up), M.nv (M.nAt ts up))))) := fun W g c ho => by
        have st := (ho.stored (up * 6 + 2) (.int .i64 (tt : Int))).1
        rw [ndCells_setL ts up hup] at st
        exact st
      have CEL : Hid (∀ (W : World) (g c : Nat), W.ownsRow w.heap.size 64 6 (.slice (some ⟨g, 0, none⟩) ts.length c) ts.length (ndCells ts) → W.cell? ⟨g, up * 6 + 2, none⟩ = some (.int .i64 (M.nl (M.nAt ts up))) ∧ W.cell? ⟨g, up * 6 + 3, none⟩ = some (.int .i64 (M.nr (M.nAt ts up))) ∧ W.frozen? ⟨g, up * 6 + 2, none⟩ = false) := fun W g c ho => by
        obtain ⟨x0, x1, x2, x3, x4, x5⟩ := ndCells_at ts up hup
        exact ⟨(ho.cellAt (up * 6 + 2) (by omega)).trans x2, (ho.cellAt (up * 6 + 3) (by omega)).trans x3, ho.frozenAt _⟩
      generalize ts.set up (M.nf (M.nAt ts up), M.nc (M.nAt ts up), (tt : Int), M.nr (M.nAt ts up), M.ns (M.nAt ts up), M.nv (M.nAt ts up)) = U at *
      clear h F hR hct hc hj hs eu B cup hu c hP0 hP1
      generalize M.nl (M.nAt ts up) = nl at *
      generalize M.nr (M.nAt ts up) = nr at *
      generalize M.bt U 0 = T at *
      generalize M.bt ts 0 = T0 at *
      go_enter Tryz.func30, Tryz.ntmps30
      go_wp2_with (first
        | (at_builtin; refine wpList_append_lies _ rfl (.tmp 9) (.tmp 10) 26 rfl w.heap.size 64 j0 (.agg #[.int .i64 0, .int .i64 0, .int .i64 0, .int .i64 0, .bool false, .int .i64 0]) 6 48 Tryz.underlying26 J0.out hy0 hy1 hy2 rfl (by omega) (.slice none 0 0) 0 [] rfl (World.ownsRow_nil _ _ _ _) ⟨bt, ot, none⟩ ts.length cap (ndCells ts) rfl (ndCells_len ts) SR.out (ndCells_one ts) (by omega) (by unfold maxLen; omega) (by omega) (Nat.le_refl _) w.heap.size rfl ?_; intro g c w1 hov hgrow hat hlt; have B1 : Below w.heap.size w w1 := ⟨hgrow.os, hgrow.tape, hgrow.output, hgrow.size, fun k hk => hgrow.block k hk (fun e => by cases e)⟩; rw [Nat.zero_add, List.nil_append] at hov; have HO1 := hide hov; have gB := (hov.lt g rfl).1; have CE1 := CEL.out w1 g c hov; have y2 := CE1.1; have y3 := CE1.2.1; have yf := CE1.2.2; have HS1 := hide (STL.out w1 g c hov); clear hov hgrow hat CE1)
        | (go_at_call 60; refine (CU.out _ B1).mono ?_; rintro e w2 ⟨rfl, e2⟩; subst w2)
        | (go_at_call 29; refine (CS.out _ g c (B1.setCell (p := ⟨g, up * 6 + 2, none⟩) gB _) HS1.out).mono ?_; rintro e w3 ⟨a3, c3, rfl, hr3, hp3, hb3⟩; have HR3 := hide hr3; have B3 := below_on (B1.setCell (p := ⟨g, up * 6 + 2, none⟩) gB (.int .i64 (tt : Int))) hb3; clear hr3))
      go_ret
      exact ⟨T, a3, c3, rfl, HR3.out, LS.out, fun p hp => Nat.le_trans B1.size (by have := hp3 p hp; simpa using this), B3⟩
    · have t1 : (M.nl (M.nAt ts up) == (at' : Int)) = false := by rw [beq_eq_false_iff_ne]; exact c
      rw [show M.turnN (M.nAt ts up) at' tt = (M.nf (M.nAt ts up), M.nc (M.nAt ts up), M.nl (M.nAt ts up), (tt : Int), M.ns (M.nAt ts up), M.nv (M.nAt ts up)) by unfold M.turnN; rw [if_neg c]] at LS
      have UE : Hid (M.turnN (M.nAt ts up) at' tt = (M.nf (M.nAt ts up), M.nc (M.nAt ts up), M.nl (M.nAt ts up), (tt : Int), M.ns (M.nAt ts up), M.nv (M.nAt ts up))) := by unfold Hid M.turnN; rw [if_neg c]
      rw [UE.out] at CS
      have STL : Hid (∀ (W : World) (g c : Nat), W.ownsRow w.heap.size 64 6 (.slice (some ⟨g, 0, none⟩) ts.length c) ts.length (ndCells ts) → (W.setCell ⟨g, up * 6 + 3, none⟩ (.int .i64 (tt : Int))).ownsRow w.heap.size 64 6 (.slice (some ⟨g, 0, none⟩) ts.length c) ts.length (ndCells (ts.set up (M.nf (M.nAt ts up), M.nc (M.nAt ts up), M.nl (M.nAt ts up), (tt : Int), M.ns (M.nAt ts up), M.nv (M.nAt ts up))))) := fun W g c ho => by
        have st := (ho.stored (up * 6 + 3) (.int .i64 (tt : Int))).1
        rw [ndCells_setR ts up hup] at st
        exact st
      have CEL : Hid (∀ (W : World) (g c : Nat), W.ownsRow w.heap.size 64 6 (.slice (some ⟨g, 0, none⟩) ts.length c) ts.length (ndCells ts) → W.cell? ⟨g, up * 6 + 2, none⟩ = some (.int .i64 (M.nl (M.nAt ts up))) ∧ W.cell? ⟨g, up * 6 + 3, none⟩ = some (.int .i64 (M.nr (M.nAt ts up))) ∧ W.frozen? ⟨g, up * 6 + 3, none⟩ = false) := fun W g c ho => by
        obtain ⟨x0, x1, x2, x3, x4, x5⟩ := ndCells_at ts up hup
        exact ⟨(ho.cellAt (up * 6 + 2) (by omega)).trans x2, (ho.cellAt (up * 6 + 3) (by omega)).trans x3, ho.frozenAt _⟩
      generalize ts.set up (M.nf (M.nAt ts up), M.nc (M.nAt ts up), M.nl (M.nAt ts up), (tt : Int), M.ns (M.nAt ts up), M.nv (M.nAt ts up)) = U at *
      clear h F hR hct hc hj hs eu B cup hu c hP0 hP1
      generalize M.nl (M.nAt ts up) = nl at *
      generalize M.nr (M.nAt ts up) = nr at *
      generalize M.bt U 0 = T at *
      generalize M.bt ts 0 = T0 at *
      go_enter Tryz.func30, Tryz.ntmps30
      go_wp2_with (first
        | (at_builtin; refine wpList_append_lies _ rfl (.tmp 9) (.tmp 10) 26 rfl w.heap.size 64 j0 (.agg #[.int .i64 0, .int .i64 0, .int .i64 0, .int .i64 0, .bool false, .int .i64 0]) 6 48 Tryz.underlying26 J0.out hy0 hy1 hy2 rfl (by omega) (.slice none 0 0) 0 [] rfl (World.ownsRow_nil _ _ _ _) ⟨bt, ot, none⟩ ts.length cap (ndCells ts) rfl (ndCells_len ts) SR.out (ndCells_one ts) (by omega) (by unfold maxLen; omega) (by omega) (Nat.le_refl _) w.heap.size rfl ?_; intro g c w1 hov hgrow hat hlt; have B1 : Below w.heap.size w w1 := ⟨hgrow.os, hgrow.tape, hgrow.output, hgrow.size, fun k hk => hgrow.block k hk (fun e => by cases e)⟩; rw [Nat.zero_add, List.nil_append] at hov; have HO1 := hide hov; have gB := (hov.lt g rfl).1; have CE1 := CEL.out w1 g c hov; have y2 := CE1.1; have y3 := CE1.2.1; have yf := CE1.2.2; have HS1 := hide (STL.out w1 g c hov); clear hov hgrow hat CE1)
        | (go_at_call 60; refine (CU.out _ B1).mono ?_; rintro e w2 ⟨rfl, e2⟩; subst w2)
        | (go_at_call 29; refine (CS.out _ g c (B1.setCell (p := ⟨g, up * 6 + 3, none⟩) gB _) HS1.out).mono ?_; rintro e w3 ⟨a3, c3, rfl, hr3, hp3, hb3⟩; have HR3 := hide hr3; have B3 := below_on (B1.setCell (p := ⟨g, up * 6 + 3, none⟩) gB (.int .i64 (tt : Int))) hb3; clear hr3))
      go_ret
      exact ⟨T, a3, c3, rfl, HR3.out, LS.out, fun p hp => Nat.le_trans B1.size (by have := hp3 p hp; simpa using this), B3⟩

theorem rgive_any (a0 : Option Addr) (ts : List M.Nd) (cap m at' tt : Nat) (w : World) (h : RdN w a0 ts) (F : M.Fair ts (m : Int)) (hat : at' < ts.length) (hto : tt < ts.length) (hc : M.chL (M.nAt ts at') (tt : Nat)) (he : M.prn (M.Pw ts m at') (M.bt ts tt) = M.prn (M.Pw ts m at') (M.bt ts at')) (hs : (M.bt ts 0).size ≤ 63) :
    Calls Tryz.prog 30 #[.slice a0 ts.length cap, .int .i64 (at' : Nat), .int .i64 (tt : Nat)] w fun e w' => ∃ T a c, e = .returned (.slice a T.size c) ∧ RdN w' a (M.lay T 0) ∧ Less2 m (M.bt ts 0) T ∧ (∀ p, a = some p → w.heap.size ≤ p.block) ∧ Below w.heap.size w w' := by
  have hR := F.2.2.2.2.1
  refine rgive_gen (Less2 m (M.bt ts 0)) a0 ts cap m at' tt w h F hat hto hc hs (fun z => ?_) (fun up B => ⟨B.same he, B.lt.1, B.lt.2.1, B.lt.2.2⟩)
  subst z
  have sl := M.side_lt hR hat hc
  refine ⟨?_, sl.1, sl.2, M.bt_ok hR ts.length tt hto (by omega)⟩
  rw [M.pw_root F] at he
  exact he

end Go.Proofs.YtlloiccodjnkcagGreatDoor

namespace Go.Proofs.YtlloiccodjnkcagGreatDoor.M
set_option linter.unusedVariables false

/-- a tree that became of another one, without a feature at a place -/
structure Gone (m : Nat) (f : Int) (T : BT) (i : Nat) (T' : BT) : Prop where
  ok : okB (m : Int) T'
  size : T'.size < T.size
  deep : T'.deep ≤ T.deep
  same : wo f T' = wo f T
  pre : (pre T').take i = (pre T).take i
theorem sub_ask {T : BT} {i : Nat} (hi : i < T.size) (h : nf (nAt (lay T 0) i) ≠ -1) : ∃ c s l r, sub T i = .nd (nf (nAt (lay T 0) i)) c s l r ∧ nAt (lay T 0) i = (nf (nAt (lay T 0) i), c, ((i + 1 : Nat) : Int), ((i + 1 + l.size : Nat) : Int), s, 0) ∧ Sits (lay T 0) (i + 1) l ∧ Sits (lay T 0) (i + 1 + l.size) r := by
  have S := (sits_lay T).under hi
  rw [Nat.zero_add] at S
  cases hs : sub T i with
  | lf v =>
    rw [hs] at S
    have e := S.leaf
    rw [e] at h
    exact absurd rfl h
  | nd f c s l r =>
    rw [hs] at S
    obtain ⟨e, s1, s2⟩ := S.sides
    have ef : nf (nAt (lay T 0) i) = f := by rw [e]; rfl
    exact ⟨c, s, l, r, by rw [ef], by rw [ef]; exact e, s1, s2⟩
/-- to which side it gives way -/
def sideN (n : Nd) : Int := if ns n = true then nl n else nr n
theorem gone {m : Nat} {T : BT} (ok : okB (m : Int) T) (h8 : m ≤ 8) (hz : T.size ≤ 63) {i : Nat} (hi : i < T.size) (h : nf (nAt (lay T 0) i) ≠ -1) :
    ∃ tw : Nat, sideN (nAt (lay T 0) i) = (tw : Int) ∧ tw < (lay T 0).length ∧ chL (nAt (lay T 0) i) (tw : Nat) ∧
      (i = 0 → Gone m (nf (nAt (lay T 0) i)) T i (bt (lay T 0) tw)) ∧
      ∀ up, Below2 (lay T 0) m up i tw → Gone m (nf (nAt (lay T 0) i)) T i (bt ((lay T 0).set up (turnN (nAt (lay T 0) up) i tw)) 0) := by
  have F : Fair (lay T 0) (m : Int) := lay_fair ok (by omega) (by omega) hz
  have hR := F.2.2.2.2.1
  obtain ⟨c, s, l, r, es, en, s1, s2⟩ := sub_ask hi h
  have lp := BT.size_pos l
  have rp := BT.size_pos r
  have so := sub_ok T i hi ok
  rw [es] at so
  have ll := lay_len T 0
  -- the side
  obtain ⟨tw, V, eto, tolt, tch, hV, vsz, vdp, vok, vwo⟩ : ∃ (tw : Nat) (V : BT), sideN (nAt (lay T 0) i) = (tw : Int) ∧ tw < (lay T 0).length ∧ chL (nAt (lay T 0) i) (tw : Nat) ∧ Sits (lay T 0) tw V ∧ V.size < (sub T i).size ∧ V.deep ≤ (sub T i).deep ∧ okB (m : Int) V ∧ wo (nf (nAt (lay T 0) i)) V = wo (nf (nAt (lay T 0) i)) (sub T i) := by
    have z1 : (sub T i).size = 1 + l.size + r.size := by rw [es]; rfl
    have z2 : (sub T i).deep = 1 + max l.deep r.deep := by rw [es]; rfl
    cases hs : s with
    | true =>
      subst hs
      refine ⟨i + 1, l, by rw [en]; rfl, by have := s1.1; omega, ⟨h, .inl (by rw [en]; rfl)⟩, s1, by omega, by omega, so.2.2.2.1, ?_⟩
      rw [es, wo_hit, if_pos rfl]
    | false =>
      subst hs
      refine ⟨i + 1 + l.size, r, by rw [en]; rfl, by have := s2.1; omega, ⟨h, .inr (by rw [en]; rfl)⟩, s2, by omega, by omega, so.2.2.2.2, ?_⟩
      rw [es, wo_hit, if_neg (by decide)]
  have make : ∀ T', T' = rep T i V → Gone m (nf (nAt (lay T 0) i)) T i T' := fun T' e => by
    subst e
    exact ⟨rep_ok T i V hi ok vok, rep_size T i V hi vsz, rep_deep T i V hi vdp, rep_wo T i V hi vwo, rep_pre T i V hi⟩
  refine ⟨tw, eto, tolt, tch, fun z => make _ ?_, fun up B => make _ ?_⟩
  · subst z
    rw [hV.tree hR vok, rep_zero]
  · have l1 := ch_lt hR B.hup B.c1
    have l2 := ch_lt hR B.hat B.c2
    have hl : ((lay T 0).set up (turnN (nAt (lay T 0) up) i tw)).length = (lay T 0).length := List.length_set
    have hq : ∀ q, q ≠ up → nAt ((lay T 0).set up (turnN (nAt (lay T 0) up) i tw)) q = nAt (lay T 0) q := fun q hq => set_ne hq
    have kV : Sits ((lay T 0).set up (turnN (nAt (lay T 0) up) i tw)) tw V := hV.kept hl hq (.inl (by omega))
    have := (Sits.turned (m := (m : Int)) B.right hl hq (set_at B.hup) B.c1 (kV.tree B.right vok) (T := T) (k := 0) ok (sits_lay T) (Nat.zero_le _) (by rw [Nat.zero_add, ← ll]; exact B.hup)).2.2
    rw [this, Nat.sub_zero]

end Go.Proofs.YtlloiccodjnkcagGreatDoor.M

namespace Go.Proofs.YtlloiccodjnkcagGreatDoor
open Go.ChangeShapes Go.WideShapes Go.ChangeAt Go.RowKit Go.Lib
set_option linter.unusedVariables false

def lenV : Value → Nat
  | .slice _ n _ => n
  | _ => 0
theorem M.pre_at {T : M.BT} {k : Nat} (h : k < T.size) : (M.pre T).take (k + 1) = (M.pre T).take k ++ [M.nf (M.nAt (M.lay T 0) k)] := by
  have hl : k < (M.pre T).length := by rw [M.pre_len]; exact h
  rw [List.take_succ_eq_append_getElem hl]
  congr 2
  have hk : k < (M.lay T 0).length := by rw [M.lay_len]; exact h
  have e : (M.pre T)[k] = ((M.lay T 0).map M.nf)[k]'(by simpa using hk) := by congr 1; exact (M.pre_lay T 0).symm
  rw [e, List.getElem_map]
  unfold M.nAt
  rw [M.getD_at hk]
theorem M.gone_le {m : Nat} {f : Int} {T T' : M.BT} {k : Nat} (h : M.Gone m f T k T') (hk : k < T.size) : k ≤ T'.size := by
  have := congrArg List.length h.pre
  rw [List.length_take, List.length_take, M.pre_len, M.pre_len] at this
  omega

set_option maxHeartbeats 8000000 in
set_option maxRecDepth 10000 in
theorem rwo_any (a0 : Option Addr) (ts : List M.Nd) (cap m f : Nat) (w : World) (h : RdN w a0 ts) (F : M.Fair ts (m : Int)) :
    Calls Tryz.prog 10 #[.slice a0 ts.length cap, .int .i64 (f : Nat)] w fun e w' => ∃ a c, e = .returned (.slice a (M.wo (f : Int) (M.bt ts 0)).size c) ∧ RdN w' a (M.lay (M.wo (f : Int) (M.bt ts 0)) 0) ∧ (∀ p, a = some p → w.heap.size ≤ p.block) ∧ Below w.heap.size w w' := by
  have hR := F.2.2.2.2.1
  have l63 := F.1
  have l0 := F.2.1
  have m8 : m ≤ 8 := by have := F.2.2.2.1; omega
  have tz := M.bt_size F
  have ok0 := M.bt_ok hR ts.length 0 l0 (by omega)
  obtain ⟨bt, ot, rfl, hbt, hct⟩ := h.2 (by intro e; rw [e] at l0; simp at l0)
  have RS := hide (rsort_new ts (m : Int) hR l63 bt ot cap 0 l0 w hbt hct (by omega))
  have z63 : (M.bt ts 0).size ≤ 63 := by omega
  have OK0 := hide ok0
  have GO : Hid (∀ (T : M.BT) (i : Nat), M.okB (m : Int) T → T.size ≤ 63 → i < T.size → M.nf (M.nAt (M.lay T 0) i) ≠ -1 → ∃ tt : Nat, M.sideN (M.nAt (M.lay T 0) i) = (tt : Int) ∧ ∀ (a : Option Addr) (c : Nat) (W : World), RdN W a (M.lay T 0) → Calls Tryz.prog 30 #[.slice a T.size c, .int .i64 (i : Nat), .int .i64 (tt : Nat)] W fun e w' => ∃ T' a' c', e = .returned (.slice a' T'.size c') ∧ RdN w' a' (M.lay T' 0) ∧ M.Gone m (M.nf (M.nAt (M.lay T 0) i)) T i T' ∧ (∀ p, a' = some p → W.heap.size ≤ p.block) ∧ Below W.heap.size W w') := fun T i ok hz hi hn => by
    obtain ⟨tt, e1, e2, e3, e4, e5⟩ := M.gone ok m8 hz hi hn
    refine ⟨tt, e1, fun a c W hW => ?_⟩
    have FT : M.Fair (M.lay T 0) (m : Int) := M.lay_fair ok (by omega) (by omega) hz
    have g := rgive_gen (M.Gone m (M.nf (M.nAt (M.lay T 0) i)) T i) a (M.lay T 0) c m i tt W hW FT (by rw [M.lay_len]; exact hi) e2 e3 (by rw [M.bt_of_lay ok]; exact hz) e4 e5
    rw [M.lay_len] at g
    exact g
  clear h F hR hct ok0 tz l63 l0
  obtain ⟨T0, hT0⟩ : ∃ T, T = M.bt ts 0 := ⟨_, rfl⟩
  rw [← hT0] at RS z63 OK0 ⊢
  clear hT0
  go_enter Tryz.func10, Tryz.ntmps10
  go_wp2_with (go_at_call 29; refine RS.out.mono ?_; rintro e w1 ⟨a1, c1, rfl, hr1, hf1, hb1⟩; have R1 := hide hr1; have F1 := hide hf1; have K1 := hide hb1; clear hr1 hf1 hb1)
  clear RS
  go_loopw [0, 5, 6] (fun t i _ wq => ∃ (T : M.BT) (k : Nat) (a : Option Addr) (c : Nat), t = .slice a T.size c ∧ i = .int .i64 k ∧ k ≤ T.size ∧ T.size ≤ 63 ∧ Hid (M.okB (m : Int) T) ∧ Hid (M.wo (f : Int) T = M.wo (f : Int) T0) ∧ Hid (∀ x ∈ (M.pre T).take k, x ≠ (f : Int)) ∧ Hid (RdN wq a (M.lay T 0)) ∧ Hid (∀ p, a = some p → w.heap.size ≤ p.block) ∧ Hid (Below w.heap.size w wq)) (fun t i _ _ => 64 * lenV t - (intOf i).toNat)
  case atStart => exact ⟨T0, 0, a1, c1, rfl, rfl, Nat.zero_le _, z63, OK0, rfl, (fun x hx => by simp at hx), R1, F1, K1⟩
  case round =>
    clear R1 F1 K1 OK0
    obtain ⟨T, k, a, c, rfl, rfl, hk, hz, OK, WO, PR, RT, FR, K⟩ := hrel
    by_cases hlt : k < T.size
    · have kz : (k : Int) < (T.size : Int) := by omega
      have hl : k < (M.lay T 0).length := by rw [M.lay_len]; exact hlt
      obtain ⟨b, off, rfl, hb, hc⟩ := RT.out.2 (by intro e; rw [e] at hl; simp at hl)
      obtain ⟨x0, x1, x2, x3, x4, x5⟩ := hc k hl
      by_cases hf : M.nf (M.nAt (M.lay T 0) k) = (f : Int)
      · have q : (M.nf (M.nAt (M.lay T 0) k) != (f : Int)) = false := by rw [bne_eq_false_iff_eq]; exact hf
        obtain ⟨tt, et, gv⟩ := GO.out T k OK.out hz hlt (by rw [hf]; omega)
        have GV := hide (gv (some ⟨b, off, none⟩) c wr RT.out)
        rw [hf] at GV
        have LE : Hid (∀ T', M.Gone m (f : Int) T k T' → k ≤ T'.size ∧ T'.size < T.size ∧ M.okB (m : Int) T' ∧ M.wo (f : Int) T' = M.wo (f : Int) T0 ∧ ∀ x ∈ (M.pre T').take k, x ≠ (f : Int)) := fun T' g => ⟨M.gone_le g hlt, g.size, g.ok, g.same.trans WO.out, fun x hx => PR.out x (by rw [← g.pre]; exact hx)⟩
        clear gv GO hc hl PR WO OK
        unfold M.sideN at et
        generalize M.nf (M.nAt (M.lay T 0) k) = nf at *
        generalize M.nc (M.nAt (M.lay T 0) k) = nc at *
        generalize M.nl (M.nAt (M.lay T 0) k) = nl at *
        generalize M.nr (M.nAt (M.lay T 0) k) = nr at *
        generalize M.nv (M.nAt (M.lay T 0) k) = nv at *
        clear hf
        cases hs : M.ns (M.nAt (M.lay T 0) k) with
        | true =>
          rw [hs] at x4 et
          rw [if_pos rfl] at et
          rw [et] at x2
          clear et hs
          go_wp2_with (go_at_call 30; refine GV.out.mono ?_; rintro e w2 ⟨T', a', c', rfl, hr2, hg2, hf2, hb2⟩; have R2 := hide hr2; have L2 := hide (LE.out T' hg2); have K2 := hide (below_on K.out hb2); have F2 : Hid (∀ p, a' = some p → w.heap.size ≤ p.block) := (fun p hp => Nat.le_trans K.out.size (hf2 p hp)); clear hr2 hg2 hf2 hb2)
          have l1 := L2.out.1
          have l2 := L2.out.2.1
          go_roundw
          case rel => exact ⟨T', k, a', c', rfl, rfl, l1, by omega, L2.out.2.2.1, L2.out.2.2.2.1, L2.out.2.2.2.2, R2, F2, K2⟩
          case measure => simp [intOf, lenV]; omega
        | false =>
          rw [hs] at x4 et
          rw [if_neg (by decide)] at et
          rw [et] at x3
          clear et hs
          go_wp2_with (go_at_call 30; refine GV.out.mono ?_; rintro e w2 ⟨T', a', c', rfl, hr2, hg2, hf2, hb2⟩; have R2 := hide hr2; have L2 := hide (LE.out T' hg2); have K2 := hide (below_on K.out hb2); have F2 : Hid (∀ p, a' = some p → w.heap.size ≤ p.block) := (fun p hp => Nat.le_trans K.out.size (hf2 p hp)); clear hr2 hg2 hf2 hb2)
          have l1 := L2.out.1
          have l2 := L2.out.2.1
          go_roundw
          case rel => exact ⟨T', k, a', c', rfl, rfl, l1, by omega, L2.out.2.2.1, L2.out.2.2.2.1, L2.out.2.2.2.2, R2, F2, K2⟩
          case measure => simp [intOf, lenV]; omega
      · have q : (M.nf (M.nAt (M.lay T 0) k) != (f : Int)) = true := by rw [bne_iff_ne]; exact hf
        have PR2 : Hid (∀ x ∈ (M.pre T).take (k + 1), x ≠ (f : Int)) := fun x hx => by
          rw [M.pre_at hlt] at hx
          rcases List.mem_append.1 hx with z | z
          · exact PR.out x z
          · rw [List.mem_singleton] at z; rw [z]; exact hf
        clear GO hc hl PR hf
        generalize M.nf (M.nAt (M.lay T 0) k) = nf at *
        go_wp2
        go_roundw
        case rel => exact ⟨T, k + 1, _, c, rfl, by go_num, by omega, hz, OK, WO, PR2, RT, FR, K⟩
        case measure => simp [intOf, lenV]; omega
    · have kz : ¬ ((k : Int) < (T.size : Int)) := by omega
      have ET : Hid (M.wo (f : Int) T0 = T) := by
        unfold Hid
        rw [← WO.out]
        refine M.wo_same T ((M.pre_free (by omega) T).2 fun x hx => PR.out x ?_)
        rw [List.take_of_length_le (by rw [M.pre_len]; omega)]
        exact hx
      clear GO PR WO OK
      go_wp2
      go_ret
      exact ⟨a, ⟨c, by rw [ET.out]; rfl⟩, by rw [ET.out]; exact RT.out, FR.out, K.out⟩

end Go.Proofs.YtlloiccodjnkcagGreatDoor
