/-
  What package flat's layBehind answers of a tree that is right: its nodes level by level, behind others.
-/
import Derived.Test.YtcaljnhdfbjpnaeDoorGrown
import Derived.Test.YtcaljnhdfbjpnaeDoorFlatO
import Derived.Test.YtcaljnhdfbjpnaeDoorPut6
import Derived.Deep.RegionLaw
import Derived.Deep.Cut
import Derived.Deep.CutRange
import Derived.Deep.RegionWith
import Derived.RegionTactic
namespace Go.Proofs.YtcaljnhdfbjpnaeDoor
open Go.ChangeShapes Go.WideShapes Go.ChangeAt Go.RowKit Go.Lib
set_option linter.unusedVariables false

set_option maxHeartbeats 8000000 in
set_option maxRecDepth 10000 in
theorem lay_any (L ts : List M.Nd) (va : Option Addr) (vc : Nat) (a0 : Option Addr) (cap : Nat) (m : Int) (B : Nat) (w : World) (ht : RdN w a0 ts) (hs : ∀ p, a0 = some p → p.block < B) (F : M.Fair ts m)
    (hv : w.ownsRow B 25 6 (.slice va L.length vc) L.length (ndCells L)) (hB : B ≤ w.heap.size) (hl : L.length ≤ 1000) :
    Calls Tryd.prog 34 #[.slice va L.length vc, .slice a0 ts.length cap] w fun e w' => ∃ g c, e = .returned (.slice (some ⟨g, 0, none⟩) (L.length + ts.length) c) ∧ w'.ownsRow B 25 6 (.slice (some ⟨g, 0, none⟩) (L.length + ts.length) c) (L.length + ts.length) (ndCells (M.laid L ts)) ∧ w.grownBy w' (Value.slice va L.length vc).ownBlock ∧ ((Value.slice va L.length vc).ownBlock = some g ∨ w.heap.size ≤ g) := by
  have l63 : ts.length ≤ 63 := F.1
  have l0 : 0 < ts.length := F.2.1
  obtain ⟨bt, ot, rfl, hbt, hct⟩ := ht.2 (by intro e; rw [e] at l0; simp at l0)
  have hbB : bt < B := hs _ rfl
  have OB : Hid (∀ q, (Value.slice va L.length vc).ownBlock = some q → B ≤ q) := fun q hq => (hv.lt q hq).1
  have HC : Hid (∀ W, w.grownBy W (Value.slice va L.length vc).ownBlock → ∀ i, i < ts.length → SixAt W bt (ot + i * 6) (M.nAt ts i)) := fun W hW i hi => by
    have hb : W.heap[bt]? = w.heap[bt]? := hW.block bt hbt (fun e => by have := OB.out bt e.symm; omega)
    obtain ⟨h0, h1, h2, h3, h4, h5⟩ := hct i hi
    exact ⟨(World.cell?_of_block (a := ⟨bt, _, none⟩) hb).trans h0, (World.cell?_of_block (a := ⟨bt, _, none⟩) hb).trans h1, (World.cell?_of_block (a := ⟨bt, _, none⟩) hb).trans h2, (World.cell?_of_block (a := ⟨bt, _, none⟩) hb).trans h3, (World.cell?_of_block (a := ⟨bt, _, none⟩) hb).trans h4, (World.cell?_of_block (a := ⟨bt, _, none⟩) hb).trans h5⟩
  have M0 : Hid (M.mid L ts 0 = L ++ [M.nAt ts 0]) := M.mid_zero L ts
  have ME : Hid (M.mid L ts ts.length = M.laid L ts) := M.mid_end F
  have ST : Hid (∀ i, i < ts.length → L.length + i < (M.mid L ts i).length ∧ (M.mid L ts i).length ≤ L.length + 63 ∧ ∃ j : Nat, j < ts.length ∧ M.nAt (M.mid L ts i) (L.length + i) = M.nAt ts j ∧ (M.nf (M.nAt ts j) = -1 → M.mid L ts (i + 1) = M.mid L ts i) ∧ (M.nf (M.nAt ts j) ≠ -1 → ∃ a b : Nat, M.nl (M.nAt ts j) = a ∧ M.nr (M.nAt ts j) = b ∧ a < ts.length ∧ b < ts.length ∧ M.mid L ts (i + 1) = (M.mid L ts i).set (L.length + i) (M.nf (M.nAt ts j), M.nc (M.nAt ts j), ((M.mid L ts i).length : Int), ((M.mid L ts i).length : Int) + 1, M.ns (M.nAt ts j), M.nv (M.nAt ts j)) ++ [M.nAt ts a, M.nAt ts b])) := fun i hi => by
    obtain ⟨q, hl'⟩ := M.ord_all F i (by omega)
    have hl := hl' hi
    have hx : (M.ordS ts i).getD i 0 < ts.length := q.lt _ (M.getD_mem' hl)
    have n63 := M.nodup_len _ _ q.nd q.lt
    rw [M.mid_len (by omega)]
    refine ⟨by omega, by omega, (M.ordS ts i).getD i 0, hx, M.mid_at hl, fun hf => M.mid_leaf hl hf, fun hf => ?_⟩
    obtain ⟨a, b, ea, eb, _, h2, _, h4, _⟩ := M.ask_at F.2.2.2.2.1 hx hf
    refine ⟨a, b, ea, eb, h2, h4, ?_⟩
    rw [← M.mid_len (by omega)]
    refine M.mid_ask hl hf _ _ _ ?_ ?_ rfl
    · rw [ea, Int.toNat_natCast]
    · rw [eb, Int.toNat_natCast]
  have EN : Hid ((M.mid L ts ts.length).length = L.length + ts.length) := by unfold Hid; rw [ME.out, M.laid_len]
  obtain ⟨j0, hj, hy0, hy1, hy2⟩ := info_parts infoN
  have J0 := hide hj
  obtain ⟨r0, r1, r2, r3, r4, r5⟩ := hct 0 l0
  simp only [Nat.zero_mul, Nat.add_zero] at r0 r1 r2 r3 r4 r5
  have HV := hide hv
  have NC0 : Hid (ndCells [M.nAt ts 0] = [.int .i64 (M.nf (M.nAt ts 0)), .int .i64 (M.nc (M.nAt ts 0)), .int .i64 (M.nl (M.nAt ts 0)), .int .i64 (M.nr (M.nAt ts 0)), .bool (M.ns (M.nAt ts 0)), .int .i64 (M.nv (M.nAt ts 0))]) := rfl
  have l0z : (0 : Int) < (ts.length : Int) := by omega
  clear F ht hct hs hv hj
  generalize M.laid L ts = LD at *
  generalize hn0 : M.nAt ts 0 = n0 at M0 NC0 r0 r1 r2 r3 r4 r5
  have HN0 := hide hn0
  clear hn0
  generalize M.nf n0 = nf at *
  generalize M.nc n0 = nc at *
  generalize M.nl n0 = nl at *
  generalize M.nr n0 = nr at *
  generalize M.ns n0 = ns at *
  generalize M.nv n0 = nv at *
  go_enter Tryd.func34, Tryd.ntmps34
  go_wp2_with (at_builtin; refine wpList_append_lies _ rfl (.tmp 9) (.tmp 13) 22 rfl B 25 j0 (.agg #[.int .i64 0, .int .i64 0, .int .i64 0, .int .i64 0, .bool false, .int .i64 0]) 6 48 Tryd.underlying22 J0.out hy0 hy1 hy2 rfl (by omega) (.slice va L.length vc) L.length (ndCells L) rfl (HV.out.alloc _) ⟨w.heap.size, 0, none⟩ 1 1 [.int .i64 nf, .int .i64 nc, .int .i64 nl, .int .i64 nr, .bool ns, .int .i64 nv] rfl rfl (World.news_of_block (heap_alloc_new _ _)) (by simp [Value.oneCell']) (by omega) (by unfold maxLen; omega) (by omega) (by simp; omega) (w.heap.size + 1) (by simp) ?_)
  intro g1 c1 w1 hov hgrow hat hlt1
  have HO1 : Hid (w1.ownsRow B 25 6 (.slice (some ⟨g1, 0, none⟩) (L.length + 1) c1) (L.length + 1) (ndCells (M.mid L ts 0))) := by
    unfold Hid; rw [M0.out, ndCells_app, NC0.out]; exact hov
  have G1 : Hid (w.grownBy w1 (Value.slice va L.length vc).ownBlock) := grown_trans (World.grownBy_alloc w _ _) hgrow (.inl rfl)
  have A1 : Hid ((Value.slice va L.length vc).ownBlock = some g1 ∨ w.heap.size ≤ g1) := by
    rcases hat with q | q
    · exact .inl q
    · exact .inr (by omega)
  have L1 : Hid ((M.mid L ts 0).length = L.length + 1) := by unfold Hid; rw [M0.out]; simp
  clear hov hgrow hat HV r0 r1 r2 r3 r4 r5 NC0 M0 HN0
  go_wp2
  go_loopw [0, 5] (fun u i wr => ∃ (k AT g c N : Nat) (X : List M.Nd), k ≤ ts.length ∧ i = .int .i64 (AT : Nat) ∧ Hid (AT = L.length + k) ∧ u = .slice (some ⟨g, 0, none⟩) N c ∧ Hid (X = M.mid L ts k ∧ N = X.length) ∧ wr.ownsRow B 25 6 (.slice (some ⟨g, 0, none⟩) N c) N (ndCells X) ∧ Hid (w.grownBy wr (Value.slice va L.length vc).ownBlock) ∧ Hid ((Value.slice va L.length vc).ownBlock = some g ∨ w.heap.size ≤ g)) (fun _ i _ => L.length + ts.length - (intOf i).toNat)
  case atStart => exact ⟨0, L.length, g1, c1, L.length + 1, M.mid L ts 0, Nat.zero_le _, rfl, rfl, rfl, ⟨rfl, L1.out.symm⟩, HO1.out, G1, A1⟩
  case round =>
    clear HO1 G1 A1 L1
    obtain ⟨k, AT, g, c, N, X, hk, rfl, HAT, rfl, HX, hown, G, A⟩ := hrel
    by_cases hlt : k < ts.length
    · obtain ⟨k1, k2, j, hj, ej, LF, AS⟩ := ST.out k hlt
      rw [← HX.out.1, ← HX.out.2] at k1 k2
      rw [← HX.out.1] at ej LF AS
      rw [← HAT.out] at k1 ej AS
      have hX : AT < X.length := by rw [← HX.out.2]; exact k1
      obtain ⟨x0, x1, x2, x3, x4, x5⟩ := ndCells_at X AT hX
      rw [ej] at x0 x1 x2 x3 x4 x5
      have q0 := (hown.cellAt (AT * 6) (by omega)).trans x0
      have q1 := (hown.cellAt (AT * 6 + 1) (by omega)).trans x1
      have q2 := (hown.cellAt (AT * 6 + 2) (by omega)).trans x2
      have q3 := (hown.cellAt (AT * 6 + 3) (by omega)).trans x3
      have q4 := (hown.cellAt (AT * 6 + 4) (by omega)).trans x4
      have q5 := (hown.cellAt (AT * 6 + 5) (by omega)).trans x5
      have fz2 := hown.frozenAt (AT * 6 + 2)
      have fz3 := hown.frozenAt (AT * 6 + 3)
      have kz : (AT : Int) < (N : Int) := by omega
      have gl : g < wr.heap.size := (hown.lt g rfl).2
      have HO := hide hown
      have PK : Hid (AT + 1 = L.length + (k + 1)) := by unfold Hid; rw [HAT.out]; omega
      have ak := HAT.out
      have az2 : AT ≤ 1063 := by omega
      clear ak
      clear x0 x1 x2 x3 x4 x5 hown
      by_cases hf : M.nf (M.nAt ts j) = -1
      · have t : (M.nf (M.nAt ts j) == -1) = true := by rw [beq_iff_eq]; exact hf
        have N1 : Hid (X = M.mid L ts (k + 1) ∧ N = X.length) := ⟨(HX.out.1.trans (by rw [← HX.out.1]; exact (LF hf).symm)), HX.out.2⟩
        clear LF AS hf HX HC ST ej
        generalize M.nf (M.nAt ts j) = nf at *
        generalize M.nc (M.nAt ts j) = nc at *
        generalize M.nl (M.nAt ts j) = nl at *
        generalize M.nr (M.nAt ts j) = nr at *
        generalize M.ns (M.nAt ts j) = ns at *
        generalize M.nv (M.nAt ts j) = nv at *
        go_wp2
        go_roundw
        case rel => exact ⟨k + 1, AT + 1, g, c, N, X, by omega, by go_num, PK, rfl, N1, HO.out.alloc _, grown_trans G.out (World.grownBy_alloc wr _ none) (.inr (fun q hq => by cases hq)), A⟩
        case measure => have := HAT.out; simp [intOf]; omega
      · have t : (M.nf (M.nAt ts j) == -1) = false := by rw [beq_eq_false_iff_ne]; exact hf
        obtain ⟨a, b, ea, eb, ha, hb, eX⟩ := AS hf
        have N1 : Hid ((X.set AT (M.nf (M.nAt ts j), M.nc (M.nAt ts j), (N : Int), (N : Int) + 1, M.ns (M.nAt ts j), M.nv (M.nAt ts j))) ++ [M.nAt ts a, M.nAt ts b] = M.mid L ts (k + 1)) := by unfold Hid; rw [eX, HX.out.2]
        have S2 : Hid (((ndCells X).set (AT * 6 + 2) (.int .i64 (N : Int))).set (AT * 6 + 3) (.int .i64 ((N : Int) + 1)) = ndCells (X.set AT (M.nf (M.nAt ts j), M.nc (M.nAt ts j), (N : Int), (N : Int) + 1, M.ns (M.nAt ts j), M.nv (M.nAt ts j)))) := by
          have := ndCells_set2 X AT hX (N : Int) ((N : Int) + 1)
          rw [ej] at this
          exact this
        have XL : Hid ((X.set AT (M.nf (M.nAt ts j), M.nc (M.nAt ts j), (N : Int), (N : Int) + 1, M.ns (M.nAt ts j), M.nv (M.nAt ts j))).length = N) := by unfold Hid; rw [List.length_set]; exact HX.out.2.symm
        rw [ea] at q2
        rw [eb] at q3
        have az : (a : Int) < (ts.length : Int) := by omega
        have bz : (b : Int) < (ts.length : Int) := by omega
        clear LF AS hf HX ST ej eX hX ea eb
        generalize X.set AT (M.nf (M.nAt ts j), M.nc (M.nAt ts j), (N : Int), (N : Int) + 1, M.ns (M.nAt ts j), M.nv (M.nAt ts j)) = Y at *
        generalize M.nf (M.nAt ts j) = nf at *
        generalize M.nc (M.nAt ts j) = nc at *
        generalize M.ns (M.nAt ts j) = ns at *
        generalize M.nv (M.nAt ts j) = nv at *
        go_upto_region 7 with fail
        go_cut [40] from 28 to 40 (fun _ wx => Hid (wx.ownsRow B 25 6 (.slice (some ⟨g, 0, none⟩) N c) N (ndCells Y)) ∧ (wx.cell? ⟨wr.heap.size, 2, none⟩ = some (.int .i64 (a : Int)) ∧ wx.cell? ⟨wr.heap.size, 3, none⟩ = some (.int .i64 (b : Int))) ∧ Hid (w.grownBy wx (Value.slice va L.length vc).ownBlock))
        case first =>
          have st := (HO.out.stored (AT * 6 + 2) (.int .i64 (N : Int))).1
          have st2 := (st.stored (AT * 6 + 3) (.int .i64 ((N : Int) + 1))).1
          rw [S2.out] at st2
          have ST2 := hide st2
          have GS : Hid (∀ o, w.grownBy (((wr.setCell ⟨g, AT * 6 + 2, none⟩ (.int .i64 (N : Int))).setCell ⟨g, AT * 6 + 3, none⟩ (.int .i64 ((N : Int) + 1))).alloc o) (Value.slice va L.length vc).ownBlock) := fun o => by
            have ss : some g = (Value.slice va L.length vc).ownBlock ∨ ∀ q, some g = some q → w.heap.size ≤ q := by
              rcases A.out with q | q
              · exact .inl q.symm
              · exact .inr (fun z hz => by cases hz; exact q)
            exact grown_trans (grown_trans (grown_trans G.out grown_set ss) grown_set ss) (World.grownBy_alloc _ o none) (.inr (fun q hq => by cases hq))
          have SZ : ((wr.setCell ⟨g, AT * 6 + 2, none⟩ (.int .i64 (N : Int))).setCell ⟨g, AT * 6 + 3, none⟩ (.int .i64 ((N : Int) + 1))).heap.size = wr.heap.size := by simp
          have CA : Hid (∀ (o : Array Value) (i : Nat) (v : Value), o[i]? = some v → (((wr.setCell ⟨g, AT * 6 + 2, none⟩ (.int .i64 (N : Int))).setCell ⟨g, AT * 6 + 3, none⟩ (.int .i64 ((N : Int) + 1))).alloc (.cells o 25)).cell? ⟨wr.heap.size, i, none⟩ = some v) := fun o i v hv => by
            rw [← SZ]
            exact (World.cell?_alloc_at _ _ _ i rfl).trans hv
          clear st st2 SZ
          go_wp2
          go_meet
          case rel => exact ⟨ST2.out.alloc _, ⟨CA.out _ 2 _ rfl, CA.out _ 3 _ rfl⟩, GS.out _⟩
        case rest =>
          obtain ⟨HY, ⟨n2, n3⟩, GY⟩ := hcut
          obtain ⟨a0, a1, a2, a3, a4, a5⟩ := HC.out wc GY.out a ha
          obtain ⟨b0, b1, b2, b3, b4, b5⟩ := HC.out wc GY.out b hb
          have NC : Hid (ndCells [M.nAt ts a, M.nAt ts b] = [.int .i64 (M.nf (M.nAt ts a)), .int .i64 (M.nc (M.nAt ts a)), .int .i64 (M.nl (M.nAt ts a)), .int .i64 (M.nr (M.nAt ts a)), .bool (M.ns (M.nAt ts a)), .int .i64 (M.nv (M.nAt ts a)), .int .i64 (M.nf (M.nAt ts b)), .int .i64 (M.nc (M.nAt ts b)), .int .i64 (M.nl (M.nAt ts b)), .int .i64 (M.nr (M.nAt ts b)), .bool (M.ns (M.nAt ts b)), .int .i64 (M.nv (M.nAt ts b))]) := rfl
          generalize M.nAt ts a = na at *
          generalize M.nAt ts b = nb at *
          have szc : B ≤ wc.heap.size := by have := GY.out.size; omega
          clear HC q0 q1 q2 q3 q4 q5 fz2 fz3 S2
          generalize M.nf na = af at *
          generalize M.nc na = ac at *
          generalize M.nl na = al at *
          generalize M.nr na = ar at *
          generalize M.ns na = ax at *
          generalize M.nv na = av at *
          generalize M.nf nb = bf at *
          generalize M.nc nb = bc at *
          generalize M.nl nb = bl at *
          generalize M.nr nb = br at *
          generalize M.ns nb = bs at *
          generalize M.nv nb = bv at *
          go_upto_region 8 with fail
          go_region_law (refine step_append_lies _ rfl (.tmp 41) (.tmp 52) 22 rfl B 25 j0 (.agg #[.int .i64 0, .int .i64 0, .int .i64 0, .int .i64 0, .bool false, .int .i64 0]) 6 48 Tryd.underlying22 J0.out hy0 hy1 hy2 rfl (by omega) (.slice (some ⟨g, 0, none⟩) N c) N (ndCells Y) rfl (by first | exact HY.out.alloc _ | exact HY.out.drew.alloc _ | exact (HY.out.alloc _).drew) ⟨wc.heap.size, 0, none⟩ 2 2 [.int .i64 af, .int .i64 ac, .int .i64 al, .int .i64 ar, .bool ax, .int .i64 av, .int .i64 bf, .int .i64 bc, .int .i64 bl, .int .i64 br, .bool bs, .int .i64 bv] rfl rfl (World.news_of_block (by first | exact heap_alloc_new _ _ | (simp; done))) (by simp [Value.oneCell']) (by omega) (by unfold maxLen; omega) (by omega) (by simp; omega) (wc.heap.size + 1) (by simp) ?_; intro g7 c7 w7 hov7 hgrow7 hat7 hlt7)
          all_goals (
            have HO7 : Hid (w7.ownsRow B 25 6 (.slice (some ⟨g7, 0, none⟩) (N + 2) c7) (N + 2) (ndCells (Y ++ [na, nb]))) := by
              unfold Hid; rw [ndCells_app, NC.out]; exact hov7
            have G7 : Hid (w.grownBy w7 (Value.slice va L.length vc).ownBlock) := (by
              have ss : (Value.slice (some ⟨g, 0, none⟩) N c).ownBlock = (Value.slice va L.length vc).ownBlock ∨ ∀ q, (Value.slice (some ⟨g, 0, none⟩) N c).ownBlock = some q → w.heap.size ≤ q := by
                rcases A.out with q | q
                · exact .inl q.symm
                · exact .inr (fun z hz => by cases hz; exact q)
              exact grown_trans (grown_drew (grown_trans GY.out (World.grownBy_alloc wc _ none) (.inr (fun q hq => by cases hq)))) hgrow7 ss)
            have A7 : Hid ((Value.slice va L.length vc).ownBlock = some g7 ∨ w.heap.size ≤ g7) := (by
              rcases hat7 with q | q
              · have e : g = g7 := by simpa [Value.ownBlock] using q
                rw [← e]; exact A.out
              · exact .inr (by have := GY.out.size; omega))
            have N7 : Hid (Y ++ [na, nb] = M.mid L ts (k + 1) ∧ N + 2 = (Y ++ [na, nb]).length) := ⟨N1.out, by rw [List.length_append, XL.out]; rfl⟩
            clear hov7 hgrow7 hat7
            go_wp2
            go_roundw
            case rel => exact ⟨k + 1, AT + 1, g7, c7, N + 2, Y ++ [na, nb], by omega, by go_num, PK, rfl, N7, HO7.out, G7, A7⟩
            case measure => have := HAT.out; simp [intOf]; omega)
    · have hke : k = ts.length := by omega
      have XE : Hid (X = LD) := by unfold Hid; rw [HX.out.1, hke, ME.out]
      have NE : Hid (N = L.length + ts.length) := by unfold Hid; rw [HX.out.2, HX.out.1, hke]; exact EN.out
      have kz : ¬ ((AT : Int) < (N : Int)) := by have := NE.out; have := HAT.out; omega
      have HO := hide hown
      clear hown HX hke ST HC
      go_wp2
      go_ret
      refine ⟨g, c, by rw [← NE.out]; rfl, ?_, G.out, A.out⟩
      rw [← NE.out, ← XE.out]
      exact HO.out

end Go.Proofs.YtcaljnhdfbjpnaeDoor
