/-
  Several texts as one: CdTree, NdSame.
-/
import Derived.Test.YtdadjppdonephahDoorRunB7
import Derived.Test.YtdadjppdonephahDoorRunB5
import Derived.Deep.Cut
import Derived.Deep.CutRange
import Derived.Deep.RegionWith
import Derived.RegionTactic
namespace Go.Proofs.YtdadjppdonephahDoor
open Go.ChangeShapes Go.WideShapes Go.ChangeAt Go.RowKit Go.Lib
set_option linter.unusedVariables false

/-- so many nodes, whatever is wrong -/
def M.lNodes (b : List Nat) : Nat → M.In → List M.Nd × M.In
  | 0, s => ([], s)
  | k + 1, s => ((M.rNode b s).1 :: (M.lNodes b k (M.rNode b s).2).1, (M.lNodes b k (M.rNode b s).2).2)
theorem M.rNode_bad {b : List Nat} {s : M.In} (h : s.bad ≠ 0) : (M.rNode b s).2 = s := by
  unfold M.rNode
  rw [M.rNum_bad h, if_neg (fun z => h z.1)]
  unfold M.rAsk
  simp only [M.rNum_bad h]
  rw [if_neg (fun z => h z.1)]
theorem M.lNodes_bad {b : List Nat} : ∀ (k : Nat) {s : M.In}, s.bad ≠ 0 → (M.lNodes b k s).2 = s
  | 0, s, h => rfl
  | k + 1, s, h => by
    show (M.lNodes b k (M.rNode b s).2).2 = s
    rw [M.rNode_bad h]
    exact M.lNodes_bad k h
/-- the same, where nothing is wrong; and what is wrong is -/
theorem M.lNodes_is {b : List Nat} : ∀ (k : Nat) (s : M.In), (M.lNodes b k s).2 = (M.rNodes b k s).2 ∧ ((M.rNodes b k s).2.bad = 0 → (M.lNodes b k s).1 = (M.rNodes b k s).1)
  | 0, s => ⟨rfl, fun _ => rfl⟩
  | k + 1, s => by
    have e : M.rNodes b (k + 1) s = if s.bad ≠ 0 then ([], s) else ((M.rNode b s).1 :: (M.rNodes b k (M.rNode b s).2).1, (M.rNodes b k (M.rNode b s).2).2) := rfl
    by_cases q : s.bad = 0
    · rw [e, if_neg (by simp [q])]
      have ih := M.lNodes_is (b := b) k (M.rNode b s).2
      refine ⟨ih.1, fun h => ?_⟩
      show _ :: _ = _ :: _
      rw [ih.2 h]
    · rw [e, if_pos q]
      exact ⟨M.lNodes_bad (k + 1) q, fun h => absurd h q⟩
theorem M.lNodes_len {b : List Nat} : ∀ (k : Nat) (s : M.In), (M.lNodes b k s).1.length = k
  | 0, s => rfl
  | k + 1, s => by show (M.lNodes b k (M.rNode b s).2).1.length + 1 = k + 1; rw [M.lNodes_len k]
theorem M.lNodes_fin {b : List Nat} : ∀ (k : Nat) {s : M.In}, s.fin ≤ b.length → (M.lNodes b k s).2.fin ≤ b.length
  | 0, s, h => h
  | k + 1, s, h => M.lNodes_fin k (M.rNode_fin h)
theorem M.rMany_in {b : List Nat} {most : Int} {s : M.In} (h : 0 ≤ most) : 0 ≤ (M.rMany b most s).1 ∧ (M.rMany b most s).1 ≤ most := by
  unfold M.rMany
  split
  · exact ⟨Int.le_refl _, h⟩
  · next q =>
    split
    · exact ⟨Int.le_refl _, h⟩
    · next q2 =>
      have z : (M.rNum b s).2.bad = 0 := by by_cases y : (M.rNum b s).2.bad = 0; exact y; exact absurd y q2
      have : ¬ ((M.rNum b s).1 < 1 ∨ most < (M.rNum b s).1) := fun y => q ⟨z, y⟩
      omega
def M.lTree (b : List Nat) (s : M.In) : List M.Nd × M.In := M.lNodes b (M.rMany b 63 s).1.toNat (M.rMany b 63 s).2
theorem own_rdr {w W W' : World} {e size n : Nat} {v : Value} {l : List Value} {g : Nat} (ho : W.ownsRow w.heap.size e size v n l) (hg : W.grownBy W' (some g)) (gl : g < w.heap.size) : W'.ownsRow w.heap.size e size v n l := by
  refine ho.kept hg ?_
  cases hv : v.ownBlock with
  | none => exact .inl rfl
  | some q => exact .inr fun e => by cases e; have := (ho.lt _ hv).1; omega

set_option maxHeartbeats 8000000 in
set_option maxRecDepth 10000 in
theorem treeR {w : World} {g : Nat} {a : Option Addr} {bs : List Nat} {c : Nat} {s : M.In} (h : Rdr w g a bs c s) : Calls Tryd.prog 26 #[.pointer (some ⟨g, 0, none⟩)] w fun e w' => ∃ va vc, e = .returned (.slice va (M.lTree bs s).1.length vc) ∧ w'.ownsRow w.heap.size 47 6 (.slice va (M.lTree bs s).1.length vc) (M.lTree bs s).1.length (ndCells (M.lTree bs s).1) ∧ Rdr w' g a bs c (M.lTree bs s).2 ∧ w.grownBy w' (some g) := by
  have GL := hide h.lt
  have H0 := hide h
  have C1 := hide (cntR 63 h)
  have mi := M.rMany_in (b := bs) (s := s) (most := 63) (by decide)
  have ET : Hid (M.lTree bs s = M.lNodes bs (M.rMany bs 63 s).1.toNat (M.rMany bs 63 s).2) := rfl
  obtain ⟨⟨m, s0⟩, hm⟩ : ∃ R, M.rMany bs 63 s = R := ⟨_, rfl⟩
  rw [hm] at C1 mi ET
  simp only at C1 mi ET
  obtain ⟨n, rfl⟩ : ∃ n : Nat, m = (n : Int) := ⟨m.toNat, by omega⟩
  rw [Int.toNat_natCast] at ET
  have n63 : n ≤ 63 := by omega
  have LN : Hid ((M.lTree bs s).1.length = n) := by unfold Hid; rw [ET.out]; exact M.lNodes_len n s0
  rw [LN.out]
  generalize M.lTree bs s = Z at *
  have NN := hide (fun (W : World) (s : M.In) (h : Rdr W g a bs c s) => nodeR h)
  have NA : Hid (∀ k s, M.lNodes bs (k + 1) s = ((M.rNode bs s).1 :: (M.lNodes bs k (M.rNode bs s).2).1, (M.lNodes bs k (M.rNode bs s).2).2)) := fun _ _ => rfl
  obtain ⟨j0, hj0, hy0, hy1, hy2⟩ := info_parts infoN
  have J0 := hide hj0
  clear h hm mi hj0
  go_enter Tryd.func26, Tryd.ntmps26
  go_wp2_with (go_at_call 25; refine C1.out.mono ?_; rintro e w1 ⟨rfl, i1, g1⟩; have I1 := hide i1; have G1 := hide g1; clear i1 g1)
  clear C1
  go_loopw [3, 6] (fun v i wr => ∃ (k : Nat) (L : List M.Nd) (va : Option Addr) (vc : Nat) (s' : M.In), k ≤ n ∧ i = .int .i64 k ∧ v = .slice va k vc ∧ Hid (L.length = k) ∧ Hid (Z = (L ++ (M.lNodes bs (n - k) s').1, (M.lNodes bs (n - k) s').2)) ∧ Hid (Rdr wr g a bs c s') ∧ Hid (wr.ownsRow w.heap.size 47 6 (.slice va k vc) k (ndCells L)) ∧ Hid (w.grownBy wr (some g))) (fun _ i _ => n - (intOf i).toNat)
  case atStart => exact ⟨0, [], none, 0, s0, Nat.zero_le _, rfl, rfl, rfl, by rw [Nat.sub_zero]; exact ET, I1, World.ownsRow_nil _ _ _ _, G1⟩
  case round =>
    obtain ⟨k, L, va, vc, s', hk, rfl, rfl, LK, EZ, RR, OO, GG⟩ := hrel
    by_cases hlt : k < n
    · have kz : (k : Int) < (n : Int) := by omega
      have N1 := hide (NN.out wr s' RR.out)
      have na := NA.out (n - (k + 1)) s'
      rw [show n - (k + 1) + 1 = n - k by omega] at na
      have ez := EZ.out
      rw [na] at ez
      obtain ⟨⟨⟨f, cc, l, r, b, v⟩, s2⟩, h2⟩ : ∃ R, M.rNode bs s' = R := ⟨_, rfl⟩
      rw [h2] at N1 ez
      have nv : ndV (f, cc, l, r, b, v) = .agg #[.int .i64 f, .int .i64 cc, .int .i64 l, .int .i64 r, .bool b, .int .i64 v] := rfl
      simp only [nv] at N1
      have E2 : Hid (Z = ((L ++ [(f, cc, l, r, b, v)]) ++ (M.lNodes bs (n - (k + 1)) s2).1, (M.lNodes bs (n - (k + 1)) s2).2)) := by
        unfold Hid; rw [ez, List.append_assoc]; rfl
      have NC : Hid (ndCells (L ++ [(f, cc, l, r, b, v)]) = ndCells L ++ [.int .i64 f, .int .i64 cc, .int .i64 l, .int .i64 r, .bool b, .int .i64 v]) := by unfold Hid; rw [ndCells_app]; rfl
      have LK2 : Hid ((L ++ [(f, cc, l, r, b, v)]).length = k + 1) := by unfold Hid; rw [List.length_append, LK.out]; rfl
      clear ez na nv h2 NN NA EZ LN ET
      go_wp2_with (first
        | (go_at_call 32; refine N1.out.mono ?_; rintro e w2 ⟨rfl, i2, g2⟩; have I2 := hide i2; have G2 := hide (grown_trans GG.out g2 (.inl rfl)); have O2 := hide (own_rdr OO.out g2 GL.out); have z2 := G2.out.size; clear i2 g2)
        | (at_builtin; refine wpList_append_lies _ rfl (.tmp 8) (.tmp 11) 45 rfl w.heap.size 47 j0 (.agg #[.int .i64 0, .int .i64 0, .int .i64 0, .int .i64 0, .bool false, .int .i64 0]) 6 48 Tryd.underlying45 J0.out hy0 hy1 hy2 rfl (by omega) (.slice va k vc) k (ndCells L) rfl (O2.out.alloc _) ⟨w2.heap.size, 0, none⟩ 1 1 [.int .i64 f, .int .i64 cc, .int .i64 l, .int .i64 r, .bool b, .int .i64 v] rfl rfl (World.news_of_block (heap_alloc_new _ _)) (by simp [Value.oneCell']) (by omega) (by unfold maxLen; omega) (by omega) (by simp; omega) (w2.heap.size + 1) (by simp) ?_; intro g3 cap3 w3 ho3 hg3 _ _; have O3 := hide ho3; have R3 := hide (H0.out.far (I2.out.alloc _) hg3 (fun q hq => (OO.out.lt q hq).1)); have G3 := hide (grown_trans (grown_trans G2.out (World.grownBy_alloc w2 _ (some g)) (.inl rfl)) hg3 (.inr (fun q hq => (OO.out.lt q hq).1))); clear ho3 hg3))
      go_roundw
      case rel => exact ⟨k + 1, L ++ [(f, cc, l, r, b, v)], _, _, s2, by omega, by go_num, rfl, LK2, E2, R3, by unfold Hid; rw [NC.out]; exact O3.out, G3⟩
      case measure => simp [intOf]; omega
    · have ek : k = n := by omega
      have kz : ¬ ((k : Int) < (n : Int)) := by omega
      have EZ2 : Hid (Z = (L, s')) := by
        have := EZ.out
        rw [ek, Nat.sub_self] at this
        unfold Hid
        rw [this]
        show (L ++ [], _) = _
        rw [List.append_nil]
        rfl
      have ek2 := hide ek
      clear EZ NN NA ek ET LN
      go_wp2
      go_ret
      have ek := ek2.out
      subst ek
      exact ⟨va, vc, rfl, by rw [EZ2.out]; exact OO.out, by rw [EZ2.out]; exact RR.out, GG.out⟩

end Go.Proofs.YtdadjppdonephahDoor

namespace Go.Proofs.YtdadjppdonephahDoor
open Go.ChangeShapes Go.WideShapes Go.ChangeAt Go.RowKit Go.Lib
set_option linter.unusedVariables false

set_option maxHeartbeats 8000000 in
set_option maxRecDepth 10000 in
theorem nodesame_any (a b : Option Addr) (ts : List M.Nd) (ca cb : Nat) (w : World) (ha : RdN w a ts) (hb : RdN w b ts) :
    Calls Tryd.prog 18 #[.slice a ts.length ca, .slice b ts.length cb] w fun e w' => e = .returned (.bool true) ∧ Below w.heap.size w w' := by
  have hm : ts.length ≤ 9223372036854775807 := ha.1
  have HA := hide ha
  have HB := hide hb
  clear ha hb
  go_enter Tryd.func18, Tryd.ntmps18
  go_wp2
  go_loopw [5] (fun i wr => ∃ k : Nat, k ≤ ts.length ∧ i = .int .i64 k ∧ Hid (Below w.heap.size w wr)) (fun i _ => ts.length - (intOf i).toNat)
  case atStart => exact ⟨0, Nat.zero_le _, rfl, Below.refl _ _⟩
  case round =>
    obtain ⟨k, hk, rfl, K⟩ := hrel
    by_cases hlt : k < ts.length
    · have kz : (k : Int) < (ts.length : Int) := by omega
      obtain ⟨b1, o1, rfl, h1, hc1⟩ := (HA.out.below K.out).2 (by intro e; subst e; simp at hlt)
      obtain ⟨b2, o2, rfl, h2, hc2⟩ := (HB.out.below K.out).2 (by intro e; subst e; simp at hlt)
      obtain ⟨s0, s1, s2, s3, s4, s5⟩ := hc1 k hlt
      obtain ⟨u0, u1, u2, u3, u4, u5⟩ := hc2 k hlt
      clear hc1 hc2 HA HB
      generalize M.nf (M.nAt ts k) = f at *
      generalize M.nc (M.nAt ts k) = c at *
      generalize M.nl (M.nAt ts k) = l at *
      generalize M.nr (M.nAt ts k) = r at *
      generalize M.ns (M.nAt ts k) = sl at *
      generalize M.nv (M.nAt ts k) = v at *
      go_upto_region 6 with fail
      go_cut [25] from 17 to 24 (fun t wx => t = .bool false ∧ Hid (Below wr.heap.size wr wx))
      case first =>
        go_region
        all_goals go_wp2
        all_goals go_meet
        all_goals (case rel => exact ⟨by simp, (Below.refl wr.heap.size wr).drew⟩)
      case rest =>
        obtain ⟨rfl, K6⟩ := hcut
        have K7 := hide (below_on K.out K6.out)
        go_wp2
        go_roundw
        case rel => exact ⟨k + 1, by omega, by go_num, K7⟩
        case measure => simp [intOf]; omega
    · go_wp2
      go_ret
      exact ⟨rfl, K.out⟩

end Go.Proofs.YtdadjppdonephahDoor
