/-
  Several texts as one: CdTree, RefCell, RefDepth, RefTree, Put6, RefIn, RefMany.
-/
import Derived.Test.YtdadjppdonephagDoorRunT7
import Derived.Test.YtdadjppdonephagDoorRunT1
import Derived.Test.YtdadjppdonephagDoorRunT3
import Derived.BigQuiet
import Derived.Deep.QuietTactic
import Derived.Test.YtdadjppdonephagDoorRunT5
import Derived.Test.YtdadjppdonephagDoorRunT2
namespace Go.Proofs.YtdadjppdonephagDoor
open Go.ChangeShapes Go.WideShapes Go.ChangeAt Go.RowKit Go.Lib
set_option linter.unusedVariables false

/-- so many nodes, whatever is wrong -/
def M.lNodes (b : List Nat) : Nat → M.In → List M.Nd × M.In
  | 0, s => ([], s)
  | k + 1, s => ((M.rNode b s).1 :: (M.lNodes b k (M.rNode b s).2).1, (M.lNodes b k (M.rNode b s).2).2)
theorem M.rNode_bad {b : List Nat} {s : M.In} (h : s.bad ≠ 0) : (M.rNode b s).2 = s := by
  unfold M.rNode
  rw [M.rNum_bad h, if_neg (fun z => h z.1)]
  unfold M.rAsk
  simp only [M.rNum_bad h]
  rw [if_neg (fun z => h z.1)]
theorem M.lNodes_bad {b : List Nat} : ∀ (k : Nat) {s : M.In}, s.bad ≠ 0 → (M.lNodes b k s).2 = s
  | 0, s, h => rfl
  | k + 1, s, h => by
    show (M.lNodes b k (M.rNode b s).2).2 = s
    rw [M.rNode_bad h]
    exact M.lNodes_bad k h
/-- the same, where nothing is wrong; and what is wrong is -/
theorem M.lNodes_is {b : List Nat} : ∀ (k : Nat) (s : M.In), (M.lNodes b k s).2 = (M.rNodes b k s).2 ∧ ((M.rNodes b k s).2.bad = 0 → (M.lNodes b k s).1 = (M.rNodes b k s).1)
  | 0, s => ⟨rfl, fun _ => rfl⟩
  | k + 1, s => by
    have e : M.rNodes b (k + 1) s = if s.bad ≠ 0 then ([], s) else ((M.rNode b s).1 :: (M.rNodes b k (M.rNode b s).2).1, (M.rNodes b k (M.rNode b s).2).2) := rfl
    by_cases q : s.bad = 0
    · rw [e, if_neg (by simp [q])]
      have ih := M.lNodes_is (b := b) k (M.rNode b s).2
      refine ⟨ih.1, fun h => ?_⟩
      show _ :: _ = _ :: _
      rw [ih.2 h]
    · rw [e, if_pos q]
      exact ⟨M.lNodes_bad (k + 1) q, fun h => absurd h q⟩
theorem M.lNodes_len {b : List Nat} : ∀ (k : Nat) (s : M.In), (M.lNodes b k s).1.length = k
  | 0, s => rfl
  | k + 1, s => by show (M.lNodes b k (M.rNode b s).2).1.length + 1 = k + 1; rw [M.lNodes_len k]
theorem M.lNodes_fin {b : List Nat} : ∀ (k : Nat) {s : M.In}, s.fin ≤ b.length → (M.lNodes b k s).2.fin ≤ b.length
  | 0, s, h => h
  | k + 1, s, h => M.lNodes_fin k (M.rNode_fin h)
theorem M.rMany_in {b : List Nat} {most : Int} {s : M.In} (h : 0 ≤ most) : 0 ≤ (M.rMany b most s).1 ∧ (M.rMany b most s).1 ≤ most := by
  unfold M.rMany
  split
  · exact ⟨Int.le_refl _, h⟩
  · next q =>
    split
    · exact ⟨Int.le_refl _, h⟩
    · next q2 =>
      have z : (M.rNum b s).2.bad = 0 := by by_cases y : (M.rNum b s).2.bad = 0; exact y; exact absurd y q2
      have : ¬ ((M.rNum b s).1 < 1 ∨ most < (M.rNum b s).1) := fun y => q ⟨z, y⟩
      omega
def M.lTree (b : List Nat) (s : M.In) : List M.Nd × M.In := M.lNodes b (M.rMany b 63 s).1.toNat (M.rMany b 63 s).2
theorem own_rdr {w W W' : World} {e size n : Nat} {v : Value} {l : List Value} {g : Nat} (ho : W.ownsRow w.heap.size e size v n l) (hg : W.grownBy W' (some g)) (gl : g < w.heap.size) : W'.ownsRow w.heap.size e size v n l := by
  refine ho.kept hg ?_
  cases hv : v.ownBlock with
  | none => exact .inl rfl
  | some q => exact .inr fun e => by cases e; have := (ho.lt _ hv).1; omega

set_option maxHeartbeats 8000000 in
set_option maxRecDepth 10000 in
theorem treeR {w : World} {g : Nat} {a : Option Addr} {bs : List Nat} {c : Nat} {s : M.In} (h : Rdr w g a bs c s) : Calls Tryd.prog 35 #[.pointer (some ⟨g, 0, none⟩)] w fun e w' => ∃ va vc, e = .returned (.slice va (M.lTree bs s).1.length vc) ∧ w'.ownsRow w.heap.size 48 6 (.slice va (M.lTree bs s).1.length vc) (M.lTree bs s).1.length (ndCells (M.lTree bs s).1) ∧ Rdr w' g a bs c (M.lTree bs s).2 ∧ w.grownBy w' (some g) := by
  have GL := hide h.lt
  have H0 := hide h
  have C1 := hide (cntR 63 h)
  have mi := M.rMany_in (b := bs) (s := s) (most := 63) (by decide)
  have ET : Hid (M.lTree bs s = M.lNodes bs (M.rMany bs 63 s).1.toNat (M.rMany bs 63 s).2) := rfl
  obtain ⟨⟨m, s0⟩, hm⟩ : ∃ R, M.rMany bs 63 s = R := ⟨_, rfl⟩
  rw [hm] at C1 mi ET
  simp only at C1 mi ET
  obtain ⟨n, rfl⟩ : ∃ n : Nat, m = (n : Int) := ⟨m.toNat, by omega⟩
  rw [Int.toNat_natCast] at ET
  have n63 : n ≤ 63 := by omega
  have LN : Hid ((M.lTree bs s).1.length = n) := by unfold Hid; rw [ET.out]; exact M.lNodes_len n s0
  rw [LN.out]
  generalize M.lTree bs s = Z at *
  have NN := hide (fun (W : World) (s : M.In) (h : Rdr W g a bs c s) => nodeR h)
  have NA : Hid (∀ k s, M.lNodes bs (k + 1) s = ((M.rNode bs s).1 :: (M.lNodes bs k (M.rNode bs s).2).1, (M.lNodes bs k (M.rNode bs s).2).2)) := fun _ _ => rfl
  obtain ⟨j0, hj0, hy0, hy1, hy2⟩ := info_parts infoN
  have J0 := hide hj0
  clear h hm mi hj0
  go_enter Tryd.func35, Tryd.ntmps35
  go_wp2_with (go_at_call 34; refine C1.out.mono ?_; rintro e w1 ⟨rfl, i1, g1⟩; have I1 := hide i1; have G1 := hide g1; clear i1 g1)
  clear C1
  go_loopw [3, 6] (fun v i wr => ∃ (k : Nat) (L : List M.Nd) (va : Option Addr) (vc : Nat) (s' : M.In), k ≤ n ∧ i = .int .i64 k ∧ v = .slice va k vc ∧ Hid (L.length = k) ∧ Hid (Z = (L ++ (M.lNodes bs (n - k) s').1, (M.lNodes bs (n - k) s').2)) ∧ Hid (Rdr wr g a bs c s') ∧ Hid (wr.ownsRow w.heap.size 48 6 (.slice va k vc) k (ndCells L)) ∧ Hid (w.grownBy wr (some g))) (fun _ i _ => n - (intOf i).toNat)
  case atStart => exact ⟨0, [], none, 0, s0, Nat.zero_le _, rfl, rfl, rfl, by rw [Nat.sub_zero]; exact ET, I1, World.ownsRow_nil _ _ _ _, G1⟩
  case round =>
    obtain ⟨k, L, va, vc, s', hk, rfl, rfl, LK, EZ, RR, OO, GG⟩ := hrel
    by_cases hlt : k < n
    · have kz : (k : Int) < (n : Int) := by omega
      have N1 := hide (NN.out wr s' RR.out)
      have na := NA.out (n - (k + 1)) s'
      rw [show n - (k + 1) + 1 = n - k by omega] at na
      have ez := EZ.out
      rw [na] at ez
      obtain ⟨⟨⟨f, cc, l, r, b, v⟩, s2⟩, h2⟩ : ∃ R, M.rNode bs s' = R := ⟨_, rfl⟩
      rw [h2] at N1 ez
      have nv : ndV (f, cc, l, r, b, v) = .agg #[.int .i64 f, .int .i64 cc, .int .i64 l, .int .i64 r, .bool b, .int .i64 v] := rfl
      simp only [nv] at N1
      have E2 : Hid (Z = ((L ++ [(f, cc, l, r, b, v)]) ++ (M.lNodes bs (n - (k + 1)) s2).1, (M.lNodes bs (n - (k + 1)) s2).2)) := by
        unfold Hid; rw [ez, List.append_assoc]; rfl
      have NC : Hid (ndCells (L ++ [(f, cc, l, r, b, v)]) = ndCells L ++ [.int .i64 f, .int .i64 cc, .int .i64 l, .int .i64 r, .bool b, .int .i64 v]) := by unfold Hid; rw [ndCells_app]; rfl
      have LK2 : Hid ((L ++ [(f, cc, l, r, b, v)]).length = k + 1) := by unfold Hid; rw [List.length_append, LK.out]; rfl
      clear ez na nv h2 NN NA EZ LN ET
      go_wp2_with (first
        | (go_at_call 46; refine N1.out.mono ?_; rintro e w2 ⟨rfl, i2, g2⟩; have I2 := hide i2; have G2 := hide (grown_trans GG.out g2 (.inl rfl)); have O2 := hide (own_rdr OO.out g2 GL.out); have z2 := G2.out.size; clear i2 g2)
        | (at_builtin; refine wpList_append_lies _ rfl (.tmp 8) (.tmp 11) 46 rfl w.heap.size 48 j0 (.agg #[.int .i64 0, .int .i64 0, .int .i64 0, .int .i64 0, .bool false, .int .i64 0]) 6 48 Tryd.underlying46 J0.out hy0 hy1 hy2 rfl (by omega) (.slice va k vc) k (ndCells L) rfl (O2.out.alloc _) ⟨w2.heap.size, 0, none⟩ 1 1 [.int .i64 f, .int .i64 cc, .int .i64 l, .int .i64 r, .bool b, .int .i64 v] rfl rfl (World.news_of_block (heap_alloc_new _ _)) (by simp [Value.oneCell']) (by omega) (by unfold maxLen; omega) (by omega) (by simp; omega) (w2.heap.size + 1) (by simp) ?_; intro g3 cap3 w3 ho3 hg3 _ _; have O3 := hide ho3; have R3 := hide (H0.out.far (I2.out.alloc _) hg3 (fun q hq => (OO.out.lt q hq).1)); have G3 := hide (grown_trans (grown_trans G2.out (World.grownBy_alloc w2 _ (some g)) (.inl rfl)) hg3 (.inr (fun q hq => (OO.out.lt q hq).1))); clear ho3 hg3))
      go_roundw
      case rel => exact ⟨k + 1, L ++ [(f, cc, l, r, b, v)], _, _, s2, by omega, by go_num, rfl, LK2, E2, R3, by unfold Hid; rw [NC.out]; exact O3.out, G3⟩
      case measure => simp [intOf]; omega
    · have ek : k = n := by omega
      have kz : ¬ ((k : Int) < (n : Int)) := by omega
      have EZ2 : Hid (Z = (L, s')) := by
        have := EZ.out
        rw [ek, Nat.sub_self] at this
        unfold Hid
        rw [this]
        show (L ++ [], _) = _
        rw [List.append_nil]
        rfl
      have ek2 := hide ek
      clear EZ NN NA ek ET LN
      go_wp2
      go_ret
      have ek := ek2.out
      subst ek
      exact ⟨va, vc, rfl, by rw [EZ2.out]; exact OO.out, by rw [EZ2.out]; exact RR.out, GG.out⟩

end Go.Proofs.YtdadjppdonephagDoor

namespace Go.Proofs.YtdadjppdonephagDoor
open Go.ChangeShapes Go.WideShapes Go.ChangeAt Go.RowKit
set_option linter.unusedVariables false

theorem rcell_any (x : Int) (w : World) : Calls Tryd.prog 36 #[.int .i64 x] w fun e w' => e = .returned (.bool (!M.outI x)) ∧ w' = w := by
  by_cases h1 : -1000000 ≤ x
  · have E : Hid (decide (x ≤ 1000000) = !M.outI x) := by
      unfold Hid M.outI
      rw [decide_eq_false (show ¬ x < -1000000 by omega), Bool.false_or]
      by_cases h : x ≤ 1000000
      · rw [decide_eq_true h, decide_eq_false (by omega)]; rfl
      · rw [decide_eq_false h, decide_eq_true (by omega)]; rfl
    have h1' : decide (-1000000 ≤ x) = true := decide_eq_true h1
    clear h1
    go_enter Tryd.func36, Tryd.ntmps36
    go_wp2
    go_ret
    exact ⟨ret_bool E.out, rfl⟩
  · have E : Hid (false = !M.outI x) := by
      unfold Hid M.outI
      rw [decide_eq_true (show x < -1000000 by omega)]; rfl
    have h1' : decide (-1000000 ≤ x) = false := decide_eq_false h1
    clear h1
    go_enter Tryd.func36, Tryd.ntmps36
    go_wp2
    go_ret
    exact ⟨ret_bool E.out, rfl⟩

end Go.Proofs.YtdadjppdonephagDoor

namespace Go.Proofs.YtdadjppdonephagDoor
open Go.ChangeShapes Go.WideShapes Go.ChangeAt Go.RowKit
set_option linter.unusedVariables false

set_option maxHeartbeats 1000000 in
theorem rdepth_any (a0 : Option Addr) (ts : List M.Nd) (cap : Nat) (m : Int) (w : World) (h : RdN w a0 ts) (hl : ts.length ≤ 63) (hf : ∀ j, j < ts.length → M.nodeF (M.nAt ts j) j ts.length m = 0) :
    ∀ (f i : Nat), i < ts.length → ts.length ≤ f + i → Calls Tryd.prog 37 #[.slice a0 ts.length cap, .int .i64 (i : Nat)] w fun e w' => e = .returned (.int .i64 (M.depth ts i : Nat)) ∧ w' = w
  | 0, i, hi, hk => by omega
  | f + 1, i, hi, hk => by
    obtain ⟨b, off, rfl, hb, hc⟩ := h.2 (by intro e; subst e; simp at hi)
    obtain ⟨s0, s1, s2, s3, s4, s5⟩ := hc i hi
    have C : Hid (∀ j : Nat, i < j → j < ts.length → Calls Tryd.prog 37 #[.slice (some ⟨b, off, none⟩) ts.length cap, .int .i64 (j : Nat)] w fun e w' => e = .returned (.int .i64 (M.depth ts j : Nat)) ∧ w' = w) :=
      fun j h1 h2 => rdepth_any _ ts cap m w h hl hf f j h2 (by omega)
    have hm : ts.length ≤ 9223372036854775807 := h.1
    by_cases hn : M.nf (M.nAt ts i) = -1
    · have E : Hid (M.depth ts i = 0) := M.depth_leaf hi hn
      have q : (M.nf (M.nAt ts i) == -1) = true := by rw [beq_iff_eq]; exact hn
      clear hn hc h hf C
      generalize M.depth ts i = o at *
      generalize M.nf (M.nAt ts i) = f at *
      go_enter Tryd.func37, Tryd.ntmps37
      go_wp2
      go_ret
      exact ⟨ret_int (by rw [E.out]; rfl), rfl⟩
    · obtain ⟨a, c, ea, ec, h1, h2, h3, h4, hac⟩ := M.ask_at hf hi hn
      have q : (M.nf (M.nAt ts i) == -1) = false := by rw [beq_eq_false_iff_ne]; exact hn
      have E : Hid (M.depth ts i = max (M.depth ts a) (M.depth ts c) + 1) := M.depth_ask hf hi hn ea ec
      have da : M.depth ts a ≤ 63 := by have := M.depth_le hf ts.length a h2 (by omega); omega
      have dc : M.depth ts c ≤ 63 := by have := M.depth_le hf ts.length c h4 (by omega); omega
      rw [ea] at s2
      rw [ec] at s3
      by_cases hlt : M.depth ts a < M.depth ts c
      · have EE : Hid (M.depth ts i = M.depth ts c + 1) := by unfold Hid; rw [E.out]; omega
        clear hn hc h hf ea ec E hac
        generalize M.depth ts i = o at *
        generalize M.nf (M.nAt ts i) = f at *
        go_enter Tryd.func37, Tryd.ntmps37
        go_wp2_with (go_at_call 37; refine (C.out _ (by assumption) (by assumption)).mono ?_; rintro e w1 ⟨rfl, rfl⟩)
        go_ret
        exact ⟨ret_int (by rw [EE.out]; omega), rfl⟩
      · have EE : Hid (M.depth ts i = M.depth ts a + 1) := by unfold Hid; rw [E.out]; omega
        have hle : M.depth ts c ≤ M.depth ts a := by omega
        clear hn hc h hf ea ec E hac
        generalize M.depth ts i = o at *
        generalize M.nf (M.nAt ts i) = f at *
        go_enter Tryd.func37, Tryd.ntmps37
        go_wp2_with (go_at_call 37; refine (C.out _ (by assumption) (by assumption)).mono ?_; rintro e w1 ⟨rfl, rfl⟩)
        go_ret
        exact ⟨ret_int (by rw [EE.out]; omega), rfl⟩

end Go.Proofs.YtdadjppdonephagDoor

namespace Go.Proofs.YtdadjppdonephagDoor
open Go.ChangeShapes Go.WideShapes Go.ChangeAt Go.RowKit
set_option linter.unusedVariables false

theorem two_int {n : Nat} {c : Int} {tf : Nat × Int} (h : tf = (n, c)) : Ending.returned (.tuple #[.int .i64 (n : Nat), .int .i64 c]) = .returned (.tuple #[.int .i64 (tf.1 : Nat), .int .i64 tf.2]) := by rw [h]
theorem node_alt (n : M.Nd) (i len : Nat) (m : Int) : M.nodeF n i len m = if M.nf n = -1 then (if M.outI (M.nv n) = true then 1 else if M.nc n ≠ 0 ∨ M.nl n ≠ 0 ∨ M.nr n ≠ 0 ∨ M.ns n = true then 3 else 0) else
    if M.nf n < 0 ∨ m ≤ M.nf n ∨ M.outI (M.nc n) = true ∨ M.nl n ≤ i ∨ (len : Int) ≤ M.nl n ∨ M.nr n ≤ i ∨ (len : Int) ≤ M.nr n then 1 else if M.nv n ≠ 0 ∨ M.nl n = M.nr n then 3 else 0 := by
  have hb : ∀ x : Int, M.inB x i len = false ↔ (x ≤ i ∨ (len : Int) ≤ x) := fun x => by
    unfold M.inB
    rw [Bool.and_eq_false_iff, decide_eq_false_iff_not, decide_eq_false_iff_not]
    omega
  unfold M.nodeF M.lfF M.asF
  by_cases h : M.nf n = -1
  · rw [if_pos h, if_pos h]
  · rw [if_neg h, if_neg h]
    simp only [hb, or_assoc]

set_option maxHeartbeats 16000000 in
set_option maxRecDepth 10000 in
theorem rtree_any (a0 : Option Addr) (ts : List M.Nd) (cap : Nat) (m : Int) (w : World) (h : RdN w a0 ts) :
    Calls Tryd.prog 27 #[.slice a0 ts.length cap, .int .i64 m] w fun e w' => e = .returned (.tuple #[.int .i64 ((M.treeF ts m).1 : Nat), .int .i64 (M.treeF ts m).2]) ∧ Below w.heap.size w w' := by
  have hm : ts.length ≤ 9223372036854775807 := h.1
  by_cases h63 : 63 < ts.length
  · have hd : decide ((63 : Int) < (ts.length : Int)) = true := decide_eq_true (by omega)
    have E := hide (M.tree_full (m := m) h63)
    clear h h63
    generalize M.treeF ts m = tf at *
    generalize ts.length = len at *
    go_enter Tryd.func27, Tryd.ntmps27
    go_wp2
    go_ret2
    exact ⟨two_int E.out, Below.refl _ _⟩
  · have hd : decide ((63 : Int) < (ts.length : Int)) = false := decide_eq_false (by omega)
    by_cases h0 : ts.length = 0
    · have q0 : ((ts.length : Int) == 0) = true := by rw [beq_iff_eq]; omega
      have E := hide (M.tree_none (m := m) h0)
      clear h h63 h0
      generalize M.treeF ts m = tf at *
      generalize ts.length = len at *
      go_enter Tryd.func27, Tryd.ntmps27
      go_wp2
      go_ret2
      exact ⟨two_int E.out, Below.refl _ _⟩
    · have q0 : ((ts.length : Int) == 0) = false := by rw [beq_eq_false_iff_ne]; omega
      by_cases h1 : m < 0
      · have q1 : decide (m < 0) = true := decide_eq_true h1
        have E := hide (M.tree_range h63 h0 (.inl h1))
        clear h h63 h0 h1
        generalize M.treeF ts m = tf at *
        generalize ts.length = len at *
        go_enter Tryd.func27, Tryd.ntmps27
        go_wp2
        go_ret2
        exact ⟨two_int E.out, Below.refl _ _⟩
      · have q1 : decide (m < 0) = false := decide_eq_false h1
        by_cases h2 : 8 < m
        · have q2 : decide (8 < m) = true := decide_eq_true h2
          have E := hide (M.tree_range h63 h0 (.inr h2))
          clear h h63 h0 h1 h2
          generalize M.treeF ts m = tf at *
          generalize ts.length = len at *
          go_enter Tryd.func27, Tryd.ntmps27
          go_wp2
          go_ret2
          exact ⟨two_int E.out, Below.refl _ _⟩
        · have q2 : decide (8 < m) = false := decide_eq_false h2
          have l63 : ts.length ≤ 63 := by omega
          have TN : Hid (∀ i c, i < ts.length → M.nodeF (M.nAt ts i) i ts.length m = c → c ≠ 0 → (∀ j, j < i → M.nodeF (M.nAt ts j) j ts.length m = 0) → M.treeF ts m = (i, c)) := fun i c hi hb hc hj => by
            have := M.tree_node h63 h0 (by omega) hi (by rw [hb]; exact hc) hj
            rw [hb] at this; exact this
          have TS : Hid (∀ i, (∀ j, j < ts.length → M.nodeF (M.nAt ts j) j ts.length m = 0) → i < ts.length → 0 < i → M.ups ts i ≠ 1 → (∀ j, 0 < j → j < i → M.ups ts j = 1) → M.treeF ts m = (i, 7)) := fun i hb hi hp hu hj => M.tree_stray h63 h0 (by omega) hb hi hp hu hj
          have TF : Hid ((∀ j, j < ts.length → M.nodeF (M.nAt ts j) j ts.length m = 0) → (∀ j, 0 < j → j < ts.length → M.ups ts j = 1) → M.treeF ts m = if 10 < M.depth ts 0 then (0, 4) else (0, 0)) := fun hb hs => M.tree_fair ⟨by omega, by omega, by omega, by omega, hb, hs⟩
          have CD : Hid (∀ W, Below w.heap.size w W → (∀ j, j < ts.length → M.nodeF (M.nAt ts j) j ts.length m = 0) → Calls Tryd.prog 37 #[.slice a0 ts.length cap, .int .i64 0] W fun e w' => e = .returned (.int .i64 (M.depth ts 0 : Nat)) ∧ w' = W) := fun W hW hb => rdepth_any a0 ts cap m W (h.below hW) l63 hb ts.length 0 (by omega) (by omega)
          have DB : Hid ((∀ j, j < ts.length → M.nodeF (M.nAt ts j) j ts.length m = 0) → M.depth ts 0 ≤ 63) := fun hb => by have := M.depth_le hb ts.length 0 (by omega) (by omega); omega
          have CC := hide rcell_any
          have HR := hide h.2
          clear h h63 h0 h1 h2
          generalize M.treeF ts m = tf at *
          generalize M.depth ts 0 = dv at *
          go_enter Tryd.func27, Tryd.ntmps27
          go_wp2
          go_loopw [6] (fun i wr => ∃ k : Nat, k ≤ ts.length ∧ i = .int .i64 k ∧ Below w.heap.size w wr ∧ Hid (∀ j, j < k → M.nodeF (M.nAt ts j) j ts.length m = 0)) (fun i _ => ts.length - (intOf i).toNat)
          case atStart => exact ⟨0, Nat.zero_le _, rfl, Below.refl _ _, fun j hj => by omega⟩
          case round =>
            obtain ⟨k, hk, rfl, hbl, I⟩ := hrel
            by_cases hlt : k < ts.length
            · obtain ⟨b0, off, rfl, hb0, hc⟩ := HR.out (by intro e; subst e; simp at hlt)
              obtain ⟨s0, s1, s2, s3, s4, s5⟩ := (hc k hlt).below hbl hb0
              have NB : Hid (∀ o, Below w.heap.size w (wr.alloc o)) := fun o => hbl.alloc hbl.size _
              have N : Hid (M.nodeF (M.nAt ts k) k ts.length m = 0 → ∀ j, j < k + 1 → M.nodeF (M.nAt ts j) j ts.length m = 0) := fun hf j hj => by
                by_cases e : j = k
                · subst e; exact hf
                · exact I.out j (by omega)
              have EN : Hid (∀ c, M.nodeF (M.nAt ts k) k ts.length m = c → c ≠ 0 → tf = (k, c)) := fun c h1 h2 => TN.out k c hlt h1 h2 I.out
              have D := hide (node_alt (M.nAt ts k) k ts.length m)
              clear hc hbl TN TS TF CD DB I
              generalize M.nodeF (M.nAt ts k) k ts.length m = nfv at *
              generalize M.nf (M.nAt ts k) = f at *
              generalize M.nc (M.nAt ts k) = c at *
              generalize M.nl (M.nAt ts k) = l at *
              generalize M.nr (M.nAt ts k) = r at *
              generalize M.ns (M.nAt ts k) = sl at *
              generalize M.nv (M.nAt ts k) = v at *
              by_cases hf : f = -1
              · have qf : (f == -1) = true := by rw [beq_iff_eq]; exact hf
                cases zv : M.outI v with
                | true =>
                  have E := hide (EN.out 1 (D.out.trans (by simp [hf, zv])) (by decide))
                  clear D EN N hf
                  go_wp2_with (go_at_call 36; refine (CC.out _ _).mono ?_; rintro e w1 ⟨rfl, rfl⟩)
                  go_ret2
                  exact ⟨two_int E.out, NB.out _⟩
                | false =>
                  by_cases hc : c = 0
                  · have qc : (c != 0) = false := by rw [bne_eq_false_iff_eq]; exact hc
                    by_cases hl : l = 0
                    · have ql : (l != 0) = false := by rw [bne_eq_false_iff_eq]; exact hl
                      by_cases hr : r = 0
                      · have qr : (r != 0) = false := by rw [bne_eq_false_iff_eq]; exact hr
                        cases sl with
                        | true =>
                          have E := hide (EN.out 3 (D.out.trans (by simp [hf, zv, hc, hl, hr])) (by decide))
                          clear D EN N hf hc hl hr
                          go_wp2_with (go_at_call 36; refine (CC.out _ _).mono ?_; rintro e w1 ⟨rfl, rfl⟩)
                          go_ret2
                          exact ⟨two_int E.out, NB.out _⟩
                        | false =>
                          have E := hide (N.out (D.out.trans (by simp [hf, zv, hc, hl, hr])))
                          clear D EN N hf hc hl hr
                          go_wp2_with (go_at_call 36; refine (CC.out _ _).mono ?_; rintro e w1 ⟨rfl, rfl⟩)
                          go_roundw
                          case rel => exact ⟨k + 1, by omega, by go_num, NB.out _, E⟩
                          case measure => simp [intOf]; omega
                      · have qr : (r != 0) = true := by rw [bne_iff_ne]; exact hr
                        have E := hide (EN.out 3 (D.out.trans (by simp [hf, zv, hr])) (by decide))
                        clear D EN N hf hr
                        go_wp2_with (go_at_call 36; refine (CC.out _ _).mono ?_; rintro e w1 ⟨rfl, rfl⟩)
                        go_ret2
                        exact ⟨two_int E.out, NB.out _⟩
                    · have ql : (l != 0) = true := by rw [bne_iff_ne]; exact hl
                      have E := hide (EN.out 3 (D.out.trans (by simp [hf, zv, hl])) (by decide))
                      clear D EN N hf hl
                      go_wp2_with (go_at_call 36; refine (CC.out _ _).mono ?_; rintro e w1 ⟨rfl, rfl⟩)
                      go_ret2
                      exact ⟨two_int E.out, NB.out _⟩
                  · have qc : (c != 0) = true := by rw [bne_iff_ne]; exact hc
                    have E := hide (EN.out 3 (D.out.trans (by simp [hf, zv, hc])) (by decide))
                    clear D EN N hf hc
                    go_wp2_with (go_at_call 36; refine (CC.out _ _).mono ?_; rintro e w1 ⟨rfl, rfl⟩)
                    go_ret2
                    exact ⟨two_int E.out, NB.out _⟩
              · have qf : (f == -1) = false := by rw [beq_eq_false_iff_ne]; exact hf
                by_cases h1 : f < 0
                · have q1 : decide (f < 0) = true := decide_eq_true h1
                  have E := hide (EN.out 1 (D.out.trans (by simp [hf, h1])) (by decide))
                  clear D EN N hf h1
                  go_wp2_with (go_at_call 36; refine (CC.out _ _).mono ?_; rintro e w1 ⟨rfl, rfl⟩)
                  go_ret2
                  exact ⟨two_int E.out, NB.out _⟩
                · have q1 : decide (f < 0) = false := decide_eq_false h1
                  by_cases h2 : m ≤ f
                  · have q2 : decide (m ≤ f) = true := decide_eq_true h2
                    have E := hide (EN.out 1 (D.out.trans (by simp [hf, h2])) (by decide))
                    clear D EN N hf h2
                    go_wp2_with (go_at_call 36; refine (CC.out _ _).mono ?_; rintro e w1 ⟨rfl, rfl⟩)
                    go_ret2
                    exact ⟨two_int E.out, NB.out _⟩
                  · have q2 : decide (m ≤ f) = false := decide_eq_false h2
                    cases zc : M.outI c with
                    | true =>
                      have E := hide (EN.out 1 (D.out.trans (by simp [hf, zc])) (by decide))
                      clear D EN N hf
                      go_wp2_with (go_at_call 36; refine (CC.out _ _).mono ?_; rintro e w1 ⟨rfl, rfl⟩)
                      go_ret2
                      exact ⟨two_int E.out, NB.out _⟩
                    | false =>
                      by_cases h3 : l ≤ (k : Int)
                      · have q3 : decide (l ≤ (k : Int)) = true := decide_eq_true h3
                        have E := hide (EN.out 1 (D.out.trans (by simp [hf, h3])) (by decide))
                        clear D EN N hf h3
                        go_wp2_with (go_at_call 36; refine (CC.out _ _).mono ?_; rintro e w1 ⟨rfl, rfl⟩)
                        go_ret2
                        exact ⟨two_int E.out, NB.out _⟩
                      · have q3 : decide (l ≤ (k : Int)) = false := decide_eq_false h3
                        by_cases h4 : (ts.length : Int) ≤ l
                        · have q4 : decide ((ts.length : Int) ≤ l) = true := decide_eq_true h4
                          have E := hide (EN.out 1 (D.out.trans (by simp [hf, h4])) (by decide))
                          clear D EN N hf h4
                          go_wp2_with (go_at_call 36; refine (CC.out _ _).mono ?_; rintro e w1 ⟨rfl, rfl⟩)
                          go_ret2
                          exact ⟨two_int E.out, NB.out _⟩
                        · have q4 : decide ((ts.length : Int) ≤ l) = false := decide_eq_false h4
                          by_cases h5 : r ≤ (k : Int)
                          · have q5 : decide (r ≤ (k : Int)) = true := decide_eq_true h5
                            have E := hide (EN.out 1 (D.out.trans (by simp [hf, h5])) (by decide))
                            clear D EN N hf h5
                            go_wp2_with (go_at_call 36; refine (CC.out _ _).mono ?_; rintro e w1 ⟨rfl, rfl⟩)
                            go_ret2
                            exact ⟨two_int E.out, NB.out _⟩
                          · have q5 : decide (r ≤ (k : Int)) = false := decide_eq_false h5
                            by_cases h6 : (ts.length : Int) ≤ r
                            · have q6 : decide ((ts.length : Int) ≤ r) = true := decide_eq_true h6
                              have E := hide (EN.out 1 (D.out.trans (by simp [hf, h6])) (by decide))
                              clear D EN N hf h6
                              go_wp2_with (go_at_call 36; refine (CC.out _ _).mono ?_; rintro e w1 ⟨rfl, rfl⟩)
                              go_ret2
                              exact ⟨two_int E.out, NB.out _⟩
                            · have q6 : decide ((ts.length : Int) ≤ r) = false := decide_eq_false h6
                              by_cases hv : v = 0
                              · have qv : (v != 0) = false := by rw [bne_eq_false_iff_eq]; exact hv
                                by_cases hlr : l = r
                                · have qlr : (l == r) = true := by rw [beq_iff_eq]; exact hlr
                                  have E := hide (EN.out 3 (D.out.trans (by simp [hf, h1, h2, zc, h5, h6, hv, hlr])) (by decide))
                                  clear D EN N hf h1 h2 h5 h6 hv hlr
                                  go_wp2_with (go_at_call 36; refine (CC.out _ _).mono ?_; rintro e w1 ⟨rfl, rfl⟩)
                                  go_ret2
                                  exact ⟨two_int E.out, NB.out _⟩
                                · have qlr : (l == r) = false := by rw [beq_eq_false_iff_ne]; exact hlr
                                  have E := hide (N.out (D.out.trans (by simp [hf, h1, h2, zc, h3, h4, h5, h6, hv, hlr])))
                                  clear D EN N hf h1 h2 h3 h4 h5 h6 hv hlr
                                  go_wp2_with (go_at_call 36; refine (CC.out _ _).mono ?_; rintro e w1 ⟨rfl, rfl⟩)
                                  go_roundw
                                  case rel => exact ⟨k + 1, by omega, by go_num, NB.out _, E⟩
                                  case measure => simp [intOf]; omega
                              · have qv : (v != 0) = true := by rw [bne_iff_ne]; exact hv
                                have E := hide (EN.out 3 (D.out.trans (by simp [hf, h1, h2, zc, h3, h4, h5, h6, hv])) (by decide))
                                clear D EN N hf h1 h2 h3 h4 h5 h6 hv
                                go_wp2_with (go_at_call 36; refine (CC.out _ _).mono ?_; rintro e w1 ⟨rfl, rfl⟩)
                                go_ret2
                                exact ⟨two_int E.out, NB.out _⟩
            · have A : Hid (∀ j, j < ts.length → M.nodeF (M.nAt ts j) j ts.length m = 0) := fun j hj => I.out j (by omega)
              have D1 := hide (CD.out wr hbl A.out)
              have S1 := hide (fun i => TS.out i A.out)
              have F1 := hide (TF.out A.out)
              have db := DB.out A.out
              have HS : Hid (∀ j, j < ts.length → ∃ b off, a0 = some ⟨b, off, none⟩ ∧ SixAt wr b (off + j * 6) (M.nAt ts j)) := fun j hj => by
                obtain ⟨b0, off, e, hb0, hc⟩ := HR.out (by intro e; subst e; simp at hj)
                exact ⟨b0, off, e, (hc j hj).below hbl hb0⟩
              clear TN TS TF CD DB A I HR CC
              go_wp2
              go_loop [10] (fun i => ∃ p : Nat, 0 < p ∧ p ≤ ts.length + 1 ∧ i = .int .i64 p ∧ Hid (∀ j, 0 < j → j < p → M.ups ts j = 1)) (fun i => ts.length + 1 - (intOf i).toNat)
              case atStart => exact ⟨1, by omega, by omega, rfl, fun j h1 h2 => by omega⟩
              case round =>
                obtain ⟨p, hp0, hp, rfl, J⟩ := hrel
                by_cases hpl : p < ts.length
                · go_wp2
                  go_loop [11, 12] (fun mm kk => ∃ j : Nat, j ≤ ts.length ∧ kk = .int .i64 j ∧ mm = .int .i64 ((M.ups (ts.take j) (p : Int) : Nat) : Int)) (fun _ kk => ts.length - (intOf kk).toNat)
                  case atStart => exact ⟨0, Nat.zero_le _, rfl, rfl⟩
                  case round =>
                    obtain ⟨j, hj, rfl, rfl⟩ := hrel
                    have ub : M.ups (ts.take j) (p : Int) ≤ 126 := by
                      have := M.ups_le (ts.take j) (p : Int)
                      rw [List.length_take] at this
                      omega
                    by_cases hjl : j < ts.length
                    · obtain ⟨b0, off, rfl, s0, s1, s2, s3, s4, s5⟩ := HS.out j hjl
                      have U := hide (M.ups_take hjl (p : Int))
                      have EDG : Hid (M.edge (p : Int) ts[j] = if M.nf (M.nAt ts j) = -1 then 0 else (if M.nl (M.nAt ts j) = (p : Int) then 1 else 0) + (if M.nr (M.nAt ts j) = (p : Int) then 1 else 0)) := by unfold Hid; rw [← M.nAt_eq hjl]; rfl
                      generalize M.ups (ts.take j) (p : Int) = u at *
                      generalize M.edge (p : Int) ts[j] = ed at *
                      generalize M.nf (M.nAt ts j) = f at *
                      generalize M.nl (M.nAt ts j) = l at *
                      generalize M.nr (M.nAt ts j) = r at *
                      by_cases hf : f = -1
                      · have qf : (f == -1) = true := by rw [beq_iff_eq]; exact hf
                        have N : Hid (M.ups (ts.take (j + 1)) (p : Int) = u) := by unfold Hid; rw [U.out, EDG.out, if_pos hf]; rfl
                        clear hf U EDG
                        go_wp2
                        go_round
                        case rel => exact ⟨j + 1, by omega, by go_num, by rw [N.out]⟩
                        case measure => simp [intOf]; omega
                      · have qf : (f == -1) = false := by rw [beq_eq_false_iff_ne]; exact hf
                        by_cases h1 : l = (p : Int)
                        · have q1 : (l == (p : Int)) = true := by rw [beq_iff_eq]; exact h1
                          by_cases h2 : r = (p : Int)
                          · have q2 : (r == (p : Int)) = true := by rw [beq_iff_eq]; exact h2
                            have N : Hid (M.ups (ts.take (j + 1)) (p : Int) = u + 1 + 1) := by unfold Hid; rw [U.out, EDG.out, if_neg hf, if_pos h1, if_pos h2]
                            clear hf U EDG h1 h2
                            go_wp2
                            go_round
                            case rel => exact ⟨j + 1, by omega, by go_num, by rw [N.out]; go_num⟩
                            case measure => simp [intOf]; omega
                          · have q2 : (r == (p : Int)) = false := by rw [beq_eq_false_iff_ne]; exact h2
                            have N : Hid (M.ups (ts.take (j + 1)) (p : Int) = u + 1) := by unfold Hid; rw [U.out, EDG.out, if_neg hf, if_pos h1, if_neg h2]
                            clear hf U EDG h1 h2
                            go_wp2
                            go_round
                            case rel => exact ⟨j + 1, by omega, by go_num, by rw [N.out]; go_num⟩
                            case measure => simp [intOf]; omega
                        · have q1 : (l == (p : Int)) = false := by rw [beq_eq_false_iff_ne]; exact h1
                          by_cases h2 : r = (p : Int)
                          · have q2 : (r == (p : Int)) = true := by rw [beq_iff_eq]; exact h2
                            have N : Hid (M.ups (ts.take (j + 1)) (p : Int) = u + 1) := by unfold Hid; rw [U.out, EDG.out, if_neg hf, if_neg h1, if_pos h2]
                            clear hf U EDG h1 h2
                            go_wp2
                            go_round
                            case rel => exact ⟨j + 1, by omega, by go_num, by rw [N.out]; go_num⟩
                            case measure => simp [intOf]; omega
                          · have q2 : (r == (p : Int)) = false := by rw [beq_eq_false_iff_ne]; exact h2
                            have N : Hid (M.ups (ts.take (j + 1)) (p : Int) = u) := by unfold Hid; rw [U.out, EDG.out, if_neg hf, if_neg h1, if_neg h2]; rfl
                            clear hf U EDG h1 h2
                            go_wp2
                            go_round
                            case rel => exact ⟨j + 1, by omega, by go_num, by rw [N.out]⟩
                            case measure => simp [intOf]; omega
                    · have e : ts.take j = ts := List.take_of_length_le (by omega)
                      rw [e] at ub ⊢
                      clear e
                      by_cases hu : M.ups ts (p : Int) = 1
                      · have N : Hid (∀ j, 0 < j → j < p + 1 → M.ups ts j = 1) := fun j h1 h2 => by
                          by_cases e : j = p
                          · subst e; exact hu
                          · exact J.out j h1 (by omega)
                        have q : (((M.ups ts (p : Int) : Nat) : Int) != 1) = false := by rw [bne_eq_false_iff_eq]; omega
                        clear hu
                        generalize ((M.ups ts (p : Int) : Nat) : Int) = u at *
                        go_wp2
                        go_round
                        case rel => exact ⟨p + 1, by omega, by omega, by go_num, N⟩
                        case measure => simp [intOf]; omega
                      · have E := hide (S1.out p hpl hp0 hu J.out)
                        have q : (((M.ups ts (p : Int) : Nat) : Int) != 1) = true := by rw [bne_iff_ne]; omega
                        clear hu
                        generalize ((M.ups ts (p : Int) : Nat) : Int) = u at *
                        go_wp2
                        go_ret2
                        exact ⟨two_int E.out, hbl⟩
                · have E1 := hide (F1.out fun j h1 h2 => J.out j h1 (by omega))
                  by_cases h10 : 10 < dv
                  · have qd : decide ((10 : Int) < (dv : Int)) = true := decide_eq_true (by omega)
                    have E : Hid (tf = (0, 4)) := by have := E1.out; rw [if_pos h10] at this; exact this
                    clear E1 h10
                    go_wp2_with (go_at_call 37; refine D1.out.mono ?_; rintro e w1 ⟨rfl, rfl⟩)
                    go_ret2
                    exact ⟨two_int E.out, hbl⟩
                  · have qd : decide ((10 : Int) < (dv : Int)) = false := decide_eq_false (by omega)
                    have E : Hid (tf = (0, 0)) := by have := E1.out; rw [if_neg h10] at this; exact this
                    clear E1 h10
                    go_wp2_with (go_at_call 37; refine D1.out.mono ?_; rintro e w1 ⟨rfl, rfl⟩)
                    go_ret2
                    exact ⟨two_int E.out, hbl⟩

end Go.Proofs.YtdadjppdonephagDoor

namespace Go.Proofs.YtdadjppdonephagDoor
open Go.ChangeShapes Go.WideShapes Go.ChangeAt Go.RowKit Go.Lib
set_option linter.unusedVariables false

/-- a node's block, written over -/
abbrev put6 (W : World) (p : Nat) (x0 x1 x2 x3 x4 x5 : Value) : World := (((((W.setCell ⟨p, 0, none⟩ x0).setCell ⟨p, 1, none⟩ x1).setCell ⟨p, 2, none⟩ x2).setCell ⟨p, 3, none⟩ x3).setCell ⟨p, 4, none⟩ x4).setCell ⟨p, 5, none⟩ x5
theorem put6_cells {W : World} {p : Nat} {x0 x1 x2 x3 x4 x5 y0 y1 y2 y3 y4 y5 : Value} (h : W.cell? ⟨p, 0, none⟩ = some y0 ∧ W.cell? ⟨p, 1, none⟩ = some y1 ∧ W.cell? ⟨p, 2, none⟩ = some y2 ∧ W.cell? ⟨p, 3, none⟩ = some y3 ∧ W.cell? ⟨p, 4, none⟩ = some y4 ∧ W.cell? ⟨p, 5, none⟩ = some y5) :
    (put6 W p x0 x1 x2 x3 x4 x5).cell? ⟨p, 0, none⟩ = some x0 ∧ (put6 W p x0 x1 x2 x3 x4 x5).cell? ⟨p, 1, none⟩ = some x1 ∧ (put6 W p x0 x1 x2 x3 x4 x5).cell? ⟨p, 2, none⟩ = some x2 ∧ (put6 W p x0 x1 x2 x3 x4 x5).cell? ⟨p, 3, none⟩ = some x3 ∧ (put6 W p x0 x1 x2 x3 x4 x5).cell? ⟨p, 4, none⟩ = some x4 ∧ (put6 W p x0 x1 x2 x3 x4 x5).cell? ⟨p, 5, none⟩ = some x5 := by
  obtain ⟨h0, h1, h2, h3, h4, h5⟩ := h
  have o : ∀ (V : World) (i j : Nat) (v : Value), i ≠ j → (V.setCell ⟨p, i, none⟩ v).cell? ⟨p, j, none⟩ = V.cell? ⟨p, j, none⟩ := fun V i j v hij => World.cell?_setCell_other _ _ _ _ (by intro e; cases e; exact hij rfl)
  have s : ∀ (V : World) (j : Nat) (v u : Value), V.cell? ⟨p, j, none⟩ = some u → (V.setCell ⟨p, j, none⟩ v).cell? ⟨p, j, none⟩ = some v := fun V j v u hu => World.cell?_setCell_same (u := u) _ _ _ hu
  refine ⟨?_, ?_, ?_, ?_, ?_, ?_⟩
  · rw [o _ _ _ _ (by decide), o _ _ _ _ (by decide), o _ _ _ _ (by decide), o _ _ _ _ (by decide), o _ _ _ _ (by decide), s _ _ _ y0 h0]
  · rw [o _ _ _ _ (by decide), o _ _ _ _ (by decide), o _ _ _ _ (by decide), o _ _ _ _ (by decide), s _ _ _ y1 (by rw [o _ _ _ _ (by decide)]; exact h1)]
  · rw [o _ _ _ _ (by decide), o _ _ _ _ (by decide), o _ _ _ _ (by decide), s _ _ _ y2 (by rw [o _ _ _ _ (by decide), o _ _ _ _ (by decide)]; exact h2)]
  · rw [o _ _ _ _ (by decide), o _ _ _ _ (by decide), s _ _ _ y3 (by rw [o _ _ _ _ (by decide), o _ _ _ _ (by decide), o _ _ _ _ (by decide)]; exact h3)]
  · rw [o _ _ _ _ (by decide), s _ _ _ y4 (by rw [o _ _ _ _ (by decide), o _ _ _ _ (by decide), o _ _ _ _ (by decide), o _ _ _ _ (by decide)]; exact h4)]
  · rw [s _ _ _ y5 (by rw [o _ _ _ _ (by decide), o _ _ _ _ (by decide), o _ _ _ _ (by decide), o _ _ _ _ (by decide), o _ _ _ _ (by decide)]; exact h5)]
theorem put6_below {B : Nat} {w W : World} {p : Nat} {x0 x1 x2 x3 x4 x5 : Value} (h : Below B w W) (hp : B ≤ p) : Below B w (put6 W p x0 x1 x2 x3 x4 x5) :=
  (((((h.setCell (p := ⟨p, 0, none⟩) hp _).setCell (p := ⟨p, 1, none⟩) hp _).setCell (p := ⟨p, 2, none⟩) hp _).setCell (p := ⟨p, 3, none⟩) hp _).setCell (p := ⟨p, 4, none⟩) hp _).setCell (p := ⟨p, 5, none⟩) hp _
theorem put6_frozen {W : World} {p j : Nat} {x0 x1 x2 x3 x4 x5 : Value} (h : W.frozen? ⟨p, j, none⟩ = false) : (put6 W p x0 x1 x2 x3 x4 x5).frozen? ⟨p, j, none⟩ = false := by simpa using h
theorem put6_size {W : World} {p : Nat} {x0 x1 x2 x3 x4 x5 : Value} : (put6 W p x0 x1 x2 x3 x4 x5).heap.size = W.heap.size := by simp

/-- the node in a block -/
def Six (W : World) (p : Nat) (n : M.Nd) : Prop := W.cell? ⟨p, 0, none⟩ = some (.int .i64 (M.nf n)) ∧ W.cell? ⟨p, 1, none⟩ = some (.int .i64 (M.nc n)) ∧ W.cell? ⟨p, 2, none⟩ = some (.int .i64 (M.nl n)) ∧ W.cell? ⟨p, 3, none⟩ = some (.int .i64 (M.nr n)) ∧ W.cell? ⟨p, 4, none⟩ = some (.bool (M.ns n)) ∧ W.cell? ⟨p, 5, none⟩ = some (.int .i64 (M.nv n))
theorem Six.below {W W' : World} {p : Nat} {n : M.Nd} (h : Six W p n) (hb : Below W.heap.size W W') (hp : p < W.heap.size) : Six W' p n :=
  ⟨(hb.cell (p := ⟨p, 0, none⟩) hp).trans h.1, (hb.cell (p := ⟨p, 1, none⟩) hp).trans h.2.1, (hb.cell (p := ⟨p, 2, none⟩) hp).trans h.2.2.1, (hb.cell (p := ⟨p, 3, none⟩) hp).trans h.2.2.2.1, (hb.cell (p := ⟨p, 4, none⟩) hp).trans h.2.2.2.2.1, (hb.cell (p := ⟨p, 5, none⟩) hp).trans h.2.2.2.2.2⟩
theorem Six.drew {W : World} {p : Nat} {n : M.Nd} (h : Six W p n) : Six W.drew p n := h
theorem froz_drew {W : World} {p j : Nat} (h : W.frozen? ⟨p, j, none⟩ = false) : W.drew.frozen? ⟨p, j, none⟩ = false := h
theorem size_drew {W : World} {n : Nat} (h : n < W.heap.size) : n < W.drew.heap.size := h
/-- how far the node in a block is from the end -/
def vFar (p : Nat) (W : World) : Nat :=
  if intOf ((W.cell? ⟨p, 0, none⟩).getD (.int .i64 0)) = -1 then 0 else 2000 - min (intOf ((W.cell? ⟨p, 2, none⟩).getD (.int .i64 0))).toNat (intOf ((W.cell? ⟨p, 3, none⟩).getD (.int .i64 0))).toNat
theorem vFar_six {W : World} {p : Nat} {n : M.Nd} (h : Six W p n) : vFar p W = if M.nf n = -1 then 0 else 2000 - min (M.nl n).toNat (M.nr n).toNat := by
  unfold vFar; rw [h.1, h.2.2.1, h.2.2.2.1]; rfl

end Go.Proofs.YtdadjppdonephagDoor

namespace Go.Proofs.YtdadjppdonephagDoor
open Go.ChangeShapes Go.WideShapes Go.ChangeAt Go.RowKit Go.Lib
set_option linter.unusedVariables false

/-- the reader, where it lies -/
structure InAt (W : World) (g : Nat) (v : Value) (s : M.In) : Prop where
  c0 : W.cell? ⟨g, 0, none⟩ = some v
  c1 : W.cell? ⟨g, 1, none⟩ = some (.int .i64 (s.at' : Nat))
  c2 : W.cell? ⟨g, 2, none⟩ = some (.int .i64 (s.fin : Nat))
  c3 : W.cell? ⟨g, 3, none⟩ = some (.int .i64 s.bad)
  fr : ∀ j, W.frozen? ⟨g, j, none⟩ = false
theorem InAt.lt {W : World} {g : Nat} {v : Value} {s : M.In} (h : InAt W g v s) : g < W.heap.size := block_lt_of_cell h.c0
theorem InAt.same {W W' : World} {g : Nat} {v : Value} {s : M.In} (h : InAt W g v s) (e : W'.heap[g]? = W.heap[g]?) : InAt W' g v s :=
  ⟨(World.cell?_of_block (a := ⟨g, 0, none⟩) e).trans h.c0, (World.cell?_of_block (a := ⟨g, 1, none⟩) e).trans h.c1, (World.cell?_of_block (a := ⟨g, 2, none⟩) e).trans h.c2, (World.cell?_of_block (a := ⟨g, 3, none⟩) e).trans h.c3, fun j => (World.frozen?_of_block (a := ⟨g, j, none⟩) e).trans (h.fr j)⟩
theorem InAt.up {W W' : World} {g : Nat} {v : Value} {s : M.In} (h : InAt W g v s) (hb : Below W.heap.size W W') : InAt W' g v s := h.same (hb.block g h.lt)
theorem InAt.set1 {W : World} {g : Nat} {v : Value} {s : M.In} (h : InAt W g v s) (n : Nat) : InAt (W.setCell ⟨g, 1, none⟩ (.int .i64 (n : Nat))) g v { s with at' := n } :=
  ⟨cell_set_other h.c0 (by decide), cell_set_same h.c1, cell_set_other h.c2 (by decide), cell_set_other h.c3 (by decide), fun j => frozen_set (h.fr j)⟩
theorem InAt.set2 {W : World} {g : Nat} {v : Value} {s : M.In} (h : InAt W g v s) (n : Nat) : InAt (W.setCell ⟨g, 2, none⟩ (.int .i64 (n : Nat))) g v { s with fin := n } :=
  ⟨cell_set_other h.c0 (by decide), cell_set_other h.c1 (by decide), cell_set_same h.c2, cell_set_other h.c3 (by decide), fun j => frozen_set (h.fr j)⟩
theorem InAt.set3 {W : World} {g : Nat} {v : Value} {s : M.In} (h : InAt W g v s) (n : Int) : InAt (W.setCell ⟨g, 3, none⟩ (.int .i64 n)) g v { s with bad := n } :=
  ⟨cell_set_other h.c0 (by decide), cell_set_other h.c1 (by decide), cell_set_other h.c2 (by decide), cell_set_same h.c3, fun j => frozen_set (h.fr j)⟩

set_option maxHeartbeats 8000000 in
set_option maxRecDepth 10000 in
theorem rinum_any (g : Nat) (a : Option Addr) (bs : List Nat) (c : Nat) (s : M.In) (w : World) (h : InAt w g (.slice a bs.length c) s) (hb : RdB w a bs) (hc : bs.length ≤ c) (h63 : c ≤ 9223372036854775807) (hf : s.fin ≤ bs.length) (hne : bs ≠ [] → ∀ p, a = some p → p.block ≠ g) :
    Calls Tryd.prog 19 #[.pointer (some ⟨g, 0, none⟩)] w fun e w' => e = .returned (.int .i64 (M.rNum bs s).1) ∧ InAt w' g (.slice a bs.length c) (M.rNum bs s).2 ∧ w.grownBy w' (some g) := by
  have y3 := h.c3
  by_cases q : s.bad = 0
  · rw [M.rNum_go q]
    have q1 : (s.bad != 0) = false := by rw [bne_eq_false_iff_eq]; exact q
    have y0 := h.c0
    have y1 := h.c1
    have y2 := h.c2
    have f1 := h.fr 1
    have H1 := hide (h.set1 s.fin)
    obtain ⟨R, hR⟩ : ∃ R, R = M.getL (bs.drop s.fin) := ⟨_, rfl⟩
    have RL : Hid (s.fin + R.2.1 ≤ bs.length) := by
      have := M.get_le (bs.drop s.fin)
      rw [← hR, List.length_drop] at this
      unfold Hid
      omega
    obtain ⟨w1, hw1⟩ : ∃ X, X = w.setCell ⟨g, 1, none⟩ (.int .i64 (s.fin : Nat)) := ⟨_, rfl⟩
    rw [← hw1] at H1
    have G1 : Hid (w.grownBy w1 (some g)) := by rw [hw1]; exact grown_set
    have R1 : Hid (RdB w1 a bs) := rdB_keep hb (fun hn p hp => (G1.out.block p.block (by
      obtain ⟨b, off, e, hl, _⟩ := hb.2.2 hn
      rw [hp] at e
      cases e
      exact hl) (fun e => hne hn p hp (by cases e; rfl)))) G1.out.size
    have GT : Hid (∀ (W : World) a' n' c', n' = bs.length - s.fin → RdB W a' (bs.drop s.fin) → Calls Tryd.prog 10 #[.slice a' n' c'] W fun e w' => e = .returned (.tuple #[.int .i64 R.1, .int .i64 (R.2.1 : Nat), .int .i64 R.2.2]) ∧ w' = W) := fun W a' n' c' hn h' => by
      have := rget_any a' (bs.drop s.fin) c' W h'
      rw [List.length_drop, ← hn, ← hR] at this
      exact this
    have RS : Hid (∀ n, RdB (w1.drewN n) (if c = s.fin then a else Option.map (fun x => x.add s.fin) a) (bs.drop s.fin)) := fun n => rdB_slice (R1.out.below (below_drew (Below.refl _ _) n (Nat.le_refl _))) hc
    have z0 : (0 : Int) ≤ (s.fin : Int) := by omega
    have z1 : (s.fin : Int) ≤ (bs.length : Int) := by omega
    have z2 : (s.fin : Int) ≤ (c : Int) := by omega
    have RR := hide hR
    have x0 := H1.out.c0
    have x1 : w1.cell? ⟨g, 1, none⟩ = some (.int .i64 (s.fin : Nat)) := H1.out.c1
    rw [← hR]
    clear h hb hne hR q
    go_enter Tryd.func19, Tryd.ntmps19
    go_upto_region 4 with fail
    rw [← hw1]
    clear hw1 y0 y1 y2 y3
    go_quiet ((go_at_call 10; exact Calls.quiet_of_same (GT.out _ _ _ _ rfl (RS.out _))))
    generalize (if c = s.fin then a else Option.map (fun x => x.add s.fin) a) = ad
    obtain ⟨w2, hw2⟩ : ∃ X, X = w1.drewN nq := ⟨_, rfl⟩
    rw [← hw2]
    have H2 : Hid (InAt w2 g (.slice a bs.length c) { s with at' := s.fin }) := by rw [hw2]; exact H1.out.up (below_drew (Below.refl _ _) nq (Nat.le_refl _))
    have G2 : Hid (w.grownBy w2 (some g)) := by rw [hw2]; exact grown_trans G1.out (grown_of (below_drew (Below.refl _ _) nq (Nat.le_refl _)) (some g)) (.inl rfl)
    have v1 : w2.cell? ⟨g, 1, none⟩ = some (.int .i64 (s.fin : Nat)) := H2.out.c1
    have v2 : w2.cell? ⟨g, 2, none⟩ = some (.int .i64 (s.fin : Nat)) := H2.out.c2
    have f2 := H2.out.fr 2
    have rl := RL.out
    have S3 : Hid (InAt (w2.setCell ⟨g, 2, none⟩ (.int .i64 ((s.fin + R.2.1 : Nat) : Int))) g (.slice a bs.length c) ⟨s.fin, s.fin + R.2.1, s.bad⟩) := H2.out.set2 (s.fin + R.2.1)
    have ei : ((s.fin + R.2.1 : Nat) : Int) = (s.fin : Int) + (R.2.1 : Int) := by omega
    rw [ei] at S3
    clear hw2 x0 x1 RR RL ei
    go_upto_region 6 with fail
    obtain ⟨w3, hw3⟩ : ∃ X, X = w2.setCell ⟨g, 2, none⟩ (.int .i64 ((s.fin : Int) + (R.2.1 : Int))) := ⟨_, rfl⟩
    rw [← hw3] at S3 ⊢
    have G3 : Hid (w.grownBy w3 (some g)) := by rw [hw3]; exact grown_trans G2.out grown_set (.inl rfl)
    have u3 := S3.out.c3
    have f3 := S3.out.fr 3
    have S4 := hide (S3.out.set3 R.2.2)
    clear hw3 v1 v2 f2
    go_wp2
    go_ret
    exact ⟨rfl, S4.out, grown_trans G3.out grown_set (.inl rfl)⟩
  · rw [M.rNum_bad q]
    have q1 : (s.bad != 0) = true := by rw [bne_iff_ne]; exact q
    have HI := hide h
    clear h hb q
    go_enter Tryd.func19, Tryd.ntmps19
    go_wp2
    go_ret
    exact ⟨rfl, HI.out, World.grownBy.refl _ _⟩

end Go.Proofs.YtdadjppdonephagDoor

namespace Go.Proofs.YtdadjppdonephagDoor
open Go.ChangeShapes Go.WideShapes Go.ChangeAt Go.RowKit Go.Lib
set_option linter.unusedVariables false

set_option maxHeartbeats 8000000 in
set_option maxRecDepth 10000 in
theorem rimany_any (g : Nat) (a : Option Addr) (bs : List Nat) (c : Nat) (most : Int) (s : M.In) (w : World) (h : InAt w g (.slice a bs.length c) s) (hb : RdB w a bs) (hc : bs.length ≤ c) (h63 : c ≤ 9223372036854775807) (hf : s.fin ≤ bs.length) (hne : bs ≠ [] → ∀ p, a = some p → p.block ≠ g) :
    Calls Tryd.prog 20 #[.pointer (some ⟨g, 0, none⟩), .int .i64 most] w fun e w' => e = .returned (.int .i64 (M.rMany bs most s).1) ∧ InAt w' g (.slice a bs.length c) (M.rMany bs most s).2 ∧ w.grownBy w' (some g) := by
  have NM := hide (rinum_any g a bs c s w h hb hc h63 hf hne)
  have EM : Hid (M.rMany bs most s = if (M.rNum bs s).2.bad = 0 ∧ ((M.rNum bs s).1 < 1 ∨ most < (M.rNum bs s).1) then (0, { (M.rNum bs s).2 with bad := 1 }) else if (M.rNum bs s).2.bad ≠ 0 then (0, (M.rNum bs s).2) else M.rNum bs s) := rfl
  generalize M.rMany bs most s = Z at *
  generalize M.rNum bs s = R at *
  obtain ⟨n, t⟩ := R
  clear h hb hc hf hne
  by_cases h1 : t.bad = 0
  · have q1 : (t.bad == 0) = true := by rw [beq_iff_eq]; exact h1
    have q1' : (t.bad != 0) = false := by rw [bne_eq_false_iff_eq]; exact h1
    by_cases h2 : n < 1 ∨ most < n
    · have e1 := EM.out
      rw [if_pos ⟨h1, h2⟩] at e1
      have EZ := hide e1
      clear e1 EM
      by_cases h3 : n < 1
      · have q2 : decide (n < 1) = true := decide_eq_true h3
        clear h1 h2 h3
        go_enter Tryd.func20, Tryd.ntmps20
        go_upto_region 3 with (go_at_call 19; refine NM.out.mono ?_; rintro e w1 ⟨rfl, i1, g1⟩; have I1 := hide i1; have G1 := hide g1; have c3 := i1.c3; have f3 := i1.fr 3; have S3 := hide (i1.set3 1); clear i1 g1)
        obtain ⟨w2, hw2⟩ : ∃ X, X = w1.setCell ⟨g, 3, none⟩ (.int .i64 1) := ⟨_, rfl⟩
        rw [← hw2] at S3
        have G2 : Hid (w.grownBy w2 (some g)) := by rw [hw2]; exact grown_trans G1.out grown_set (.inl rfl)
        have u3 : w2.cell? ⟨g, 3, none⟩ = some (.int .i64 1) := S3.out.c3
        go_upto_region 4 with fail
        rw [← hw2]
        clear hw2 c3 f3
        go_wp2
        go_ret
        exact ⟨by rw [EZ.out]; rfl, by rw [EZ.out]; exact S3.out, G2.out⟩
      · have q2 : decide (n < 1) = false := decide_eq_false h3
        have q3 : decide (most < n) = true := decide_eq_true (by omega)
        clear h1 h2 h3
        go_enter Tryd.func20, Tryd.ntmps20
        go_upto_region 3 with (go_at_call 19; refine NM.out.mono ?_; rintro e w1 ⟨rfl, i1, g1⟩; have I1 := hide i1; have G1 := hide g1; have c3 := i1.c3; have f3 := i1.fr 3; have S3 := hide (i1.set3 1); clear i1 g1)
        obtain ⟨w2, hw2⟩ : ∃ X, X = w1.setCell ⟨g, 3, none⟩ (.int .i64 1) := ⟨_, rfl⟩
        rw [← hw2] at S3
        have G2 : Hid (w.grownBy w2 (some g)) := by rw [hw2]; exact grown_trans G1.out grown_set (.inl rfl)
        have u3 : w2.cell? ⟨g, 3, none⟩ = some (.int .i64 1) := S3.out.c3
        go_upto_region 4 with fail
        rw [← hw2]
        clear hw2 c3 f3
        go_wp2
        go_ret
        exact ⟨by rw [EZ.out]; rfl, by rw [EZ.out]; exact S3.out, G2.out⟩
    · have e1 := EM.out
      rw [if_neg (fun z => h2 z.2), if_neg (by simp [h1])] at e1
      have EZ := hide e1
      have q2 : decide (n < 1) = false := decide_eq_false (by omega)
      have q3 : decide (most < n) = false := decide_eq_false (by omega)
      clear e1 EM h1 h2
      go_enter Tryd.func20, Tryd.ntmps20
      go_wp2_with (go_at_call 19; refine NM.out.mono ?_; rintro e w1 ⟨rfl, i1, g1⟩; have I1 := hide i1; have G1 := hide g1; have c3 := i1.c3; clear i1 g1)
      go_ret
      exact ⟨by rw [EZ.out]; rfl, by rw [EZ.out]; exact I1.out, G1.out⟩
  · have q1 : (t.bad == 0) = false := by rw [beq_eq_false_iff_ne]; exact h1
    have q1' : (t.bad != 0) = true := by rw [bne_iff_ne]; exact h1
    have e1 := EM.out
    rw [if_neg (fun z => h1 z.1), if_pos h1] at e1
    have EZ := hide e1
    clear e1 EM h1
    go_enter Tryd.func20, Tryd.ntmps20
    go_wp2_with (go_at_call 19; refine NM.out.mono ?_; rintro e w1 ⟨rfl, i1, g1⟩; have I1 := hide i1; have G1 := hide g1; have c3 := i1.c3; clear i1 g1)
    go_ret
    exact ⟨by rw [EZ.out]; rfl, by rw [EZ.out]; exact I1.out, G1.out⟩

end Go.Proofs.YtdadjppdonephagDoor
