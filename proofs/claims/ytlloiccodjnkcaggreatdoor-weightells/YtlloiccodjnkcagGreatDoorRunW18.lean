/-
  Several texts as one: RefGains.
-/
import Derived.Test.YtlloiccodjnkcagGreatDoorRunW17
import Derived.Test.YtlloiccodjnkcagGreatDoorRunW11
import Derived.Test.YtlloiccodjnkcagGreatDoorRunW12
import Derived.Test.YtlloiccodjnkcagGreatDoorRunW7
import Derived.Test.YtlloiccodjnkcagGreatDoorRunW8
import Derived.Deep.RegionHeld3
import Derived.Deep.Cut
import Derived.Deep.CutRange
import Derived.Deep.AppendLies
import Derived.OrdersHeld
namespace Go.Proofs.YtlloiccodjnkcagGreatDoor
open Go.ChangeShapes Go.WideShapes Go.ChangeAt Go.RowKit Go.Lib
set_option linter.unusedVariables false

/-- the samples that come over a node, where their rows lie -/
def overX (ts : List M.Nd) (i : Nat) (xs : List Sx) : List Sx := xs.filter fun x => M.overB ts i (sm x)
theorem overX_sms (ts : List M.Nd) (i : Nat) (xs : List Sx) : sms (overX ts i xs) = M.hereS ts (sms xs) i := by
  unfold sms overX M.hereS
  rw [List.filter_map]
  rfl
theorem overX_more (ts : List M.Nd) (i : Nat) (xs : List Sx) {k : Nat} (hk : k < xs.length) : overX ts i (xs.take (k + 1)) = if (i : Int) ∈ M.pathV ts xs[k].2.1 then overX ts i (xs.take k) ++ [xs[k]] else overX ts i (xs.take k) := by
  unfold overX
  rw [List.take_succ_eq_append_getElem hk, List.filter_append]
  by_cases q : (i : Int) ∈ M.pathV ts xs[k].2.1
  · rw [if_pos q, List.filter_cons_of_pos (p := fun x => M.overB ts i (sm x)) (show M.overB ts i (sm xs[k]) = true from decide_eq_true q)]; rfl
  · rw [if_neg q, List.filter_cons_of_neg (p := fun x => M.overB ts i (sm x)) (show ¬ M.overB ts i (sm xs[k]) = true from fun e => q (of_decide_eq_true e))]; simp
theorem Ask.over {xs : List Sx} {m : Nat} (h : Ask xs m) (ts : List M.Nd) (i : Nat) : Ask (overX ts i xs) m :=
  ⟨Nat.le_trans (List.length_filter_le _ _) h.le, fun x hx => h.row x (List.mem_filter.1 hx).1, fun x hx => h.tgt x (List.mem_filter.1 hx).1⟩
/-- a number that rises is met once -/
theorem M.once {P : List Int} (h : P.Pairwise (fun a b => a < b)) {j : Nat} (hj : j < P.length) {i : Int} (e : P.getD j 0 = i) : i ∉ P.take j ∧ i ∈ P.take (j + 1) := by
  rw [M.getD_at hj] at e
  refine ⟨fun hm => ?_, ?_⟩
  · obtain ⟨q, hq, eq⟩ := List.getElem_of_mem hm
    rw [List.length_take] at hq
    rw [List.getElem_take] at eq
    have := List.pairwise_iff_getElem.1 h q j (by omega) hj (by omega)
    omega
  · rw [List.take_succ_eq_append_getElem hj, e]
    exact List.mem_append.2 (.inr (List.mem_singleton.2 rfl))
theorem M.not_now {P : List Int} {j : Nat} (hj : j < P.length) {i : Int} (e : P.getD j 0 ≠ i) : i ∈ P.take (j + 1) ↔ i ∈ P.take j := by
  rw [M.getD_at hj] at e
  rw [List.take_succ_eq_append_getElem hj, List.mem_append, List.mem_singleton]
  exact ⟨fun h => h.resolve_right (fun z => e z.symm), .inl⟩
theorem M.useF_gain (n g : Nat → Int) {k i : Nat} (h : i < k) (v : Int) : (M.useF n g k).set i ((M.uAt (M.useF n g k) i).1, (M.uAt (M.useF n g k) i).2.1, v) = M.useF n (fun j => if j = i then v else g j) k := by
  rw [M.useF_at n g h]
  refine List.ext_getElem (by rw [List.length_set, M.useF_len, M.useF_len]) fun j h1 h2 => ?_
  rw [M.useF_len] at h2
  by_cases e : i = j
  · subst e
    rw [List.getElem_set_self]
    simp [M.useF]
  · rw [List.getElem_set_ne e]
    simp [M.useF]
    exact fun z => absurd z.symm e
theorem M.useF_same {n g g' : Nat → Int} {k : Nat} (h : ∀ i, i < k → g i = g' i) : M.useF n g k = M.useF n g' k := by
  unfold M.useF
  refine List.map_congr_left fun i hi => ?_
  rw [h i (List.mem_range.1 hi)]

/-- the number in a cell -/
def cellI (V : World) (p : Addr) : Int := match V.cell? p with
  | some (.int _ n) => n
  | _ => 0
theorem cellI_is {V : World} {p : Addr} {n : Int} (h : V.cell? p = some (.int .i64 n)) : cellI V p = n := by unfold cellI; rw [h]
theorem cellI_ok {V : World} {p : Addr} {n : Int} (h : V.cell? p = some (.int .i64 n)) : V.cell? p = some (.int .i64 (cellI V p)) := by rw [cellI_is h]; exact h

/-- an operation that yields its value wherever a condition holds may be taken first; its slot is a letter -/
theorem take_rg {P : Program} {ops : Array Oper} {Q : Exit → Act → World → Prop} {md : Region.Mode} {S : World → Prop} {i : Nat} {d : Option Tmp} {oi : Oper} {v : Value} {fuel : Nat} {listed : Array Bool} {a : Act} {w : World} (hi : ops[i]? = some oi) (hd : oi.dst = d)
    (hs : Region.noSelect ops = true) (hf : Region.free md ops listed i = true) (hr : (Region.ready md ops listed).contains i = true)
    (hQ : ∀ c a w, Q (.panic c) (a.put d v) w → Q (.panic c) a w) (hy : YieldsIf P ops S oi v a) (hS : S w)
    (h : wpAnyH P md ops Q S fuel (listed.setIfInBounds i true) (a.put d v) w) : wpAnyH P md ops Q S (fuel + 1) listed a w := by
  subst hd
  exact wpAnyH_take hi hs hf hr hQ hy hS h

set_option maxHeartbeats 32000000 in
set_option maxRecDepth 10000 in
theorem rgains_any (a b : Option Addr) (ts : List M.Nd) (xs : List Sx) (ca cb : Nat) (w : World) (ht : RdN w a ts) (h : RdL w b xs) (hz : M.rdyF ts (sms xs) = 0) :
    Calls Tryz.prog 14 #[.slice a ts.length ca, .slice b xs.length cb] w fun e w' => ∃ ag cg, e = .returned (.slice ag (M.gainsV ts (sms xs)).length cg) ∧ RdU w' ag (M.gainsV ts (sms xs)) ∧ (∀ p, ag = some p → w.heap.size ≤ p.block) ∧ Below w.heap.size w w' := by
  have hmt : ts.length ≤ 9223372036854775807 := ht.1
  have hmx : xs.length ≤ 9223372036854775807 := h.1
  have x0 : xs.length ≠ 0 := fun e => by rw [M.rdyF, if_pos (by rw [sms_len]; exact e)] at hz; cases hz
  have tz : (M.treeF ts ((M.sAt (sms xs) 0).1.length : Int)).2 = 0 := by
    by_cases q : (M.treeF ts ((M.sAt (sms xs) 0).1.length : Int)).2 = 0
    · exact q
    · rw [M.rdyF, if_neg (by rw [sms_len]; exact x0), if_pos q] at hz; exact absurd hz q
  have sz : (M.samF (sms xs) ((M.sAt (sms xs) 0).1.length : Int)).2 = 0 := by
    rw [M.rdyF, if_neg (by rw [sms_len]; exact x0), if_neg (by simp [tz])] at hz; exact hz
  obtain ⟨m, hm⟩ : ∃ m, m = (M.sAt (sms xs) 0).1.length := ⟨_, rfl⟩
  rw [← hm] at tz sz
  obtain ⟨GS, _, _, _⟩ := M.sam_ok sz
  rw [Int.toNat_natCast] at GS
  obtain ⟨F, _⟩ := M.tree_ok tz
  have A := Ask.of GS
  have l60 := A.le
  have l63 := F.1
  have t0 := F.2.1
  have m8 := GS.m8
  have NF : ∀ k, k < ts.length → M.nf (M.nAt ts k) = -1 ∨ ∃ f : Nat, f < m ∧ M.nf (M.nAt ts k) = (f : Int) := fun k hk => by
    by_cases q : M.nf (M.nAt ts k) = -1
    · exact .inl q
    · have := M.node_ask (F.2.2.2.2.1 k hk) q
      exact .inr ⟨(M.nf (M.nAt ts k)).toNat, by omega, by omega⟩
  have RW : Hid (∀ k (hk : k < xs.length) W, Below w.heap.size w W → Calls Tryz.prog 36 #[.slice a ts.length ca, .slice xs[k].1 xs[k].2.1.length xs[k].2.2.1] W fun e w' => ∃ ag cg, e = .returned (.tuple #[.int .i64 (M.leafV ts xs[k].2.1 : Nat), .slice ag (M.pathV ts xs[k].2.1).length cg]) ∧ Rd w' ag (M.pathV ts xs[k].2.1) ∧ Below W.heap.size W w' ∧ (∀ p, ag = some p → W.heap.size ≤ p.block)) := fun k hk W hW => by
    have g := GS.each (sm xs[k]) (List.mem_map.2 ⟨_, List.getElem_mem hk, rfl⟩)
    have g1 : M.rowF xs[k].2.1 = 0 := g.1
    have g2 : xs[k].2.1.length = m := g.2.1
    have rd : M.readyF ts xs[k].2.1 = 0 := by unfold M.readyF; rw [g1, g2, tz]; simp
    exact rway_new a xs[k].1 ts xs[k].2.1 ca xs[k].2.2.1 W (ht.below hW) ((h.2.1 _ (List.getElem_mem hk)).below hW) rd
  have BL := hide (rblank_any w)
  have GB : Hid (∀ f k, 0 ≤ M.gnK ts (sms xs) f k ∧ (k ≤ 63 → M.gnK ts (sms xs) f k ≤ 4000000000)) := fun f k => ⟨M.gnK_pos _ _ _ _, fun hk => by
    have := M.gnK_le (t := ts) (l := sms xs) (fun s hs => (GS.each s hs).2.2.1) (by rw [sms_len]; exact l60) f k
    omega⟩
  have GV : Hid (M.rankU true (M.useF (fun i => 0 + ((M.cntN (i : Nat) ts : Nat) : Int)) (fun i => M.gnK ts (sms xs) (i : Nat) ts.length) 8) = M.gainsV ts (sms xs)) := by
    unfold Hid M.gainsV M.gainL M.useF
    congr 1
    refine List.map_congr_left fun i _ => ?_
    show ((i : Int), 0 + ((M.cntN (i : Nat) ts : Nat) : Int), M.gnK ts (sms xs) (i : Nat) ts.length) = _
    rw [Int.zero_add]
  have HT := hide ht
  have HL := hide h
  have HA := hide A
  have HN := hide NF
  have US : Hid (∀ g c W, Below w.heap.size w W → W.ownsRow w.heap.size 50 3 (.slice (some ⟨g, 0, none⟩) 8 c) 8 (usCells (M.useF (fun _ => 0) (fun _ => 0) 8)) → Calls Tryz.prog 22 #[.slice a ts.length ca, .slice (some ⟨g, 0, none⟩) 8 c] W fun e w' => e = .returned (.tuple #[]) ∧ w'.ownsRow w.heap.size 50 3 (.slice (some ⟨g, 0, none⟩) 8 c) 8 (usCells (M.useF (fun i => 0 + ((M.cntN (i : Int) ts : Nat) : Int)) (fun _ => 0) 8)) ∧ W.grownBy w' (some g)) := fun g c W hW ho => by
    refine ruses_any w.heap.size a ts ca (fun _ => 0) (fun _ => 0) g c W (ht.below hW) l63 (fun k hk => ?_) ho (fun i => ⟨Int.le_refl _, by decide⟩) (fun p hp e => ?_)
    · rcases NF k hk with q | ⟨f, q, e⟩
      · exact .inl q
      · exact .inr (by omega)
    · obtain ⟨bt, ot, e2, hbt, _⟩ := ht.2 (by intro z; rw [z] at t0; simp at t0)
      rw [e2] at hp
      cases hp
      have e' : bt = g := e
      have := (ho.lt g rfl).1
      omega
  have C0 : Hid (M.useF (fun i => 0 + ((M.cntN (i : Nat) ts : Nat) : Int)) (fun _ => 0) 8 = M.useF (fun i => 0 + ((M.cntN (i : Nat) ts : Nat) : Int)) (fun i => M.gnK ts (sms xs) (i : Nat) 0) 8) := rfl
  clear ht h hz x0 tz sz hm GS F A NF
  generalize hGV : M.gainsV ts (sms xs) = GL at *
  clear hGV
  go_enter Tryz.func14, Tryz.ntmps14
  go_upto_region 3 with (first
    | (go_at_call 21; refine BL.out.mono ?_; rintro e w1 ⟨g, c, rfl, ho1, hb1⟩; have O1 := hide ho1; have K1 := hide hb1; clear ho1 hb1)
    | (go_at_call 22; refine (US.out _ _ _ K1.out O1.out).mono ?_; rintro e w2 ⟨rfl, ho2, hg2⟩; have O2 := hide ho2; have K2 : Hid (Below w.heap.size w w2) := (K1.out.grown hg2 K1.out.size (fun q hq => by cases hq; exact (O1.out.lt _ rfl).1)); clear ho2 hg2))
  rw [C0.out] at O2
  have gl : Hid (w.heap.size ≤ g) := (O2.out.lt g rfl).1
  clear C0 US BL O1 K1
  generalize (fun i : Nat => 0 + ((M.cntN (i : Nat) ts : Nat) : Int)) = NN at *
  go_wp2
  go_loopw [6] (fun i wq => ∃ k : Nat, k ≤ ts.length ∧ i = .int .i64 k ∧ Hid (wq.ownsRow w.heap.size 50 3 (.slice (some ⟨g, 0, none⟩) 8 c) 8 (usCells (M.useF NN (fun i => M.gnK ts (sms xs) (i : Nat) k) 8))) ∧ Hid (Below w.heap.size w wq)) (fun i _ => ts.length - (intOf i).toNat)
  case atStart => exact ⟨0, Nat.zero_le _, rfl, O2, K2⟩
  case round =>
    clear O2 K2
    obtain ⟨k, hk, rfl, HO, K⟩ := hrel
    generalize wr = wA at *
    by_cases hlt : k < ts.length
    · obtain ⟨bt, ot, rfl, hbt, hct⟩ := (HT.out.below K.out).2 (by intro e; rw [e] at hlt; simp at hlt)
      have hbw : Hid (bt < w.heap.size) := by
        obtain ⟨b', o', e', hb', _⟩ := HT.out.2 (by intro e; rw [e] at hlt; simp at hlt)
        cases e'
        exact hb'
      have c0 := (hct k hlt).1
      have c1 := (hct k hlt).2.1
      have kz : (k : Int) < (ts.length : Int) := by omega
      rcases HN.out k hlt with nl | ⟨f, hf, nf⟩
      · have E1 : M.useF NN (fun i => M.gnK ts (sms xs) (i : Nat) k) 8 = M.useF NN (fun i => M.gnK ts (sms xs) (i : Nat) (k + 1)) 8 := M.useF_same fun i _ => by
          show _ = if M.nf (M.nAt ts k) = (i : Int) then _ else _
          rw [if_neg (by rw [nl]; omega)]
        rw [E1] at HO
        rw [nl] at c0
        clear hct E1 nl HN GB GV HT HL HA RW c1
        go_wp2
        go_roundw
        case rel => exact ⟨k + 1, by omega, by go_num, HO, K⟩
        case measure => simp [intOf]; omega
      · rw [nf] at c0
        have fneg : ((f : Int) == -1) = false := by rw [beq_eq_false_iff_ne]; omega
        have f8 : f < 8 := by omega
        have NG : Hid (M.useF NN (fun i => if i = f then M.gnK ts (sms xs) (f : Nat) k + M.gainN ts (sms xs) k else M.gnK ts (sms xs) (i : Nat) k) 8 = M.useF NN (fun i => M.gnK ts (sms xs) (i : Nat) (k + 1)) 8) := M.useF_same fun i _ => by
          show _ = if M.nf (M.nAt ts k) = (i : Int) then _ else _
          by_cases e : i = f
          · subst e; rw [if_pos rfl, if_pos nf]
          · rw [if_neg e, if_neg (by rw [nf]; omega)]
        have GN : Hid (M.gainN ts (sms xs) k = M.sprd (sms (overX ts k xs)) - M.sprd (sms (partX (overX ts k xs) f (M.nc (M.nAt ts k)) true)) - M.sprd (sms (partX (overX ts k xs) f (M.nc (M.nAt ts k)) false))) := by
          unfold Hid M.gainN
          rw [partX_sms, partX_sms, overX_sms, nf, Int.toNat_natCast]
        have SP : Hid (0 ≤ M.gainN ts (sms xs) k ∧ M.gainN ts (sms xs) k ≤ 60000000 ∧ 0 ≤ M.sprd (sms (overX ts k xs)) ∧ M.sprd (sms (overX ts k xs)) ≤ 60000000 ∧ 0 ≤ M.sprd (sms (partX (overX ts k xs) f (M.nc (M.nAt ts k)) true)) ∧ 0 ≤ M.sprd (sms (partX (overX ts k xs) f (M.nc (M.nAt ts k)) false))) := by
          have tg : ∀ s ∈ sms xs, -1000 ≤ s.2 ∧ s.2 ≤ 1000 := fun s hs => by
            obtain ⟨x, hx, rfl⟩ := List.mem_map.1 hs
            exact HA.out.tgt x hx
          refine ⟨M.gain_pos _ _ _, M.gain_le tg (by rw [sms_len]; exact l60) k, M.sprd_nonneg _, ?_, M.sprd_nonneg _, M.sprd_nonneg _⟩
          exact M.sprd_le (fun s hs => by
            obtain ⟨x, hx, rfl⟩ := List.mem_map.1 hs
            exact HA.out.tgt x (List.mem_filter.1 hx).1) (by rw [sms_len]; exact Nat.le_trans (List.length_filter_le _ _) l60)
        have OM : Hid (∀ j (hj : j < xs.length), overX ts k (xs.take (j + 1)) = if (k : Int) ∈ M.pathV ts xs[j].2.1 then overX ts k (xs.take j) ++ [xs[j]] else overX ts k (xs.take j)) := fun j hj => overX_more ts k xs hj
        have OL : Hid (∀ j, (overX ts k (xs.take j)).length ≤ 60) := fun j => Nat.le_trans (List.length_filter_le _ _) (by rw [List.length_take]; omega)
        have OA : Hid (overX ts k (xs.take xs.length) = overX ts k xs) := by unfold Hid; rw [List.take_length]
        have PR := hide (fun r => M.path_rise (t := ts) (r := r))
        have gk := GB.out (f : Nat) k
        have gk2 := gk.2 (by omega)
        have gk1 := gk.1
        obtain ⟨i0, hi, hz0, hz1, hz2⟩ := info_parts infoSam
        have I0 := hide hi
        clear hct nf HN GB hi gk
        go_wp2
        go_loopw [7, 8] (fun v i wq => ∃ j : Nat, j ≤ xs.length ∧ i = .int .i64 j ∧ Hid (wq.ownsRow wA.heap.size 52 2 v (overX ts k (xs.take j)).length (saCells (overX ts k (xs.take j)))) ∧ Hid (Below wA.heap.size wA wq)) (fun _ i _ => xs.length - (intOf i).toNat)
        case atStart => exact ⟨0, Nat.zero_le _, rfl, World.ownsRow_nil _ _ _ _, Below.refl _ _⟩
        case round =>
          obtain ⟨j, hj, rfl, HH, J⟩ := hrel
          generalize wr = wB at *
          have ol := OL.out j
          by_cases hjt : j < xs.length
          · obtain ⟨bl, oo, rfl, hbl, hcl⟩ := (HL.out.below (below_on K.out J.out)).2.2 (by intro e; rw [e] at hjt; simp at hjt)
            obtain ⟨q0, q1⟩ := hcl j hjt
            have QC : Hid (∀ W, Below w.heap.size w W → W.cell? ⟨bl, oo + j * 2, none⟩ = some (.slice xs[j].1 xs[j].2.1.length xs[j].2.2.1) ∧ W.cell? ⟨bl, oo + j * 2 + 1, none⟩ = some (.int .i64 xs[j].2.2.2)) := fun W hW => by
              obtain ⟨b', o', e', _, hc'⟩ := (HL.out.below hW).2.2 (by intro e; rw [e] at hjt; simp at hjt)
              cases e'
              exact hc' j hjt
            unfold sxV at q0
            have jz : (j : Int) < (xs.length : Int) := by omega
            have LF := hide (RW.out j hjt wB (below_on K.out J.out))
            have om := hide (OM.out j hjt)
            have SC : Hid (saCells (overX ts k (xs.take j) ++ [xs[j]]) = saCells (overX ts k (xs.take j)) ++ [.slice xs[j].1 xs[j].2.1.length xs[j].2.2.1, .int .i64 xs[j].2.2.2]) := saCells_snoc _ _
            have pr := hide (PR.out xs[j].2.1)
            clear hcl OM OL OA PR RW GV HT HL HA NG GN SP HO c0 c1
            generalize overX ts k (xs.take j) = H at *
            generalize hY : overX ts k (xs.take (j + 1)) = HY at *
            have EY := hide hY
            clear hY
            generalize M.pathV ts xs[j].2.1 = P at *
            generalize M.leafV ts xs[j].2.1 = lf at *
            generalize xs[j].2.2.2 = t at *
            generalize hX : xs[j] = X at *
            generalize X.2.1.length = rl at *
            generalize X.2.2.1 = rc at *
            generalize X.1 = ra at *
            clear hX
            go_upto_region 12 with (go_at_call 36; refine LF.out.mono ?_; rintro e w5 ⟨pa, pc, rfl, hr5, hb5, hf5⟩; have R5 := hide hr5; have J5 := hide hb5; have F5 := hide hf5; clear hr5 hb5 hf5)
            have pm : P.length ≤ 9223372036854775807 := R5.out.1
            have H5 := hide (own_up HH.out J5.out)
            have N5 : Hid (∀ v n l, wB.ownsRow wA.heap.size 52 2 v n l → ∀ p, pa = some p → v.ownBlock ≠ some p.block) := fun v n l hv p hp e => by
              have := (hv.lt _ e).2
              have := F5.out p hp
              omega
            have M5 := hide (N5.out _ _ _ HH.out)
            have J6 := hide (below_on J.out J5.out)
            have S0 : Hid (H = if (k : Int) ∈ P.take 0 then H ++ [X] else H) := by unfold Hid; rw [if_neg (by simp)]
            clear q0 q1 LF HH
            go_wp2
            go_loopw [7, 11] (fun v i wq => ∃ q : Nat, q ≤ P.length ∧ i = .int .i64 q ∧ Hid (wq.ownsRow wA.heap.size 52 2 v (if (k : Int) ∈ P.take q then H ++ [X] else H).length (saCells (if (k : Int) ∈ P.take q then H ++ [X] else H))) ∧ Hid (Below wA.heap.size wA wq) ∧ Hid (Rd wq pa P) ∧ Hid (∀ p, pa = some p → v.ownBlock ≠ some p.block)) (fun _ i _ => P.length - (intOf i).toNat)
            case atStart => exact ⟨0, Nat.zero_le _, rfl, by rw [← S0.out]; exact H5, J6, R5, M5⟩
            case round =>
              clear H5 S0 N5 M5 J6 R5 F5
              obtain ⟨q, hq, rfl, HH, L, RP, NP⟩ := hrel
              by_cases hqt : q < P.length
              · obtain ⟨bp, op, ep, hbp, hcp⟩ := RP.out.2 (by intro e; rw [e] at hqt; simp at hqt)
                have p0 := hcp q hqt
                have qz : (q : Int) < (P.length : Int) := by omega
                obtain ⟨q0, q1⟩ := QC.out wr (below_on K.out L.out)
                by_cases e : P.getD q 0 = (k : Int)
                · obtain ⟨o1, o2⟩ := M.once pr.out hqt e
                  have ho := HH.out
                  rw [if_neg o1] at ho
                  have O7 := hide ho
                  have O8 : Hid ((if (k : Int) ∈ P.take (q + 1) then H ++ [X] else H) = H ++ [X]) := if_pos o2
                  obtain ⟨va, vc, ev⟩ := own_any ho
                  rw [e] at p0
                  have wz := L.out.size
                  have wk := K.out.size
                  clear hcp o1 o2 ho HH e pr om QC
                  subst ev
                  subst ep
                  go_wp2_with (at_builtin; refine wpList_append_lies _ rfl (.tmp 58) (.tmp 63) 27 rfl wA.heap.size 52 i0 (.agg #[.slice none 0 0, .int .i64 0]) 2 32 Tryz.underlying27 I0.out hz0 hz1 hz2 rfl (by omega) (.slice va H.length vc) H.length (saCells H) rfl (O7.out.alloc _) ⟨wr.heap.size, 0, none⟩ 1 1 [.slice ra rl rc, .int .i64 t] rfl rfl (World.news_of_block (heap_alloc_new _ _)) (by simp [Value.oneCell']) (by omega) (by unfold maxLen; omega) (by omega) (by simp; omega) (wr.heap.size + 1) (by simp) ?_)
                  intro g9 c9 w9 hov hgrow hat hlt9
                  have hgr : wr.grownBy w9 (Value.slice va H.length vc).ownBlock := grown_trans (World.grownBy_alloc wr _ _) hgrow (.inl rfl)
                  have L9 : Hid (Below wA.heap.size wA w9) := L.out.grown hgr L.out.size (fun z hz => (O7.out.lt z hz).1)
                  have R9 : Hid (Rd w9 (some ⟨bp, op, none⟩) P) := RP.out.grown (fun p hp e => NP.out p hp e) hgr
                  have N9 : Hid (∀ p, some (⟨bp, op, none⟩ : Addr) = some p → (Value.slice (some ⟨g9, 0, none⟩) (H.length + 1) c9).ownBlock ≠ some p.block) := fun p hp e => by
                    cases hp
                    have e' : g9 = bp := by simpa [Value.ownBlock] using e
                    rcases hat with z | z
                    · exact NP.out _ rfl (by rw [z, e'])
                    · omega
                  have O9 : Hid (w9.ownsRow wA.heap.size 52 2 (.slice (some ⟨g9, 0, none⟩) (H.length + 1) c9) (if (k : Int) ∈ P.take (q + 1) then H ++ [X] else H).length (saCells (if (k : Int) ∈ P.take (q + 1) then H ++ [X] else H))) := by
                    unfold Hid; rw [O8.out, SC.out, List.length_append]; exact hov
                  clear hov hgrow hat
                  go_wp2
                  go_roundw
                  case rel => exact ⟨q + 1, by omega, by go_num, O9, L9, R9, N9⟩
                  case measure => simp [intOf]; omega
                · have ee : (P.getD q 0 == (k : Int)) = false := by rw [beq_eq_false_iff_ne]; exact e
                  have ni := M.not_now hqt e
                  have ho := HH.out
                  have ei : (if (k : Int) ∈ P.take q then H ++ [X] else H) = (if (k : Int) ∈ P.take (q + 1) then H ++ [X] else H) := by
                    by_cases z : (k : Int) ∈ P.take q
                    · rw [if_pos z, if_pos (ni.2 z)]
                    · rw [if_neg z, if_neg (fun y => z (ni.1 y))]
                  rw [ei] at ho
                  have O7 := hide ho
                  subst ep
                  clear hcp ho HH e ei ni pr om QC
                  generalize P.getD q 0 = y at *
                  go_wp2
                  go_roundw
                  case rel => exact ⟨q + 1, by omega, by go_num, O7, L, RP, NP⟩
                  case measure => simp [intOf]; omega
              · have qe : q = P.length := by omega
                have qz : ¬ ((q : Int) < (P.length : Int)) := by omega
                have ho := HH.out
                rw [qe, List.take_length, ← om.out] at ho
                have O7 := hide ho
                clear ho HH qe pr om QC RP NP
                go_wp2
                go_roundw
                case rel => exact ⟨j + 1, by omega, by go_num, by rw [EY.out]; exact O7, L⟩
                case measure => simp [intOf]; omega
          · have je : j = xs.length := by omega
            have jz : ¬ ((j : Int) < (xs.length : Int)) := by omega
            have ho := HH.out
            rw [je, OA.out] at ho
            have ol2 : (overX ts k xs).length ≤ 60 := by rw [← OA.out]; exact OL.out _
            obtain ⟨ha, hc, he, hrd⟩ := own_rdL rfl (by unfold maxLen; omega) ho (fun x hx => ((HL.out.below (below_on K.out J.out)).2.1 x (List.mem_filter.1 hx).1))
            subst he
            have KB := hide (below_on K.out J.out)
            have RH := hide hrd
            have AO := HA.out.over ts k
            have O8 := hide (own_up HO.out J.out)
            have EH : Hid ((overX ts k (xs.take j)).length = (overX ts k xs).length) := by unfold Hid; rw [je, OA.out]
            have PT : Hid (∀ W bb, Below wB.heap.size wB W → Calls Tryz.prog 37 #[.slice ha (overX ts k xs).length hc, .int .i64 (f : Nat), .int .i64 (M.nc (M.nAt ts k)), .bool bb] W fun e w' => ∃ ag cg, e = .returned (.slice ag (partX (overX ts k xs) f (M.nc (M.nAt ts k)) bb).length cg) ∧ RdL w' ag (partX (overX ts k xs) f (M.nc (M.nAt ts k)) bb) ∧ Below W.heap.size W w' ∧ (∀ p, ag = some p → W.heap.size ≤ p.block)) := fun W bb hW => rpart_any ha (overX ts k xs) hc m f (M.nc (M.nAt ts k)) bb W (hrd.below hW) AO hf
            have SH : Hid (∀ W, Below wB.heap.size wB W → Calls Tryz.prog 38 #[.slice ha (overX ts k xs).length hc] W fun e w' => e = .returned (.int .i64 (M.sprd (sms (overX ts k xs)))) ∧ Below W.heap.size W w') := fun W hW => rspread_any ha (overX ts k xs) hc m W (hrd.below hW) AO
            have SX : Hid (∀ W pa pc bb, RdL W pa (partX (overX ts k xs) f (M.nc (M.nAt ts k)) bb) → Calls Tryz.prog 38 #[.slice pa (partX (overX ts k xs) f (M.nc (M.nAt ts k)) bb).length pc] W fun e w' => e = .returned (.int .i64 (M.sprd (sms (partX (overX ts k xs) f (M.nc (M.nAt ts k)) bb)))) ∧ Below W.heap.size W w') := fun W pa pc bb hr => rspread_any pa _ pc m W hr (AO.part f _ bb)
            have CT : Hid (∀ W, Below wB.heap.size wB W → W.cell? ⟨bt, ot + k * 6, none⟩ = some (.int .i64 (f : Nat)) ∧ W.cell? ⟨bt, ot + k * 6 + 1, none⟩ = some (.int .i64 (M.nc (M.nAt ts k))) ∧ W.cell? ⟨g, f * 3 + 2, none⟩ = some (.int .i64 (M.gnK ts (sms xs) (f : Nat) k)) ∧ W.frozen? ⟨g, f * 3 + 2, none⟩ = false) := fun W hW => by
              have b1 := below_on J.out hW
              have o9 := own_up O8.out hW
              have z := (usCells_at (M.useF NN (fun i => M.gnK ts (sms xs) (i : Nat) k) 8) f (by rw [M.useF_len]; exact f8)).2.2
              rw [M.useF_at _ _ f8] at z
              exact ⟨(b1.cell (p := ⟨bt, ot + k * 6, none⟩) hbt).trans c0, (b1.cell (p := ⟨bt, ot + k * 6 + 1, none⟩) hbt).trans c1, (o9.cellAt (f * 3 + 2) (by omega)).trans z, o9.frozenAt _⟩
            have ST : Hid (∀ W v, Below wB.heap.size wB W → v = M.gnK ts (sms xs) (f : Nat) k + M.gainN ts (sms xs) k → (W.setCell ⟨g, f * 3 + 2, none⟩ (.int .i64 v)).ownsRow w.heap.size 50 3 (.slice (some ⟨g, 0, none⟩) 8 c) 8 (usCells (M.useF NN (fun i => M.gnK ts (sms xs) (i : Nat) (k + 1)) 8)) ∧ Below w.heap.size w (W.setCell ⟨g, f * 3 + 2, none⟩ (.int .i64 v))) := fun W v hW hv => by
              have st := ((own_up O8.out hW).stored (f * 3 + 2) (.int .i64 v)).1
              rw [usCells_setG _ f (by rw [M.useF_len]; exact f8), M.useF_gain NN _ f8, hv, NG.out] at st
              exact ⟨by rw [hv]; exact st, (below_on KB.out hW).setCell (p := ⟨g, f * 3 + 2, none⟩) gl.out _⟩
            have gne : Hid (bt ≠ g) := fun e => by have := gl.out; have := hbw.out; omega
            have gn := GN.out
            obtain ⟨s1, s2, s3, s4, s5, s6⟩ := SP.out
            have fz : (f : Int) < 8 := by omega
            rw [gn] at s1 s2 ST
            clear ho hrd HH HO OM OL OA PR RW HA AO NG GN SP je I0 hz0 hz1 hz2 c0 c1 EH gn
            generalize M.sprd (sms (overX ts k xs)) = d0 at *
            generalize M.gnK ts (sms xs) (f : Nat) k = gv at *
            go_upto_region 17 with fail
            go_cut [12] from 65 to 76 (fun v wx => ∃ (pa : Option Addr) (pc : Nat), v = .slice pa (partX (overX ts k xs) f (M.nc (M.nAt ts k)) true).length pc ∧ Hid (RdL wx pa (partX (overX ts k xs) f (M.nc (M.nAt ts k)) true)) ∧ Hid (Below wB.heap.size wB wx))
            case first =>
              obtain ⟨e0, e1, _, _⟩ := CT.out wB (Below.refl _ _)
              have KD : Hid (Below wB.heap.size wB wB.drew) := (Below.refl _ _).drew
              clear SH SX ST GV HT HL KB RH O8 s1 s2 s3 s4 s5 s6
              generalize M.nc (M.nAt ts k) = cu at *
              go_region_held3 (fun V => V.cell? ⟨bt, ot + k * 6, none⟩ = some (.int .i64 (f : Nat)) ∧ V.cell? ⟨bt, ot + k * 6 + 1, none⟩ = some (.int .i64 cu)) (go_keep) ((go_at_call 37; refine (PT.out _ true KD.out).mono ?_; rintro e w6 ⟨pa, pc, rfl, hr6, hb6, _⟩; have R6 := hide hr6; have J6 := hide (KD.out.trans (hb6.mono KD.out.size)); obtain ⟨y0, y1, y2, y3⟩ := CT.out w6 J6.out; clear hr6 hb6))
              all_goals (
                go_wp2
                go_meet
                case rel => exact ⟨pa, pc, rfl, R6, J6⟩)
            case rest =>
              obtain ⟨pa, pc, rfl, RA, JA⟩ := hcut
              generalize wc = wC at *
              go_upto_region 18 with fail
              go_cut [13] from 77 to 88 (fun v wx => ∃ (pa : Option Addr) (pc : Nat), v = .slice pa (partX (overX ts k xs) f (M.nc (M.nAt ts k)) false).length pc ∧ Hid (RdL wx pa (partX (overX ts k xs) f (M.nc (M.nAt ts k)) false)) ∧ Hid (Below wC.heap.size wC wx))
              case first =>
                obtain ⟨e0, e1, _, _⟩ := CT.out wC JA.out
                have KD : Hid (Below wC.heap.size wC wC.drew) := (Below.refl _ _).drew
                have KE := hide (JA.out.trans (KD.out.mono JA.out.size))
                clear SH SX ST GV HT HL KB RH O8 RA s1 s2 s3 s4 s5 s6
                generalize M.nc (M.nAt ts k) = cu at *
                go_region_held3 (fun V => V.cell? ⟨bt, ot + k * 6, none⟩ = some (.int .i64 (f : Nat)) ∧ V.cell? ⟨bt, ot + k * 6 + 1, none⟩ = some (.int .i64 cu)) (go_keep) ((go_at_call 37; refine (PT.out _ false KE.out).mono ?_; rintro e w6 ⟨qa, qc, rfl, hr6, hb6, _⟩; have R6 := hide hr6; have J6 := hide (KD.out.trans (hb6.mono KD.out.size)); obtain ⟨y0, y1, y2, y3⟩ := CT.out w6 (below_on JA.out J6.out); clear hr6 hb6))
                all_goals (
                  go_wp2
                  go_meet
                  case rel => exact ⟨qa, qc, rfl, R6, J6⟩)
              case rest =>
                obtain ⟨qa, qc, rfl, RB, JB⟩ := hcut
                generalize wc = wD at *
                have RA2 := hide (RA.out.below JB.out)
                have JD := hide (below_on JA.out JB.out)
                clear RA JA JB
                have S1 : Hid (∀ W, Below wD.heap.size wD W → Calls Tryz.prog 38 #[.slice ha (overX ts k xs).length hc] W fun e w' => e = .returned (.int .i64 d0) ∧ Below W.heap.size W w') := fun W hW => SH.out W (below_on JD.out hW)
                have S2 : Hid (∀ W, Below wD.heap.size wD W → Calls Tryz.prog 38 #[.slice pa (partX (overX ts k xs) f (M.nc (M.nAt ts k)) true).length pc] W fun e w' => e = .returned (.int .i64 (M.sprd (sms (partX (overX ts k xs) f (M.nc (M.nAt ts k)) true)))) ∧ Below W.heap.size W w') := fun W hW => SX.out W pa pc true (RA2.out.below hW)
                have S3 : Hid (∀ W, Below wD.heap.size wD W → Calls Tryz.prog 38 #[.slice qa (partX (overX ts k xs) f (M.nc (M.nAt ts k)) false).length qc] W fun e w' => e = .returned (.int .i64 (M.sprd (sms (partX (overX ts k xs) f (M.nc (M.nAt ts k)) false)))) ∧ Below W.heap.size W w') := fun W hW => SX.out W qa qc false (RB.out.below hW)
                have CD : Hid (∀ W, Below wD.heap.size wD W → W.cell? ⟨bt, ot + k * 6, none⟩ = some (.int .i64 (f : Nat)) ∧ W.cell? ⟨g, f * 3 + 2, none⟩ = some (.int .i64 gv) ∧ W.frozen? ⟨g, f * 3 + 2, none⟩ = false) := fun W hW => by
                  obtain ⟨z0, _, z2, z3⟩ := CT.out W (below_on JD.out hW)
                  exact ⟨z0, z2, z3⟩
                have SD := hide (fun W v (hW : Below wD.heap.size wD W) hv => ST.out W v (below_on JD.out hW) hv)
                clear SH SX CT ST PT RH O8 KB RA2 RB JD GV HT HL
                generalize M.sprd (sms (partX (overX ts k xs) f (M.nc (M.nAt ts k)) true)) = d1 at *
                generalize M.sprd (sms (partX (overX ts k xs) f (M.nc (M.nAt ts k)) false)) = d2 at *
                generalize (partX (overX ts k xs) f (M.nc (M.nAt ts k)) true).length = n1 at *
                generalize (partX (overX ts k xs) f (M.nc (M.nAt ts k)) false).length = n2 at *
                generalize (overX ts k xs).length = n0 at *
                go_upto_region 19 with fail
                obtain ⟨x0, x1, x2⟩ := CD.out wD (Below.refl _ _)
                have KD : Hid (Below wD.heap.size wD wD.drew) := (Below.refl _ _).drew
                have wv1 : IntKind.i64.wrap (gv + d0) = gv + d0 := wrap_in5 _ (by omega) (by omega)
                have wv2 : IntKind.i64.wrap (gv + d0 - d1) = gv + d0 - d1 := wrap_in5 _ (by omega) (by omega)
                have wv3 : IntKind.i64.wrap (gv + d0 - d1 - d2) = gv + d0 - d1 - d2 := wrap_in5 _ (by omega) (by omega)
                have SE := hide (fun W (hW : Below wD.heap.size wD W) => SD.out W (gv + d0 - d1 - d2) hW (by omega))
                have SN : Hid (∀ W, Below wD.heap.size wD W → ∀ v, (W.setCell ⟨g, f * 3 + 2, none⟩ (.int .i64 v)).cell? ⟨bt, ot + k * 6, none⟩ = some (.int .i64 (f : Nat))) := fun W hW v => by
                  rw [World.cell?_setCell_other _ _ _ _ (by intro e; have z := congrArg Addr.block e; first | exact gne.out z | exact gne.out z.symm)]
                  exact (CD.out W hW).1
                clear SD s1 s2 s3 s4 s5 s6 gk1 gk2
                -- region 19, by gen_rg.py
                refine wp_region_held_drew (S := fun V => V.cell? ⟨bt, ot + k * 6, none⟩ = some (.int .i64 (f : Nat))) (by kernel_rfl) x0 (fun hHeld => ?_)
                refine take_rg (i := 0) (d := some 89) (v := ?v1) rfl rfl (by kernel_rfl) (by kernel_rfl) (by kernel_rfl) (fun _ _ _ h => h) (Or.inl ⟨by rfl, ?h1⟩) (by assumption) ?r1
                case h1 => (intro w hSw; (try dsimp only at hSw); go_simp; (try with_reducible rfl))
                simp only [Act.put, List.setIfInBounds_toArray, List.set_cons_zero, List.set_cons_succ]
                refine take_rg (i := 1) (d := some 90) (v := ?v2) rfl rfl (by kernel_rfl) (by kernel_rfl) (by kernel_rfl) (fun _ _ _ h => h) (Or.inl ⟨by rfl, ?h2⟩) (by assumption) ?r2
                case h2 => (intro w hSw; (try dsimp only at hSw); go_simp; (try with_reducible rfl))
                simp only [Act.put, List.setIfInBounds_toArray, List.set_cons_zero, List.set_cons_succ]
                refine take_rg (i := 2) (d := some 91) (v := ?v3) rfl rfl (by kernel_rfl) (by kernel_rfl) (by kernel_rfl) (fun _ _ _ h => h) (Or.inl ⟨by rfl, ?h3⟩) (by assumption) ?r3
                case h3 => (intro w hSw; (try dsimp only at hSw); go_simp; (try with_reducible rfl))
                simp only [Act.put, List.setIfInBounds_toArray, List.set_cons_zero, List.set_cons_succ]
                refine take_rg (i := 3) (d := some 92) (v := ?v4) rfl rfl (by kernel_rfl) (by kernel_rfl) (by kernel_rfl) (fun _ _ _ h => h) (Or.inl ⟨by rfl, ?h4⟩) (by assumption) ?r4
                case h4 => (intro w hSw; (try dsimp only at hSw); go_simp; (try with_reducible rfl))
                simp only [Act.put, List.setIfInBounds_toArray, List.set_cons_zero, List.set_cons_succ]
                refine take_rg (i := 4) (d := some 93) (v := ?v5) rfl rfl (by kernel_rfl) (by kernel_rfl) (by kernel_rfl) (fun _ _ _ h => h) (Or.inl ⟨by rfl, ?h5⟩) (by assumption) ?r5
                case h5 => (intro w hSw; (try dsimp only at hSw); go_simp; (try with_reducible rfl))
                simp only [Act.put, List.setIfInBounds_toArray, List.set_cons_zero, List.set_cons_succ]
                refine take_rg (i := 5) (d := some 94) (v := ?v6) rfl rfl (by kernel_rfl) (by kernel_rfl) (by kernel_rfl) (fun _ _ _ h => h) (Or.inl ⟨by rfl, ?h6⟩) (by assumption) ?r6
                case h6 => (intro w hSw; (try dsimp only at hSw); go_simp; (try with_reducible rfl))
                simp only [Act.put, List.setIfInBounds_toArray, List.set_cons_zero, List.set_cons_succ]
                refine take_rg (i := 6) (d := some 95) (v := ?v7) rfl rfl (by kernel_rfl) (by kernel_rfl) (by kernel_rfl) (fun _ _ _ h => h) (Or.inl ⟨by rfl, ?h7⟩) (by assumption) ?r7
                case h7 => (intro w hSw; (try dsimp only at hSw); go_simp; (try with_reducible rfl))
                simp only [Act.put, List.setIfInBounds_toArray, List.set_cons_zero, List.set_cons_succ]
                refine take_rg (i := 7) (d := some 96) (v := ?v8) rfl rfl (by kernel_rfl) (by kernel_rfl) (by kernel_rfl) (fun _ _ _ h => h) (Or.inl ⟨by rfl, ?h8⟩) (by assumption) ?r8
                case h8 => (intro w hSw; (try dsimp only at hSw); go_simp; (try with_reducible rfl))
                simp only [Act.put, List.setIfInBounds_toArray, List.set_cons_zero, List.set_cons_succ]
                refine take_rg (i := 8) (d := some 97) (v := ?v9) rfl rfl (by kernel_rfl) (by kernel_rfl) (by kernel_rfl) (fun _ _ _ h => h) (Or.inl ⟨by rfl, ?h9⟩) (by assumption) ?r9
                case h9 => (intro w hSw; (try dsimp only at hSw); go_simp; (try with_reducible rfl))
                simp only [Act.put, List.setIfInBounds_toArray, List.set_cons_zero, List.set_cons_succ]
                refine take_rg (i := 9) (d := some 98) (v := ?v10) rfl rfl (by kernel_rfl) (by kernel_rfl) (by kernel_rfl) (fun _ _ _ h => h) (Or.inl ⟨by rfl, ?h10⟩) (by assumption) ?r10
                case h10 => (intro w hSw; (try dsimp only at hSw); go_simp; (try with_reducible rfl))
                simp only [Act.put, List.setIfInBounds_toArray, List.set_cons_zero, List.set_cons_succ]
                refine take_rg (i := 10) (d := some 99) (v := ?v11) rfl rfl (by kernel_rfl) (by kernel_rfl) (by kernel_rfl) (fun _ _ _ h => h) (Or.inl ⟨by rfl, ?h11⟩) (by assumption) ?r11
                case h11 => (intro w hSw; (try dsimp only at hSw); go_simp; (try with_reducible rfl))
                simp only [Act.put, List.setIfInBounds_toArray, List.set_cons_zero, List.set_cons_succ]
                refine take_rg (i := 11) (d := some 100) (v := ?v12) rfl rfl (by kernel_rfl) (by kernel_rfl) (by kernel_rfl) (fun _ _ _ h => h) (Or.inl ⟨by rfl, ?h12⟩) (by assumption) ?r12
                case h12 => (intro w hSw; (try dsimp only at hSw); go_simp; (try with_reducible rfl))
                simp only [Act.put, List.setIfInBounds_toArray, List.set_cons_zero, List.set_cons_succ]
                refine take_rg (i := 12) (d := some 101) (v := ?v13) rfl rfl (by kernel_rfl) (by kernel_rfl) (by kernel_rfl) (fun _ _ _ h => h) (Or.inl ⟨by rfl, ?h13⟩) (by assumption) ?r13
                case h13 => (intro w hSw; (try dsimp only at hSw); go_simp; (try with_reducible rfl))
                simp only [Act.put, List.setIfInBounds_toArray, List.set_cons_zero, List.set_cons_succ]
                refine take_rg (i := 13) (d := some 102) (v := ?v14) rfl rfl (by kernel_rfl) (by kernel_rfl) (by kernel_rfl) (fun _ _ _ h => h) (Or.inl ⟨by rfl, ?h14⟩) (by assumption) ?r14
                case h14 => (intro w hSw; (try dsimp only at hSw); go_simp; (try with_reducible rfl))
                simp only [Act.put, List.setIfInBounds_toArray, List.set_cons_zero, List.set_cons_succ]
                refine take_rg (i := 15) (d := some 104) (v := ?v15) rfl rfl (by kernel_rfl) (by kernel_rfl) (by kernel_rfl) (fun _ _ _ h => h) (Or.inl ⟨by rfl, ?h15⟩) (by assumption) ?r15
                case h15 => (intro w hSw; (try dsimp only at hSw); go_simp; (try with_reducible rfl))
                simp only [Act.put, List.setIfInBounds_toArray, List.set_cons_zero, List.set_cons_succ]
                refine take_rg (i := 18) (d := some 107) (v := ?v16) rfl rfl (by kernel_rfl) (by kernel_rfl) (by kernel_rfl) (fun _ _ _ h => h) (Or.inl ⟨by rfl, ?h16⟩) (by assumption) ?r16
                case h16 => (intro w hSw; (try dsimp only at hSw); go_simp; (try with_reducible rfl))
                simp only [Act.put, List.setIfInBounds_toArray, List.set_cons_zero, List.set_cons_succ]
                refine take_rg (i := 21) (d := some 110) (v := ?v17) rfl rfl (by kernel_rfl) (by kernel_rfl) (by kernel_rfl) (fun _ _ _ h => h) (Or.inl ⟨by rfl, ?h17⟩) (by assumption) ?r17
                case h17 => (intro w hSw; (try dsimp only at hSw); go_simp; (try with_reducible rfl))
                simp only [Act.put, List.setIfInBounds_toArray, List.set_cons_zero, List.set_cons_succ]
                refine wpAnyH_ready (rs := [14, 16]) (by kernel_rfl) (by simp) ?_
                refine AllReadyH.cons rfl (fun K hK => ?_) ?_
                · go_simp
                  refine hK.out _ _ (by first | assumption | exact hHeld) (fun hHeld2 => ?_)
                  clear hK K hHeld2
                  try simp only [Act.put, List.setIfInBounds_toArray, List.set_cons_zero, List.set_cons_succ]
                  refine wpAnyH_ready (rs := [16]) (by kernel_rfl) (by simp) ?_
                  refine AllReadyH.cons rfl (fun K hK => ?_) AllReadyH.nil
                  go_simp
                  go_at_call 38; refine (S1.out _ KD.out).mono ?_; rintro e w6 ⟨rfl, hb6⟩; have J6 := hide (KD.out.trans (hb6.mono KD.out.size)); obtain ⟨f0, f1, f2⟩ := CD.out w6 J6.out; clear hb6
                  try go_wp2_with fail
                  refine hK.out _ _ (by first | exact f0 | assumption) (fun hHeld => ?_)
                  clear hK K
                  try simp only [Act.put, List.setIfInBounds_toArray, List.set_cons_zero, List.set_cons_succ]
                  refine take_rg (i := 17) (d := some 106) (v := ?v18) rfl rfl (by kernel_rfl) (by kernel_rfl) (by kernel_rfl) (fun _ _ _ h => h) (Or.inl ⟨by rfl, ?h18⟩) (by assumption) ?r18
                  case h18 => (intro w hSw; (try dsimp only at hSw); go_simp; (try with_reducible rfl))
                  simp only [Act.put, List.setIfInBounds_toArray, List.set_cons_zero, List.set_cons_succ]
                  refine wpAnyH_ready (rs := [19]) (by kernel_rfl) (by simp) ?_
                  refine AllReadyH.cons rfl (fun K hK => ?_) AllReadyH.nil
                  go_simp
                  go_at_call 38; refine (S2.out _ J6.out).mono ?_; rintro e w7 ⟨rfl, hb7⟩; have J7 := hide (below_on J6.out hb7); obtain ⟨b0, b1, b2⟩ := CD.out w7 J7.out; clear hb7
                  try go_wp2_with fail
                  refine hK.out _ _ (by first | exact b0 | assumption) (fun hHeld => ?_)
                  clear hK K
                  try simp only [Act.put, List.setIfInBounds_toArray, List.set_cons_zero, List.set_cons_succ]
                  refine take_rg (i := 20) (d := some 109) (v := ?v19) rfl rfl (by kernel_rfl) (by kernel_rfl) (by kernel_rfl) (fun _ _ _ h => h) (Or.inl ⟨by rfl, ?h19⟩) (by assumption) ?r19
                  case h19 => (intro w hSw; (try dsimp only at hSw); go_simp; (try with_reducible rfl))
                  simp only [Act.put, List.setIfInBounds_toArray, List.set_cons_zero, List.set_cons_succ]
                  refine wpAnyH_ready (rs := [22]) (by kernel_rfl) (by simp) ?_
                  refine AllReadyH.cons rfl (fun K hK => ?_) AllReadyH.nil
                  go_simp
                  go_at_call 38; refine (S3.out _ J7.out).mono ?_; rintro e w8 ⟨rfl, hb8⟩; have J8 := hide (below_on J7.out hb8); obtain ⟨a0, a1, a2⟩ := CD.out w8 J8.out; clear hb8
                  try go_wp2_with fail
                  refine hK.out _ _ (by first | exact a0 | assumption) (fun hHeld => ?_)
                  clear hK K
                  try simp only [Act.put, List.setIfInBounds_toArray, List.set_cons_zero, List.set_cons_succ]
                  refine take_rg (i := 23) (d := some 112) (v := ?v20) rfl rfl (by kernel_rfl) (by kernel_rfl) (by kernel_rfl) (fun _ _ _ h => h) (Or.inl ⟨by rfl, ?h20⟩) (by assumption) ?r20
                  case h20 => (intro w hSw; (try dsimp only at hSw); go_simp; (try with_reducible rfl))
                  simp only [Act.put, List.setIfInBounds_toArray, List.set_cons_zero, List.set_cons_succ]
                  refine take_rg (i := 24) (d := some 113) (v := ?v21) rfl rfl (by kernel_rfl) (by kernel_rfl) (by kernel_rfl) (fun _ _ _ h => h) (Or.inl ⟨by rfl, ?h21⟩) (by assumption) ?r21
                  case h21 => (intro w hSw; (try dsimp only at hSw); go_simp; (try with_reducible rfl))
                  simp only [Act.put, List.setIfInBounds_toArray, List.set_cons_zero, List.set_cons_succ]
                  refine take_rg (i := 25) (d := some 114) (v := ?v22) rfl rfl (by kernel_rfl) (by kernel_rfl) (by kernel_rfl) (fun _ _ _ h => h) (Or.inl ⟨by rfl, ?h22⟩) (by assumption) ?r22
                  case h22 => (intro w hSw; (try dsimp only at hSw); go_simp; (try with_reducible rfl))
                  simp only [Act.put, List.setIfInBounds_toArray, List.set_cons_zero, List.set_cons_succ]
                  refine wpAnyH_ready (rs := [26]) (by kernel_rfl) (by simp) ?_
                  refine AllReadyH.cons rfl (fun K hK => ?_) AllReadyH.nil
                  go_simp
                  refine hK.out _ _ ?_ (fun hHeld2 => ?_)
                  · first | exact (SN.out w8 J8.out _) | (dsimp only; exact (SN.out w8 J8.out _))
                  clear hK K
                  refine wpAnyH_done (by kernel_rfl) ?_ _
                  have fin := hide (SE.out w8 J8.out)
                  clear S1 S2 S3 CD SE SN
                  go_wp2
                  go_roundw
                  case rel => exact ⟨k + 1, by omega, by go_num, fin.out.1, fin.out.2⟩
                  case measure => simp [intOf]; omega
                refine AllReadyH.cons rfl (fun K hK => ?_) AllReadyH.nil
                go_simp
                go_at_call 38; refine (S1.out _ KD.out).mono ?_; rintro e w6 ⟨rfl, hb6⟩; have J6 := hide (KD.out.trans (hb6.mono KD.out.size)); obtain ⟨f0, f1, f2⟩ := CD.out w6 J6.out; clear hb6
                try go_wp2_with fail
                refine hK.out _ _ (by first | exact f0 | assumption) (fun hHeld => ?_)
                clear hK K
                try simp only [Act.put, List.setIfInBounds_toArray, List.set_cons_zero, List.set_cons_succ]
                refine wpAnyH_ready (rs := [14, 19]) (by kernel_rfl) (by simp) ?_
                refine AllReadyH.cons rfl (fun K hK => ?_) ?_
                · go_simp
                  refine hK.out _ _ (by first | assumption | exact hHeld) (fun hHeld2 => ?_)
                  clear hK K hHeld2
                  try simp only [Act.put, List.setIfInBounds_toArray, List.set_cons_zero, List.set_cons_succ]
                  refine take_rg (i := 17) (d := some 106) (v := ?v23) rfl rfl (by kernel_rfl) (by kernel_rfl) (by kernel_rfl) (fun _ _ _ h => h) (Or.inl ⟨by rfl, ?h23⟩) (by assumption) ?r23
                  case h23 => (intro w hSw; (try dsimp only at hSw); go_simp; (try with_reducible rfl))
                  simp only [Act.put, List.setIfInBounds_toArray, List.set_cons_zero, List.set_cons_succ]
                  refine wpAnyH_ready (rs := [19]) (by kernel_rfl) (by simp) ?_
                  refine AllReadyH.cons rfl (fun K hK => ?_) AllReadyH.nil
                  go_simp
                  go_at_call 38; refine (S2.out _ J6.out).mono ?_; rintro e w7 ⟨rfl, hb7⟩; have J7 := hide (below_on J6.out hb7); obtain ⟨b0, b1, b2⟩ := CD.out w7 J7.out; clear hb7
                  try go_wp2_with fail
                  refine hK.out _ _ (by first | exact b0 | assumption) (fun hHeld => ?_)
                  clear hK K
                  try simp only [Act.put, List.setIfInBounds_toArray, List.set_cons_zero, List.set_cons_succ]
                  refine take_rg (i := 20) (d := some 109) (v := ?v24) rfl rfl (by kernel_rfl) (by kernel_rfl) (by kernel_rfl) (fun _ _ _ h => h) (Or.inl ⟨by rfl, ?h24⟩) (by assumption) ?r24
                  case h24 => (intro w hSw; (try dsimp only at hSw); go_simp; (try with_reducible rfl))
                  simp only [Act.put, List.setIfInBounds_toArray, List.set_cons_zero, List.set_cons_succ]
                  refine wpAnyH_ready (rs := [22]) (by kernel_rfl) (by simp) ?_
                  refine AllReadyH.cons rfl (fun K hK => ?_) AllReadyH.nil
                  go_simp
                  go_at_call 38; refine (S3.out _ J7.out).mono ?_; rintro e w8 ⟨rfl, hb8⟩; have J8 := hide (below_on J7.out hb8); obtain ⟨a0, a1, a2⟩ := CD.out w8 J8.out; clear hb8
                  try go_wp2_with fail
                  refine hK.out _ _ (by first | exact a0 | assumption) (fun hHeld => ?_)
                  clear hK K
                  try simp only [Act.put, List.setIfInBounds_toArray, List.set_cons_zero, List.set_cons_succ]
                  refine take_rg (i := 23) (d := some 112) (v := ?v25) rfl rfl (by kernel_rfl) (by kernel_rfl) (by kernel_rfl) (fun _ _ _ h => h) (Or.inl ⟨by rfl, ?h25⟩) (by assumption) ?r25
                  case h25 => (intro w hSw; (try dsimp only at hSw); go_simp; (try with_reducible rfl))
                  simp only [Act.put, List.setIfInBounds_toArray, List.set_cons_zero, List.set_cons_succ]
                  refine take_rg (i := 24) (d := some 113) (v := ?v26) rfl rfl (by kernel_rfl) (by kernel_rfl) (by kernel_rfl) (fun _ _ _ h => h) (Or.inl ⟨by rfl, ?h26⟩) (by assumption) ?r26
                  case h26 => (intro w hSw; (try dsimp only at hSw); go_simp; (try with_reducible rfl))
                  simp only [Act.put, List.setIfInBounds_toArray, List.set_cons_zero, List.set_cons_succ]
                  refine take_rg (i := 25) (d := some 114) (v := ?v27) rfl rfl (by kernel_rfl) (by kernel_rfl) (by kernel_rfl) (fun _ _ _ h => h) (Or.inl ⟨by rfl, ?h27⟩) (by assumption) ?r27
                  case h27 => (intro w hSw; (try dsimp only at hSw); go_simp; (try with_reducible rfl))
                  simp only [Act.put, List.setIfInBounds_toArray, List.set_cons_zero, List.set_cons_succ]
                  refine wpAnyH_ready (rs := [26]) (by kernel_rfl) (by simp) ?_
                  refine AllReadyH.cons rfl (fun K hK => ?_) AllReadyH.nil
                  go_simp
                  refine hK.out _ _ ?_ (fun hHeld2 => ?_)
                  · first | exact (SN.out w8 J8.out _) | (dsimp only; exact (SN.out w8 J8.out _))
                  clear hK K
                  refine wpAnyH_done (by kernel_rfl) ?_ _
                  have fin := hide (SE.out w8 J8.out)
                  clear S1 S2 S3 CD SE SN
                  go_wp2
                  go_roundw
                  case rel => exact ⟨k + 1, by omega, by go_num, fin.out.1, fin.out.2⟩
                  case measure => simp [intOf]; omega
                refine AllReadyH.cons rfl (fun K hK => ?_) AllReadyH.nil
                go_simp
                go_at_call 38; refine (S2.out _ J6.out).mono ?_; rintro e w7 ⟨rfl, hb7⟩; have J7 := hide (below_on J6.out hb7); obtain ⟨b0, b1, b2⟩ := CD.out w7 J7.out; clear hb7
                try go_wp2_with fail
                refine hK.out _ _ (by first | exact b0 | assumption) (fun hHeld => ?_)
                clear hK K
                try simp only [Act.put, List.setIfInBounds_toArray, List.set_cons_zero, List.set_cons_succ]
                refine wpAnyH_ready (rs := [14, 22]) (by kernel_rfl) (by simp) ?_
                refine AllReadyH.cons rfl (fun K hK => ?_) ?_
                · go_simp
                  refine hK.out _ _ (by first | assumption | exact hHeld) (fun hHeld2 => ?_)
                  clear hK K hHeld2
                  try simp only [Act.put, List.setIfInBounds_toArray, List.set_cons_zero, List.set_cons_succ]
                  refine take_rg (i := 17) (d := some 106) (v := ?v28) rfl rfl (by kernel_rfl) (by kernel_rfl) (by kernel_rfl) (fun _ _ _ h => h) (Or.inl ⟨by rfl, ?h28⟩) (by assumption) ?r28
                  case h28 => (intro w hSw; (try dsimp only at hSw); go_simp; (try with_reducible rfl))
                  simp only [Act.put, List.setIfInBounds_toArray, List.set_cons_zero, List.set_cons_succ]
                  refine take_rg (i := 20) (d := some 109) (v := ?v29) rfl rfl (by kernel_rfl) (by kernel_rfl) (by kernel_rfl) (fun _ _ _ h => h) (Or.inl ⟨by rfl, ?h29⟩) (by assumption) ?r29
                  case h29 => (intro w hSw; (try dsimp only at hSw); go_simp; (try with_reducible rfl))
                  simp only [Act.put, List.setIfInBounds_toArray, List.set_cons_zero, List.set_cons_succ]
                  refine wpAnyH_ready (rs := [22]) (by kernel_rfl) (by simp) ?_
                  refine AllReadyH.cons rfl (fun K hK => ?_) AllReadyH.nil
                  go_simp
                  go_at_call 38; refine (S3.out _ J7.out).mono ?_; rintro e w8 ⟨rfl, hb8⟩; have J8 := hide (below_on J7.out hb8); obtain ⟨a0, a1, a2⟩ := CD.out w8 J8.out; clear hb8
                  try go_wp2_with fail
                  refine hK.out _ _ (by first | exact a0 | assumption) (fun hHeld => ?_)
                  clear hK K
                  try simp only [Act.put, List.setIfInBounds_toArray, List.set_cons_zero, List.set_cons_succ]
                  refine take_rg (i := 23) (d := some 112) (v := ?v30) rfl rfl (by kernel_rfl) (by kernel_rfl) (by kernel_rfl) (fun _ _ _ h => h) (Or.inl ⟨by rfl, ?h30⟩) (by assumption) ?r30
                  case h30 => (intro w hSw; (try dsimp only at hSw); go_simp; (try with_reducible rfl))
                  simp only [Act.put, List.setIfInBounds_toArray, List.set_cons_zero, List.set_cons_succ]
                  refine take_rg (i := 24) (d := some 113) (v := ?v31) rfl rfl (by kernel_rfl) (by kernel_rfl) (by kernel_rfl) (fun _ _ _ h => h) (Or.inl ⟨by rfl, ?h31⟩) (by assumption) ?r31
                  case h31 => (intro w hSw; (try dsimp only at hSw); go_simp; (try with_reducible rfl))
                  simp only [Act.put, List.setIfInBounds_toArray, List.set_cons_zero, List.set_cons_succ]
                  refine take_rg (i := 25) (d := some 114) (v := ?v32) rfl rfl (by kernel_rfl) (by kernel_rfl) (by kernel_rfl) (fun _ _ _ h => h) (Or.inl ⟨by rfl, ?h32⟩) (by assumption) ?r32
                  case h32 => (intro w hSw; (try dsimp only at hSw); go_simp; (try with_reducible rfl))
                  simp only [Act.put, List.setIfInBounds_toArray, List.set_cons_zero, List.set_cons_succ]
                  refine wpAnyH_ready (rs := [26]) (by kernel_rfl) (by simp) ?_
                  refine AllReadyH.cons rfl (fun K hK => ?_) AllReadyH.nil
                  go_simp
                  refine hK.out _ _ ?_ (fun hHeld2 => ?_)
                  · first | exact (SN.out w8 J8.out _) | (dsimp only; exact (SN.out w8 J8.out _))
                  clear hK K
                  refine wpAnyH_done (by kernel_rfl) ?_ _
                  have fin := hide (SE.out w8 J8.out)
                  clear S1 S2 S3 CD SE SN
                  go_wp2
                  go_roundw
                  case rel => exact ⟨k + 1, by omega, by go_num, fin.out.1, fin.out.2⟩
                  case measure => simp [intOf]; omega
                refine AllReadyH.cons rfl (fun K hK => ?_) AllReadyH.nil
                go_simp
                go_at_call 38; refine (S3.out _ J7.out).mono ?_; rintro e w8 ⟨rfl, hb8⟩; have J8 := hide (below_on J7.out hb8); obtain ⟨a0, a1, a2⟩ := CD.out w8 J8.out; clear hb8
                try go_wp2_with fail
                refine hK.out _ _ (by first | exact a0 | assumption) (fun hHeld => ?_)
                clear hK K
                try simp only [Act.put, List.setIfInBounds_toArray, List.set_cons_zero, List.set_cons_succ]
                refine wpAnyH_ready (rs := [14]) (by kernel_rfl) (by simp) ?_
                refine AllReadyH.cons rfl (fun K hK => ?_) AllReadyH.nil
                go_simp
                refine hK.out _ _ (by first | assumption | exact hHeld) (fun hHeld2 => ?_)
                clear hK K hHeld2
                try simp only [Act.put, List.setIfInBounds_toArray, List.set_cons_zero, List.set_cons_succ]
                refine take_rg (i := 17) (d := some 106) (v := ?v33) rfl rfl (by kernel_rfl) (by kernel_rfl) (by kernel_rfl) (fun _ _ _ h => h) (Or.inl ⟨by rfl, ?h33⟩) (by assumption) ?r33
                case h33 => (intro w hSw; (try dsimp only at hSw); go_simp; (try with_reducible rfl))
                simp only [Act.put, List.setIfInBounds_toArray, List.set_cons_zero, List.set_cons_succ]
                refine take_rg (i := 20) (d := some 109) (v := ?v34) rfl rfl (by kernel_rfl) (by kernel_rfl) (by kernel_rfl) (fun _ _ _ h => h) (Or.inl ⟨by rfl, ?h34⟩) (by assumption) ?r34
                case h34 => (intro w hSw; (try dsimp only at hSw); go_simp; (try with_reducible rfl))
                simp only [Act.put, List.setIfInBounds_toArray, List.set_cons_zero, List.set_cons_succ]
                refine take_rg (i := 23) (d := some 112) (v := ?v35) rfl rfl (by kernel_rfl) (by kernel_rfl) (by kernel_rfl) (fun _ _ _ h => h) (Or.inl ⟨by rfl, ?h35⟩) (by assumption) ?r35
                case h35 => (intro w hSw; (try dsimp only at hSw); go_simp; (try with_reducible rfl))
                simp only [Act.put, List.setIfInBounds_toArray, List.set_cons_zero, List.set_cons_succ]
                refine take_rg (i := 24) (d := some 113) (v := ?v36) rfl rfl (by kernel_rfl) (by kernel_rfl) (by kernel_rfl) (fun _ _ _ h => h) (Or.inl ⟨by rfl, ?h36⟩) (by assumption) ?r36
                case h36 => (intro w hSw; (try dsimp only at hSw); go_simp; (try with_reducible rfl))
                simp only [Act.put, List.setIfInBounds_toArray, List.set_cons_zero, List.set_cons_succ]
                refine take_rg (i := 25) (d := some 114) (v := ?v37) rfl rfl (by kernel_rfl) (by kernel_rfl) (by kernel_rfl) (fun _ _ _ h => h) (Or.inl ⟨by rfl, ?h37⟩) (by assumption) ?r37
                case h37 => (intro w hSw; (try dsimp only at hSw); go_simp; (try with_reducible rfl))
                simp only [Act.put, List.setIfInBounds_toArray, List.set_cons_zero, List.set_cons_succ]
                refine wpAnyH_ready (rs := [26]) (by kernel_rfl) (by simp) ?_
                refine AllReadyH.cons rfl (fun K hK => ?_) AllReadyH.nil
                go_simp
                refine hK.out _ _ ?_ (fun hHeld2 => ?_)
                · first | exact (SN.out w8 J8.out _) | (dsimp only; exact (SN.out w8 J8.out _))
                clear hK K
                refine wpAnyH_done (by kernel_rfl) ?_ _
                have fin := hide (SE.out w8 J8.out)
                clear S1 S2 S3 CD SE SN
                go_wp2
                go_roundw
                case rel => exact ⟨k + 1, by omega, by go_num, fin.out.1, fin.out.2⟩
                case measure => simp [intOf]; omega
    · have ke : k = ts.length := by omega
      have kz : ¬ ((k : Int) < (ts.length : Int)) := by omega
      have ho := HO.out
      rw [ke] at ho
      obtain ⟨ra, rc, re, hr, _⟩ := own_rdU (M.useF_len _ _ _) (by unfold maxLen; omega) ho
      have RU : Hid (RdU wA (some ⟨g, 0, none⟩) (M.useF NN (fun i => M.gnK ts (sms xs) (i : Nat) ts.length) 8)) := by rw [Value.slice.injEq] at re; rw [re.1]; exact hr
      have RK := rranked_any (some ⟨g, 0, none⟩) (M.useF NN (fun i => M.gnK ts (sms xs) (i : Nat) ts.length) 8) c true wA RU.out (by rw [M.useF_len]; exact Nat.le_refl _)
      rw [GV.out, M.useF_len] at RK
      have RR := hide RK
      have kw := K.out.size
      clear ho hr re ke HO GV HT HL HA HN GB RW RU RK
      go_wp2_with (go_at_call 23; refine RR.out.mono ?_; rintro e w4 ⟨ag, cg, rfl, hr4, hf4, hb4⟩; have R4 := hide hr4; have K4 := hide (below_on K.out hb4); have F4 : Hid (∀ p, ag = some p → w.heap.size ≤ p.block) := (fun p hp => Nat.le_trans K.out.size (hf4 p hp)); clear hr4 hf4 hb4)
      go_ret
      exact ⟨ag, cg, rfl, R4.out, F4.out, K4.out⟩

end Go.Proofs.YtlloiccodjnkcagGreatDoor
