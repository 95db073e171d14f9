/-
  What the reference's Boost answers of samples that are right.
-/
import Derived.Test.YtpblpfleiilehafGreatDoorRun10
import Derived.Test.YtpblpfleiilehafGreatDoorRun17
import Derived.BigQuiet
import Derived.Deep.QuietTactic
import Derived.Test.YtpblpfleiilehafGreatDoorRun19
import Derived.Test.YtpblpfleiilehafGreatDoorRun16
import Derived.Deep.RegionLaw
import Derived.Deep.CutBlock
namespace Go.Proofs.YtpblpfleiilehafGreatDoor
open Go.ChangeShapes Go.WideShapes Go.ChangeAt Go.RowKit Go.Lib
set_option linter.unusedVariables false

/-- samples with what is left of them, where their rows lie -/
def lesX : List Sx → List Int → List Sx
  | x :: l, r :: R => (x.1, x.2.1, x.2.2.1, M.fitT r) :: lesX l R
  | _, _ => []
theorem lesX_len : ∀ (l : List Sx) (R : List Int), R.length = l.length → (lesX l R).length = l.length
  | [], [], _ => rfl
  | x :: l, r :: R, h => by
    show (lesX l R).length + 1 = l.length + 1
    rw [lesX_len l R (by simpa using h)]
  | [], _ :: _, h => by simp at h
  | _ :: _, [], h => by simp at h
theorem lesX_sms : ∀ (l : List Sx) (R : List Int), sms (lesX l R) = M.lesS (sms l) R
  | [], _ => rfl
  | _ :: _, [] => rfl
  | x :: l, r :: R => by
    show sm (x.1, x.2.1, x.2.2.1, M.fitT r) :: sms (lesX l R) = ((sm x).1, M.fitT r) :: M.lesS (sms l) R
    rw [lesX_sms l R]; rfl
theorem lesX_at : ∀ (l : List Sx) (R : List Int) (h : R.length = l.length) (i : Nat) (hi : i < l.length), (lesX l R)[i]'(by rw [lesX_len l R h]; exact hi) = (l[i].1, l[i].2.1, l[i].2.2.1, M.fitT (R.getD i 0))
  | [], _, _, i, hi => by simp at hi
  | x :: l, r :: R, h, 0, hi => rfl
  | x :: l, r :: R, h, i + 1, hi => lesX_at l R (by simpa using h) i (by simpa using hi)
  | _ :: _, [], h, i, hi => by simp at h
theorem lesX_mem : ∀ (l : List Sx) (R : List Int) (y : Sx), y ∈ lesX l R → ∃ x ∈ l, y.1 = x.1 ∧ y.2.1 = x.2.1
  | [], _, y, h => by unfold lesX at h; cases h
  | _ :: _, [], y, h => by unfold lesX at h; cases h
  | x :: l, r :: R, y, h => by
    rcases List.mem_cons.1 h with rfl | h
    · exact ⟨x, List.mem_cons_self .., rfl, rfl⟩
    · obtain ⟨z, hz, e⟩ := lesX_mem l R y h
      exact ⟨z, List.mem_cons_of_mem _ hz, e⟩
/-- what is left, apart from what is written -/
structure RS (gb : Nat) (x : Value) (va : Option Addr) (R : List Int) (W : World) : Prop where
  rd : Rd W va R
  ge : ∀ p, va = some p → gb + 1 ≤ p.block ∧ p.block < W.heap.size
  ne : ∀ p, va = some p → x.ownBlock ≠ some p.block
theorem RS.up {gb : Nat} {x : Value} {va : Option Addr} {R : List Int} {W W' : World} (h : RS gb x va R W) (hb : Below W.heap.size W W') : RS gb x va R W' := ⟨h.rd.below hb, fun p hp => ⟨(h.ge p hp).1, Nat.lt_of_lt_of_le (h.ge p hp).2 hb.size⟩, h.ne⟩
/-- the reference's Grow from nothing on, a row of our own -/
theorem rgrow_own (B : Nat) (mn dn : Nat) (m8 : mn ≤ 8) (hd : dn ≤ 5) (xs : List Sx) (a : Option Addr) (ca : Nat) (W : World) (h : RdL W a xs) (G : M.GoodS (sms xs) mn) (hp : 0 < xs.length) (hB : B ≤ W.heap.size) :
    Calls Tryz.prog 10 #[.slice none 0 0, .slice a xs.length ca, .int .i64 (mn : Nat), .int .i64 (dn : Nat), .int .i64 1] W fun e w' => ∃ g c, e = .returned (.slice (some ⟨g, 0, none⟩) (M.growT mn 1 dn (sms xs)).size c) ∧ w'.ownsRow B 72 6 (.slice (some ⟨g, 0, none⟩) (M.growT mn 1 dn (sms xs)).size c) (M.growT mn 1 dn (sms xs)).size (ndCells (M.lay (M.growT mn 1 dn (sms xs)) 0)) ∧ Below W.heap.size W w' ∧ W.heap.size ≤ g := by
  have sz := (M.grow_deep mn 1 dn (sms xs)).2
  have p : 2 ^ (dn + 1) ≤ 2 ^ (5 + 1) := Nat.pow_le_pow_right (by omega) (by omega)
  have := rgrow_any mn 1 (Int.le_refl _) m8 B dn xs a ca [] none 0 W (by omega) h G hp ⟨fun p _ e => (by cases e), fun x _ p _ e => (by cases e)⟩ (World.ownsRow_nil _ _ _ _) hB (by simp only [List.length_nil]; omega)
  refine this.mono ?_
  rintro e w' ⟨g, c, rfl, ho, hgr, hat⟩
  have e0 : ([] : List M.Nd).length + (M.growT mn 1 dn (sms xs)).size = (M.growT mn 1 dn (sms xs)).size := by simp
  rw [e0] at ho ⊢
  refine ⟨g, c, rfl, ho, (Below.refl _ W).grown hgr (Nat.le_refl _) (fun k hk => by cases hk), ?_⟩
  rcases hat with q | q
  · cases q
  · exact q
theorem bs_start (w : World) (m : Int) (o : Obj) (t : TypeId) : BS (w.alloc o) (w.heap.size + 1) m (.slice none 0 0) (.slice none 0 0) [] ((w.alloc o).alloc (.cells #[.int .i64 m, .int .i64 2, .slice none 0 0, .slice none 0 0] t)) := by
  refine ⟨World.cell?_alloc_at _ _ _ 0 (by simp), World.cell?_alloc_at _ _ _ 1 (by simp), World.cell?_alloc_at _ _ _ 2 (by simp), World.cell?_alloc_at _ _ _ 3 (by simp), fun i => ?_, by simp, by simp, World.ownsRow_nil _ _ _ _, fun i hi => absurd hi (by simp), fun i hi => absurd hi (by simp), fun i j hi => absurd hi (by simp), (Below.refl _ (w.alloc o)).alloc (Nat.le_refl _) _⟩
  unfold World.frozen?
  rw [show ((w.alloc o).alloc (.cells #[.int .i64 m, .int .i64 2, .slice none 0 0, .slice none 0 0] t)).heap[w.heap.size + 1]? = some (.cells #[.int .i64 m, .int .i64 2, .slice none 0 0, .slice none 0 0] t) from by
    have := heap_alloc_new (w.alloc o) (.cells #[.int .i64 m, .int .i64 2, .slice none 0 0, .slice none 0 0] t)
    rwa [show (w.alloc o).heap.size = w.heap.size + 1 by simp] at this]
  simp

set_option maxHeartbeats 32000000 in
set_option maxRecDepth 10000 in
theorem rboost_any : RBoostGives := by
  intro a xs ca m r d s w h hB
  obtain ⟨gk, r0, r8, d1, d4, s1, s2⟩ := M.boo_ok hB
  obtain ⟨G, hp, hm, _⟩ := M.sam_ok gk
  rw [sms_len] at hp
  have x60 : xs.length ≤ 60 := by have := G.le; rw [sms_len] at this; exact this
  obtain ⟨mn, rfl⟩ : ∃ mn : Nat, m = (mn : Int) := ⟨m.toNat, hm.symm⟩
  obtain ⟨dn, rfl⟩ : ∃ dn : Nat, d = (dn : Int) := ⟨d.toNat, by omega⟩
  rw [Int.toNat_natCast] at G
  have AA := hide (Ask.of G)
  have HL := hide h
  have HG := hide G
  have GW := hide (fun B dn' (hd : dn' ≤ 5) (xs' : List Sx) a' ca' W h' G' hp' hB' => rgrow_own B mn dn' G.m8 hd xs' a' ca' W h' G' hp' hB')
  have B0 := hide (bs_start w (mn : Int))
  obtain ⟨i1, hi1, jz0, jz1, jz2⟩ := info_parts (show (Tryz.prog.info? 23).map (fun i => (i.zero, i.size, i.bytes)) = some (some (.slice none 0 0), 1, 24) by kernel_rfl)
  have I1 := hide hi1
  clear h G hi1
  go_enter Tryz.func16, Tryz.ntmps16
  go_upto_region 2 with fail
  obtain ⟨wz, hwz⟩ : ∃ V, V = w.alloc (.cells #[.int .i64 0, .int .i64 0, .slice none 0 0, .slice none 0 0] 45) := ⟨_, rfl⟩
  obtain ⟨w1, hw1⟩ : ∃ V, V = wz.alloc (.cells #[.int .i64 (mn : Int), .int .i64 2, .slice none 0 0, .slice none 0 0] 45) := ⟨_, rfl⟩
  have S1 : Hid (BS wz (w.heap.size + 1) (mn : Int) (.slice none 0 0) (.slice none 0 0) [] w1) := by rw [hw1, hwz]; exact B0.out _ _
  have kz : Hid (Below w.heap.size w wz) := by rw [hwz]; exact (Below.refl _ w).alloc (Nat.le_refl _) _
  have k1 : Hid (Below w.heap.size w w1) := by have := S1.out.below; exact below_on kz.out this
  have z1 : w.heap.size + 1 < w1.heap.size := S1.out.lt
  have G1 : Hid (Calls Tryz.prog 10 #[.slice none 0 0, .slice a xs.length ca, .int .i64 (mn : Nat), .int .i64 0, .int .i64 1] w1 fun e w' => ∃ g c, e = .returned (.slice (some ⟨g, 0, none⟩) 1 c) ∧ w'.ownsRow (w.heap.size + 1 + 1) 72 6 (.slice (some ⟨g, 0, none⟩) 1 c) 1 (ndCells [(-1, 0, 0, 0, false, M.meanS (sms xs))]) ∧ Below w1.heap.size w1 w' ∧ w1.heap.size ≤ g) := GW.out (w.heap.size + 1 + 1) 0 (by omega) xs a ca w1 (HL.out.below k1.out) HG.out hp z1
  rw [← hwz, ← hw1]
  clear hw1 B0
  have mi : Hid (-1000 ≤ M.meanS (sms xs) ∧ M.meanS (sms xs) ≤ 1000) := M.mean_in HG.out (by rw [sms_len]; exact hp)
  generalize hmv : M.meanS (sms xs) = mv at G1 mi
  go_upto_region 3 with (go_at_call 10; refine G1.out.mono ?_; rintro e w2 ⟨g0, c0, rfl, ho, hb, hg0⟩; have S2 := hide (S1.out.up hb); have O2 := hide ho; have k2 := hide (below_on k1.out hb); have q2 := hide hg0; have z2 := hb.size; clear ho hb hg0)
  have x3 := S2.out.c3
  have FS : Hid (∀ (o : Obj) (w5 : World) (g cap : Nat), w5.ownsRow (w.heap.size + 1 + 1) 23 1 (.slice (some ⟨g, 0, none⟩) 1 cap) 1 [.slice (some ⟨g0, 0, none⟩) 1 c0] → (w2.alloc o).grownBy w5 none → (none = some g ∨ g = w2.heap.size + 1) → (w5.cell? ⟨w.heap.size + 1, 3, none⟩ = some (.slice none 0 0) ∧ w5.frozen? ⟨w.heap.size + 1, 3, none⟩ = false) ∧ Hid (BS wz (w.heap.size + 1) (mn : Int) (.slice none 0 0) (.slice (some ⟨g, 0, none⟩) 1 cap) [(some ⟨g0, 0, none⟩, [(-1, 0, 0, 0, false, mv)], c0)] (w5.setCell ⟨w.heap.size + 1, 3, none⟩ (.slice (some ⟨g, 0, none⟩) 1 cap)))) := fun o w5 g cap h1 h2 h3 => by
    exact S2.out.more (t := (some ⟨g0, 0, none⟩, [(-1, 0, 0, 0, false, mv)], c0)) (q := g0) O2.out rfl (fun e => by cases e) (fun i hi => absurd hi (by simp)) h1 h2 h3
  go_upto_region 4 with (at_builtin; refine wpList_append_lies _ rfl (.tmp 32) (.tmp 34) 43 rfl (w.heap.size + 1 + 1) 23 i1 (.slice none 0 0) 1 24 Tryz.underlying43 I1.out jz0 jz1 jz2 rfl (by decide) (.slice none 0 0) 0 [] rfl (World.ownsRow_nil _ _ _ _) ⟨w2.heap.size, 0, none⟩ 1 1 [.slice (some ⟨g0, 0, none⟩) 1 c0] rfl rfl (World.news_of_block (heap_alloc_new _ _)) (by simp [Value.oneCell']) (by decide) (by unfold maxLen; omega) (by omega) (by simp; omega) (w2.heap.size + 1) (by simp) ?_; intro g5 c5 w5 hov hgrow hat hlt; have F5 := FS.out _ w5 g5 c5 hov hgrow hat; have f0 := F5.1.1; have f1 := F5.1.2; have S5 := F5.2; clear hov hgrow hat F5)
  obtain ⟨w6, hw6⟩ : ∃ V, V = w5.setCell ⟨w.heap.size + 1, 3, none⟩ (.slice (some ⟨g5, 0, none⟩) 1 c5) := ⟨_, rfl⟩
  rw [← hw6] at S5 ⊢
  clear hw6 f0 f1 FS x3 S2 S1 G1 k1 k2 O2 q2 z1 z2
  have z6 : Hid (g0 < w6.heap.size ∧ w6.cell? ⟨g0, 5, none⟩ = some (.int .i64 mv)) := by
    have t0 := S5.out.trees 0 (by simp)
    have t1 : w6.ownsRow (w.heap.size + 1 + 1) 72 6 (.slice (some ⟨g0, 0, none⟩) 1 c0) 1 (ndCells [(-1, 0, 0, 0, false, mv)]) := t0
    exact ⟨(t1.lt g0 rfl).2, (t1.cellAt 5 (by omega)).trans rfl⟩
  have k6 : Hid (Below w.heap.size w w6) := below_on kz.out S5.out.below
  obtain ⟨i0, hi, hz0, hz1, hz2⟩ := info_parts info3
  have I0 := hide hi
  clear hi
  obtain ⟨R0, hR0⟩ : ∃ R, R = (M.bo0 (sms xs)).2.1 := ⟨_, rfl⟩
  have RL : Hid (R0.length = xs.length) := by rw [hR0]; show ((sms xs).map _).length = _; rw [List.length_map, sms_len]
  have RK : Hid (∀ k (hk : k < xs.length), R0.take (k + 1) = R0.take k ++ [xs[k].2.2.2 - mv]) := fun k hk => by
    have l := RL.out
    rw [List.take_succ_eq_append_getElem (by omega)]
    congr 2
    have : R0[k]'(by omega) = ((sms xs).map (fun s => s.2 - M.meanS (sms xs)))[k]'(by rw [List.length_map, sms_len]; exact hk) := by congr 1
    rw [this, List.getElem_map, hmv]
    have e : (sms xs)[k]'(by rw [sms_len]; exact hk) = sm xs[k] := by unfold sms; rw [List.getElem_map]
    rw [e]; rfl
  have RT : Hid (R0.take xs.length = R0) := List.take_of_length_le (by rw [RL.out]; exact Nat.le_refl _)
  have E0 : Hid (M.boR mn dn s (sms xs) 0 = ([.lf mv], R0, false)) := by unfold Hid; rw [hR0, ← hmv]; rfl
  clear hR0 hmv
  go_wp2
  go_loopw [13, 14] (fun u i wr => ∃ (k : Nat) (va : Option Addr) (vc : Nat), k ≤ xs.length ∧ i = .int .i64 k ∧ u = .slice va (R0.take k).length vc ∧ Hid (wr.ownsRow w6.heap.size 3 1 (.slice va (R0.take k).length vc) (R0.take k).length ((R0.take k).map (Value.int .i64))) ∧ Hid (Below w6.heap.size w6 wr)) (fun _ i _ => xs.length - (intOf i).toNat)
  case atStart => exact ⟨0, none, 0, Nat.zero_le _, rfl, rfl, World.ownsRow_nil _ _ _ _, Below.refl _ _⟩
  case round =>
    obtain ⟨k, va, vc, hk, rfl, rfl, HO, KB⟩ := hrel
    by_cases hlt : k < xs.length
    · obtain ⟨bl, ol, rfl, hbl, hcl⟩ := HL.out.2.2 (by intro e; rw [e] at hlt; simp at hlt)
      have kzz : (k : Int) < (xs.length : Int) := by omega
      have lb : (R0.take k).length ≤ 60 := by rw [List.length_take]; omega
      have N := hide (RK.out k hlt)
      have KW := hide (below_on k6.out KB.out)
      have c1 : wr.cell? ⟨bl, ol + k * 2 + 1, none⟩ = some (.int .i64 xs[k].2.2.2) := (KW.out.cell (p := ⟨bl, ol + k * 2 + 1, none⟩) hbl).trans (hcl k hlt).2
      have c2 : wr.cell? ⟨g0, 5, none⟩ = some (.int .i64 mv) := (KB.out.cell (p := ⟨g0, 5, none⟩) z6.out.1).trans z6.out.2
      obtain ⟨t1, t2⟩ := AA.out.tgt xs[k] (List.getElem_mem hlt)
      obtain ⟨m1, m2⟩ := mi.out
      have x1 : IntKind.i64.wrap (xs[k].2.2.2 - mv) = xs[k].2.2.2 - mv := wrap_in5 _ (by omega) (by omega)
      have kw := KB.out.size
      clear hcl RK RT
      generalize R0.take k = L at *
      generalize xs[k].2.2.2 = t at *
      go_upto_region 8 with fail
      go_region_law (refine step_append_lies _ rfl (.tmp 43) (.tmp 54) 42 rfl w6.heap.size 3 i0 (.int .i64 0) 1 8 Tryz.underlying42 I0.out hz0 hz1 hz2 rfl (by omega) (.slice va L.length vc) L.length (L.map (Value.int .i64)) rfl (by first | exact HO.out.alloc _ | exact HO.out.drew.alloc _ | exact (HO.out.alloc _).drew) ⟨wr.heap.size, 0, none⟩ 1 1 [.int .i64 (t - mv)] rfl rfl (World.news_of_block (by first | exact heap_alloc_new _ _ | (simp; done))) (by simp [Value.oneCell']) (by omega) (by unfold maxLen; omega) (by omega) (by simp; omega) (wr.heap.size + 1) (by simp) ?_; intro g7 c7 w7 hov7 hgrow7 hat7 hlt7)
      all_goals (
        have O7 : Hid (w7.ownsRow w6.heap.size 3 1 (.slice (some ⟨g7, 0, none⟩) (R0.take (k + 1)).length c7) (R0.take (k + 1)).length ((R0.take (k + 1)).map (Value.int .i64))) := by unfold Hid; rw [N.out, List.map_append, List.length_append]; exact hov7
        have NL : Hid (L.length + 1 = (R0.take (k + 1)).length) := by unfold Hid; rw [N.out, List.length_append]; rfl
        have B7 : Hid (Below w6.heap.size w6 w7) := by first | exact ((KB.out.alloc kw _).drew).grown hgrow7 (by simp; omega) (fun k hk => (HO.out.lt k hk).1) | exact ((KB.out.drew).alloc kw _).grown hgrow7 (by simp; omega) (fun k hk => (HO.out.lt k hk).1)
        clear hov7 hgrow7 hat7
        go_wp2
        go_roundw
        case rel => exact ⟨k + 1, some ⟨g7, 0, none⟩, c7, by omega, by go_num, by rw [NL.out], O7, B7⟩
        case measure => simp [intOf]; omega)
    · have ek : k = xs.length := by omega
      have kzz : ¬ ((k : Int) < (xs.length : Int)) := by omega
      have MQ : Hid (R0.take k = R0) := by unfold Hid; rw [ek]; exact RT.out
      rw [MQ.out] at HO
      rw [MQ.out]
      obtain ⟨pa, pc, hp1, hp2, _⟩ := own_rd HO.out
      have Q0 : Hid (Rd wr va R0) := by cases hp1; exact hp2
      have V0 : Hid (∀ p, va = some p → w6.heap.size ≤ p.block ∧ p.block < wr.heap.size) := fun p hp => by subst hp; exact HO.out.lt p.block rfl
      have L6 : Hid (w.heap.size + 1 < w6.heap.size ∧ g5 < w6.heap.size) := ⟨S5.out.lt, (S5.out.own.lt g5 rfl).2⟩
      have S7 := hide (S5.out.up KB.out)
      have k7 := hide (below_on k6.out KB.out)
      clear MQ HO hp1 hp2 ek KB S5 RK RT z6 k6
      have R7 : Hid (RS (w.heap.size + 1) (.slice (some ⟨g5, 0, none⟩) 1 c5) va R0 wr) := ⟨Q0.out, fun p hp => ⟨by have := (V0.out p hp).1; have := L6.out.1; omega, (V0.out p hp).2⟩, fun p hp e => by
        have e' : g5 = p.block := by simpa [Value.ownBlock] using e
        have := (V0.out p hp).1
        have := L6.out.2
        omega⟩
      have C0 : Hid (LayC [(some ⟨g0, 0, none⟩, [(-1, 0, 0, 0, false, mv)], c0)] [.lf mv]) := rfl
      go_upto_block 2 with fail
      go_cut [13, 15] from 16 to 139 (fun u _ wx => ∃ (L : List M.BT) (R : List Int) (e : Bool) (C : List Tc) (x : Value), Hid (M.boR mn dn s (sms xs) r.toNat = (L, R, e)) ∧ Hid (LayC C L) ∧ Hid (BS wz (w.heap.size + 1) (mn : Int) (.slice none 0 0) x C wx))
      case first =>
        clear Q0 V0 L6 mi RL
        go_wp2
        go_loopw [13, 15] (fun u i wq => ∃ (k : Nat) (L : List M.BT) (R : List Int) (C : List Tc) (x : Value) (va : Option Addr) (vc : Nat), (k : Int) ≤ r ∧ i = .int .i64 k ∧ u = .slice va R.length vc ∧ Hid (M.boR mn dn s (sms xs) k = (L, R, false)) ∧ Hid (LayC C L) ∧ Hid (BS wz (w.heap.size + 1) (mn : Int) (.slice none 0 0) x C wq) ∧ Hid (RS (w.heap.size + 1) x va R wq)) (fun _ i _ => r.toNat - (intOf i).toNat)
        case atStart => exact ⟨0, _, R0, _, _, va, vc, by simpa using r0, rfl, rfl, E0, C0, S7, R7⟩
        case round =>
          clear E0 C0 S7 R7
          obtain ⟨k, L, R, C, x, va, vc, hk, rfl, rfl, EB, LC, S, RR⟩ := hrel
          generalize wr = wA at *
          have I := hide (M.bo_all (m := mn) (dp := dn) (share := s) HG.out (by rw [sms_len]; exact hp) s1 s2 k)
          by_cases hlt : (k : Int) < r
          · have t1 : decide ((k : Int) < r) = true := decide_eq_true hlt
            have rl : Hid (R.length = xs.length) := by have := I.out.len; rw [EB.out, sms_len] at this; exact this
            have ir := I.out
            rw [EB.out] at ir
            have br := M.bo_round (share := s) HG.out (by rw [sms_len]; exact hp) s1 s2 (by omega) (by omega) ir
            have rin := hide br.2.1
            have BTs := hide br.2.2.1
            have BFr := hide br.2.2.2.1
            have BIn := hide br.2.2.2.2.1
            have BEv := hide br.2.2.2.2.2
            clear ir br
            have XL : Hid ((lesX xs R).length = xs.length) := lesX_len xs R rl.out
            have XK : Hid (∀ j (hj : j < xs.length), (lesX xs R).take (j + 1) = (lesX xs R).take j ++ [(xs[j].1, xs[j].2.1, xs[j].2.2.1, M.fitT (R.getD j 0))]) := fun j hj => by
              have l := XL.out
              rw [List.take_succ_eq_append_getElem (by omega), lesX_at xs R rl.out j hj]
            have XT : Hid ((lesX xs R).take xs.length = lesX xs R) := List.take_of_length_le (by rw [XL.out]; exact Nat.le_refl _)
            obtain ⟨i2, hi2, yz0, yz1, yz2⟩ := info_parts infoSam
            have I2 := hide hi2
            have KW := hide (below_on kz.out S.out.below)
            clear hi2
            go_upto_region 14 with fail
            go_loopw [16, 17, 18] (fun v i _ wq => ∃ j : Nat, j ≤ xs.length ∧ i = .int .i64 j ∧ Hid (wq.ownsRow wA.heap.size 54 2 v j (saCells ((lesX xs R).take j))) ∧ Hid (Below wA.heap.size wA wq)) (fun _ i _ _ => xs.length - (intOf i).toNat)
            case atStart => exact ⟨0, Nat.zero_le _, rfl, World.ownsRow_nil _ _ _ _, Below.refl _ _⟩
            case round =>
              obtain ⟨j, hj, rfl, HO, KB⟩ := hrel
              obtain ⟨xa, xc, rfl⟩ := own_any HO.out
              by_cases hjl : j < xs.length
              · obtain ⟨bl, ol, rfl, hbl, hcl⟩ := HL.out.2.2 (by intro e; rw [e] at hjl; simp at hjl)
                have KX := hide (below_on KW.out KB.out)
                have q0 : wr.cell? ⟨bl, ol + j * 2, none⟩ = some (.slice xs[j].1 xs[j].2.1.length xs[j].2.2.1) := (KX.out.cell (p := ⟨bl, ol + j * 2, none⟩) hbl).trans (by have := (hcl j hjl).1; unfold sxV at this; exact this)
                obtain ⟨rb, ro, rfl, hrb, hrc⟩ := RR.out.rd.2 (by intro e; have := rl.out; rw [e] at this; simp at this; omega)
                have q1 : wr.cell? ⟨rb, ro + j, none⟩ = some (.int .i64 (R.getD j 0)) := (KB.out.cell (p := ⟨rb, ro + j, none⟩) hrb).trans (hrc j (by have := rl.out; omega))
                have jz : (j : Int) < (xs.length : Int) := by omega
                have jr : (j : Int) < (R.length : Int) := by have := rl.out; omega
                have N := hide (XK.out j hjl)
                have kw := KB.out.size
                have j60 : j < 60 := by omega
                have fin : Hid (∀ t', M.fitT (R.getD j 0) = t' → saCells ((lesX xs R).take (j + 1)) = saCells ((lesX xs R).take j) ++ [.slice xs[j].1 xs[j].2.1.length xs[j].2.2.1, .int .i64 t']) := fun t' ht => by rw [N.out, saCells_snoc, ht]; rfl
                clear hcl hrc XK XT N
                generalize xs[j].2.1.length = sl at *
                generalize xs[j].2.2.1 = sc at *
                generalize xs[j].1 = sa at *
                generalize R.getD j 0 = t at *
                by_cases h1 : 1000 < t
                · have u1 : decide (1000 < t) = true := decide_eq_true h1
                  have F1 := hide (fin.out 1000 (by unfold M.fitT; rw [if_pos h1]))
                  go_wp2_with (at_builtin; refine wpList_append_lies _ rfl (.tmp 75) (.tmp 83) 22 rfl wA.heap.size 54 i2 (.agg #[.slice none 0 0, .int .i64 0]) 2 32 Tryz.underlying22 I2.out yz0 yz1 yz2 rfl (by omega) (.slice xa j xc) j (saCells ((lesX xs R).take j)) rfl (HO.out.alloc _) ⟨wr.heap.size, 0, none⟩ 1 1 [.slice sa sl sc, .int .i64 1000] rfl rfl (World.news_of_block (heap_alloc_new _ _)) (by simp [Value.oneCell']) (by omega) (by unfold maxLen; omega) (by omega) (by simp; omega) (wr.heap.size + 1) (by simp) ?_)
                  intro g7 c7 w7 hov7 hgrow7 hat7 hlt7
                  have O7 : Hid (w7.ownsRow wA.heap.size 54 2 (.slice (some ⟨g7, 0, none⟩) (j + 1) c7) (j + 1) (saCells ((lesX xs R).take (j + 1)))) := by unfold Hid; rw [F1.out]; exact hov7
                  have B7 : Hid (Below wA.heap.size wA w7) := (KB.out.alloc kw _).grown hgrow7 (by simp; omega) (fun k hk => (HO.out.lt k hk).1)
                  clear hov7 hgrow7 hat7
                  go_wp2
                  go_roundw
                  case rel => exact ⟨j + 1, by omega, by go_num, O7, B7⟩
                  case measure => simp [intOf]; omega
                · have u1 : decide (1000 < t) = false := decide_eq_false h1
                  by_cases h2 : t < -1000
                  · have u2 : decide (t < -1000) = true := decide_eq_true h2
                    have F1 := hide (fin.out (-1000) (by unfold M.fitT; rw [if_neg h1, if_pos h2]))
                    go_wp2_with (at_builtin; refine wpList_append_lies _ rfl (.tmp 75) (.tmp 83) 22 rfl wA.heap.size 54 i2 (.agg #[.slice none 0 0, .int .i64 0]) 2 32 Tryz.underlying22 I2.out yz0 yz1 yz2 rfl (by omega) (.slice xa j xc) j (saCells ((lesX xs R).take j)) rfl (HO.out.alloc _) ⟨wr.heap.size, 0, none⟩ 1 1 [.slice sa sl sc, .int .i64 (-1000)] rfl rfl (World.news_of_block (heap_alloc_new _ _)) (by simp [Value.oneCell']) (by omega) (by unfold maxLen; omega) (by omega) (by simp; omega) (wr.heap.size + 1) (by simp) ?_)
                    intro g7 c7 w7 hov7 hgrow7 hat7 hlt7
                    have O7 : Hid (w7.ownsRow wA.heap.size 54 2 (.slice (some ⟨g7, 0, none⟩) (j + 1) c7) (j + 1) (saCells ((lesX xs R).take (j + 1)))) := by unfold Hid; rw [F1.out]; exact hov7
                    have B7 : Hid (Below wA.heap.size wA w7) := (KB.out.alloc kw _).grown hgrow7 (by simp; omega) (fun k hk => (HO.out.lt k hk).1)
                    clear hov7 hgrow7 hat7
                    go_wp2
                    go_roundw
                    case rel => exact ⟨j + 1, by omega, by go_num, O7, B7⟩
                    case measure => simp [intOf]; omega
                  · have u2 : decide (t < -1000) = false := decide_eq_false h2
                    have F1 := hide (fin.out t (by unfold M.fitT; rw [if_neg h1, if_neg h2]))
                    go_wp2_with (at_builtin; refine wpList_append_lies _ rfl (.tmp 75) (.tmp 83) 22 rfl wA.heap.size 54 i2 (.agg #[.slice none 0 0, .int .i64 0]) 2 32 Tryz.underlying22 I2.out yz0 yz1 yz2 rfl (by omega) (.slice xa j xc) j (saCells ((lesX xs R).take j)) rfl (HO.out.alloc _) ⟨wr.heap.size, 0, none⟩ 1 1 [.slice sa sl sc, .int .i64 t] rfl rfl (World.news_of_block (heap_alloc_new _ _)) (by simp [Value.oneCell']) (by omega) (by unfold maxLen; omega) (by omega) (by simp; omega) (wr.heap.size + 1) (by simp) ?_)
                    intro g7 c7 w7 hov7 hgrow7 hat7 hlt7
                    have O7 : Hid (w7.ownsRow wA.heap.size 54 2 (.slice (some ⟨g7, 0, none⟩) (j + 1) c7) (j + 1) (saCells ((lesX xs R).take (j + 1)))) := by unfold Hid; rw [F1.out]; exact hov7
                    have B7 : Hid (Below wA.heap.size wA w7) := (KB.out.alloc kw _).grown hgrow7 (by simp; omega) (fun k hk => (HO.out.lt k hk).1)
                    clear hov7 hgrow7 hat7
                    go_wp2
                    go_roundw
                    case rel => exact ⟨j + 1, by omega, by go_num, O7, B7⟩
                    case measure => simp [intOf]; omega
              · have ej : j = xs.length := by omega
                have jz : ¬ ((j : Int) < (xs.length : Int)) := by omega
                have ho := HO.out
                rw [ej, XT.out] at ho
                have KX := hide (below_on KW.out KB.out)
                obtain ⟨za, zc, ev, hrl⟩ := own_rdL XL.out (by unfold maxLen; omega) ho (fun y hy => by
                  obtain ⟨z, hz, e1, e2⟩ := lesX_mem xs R y hy
                  rw [e1, e2]
                  exact (HL.out.below KX.out).2.1 z hz)
                have RX : Hid (RdL wr xa (lesX xs R)) := by
                  rw [Value.slice.injEq] at ev
                  rw [ev.1]; exact hrl
                have GX : Hid (M.GoodS (sms (lesX xs R)) mn) := by unfold Hid; rw [lesX_sms]; exact M.les_good HG.out (by rw [sms_len]; exact rl.out)
                have SX := hide (S.out.up KB.out)
                have RRX := hide (RR.out.up KB.out)
                have zx := SX.out.lt
                have dd : dn ≤ 5 := by omega
                have GY := hide (GW.out (w.heap.size + 1 + 1) dn dd (lesX xs R) xa xc wr RX.out GX.out (by rw [XL.out]; exact hp) zx)
                rw [lesX_sms, XL.out] at GY
                have JE := hide ej
                clear ho ev hrl HO XK XT KB S RR I2 GX RX ej
                obtain ⟨TT, hTT⟩ : ∃ T, T = M.growT mn 1 dn (M.lesS (sms xs) R) := ⟨_, rfl⟩
                obtain ⟨BT, hBT⟩ : ∃ T, T = M.boT mn dn s (sms xs) R := ⟨_, rfl⟩
                have BE : Hid (BT = M.scB (M.shrV s) TT) := by unfold Hid; rw [hBT, hTT]; rfl
                rw [← hTT] at GY BIn
                rw [← hBT] at BTs BFr BEv
                have HBT := hide hBT
                have BZ : Hid (TT.size = BT.size) := by unfold Hid; rw [BE.out, M.sc_size]
                have BL : Hid (scK (M.shrV s) (M.lay TT 0) TT.size = M.lay BT 0) := by
                  unfold Hid
                  rw [BE.out, M.sc_lay (M.shr_zero s)]
                  have := scK_all (M.shrV s) (M.lay TT 0)
                  rw [M.lay_len] at this
                  exact this
                have TV : Hid (∀ t, t < TT.size → -1000 ≤ M.nv (M.nAt (M.lay TT 0) t) ∧ M.nv (M.nAt (M.lay TT 0) t) ≤ 1000) := fun t ht => by
                  rw [nAt_in _ (by rw [M.lay_len]; exact ht)]
                  exact M.lay_in (by decide) TT 0 BIn.out _ (List.getElem_mem _)
                have T31 : TT.size ≤ 31 := by rw [BZ.out]; exact BTs.out
                have LN := hide (M.lay_len TT 0)
                have SA : Hid (∀ t, t < TT.size → M.nAt (scK (M.shrV s) (M.lay TT 0) t) t = M.nAt (M.lay TT 0) t) := fun t ht => scK_at _ _ (by rw [M.lay_len]; exact ht)
                have SCs : Hid (∀ t, t < TT.size → (ndCells (scK (M.shrV s) (M.lay TT 0) t)).set (t * 6 + 5) (.int .i64 (M.shrV s (M.nv (M.nAt (M.lay TT 0) t)))) = ndCells (scK (M.shrV s) (M.lay TT 0) (t + 1))) := fun t ht => scK_cells _ _ (by rw [M.lay_len]; exact ht)
                have SLn : Hid (∀ t, (scK (M.shrV s) (M.lay TT 0) t).length = TT.size) := fun t => by rw [scK_len, M.lay_len]
                have SZ0 : Hid (ndCells (M.lay TT 0) = ndCells (scK (M.shrV s) (M.lay TT 0) 0)) := by unfold Hid; rw [scK_zero]
                rw [SZ0.out] at GY
                clear hTT hBT BIn SZ0
                generalize wr = wG at *
                rw [JE.out]
                go_upto_region 23 with (go_at_call 10; refine GY.out.mono ?_; rintro e w8 ⟨g8, c8, rfl, ho, hb, hg8⟩; have KG := hide hb; have O8 := hide ho; have q8 := hide hg8; clear ho hb hg8)
                clear GY
                go_wp2
                go_loopw [20] (fun j wq => ∃ t : Nat, t ≤ TT.size ∧ j = .int .i64 t ∧ Hid (wq.ownsRow (w.heap.size + 1 + 1) 72 6 (.slice (some ⟨g8, 0, none⟩) TT.size c8) TT.size (ndCells (scK (M.shrV s) (M.lay TT 0) t))) ∧ Hid (Below wG.heap.size wG wq)) (fun j _ => TT.size - (intOf j).toNat)
                case atStart => exact ⟨0, Nat.zero_le _, rfl, O8, KG⟩
                case round =>
                  clear O8 KG
                  obtain ⟨t, ht, rfl, HO, K4⟩ := hrel
                  by_cases tl : t < TT.size
                  · have tz : (t : Int) < (TT.size : Int) := by omega
                    obtain ⟨v0, v1⟩ := TV.out t tl
                    have z5 := (ndCells_at (scK (M.shrV s) (M.lay TT 0) t) t (by rw [SLn.out]; exact tl)).2.2.2.2.2
                    rw [SA.out t tl] at z5
                    have cv : wr.cell? ⟨g8, t * 6 + 5, none⟩ = some (.int .i64 (M.nv (M.nAt (M.lay TT 0) t))) := (HO.out.cellAt (t * 6 + 5) (by omega)).trans z5
                    have fv := HO.out.frozenAt (t * 6 + 5)
                    have st := (HO.out.stored (t * 6 + 5) (.int .i64 (M.shrV s (M.nv (M.nAt (M.lay TT 0) t))))).1
                    rw [SCs.out t tl] at st
                    have ST := hide st
                    have KS : Hid (Below wG.heap.size wG (wr.setCell ⟨g8, t * 6 + 5, none⟩ (.int .i64 (M.shrV s (M.nv (M.nAt (M.lay TT 0) t)))))) := K4.out.setCell (p := ⟨g8, t * 6 + 5, none⟩) q8.out _
                    have sv := M.shr_in s1 s2 _ v0 v1
                    have pr : -100000 ≤ M.nv (M.nAt (M.lay TT 0) t) * s ∧ M.nv (M.nAt (M.lay TT 0) t) * s ≤ 100000 := by
                      have e1 : M.nv (M.nAt (M.lay TT 0) t) * s ≤ 1000 * s := Int.mul_le_mul_of_nonneg_right v1 (by omega)
                      have e2 : -1000 * s ≤ M.nv (M.nAt (M.lay TT 0) t) * s := Int.mul_le_mul_of_nonneg_right v0 (by omega)
                      omega
                    unfold M.shrV at sv ST KS
                    clear st z5 HO TV SA SCs SLn BL LN
                    generalize M.nv (M.nAt (M.lay TT 0) t) = v at *
                    have x1 : IntKind.i64.wrap (v * s) = v * s := wrap_in5 _ (by omega) (by omega)
                    have x2 : IntKind.i64.wrap ((v * s).tdiv 100) = (v * s).tdiv 100 := wrap_in5 _ (by omega) (by omega)
                    go_wp2
                    go_roundw
                    case rel => exact ⟨t + 1, by omega, by go_num, ST, KS⟩
                    case measure => simp [intOf]; omega
                  · have te : t = TT.size := by omega
                    have tz : ¬ ((t : Int) < (TT.size : Int)) := by omega
                    have ho := HO.out
                    rw [te, BL.out] at ho
                    have OT := hide ho
                    have LB : Hid ((M.lay BT 0).length = TT.size) := by unfold Hid; rw [M.lay_len, BZ.out]
                    obtain ⟨oa, oc, oe, hrn, _⟩ := own_rdN LB.out (by unfold maxLen; omega) ho
                    have RN : Hid (RdN wr (some ⟨g8, 0, none⟩) (M.lay BT 0)) := by
                      rw [Value.slice.injEq] at oe
                      rw [oe.1]; exact hrn
                    have LL := hide (M.less_len BT (sms xs) R (by rw [sms_len]; exact rl.out))
                    rw [sms_len] at LL
                    have LM : Hid (∀ j (hj : j < xs.length), (M.lessL BT (sms xs) R).take (j + 1) = (M.lessL BT (sms xs) R).take j ++ [R.getD j 0 - M.evB BT xs[j].2.1]) := fun j hj => by
                      rw [M.less_more (by rw [sms_len]; exact rl.out) (by rw [sms_len]; exact hj), sms_at xs hj]; rfl
                    have LI : Hid (∀ x ∈ M.lessL BT (sms xs) R, -100000 ≤ x ∧ x ≤ 100000) := M.less_in (by rw [sms_len]; exact rl.out) rin.out (fun s hs => (BEv.out s hs).2)
                    have LT : Hid ((M.lessL BT (sms xs) R).take xs.length = M.lessL BT (sms xs) R) := List.take_of_length_le (by rw [LL.out]; exact Nat.le_refl _)
                    have VE : Hid (∀ j (hj : j < xs.length), M.nv (M.nAt (M.lay BT 0) (M.toD (M.lay BT 0) xs[j].2.1 0)) = M.evB BT xs[j].2.1 ∧ -1000 ≤ M.evB BT xs[j].2.1 ∧ M.evB BT xs[j].2.1 ≤ 1000) := fun j hj => BEv.out (sm xs[j]) (List.mem_map.2 ⟨_, List.getElem_mem hj, rfl⟩)
                    have VL : Hid (∀ j (hj : j < xs.length), (xs[j].2.1.length : Int) = (mn : Int)) := fun j hj => by rw [AA.out.row _ (List.getElem_mem hj)]
                    obtain ⟨NX, hNX⟩ : ∃ N, N = M.lessL BT (sms xs) R := ⟨_, rfl⟩
                    have NE : Hid (NX = M.lessL (M.boT mn dn s (sms xs) R) (sms xs) R) := by unfold Hid; rw [hNX, HBT.out]
                    rw [← hNX] at LL LM LI LT
                    clear hNX
                    clear ho hrn oe TV SA SCs SLn BL LN HO BEv
                    generalize wr = w4 at *
                    have KX4 := hide (below_on KX.out K4.out)
                    go_wp2
                    go_loopw [21, 22] (fun v i wq => ∃ j : Nat, j ≤ xs.length ∧ i = .int .i64 j ∧ Hid (wq.ownsRow w4.heap.size 3 1 v j ((NX.take j).map (Value.int .i64))) ∧ Hid (Below w4.heap.size w4 wq)) (fun _ i _ => xs.length - (intOf i).toNat)
                    case atStart => exact ⟨0, Nat.zero_le _, rfl, World.ownsRow_nil _ _ _ _, Below.refl _ _⟩
                    case round =>
                      obtain ⟨j5, hj5, rfl, HO, K5⟩ := hrel
                      obtain ⟨na, nc, rfl⟩ := own_any HO.out
                      by_cases jl5 : j5 < xs.length
                      · have jz5 : (j5 : Int) < (xs.length : Int) := by omega
                        obtain ⟨bl, ol, rfl, hbl, hcl⟩ := HL.out.2.2 (by intro e; rw [e] at jl5; simp at jl5)
                        obtain ⟨rb, ro, rfl, hrb, hrc⟩ := RRX.out.rd.2 (by intro e; have := rl.out; rw [e] at this; simp at this; omega)
                        have CS : Hid (∀ W, Below w4.heap.size w4 W → W.cell? ⟨rb, ro + j5, none⟩ = some (.int .i64 (R.getD j5 0)) ∧ W.cell? ⟨bl, ol + j5 * 2, none⟩ = some (.slice xs[j5].1 xs[j5].2.1.length xs[j5].2.2.1)) := fun W hW => ⟨((below_on K4.out hW).cell (p := ⟨rb, ro + j5, none⟩) hrb).trans (hrc j5 (by have := rl.out; omega)), ((below_on KX4.out hW).cell (p := ⟨bl, ol + j5 * 2, none⟩) hbl).trans (by have := (hcl j5 jl5).1; unfold sxV at this; exact this)⟩
                        have VC : Hid (∀ W, Below w4.heap.size w4 W → Calls Tryz.prog 36 #[.slice (some ⟨g8, 0, none⟩) TT.size c8, .slice xs[j5].1 xs[j5].2.1.length xs[j5].2.2.1] W fun e w' => e = .returned (.int .i64 (M.evB BT xs[j5].2.1)) ∧ Below W.heap.size W w') := fun W hW => by
                          have z := rvalue_fair (some ⟨g8, 0, none⟩) xs[j5].1 (M.lay BT 0) xs[j5].2.1 c8 xs[j5].2.2.1 W (RN.out.below hW) (((HL.out.2.1 _ (List.getElem_mem jl5)).below (below_on KX4.out hW))) (by rw [VL.out j5 jl5]; exact BFr.out)
                          rw [(VE.out j5 jl5).1, LB.out] at z
                          exact z
                        obtain ⟨ve0, ve1⟩ := (VE.out j5 jl5).2
                        have N := hide (LM.out j5 jl5)
                        have jr : (j5 : Int) < (R.length : Int) := by have := rl.out; omega
                        obtain ⟨rr0, rr1⟩ : -10000 ≤ R.getD j5 0 ∧ R.getD j5 0 ≤ 10000 := by
                          have hj : j5 < R.length := by omega
                          rw [M.getD_at hj]
                          exact rin.out _ (List.getElem_mem hj)
                        obtain ⟨s0, s1'⟩ := CS.out wr K5.out
                        have KD : Hid (Below w4.heap.size w4 wr.drew) := K5.out.drew
                        have kw := K5.out.size
                        have j60 : j5 < 60 := by omega
                        clear hcl hrc VE VL LM LI LT hbl hrb
                        generalize M.evB BT xs[j5].2.1 = ev at *
                        generalize R.getD j5 0 = rv at *
                        generalize xs[j5].2.1.length = sl5 at *
                        generalize xs[j5].2.2.1 = sc5 at *
                        generalize xs[j5].1 = sa5 at *
                        have x1 : IntKind.i64.wrap (rv - ev) = rv - ev := wrap_in5 _ (by omega) (by omega)
                        go_upto_region 31 with fail
                        go_region_law (first
                          | (refine step_append_lies _ rfl (.tmp 113) (.tmp 126) 42 rfl w4.heap.size 3 i0 (.int .i64 0) 1 8 Tryz.underlying42 I0.out hz0 hz1 hz2 rfl (by omega) (.slice na j5 nc) j5 ((NX.take j5).map (Value.int .i64)) rfl (O5.out.alloc _) ⟨w5.heap.size, 0, none⟩ 1 1 [.int .i64 (rv - ev)] rfl rfl (World.news_of_block (heap_alloc_new _ _)) (by simp [Value.oneCell']) (by omega) (by unfold maxLen; omega) (by omega) (by simp; omega) (w5.heap.size + 1) (by simp) ?_; intro g7 c7 w7 hov7 hgrow7 hat7 hlt7)
                          | (go_simp; go_at_call 36; refine (VC.out _ KD.out).mono ?_; rintro e w5 ⟨rfl, hb5⟩; have H5 : Hid (Below wr.heap.size wr w5) := ((Below.refl wr.heap.size wr).drew).trans hb5; have O5 := hide (own_up HO.out H5.out); have K6 := hide (below_on K5.out H5.out); obtain ⟨u0, u1⟩ := CS.out w5 K6.out; have kw5 := K6.out.size; clear hb5))
                        all_goals (
                          have O7 : Hid (w7.ownsRow w4.heap.size 3 1 (.slice (some ⟨g7, 0, none⟩) (j5 + 1) c7) (j5 + 1) ((NX.take (j5 + 1)).map (Value.int .i64))) := by unfold Hid; rw [N.out, List.map_append]; exact hov7
                          have B7 : Hid (Below w4.heap.size w4 w7) := (K6.out.alloc kw5 _).grown hgrow7 (by simp; omega) (fun k hk => (O5.out.lt k hk).1)
                          clear hov7 hgrow7 hat7
                          go_wp2
                          go_roundw
                          case rel => exact ⟨j5 + 1, by omega, by go_num, O7, B7⟩
                          case measure => simp [intOf]; omega)
                      · have je5 : j5 = xs.length := by omega
                        have jnz : ¬ ((j5 : Int) < (xs.length : Int)) := by omega
                        have ho := HO.out
                        rw [je5, LT.out] at ho
                        rw [← LL.out] at ho
                        obtain ⟨pa, pc, pe, hrd, _⟩ := own_rd ho
                        have RNX : Hid (Rd wr na NX) := by
                          rw [Value.slice.injEq] at pe
                          rw [pe.1]; exact hrd
                        have NB : Hid (∀ p, na = some p → w4.heap.size ≤ p.block ∧ p.block < wr.heap.size) := fun p hp => by subst hp; exact HO.out.lt p.block rfl
                        have QN : Hid (Calls Tryz.prog 22 #[.slice na j5 nc] wr fun e w' => e = .returned (.int .i64 (M.sqs NX)) ∧ Below wr.heap.size wr w') := by
                          have z := rsq_any na NX nc wr RNX.out (by rw [LL.out]; omega)
                          rw [M.sqF_in LI.out (by rw [LL.out]; omega), LL.out, ← je5] at z
                          exact z
                        have QR : Hid (∀ W, Below wr.heap.size wr W → Calls Tryz.prog 22 #[.slice va R.length vc] W fun e w' => e = .returned (.int .i64 (M.sqs R)) ∧ Below W.heap.size W w') := fun W hW => by
                          have z := rsq_any va R vc W (RRX.out.rd.below (below_on (below_on K4.out K5.out) hW)) (by have := rl.out; omega)
                          rw [M.sqF_in (fun x hx => by have := rin.out x hx; omega) (by have := rl.out; omega)] at z
                          exact z
                        have KGr := hide (below_on K4.out K5.out)
                        have JE5 := hide je5
                        obtain ⟨xa', xc', ex⟩ := own_any SX.out.own
                        have EX := hide ex
                        clear ho hrd pe je5 VE VL LM BFr
                        by_cases hq : M.sqs R ≤ M.sqs NX
                        · have t1' : decide (M.sqs R ≤ M.sqs NX) = true := decide_eq_true hq
                          have EE : Hid (M.boR mn dn s (sms xs) r.toNat = (L, R, true)) := by
                            have e1 := M.bo_end EB.out (by rw [← NE.out]; exact hq)
                            have e2 := M.bo_stay (by rw [e1]) (r.toNat - (k + 1))
                            rw [e1] at e2
                            rw [← e2]
                            congr 1
                            omega
                          clear hq
                          generalize M.sqs R = qr at *
                          generalize M.sqs NX = qn at *
                          go_wp2_with (first
                            | (go_at_call 22; have lean := K8; refine (QR.out _ K8.out).mono ?_; rintro e w9 ⟨rfl, h9⟩; have S9 := hide (SX.out.up (below_on KGr.out (below_on K8.out h9))); clear h9)
                            | (go_at_call 22; refine QN.out.mono ?_; rintro e w8' ⟨rfl, h8⟩; have K8 := hide h8; clear h8))
                          go_meet
                          case rel => exact ⟨L, R, true, C, x, EE, LC, S9⟩
                        · have t1' : decide (M.sqs R ≤ M.sqs NX) = false := decide_eq_false hq
                          have EE : Hid (M.boR mn dn s (sms xs) (k + 1) = (L ++ [BT], NX, false)) := by
                            have e1 := M.bo_on EB.out (by rw [← NE.out]; exact hq)
                            rw [← NE.out, ← HBT.out] at e1
                            exact e1
                          have LC2 : Hid (LayC (C ++ [(some ⟨g8, 0, none⟩, M.lay BT 0, c8)]) (L ++ [BT])) := by
                            have e1 := LC.out
                            unfold LayC at e1
                            unfold Hid LayC
                            rw [List.map_append, List.map_append, e1]; rfl
                          have C9 : C.length ≤ 9 := by
                            have e1 := congrArg List.length LC.out
                            rw [List.length_map, List.length_map] at e1
                            have e2 := I.out.tk
                            rw [EB.out] at e2
                            have e3 : L.length ≤ k + 1 := e2
                            omega
                          subst ex
                          have TX : Hid ((tV (some ⟨g8, 0, none⟩, M.lay BT 0, c8)) = .slice (some ⟨g8, 0, none⟩) TT.size c8) := by unfold Hid tV; rw [LB.out]
                          clear hq
                          generalize M.sqs R = qr at *
                          generalize M.sqs NX = qn at *
                          have xlt : Hid (∀ b, (Value.slice xa' C.length xc').ownBlock = some b → b < wG.heap.size) := fun b hb => (SX.out.own.lt b hb).2
                          have glt : Hid (∀ i (hi : i < C.length), (tV C[i]).ownBlock ≠ some g8) := fun i hi e => by have := ((SX.out.trees i hi).lt g8 e).2; have := q8.out; omega
                          go_upto_region 34 with (first
                            | (go_at_call 22; have lean := K8; refine (QR.out _ K8.out).mono ?_; rintro e w9 ⟨rfl, h9⟩; have K9 := hide (below_on K8.out h9); clear h9)
                            | (go_at_call 22; refine QN.out.mono ?_; rintro e w8' ⟨rfl, h8⟩; have K8 := hide h8; clear h8))
                          have KG9 := hide (below_on KGr.out K9.out)
                          have S9 := hide (SX.out.up KG9.out)
                          have O9 := hide (own_up (own_up OT.out K5.out) K9.out)
                          have x3 := S9.out.c3
                          have z9 := S9.out.lt
                          have WO := hide S9.out.own
                          have FS : Hid (∀ (o : Obj) (w5 : World) (g cap : Nat), w5.ownsRow (w.heap.size + 1 + 1) 23 1 (.slice (some ⟨g, 0, none⟩) (C.length + 1) cap) (C.length + 1) (C.map tV ++ [.slice (some ⟨g8, 0, none⟩) TT.size c8]) → (w9.alloc o).grownBy w5 (Value.slice xa' C.length xc').ownBlock → ((Value.slice xa' C.length xc').ownBlock = some g ∨ g = w9.heap.size + 1) → (w5.cell? ⟨w.heap.size + 1, 3, none⟩ = some (.slice xa' C.length xc') ∧ w5.frozen? ⟨w.heap.size + 1, 3, none⟩ = false) ∧ Hid (BS wz (w.heap.size + 1) (mn : Int) (.slice none 0 0) (.slice (some ⟨g, 0, none⟩) (C.length + 1) cap) (C ++ [(some ⟨g8, 0, none⟩, M.lay BT 0, c8)]) (w5.setCell ⟨w.heap.size + 1, 3, none⟩ (.slice (some ⟨g, 0, none⟩) (C.length + 1) cap))) ∧ Hid (RS (w.heap.size + 1) (.slice (some ⟨g, 0, none⟩) (C.length + 1) cap) na NX (w5.setCell ⟨w.heap.size + 1, 3, none⟩ (.slice (some ⟨g, 0, none⟩) (C.length + 1) cap)))) := fun o w5 g cap h1 h2 h3 => by
                            have ht : w9.ownsRow (w.heap.size + 1 + 1) 72 6 (tV (some ⟨g8, 0, none⟩, M.lay BT 0, c8)) (M.lay BT 0).length (ndCells (M.lay BT 0)) := by rw [TX.out, LB.out]; exact O9.out
                            have m1 := S9.out.more (t := (some ⟨g8, 0, none⟩, M.lay BT 0, c8)) (q := g8) ht (by rw [TX.out]; rfl) (fun e => by have := xlt.out g8 e; have := q8.out; omega) glt.out (by rw [TX.out]; exact h1) h2 h3
                            refine ⟨m1.1, m1.2, ⟨?_, fun p hp => ?_, fun p hp e => ?_⟩⟩
                            · have r9 := RNX.out.below K9.out
                              have hgr : w9.grownBy w5 (Value.slice xa' C.length xc').ownBlock := grown_trans (World.grownBy_alloc w9 o _) h2 (.inl rfl)
                              refine (r9.grown (fun p hp e => ?_) hgr).grown (fun p hp e => ?_) grown_set
                              · have := xlt.out _ e; have := (NB.out p hp).1; have := K4.out.size; omega
                              · have e' := Option.some.inj e; have := (NB.out p hp).1; have := K4.out.size; have := SX.out.lt; omega
                            · have hgr : w9.grownBy w5 (Value.slice xa' C.length xc').ownBlock := grown_trans (World.grownBy_alloc w9 o _) h2 (.inl rfl)
                              have a1 := (NB.out p hp)
                              have a2 := K4.out.size
                              have a3 := SX.out.lt
                              have a4 := K9.out.size
                              have a5 := hgr.size
                              refine ⟨by omega, ?_⟩
                              simp only [World.size_setCell]
                              omega
                            · have e' : g = p.block := by simpa [Value.ownBlock] using e
                              have a1 := (NB.out p hp)
                              have a2 := K4.out.size
                              have a4 := K9.out.size
                              rcases h3 with z | z
                              · have := xlt.out g z; omega
                              · omega
                          have wsz : w.heap.size + 1 + 1 ≤ w9.heap.size := z9
                          clear QN QR RNX NB KGr SX OT O9 S9 RRX xlt glt RN
                          go_wp2_with (at_builtin; refine wpList_append_lies _ rfl (.tmp 135) (.tmp 137) 43 rfl (w.heap.size + 1 + 1) 23 i1 (.slice none 0 0) 1 24 Tryz.underlying43 I1.out jz0 jz1 jz2 rfl (by omega) (.slice xa' C.length xc') C.length (C.map tV) rfl (WO.out.alloc _) ⟨w9.heap.size, 0, none⟩ 1 1 [.slice (some ⟨g8, 0, none⟩) TT.size c8] rfl rfl (World.news_of_block (heap_alloc_new _ _)) (by simp [Value.oneCell']) (by omega) (by unfold maxLen; omega) (by omega) (by simp; omega) (w9.heap.size + 1) (by simp) ?_; intro g5' c5' w5' hov hgrow hat hlt5; have F5 := FS.out _ w5' g5' c5' hov hgrow hat; have f0 := F5.1.1; have f1 := F5.1.2; have S10 := F5.2.1; have R10 := F5.2.2; clear hov hgrow hat F5)
                          go_roundw
                          case rel => exact ⟨k + 1, L ++ [BT], NX, C ++ [(some ⟨g8, 0, none⟩, M.lay BT 0, c8)], .slice (some ⟨g5', 0, none⟩) (C.length + 1) c5', na, nc, by omega, by go_num, by rw [LL.out, JE5.out], EE, LC2, S10, R10⟩
                          case measure => simp [intOf]; omega
          · have t1 : decide ((k : Int) < r) = false := decide_eq_false hlt
            have kr : Hid (r.toNat = k) := by unfold Hid; omega
            go_wp2
            go_meet
            case rel => exact ⟨L, R, false, C, x, by unfold Hid; rw [kr.out]; exact EB.out, LC, S⟩
      case rest =>
        obtain ⟨L, R, en, C, x, EB, LC, S⟩ := hcut
        have I := hide (M.bo_all (m := mn) (dp := dn) (share := s) HG.out (by rw [sms_len]; exact hp) s1 s2 r.toNat)
        have cl : C.length = L.length := by have := congrArg List.length LC.out; simpa using this
        have n0 : 0 < C.length := by have := I.out.t0; rw [EB.out] at this; rw [cl]; exact this
        have n9 : C.length ≤ 9 := by have := I.out.tk; rw [EB.out] at this; rw [cl]; show L.length ≤ 9; have e : r.toNat ≤ 8 := by omega
                                     have : L.length ≤ r.toNat + 1 := this
                                     omega
        have CT : Hid (∀ i (hi : i < C.length), ∃ T : M.BT, C[i].2.1 = M.lay T 0 ∧ M.inV 1000 T ∧ T.size ≤ 31) := fun i hi => by
          have hL : i < L.length := by omega
          have e1 : C[i].2.1 = M.lay L[i] 0 := by
            have h1 : (C.map (fun t => t.2.1))[i]'(by simpa using hi) = (L.map (fun T => M.lay T 0))[i]'(by simpa using hL) := by congr 1
            simpa using h1
          have z := I.out.each L[i] (by rw [EB.out]; exact List.getElem_mem hL)
          have p : 2 ^ (dn + 1) ≤ 2 ^ (4 + 1) := Nat.pow_le_pow_right (by omega) (by omega)
          exact ⟨L[i], e1, z.2.1, by have := z.2.2.2; omega⟩
        have TLn : Hid (∀ i (hi : i < C.length), C[i].2.1.length ≤ 31) := fun i hi => by
          obtain ⟨T, e, _, z⟩ := CT.out i hi
          rw [e, M.lay_len]; exact z
        have VV : Hid (∀ i (hi : i < C.length) k, k < C[i].2.1.length → -1000 ≤ M.nv (M.nAt C[i].2.1 k) ∧ M.nv (M.nAt C[i].2.1 k) ≤ 1000) := fun i hi k hk => by
          obtain ⟨T, e, z, _⟩ := CT.out i hi
          rw [nAt_in _ hk]
          have hm : C[i].2.1[k] ∈ M.lay T 0 := by rw [← e]; exact List.getElem_mem hk
          exact M.lay_in (by decide) T 0 z _ hm
        have FINM : Hid (∀ D, Mix (M.tmN C.length) C D C.length 0 → ((mn : Int), (2 : Int), List.replicate C.length (1 : Int), tl D) = M.booG (sms xs) (mn : Int) r (dn : Int) s) := fun D hD => by
          unfold M.booG
          rw [if_pos hB]
          unfold M.booS M.boG
          rw [Int.toNat_natCast, Int.toNat_natCast, EB.out, hD.fin]
          have e2 : tl C = L.map (fun T => M.lay T 0) := LC.out
          rw [e2, cl]
          refine congrArg (fun z => ((mn : Int), (2 : Int), List.replicate L.length (1 : Int), z)) ?_
          rw [List.map_map]
          refine List.map_congr_left fun T _ => ?_
          show (M.lay T 0).map _ = M.lay (M.scB (M.tmN L.length) T) 0
          rw [M.sc_lay (M.tm_zero _)]
        obtain ⟨bx, tc, rfl⟩ : ∃ bx tc, x = .slice (some ⟨bx, 0, none⟩) C.length tc := by
          rcases S.out.own.2 with ⟨_, h0⟩ | ⟨g, cap, cur, hv, _⟩
          · omega
          · exact ⟨g, cap, hv⟩
        have HWZ := hide hwz
        clear EB LC I cl CT hB
        go_wp2
        go_loopw [23] (fun i wq => ∃ (k : Nat) (y : Value) (D : List Tc), k ≤ C.length ∧ i = .int .i64 k ∧ Hid (Mix (M.tmN C.length) C D k 0) ∧ Hid (BW wz (w.heap.size + 1) (mn : Int) y (.slice (some ⟨bx, 0, none⟩) C.length tc) D k wq)) (fun i _ => C.length - (intOf i).toNat)
        case atStart => exact ⟨0, _, C, Nat.zero_le _, rfl, Mix.start _ _, BW.start S.out⟩
        case round =>
          obtain ⟨k, y, D, hk, rfl, MX, B⟩ := hrel
          clear S
          have DL : Hid (D.length = C.length) := MX.out.len
          by_cases hlt : k < C.length
          · have c3 := B.out.bs.c3
            have c2 := B.out.bs.c2
            obtain ⟨ya, yc, rfl⟩ := own_any B.out.wo
            have kz : (k : Int) < (C.length : Int) := by omega
            have k9 : k ≤ 9 := by omega
            have MO := hide (fun (o : Obj) (w5 : World) (g cap : Nat) h1 h2 h3 => B.out.more (o := o) (w5 := w5) (g := g) (cap := cap) h1 h2 h3)
            have WO := hide B.out.wo
            have wsz := B.out.bs.lt
            go_upto_region 39 with (at_builtin; refine wpList_append_lies _ rfl (.tmp 148) (.tmp 149) 42 rfl (w.heap.size + 1 + 1) 3 i0 (.int .i64 0) 1 8 Tryz.underlying42 I0.out hz0 hz1 hz2 rfl (by omega) (.slice ya k yc) k ((List.replicate k (1 : Int)).map (Value.int .i64)) rfl (WO.out.alloc _) ⟨wr.heap.size, 0, none⟩ 1 1 [.int .i64 1] rfl rfl (World.news_of_block (heap_alloc_new _ _)) (by simp [Value.oneCell']) (by omega) (by unfold maxLen; omega) (by omega) (by simp; omega) (wr.heap.size + 1) (by simp) ?_; intro g7 c7 w7 hov7 hgrow7 hat7 hlt7; have F7 := MO.out _ w7 g7 c7 hov7 hgrow7 hat7; have f0 := F7.1.1; have f1 := F7.1.2; have B7 := hide F7.2; clear hov7 hgrow7 hat7 F7)
            obtain ⟨w8, hw8⟩ : ∃ V, V = w7.setCell ⟨w.heap.size + 1, 2, none⟩ (.slice (some ⟨g7, 0, none⟩) (k + 1) c7) := ⟨_, rfl⟩
            rw [← hw8] at B7 ⊢
            clear hw8 f0 f1 MO WO c2 c3 B
            have VK := hide (VV.out k hlt)
            have TK := TLn.out k hlt
            have TR := hide (fun D t (h : Mix (M.tmN C.length) C D k t) (hd : k < D.length) => h.tree hlt hd)
            have TN := hide (fun D t (h : Mix (M.tmN C.length) C D k t) (hd : k < D.length) => h.turn hlt hd)
            have NX := hide (fun D t (h : Mix (M.tmN C.length) C D k t) => h.next hlt)
            have SC := hide (fun t => @scK_cells (M.tmN C.length) C[k].2.1 t)
            have SLn := hide (scK_len (M.tmN C.length) C[k].2.1)
            have SA := hide (fun t => @scK_at (M.tmN C.length) C[k].2.1 t)
            generalize C[k].2.1 = N at *
            go_wp2
            go_loopw [24, 25] (fun j _ wq => ∃ (t : Nat) (D : List Tc), t ≤ N.length ∧ j = .int .i64 t ∧ Hid (Mix (M.tmN C.length) C D k t) ∧ Hid (BW wz (w.heap.size + 1) (mn : Int) (.slice (some ⟨g7, 0, none⟩) (k + 1) c7) (.slice (some ⟨bx, 0, none⟩) C.length tc) D (k + 1) wq)) (fun j _ _ => N.length - (intOf j).toNat)
            case atStart => exact ⟨0, D, Nat.zero_le _, rfl, MX, B7⟩
            case round =>
              clear MX B7 DL
              obtain ⟨t, E, ht, rfl, MX, B⟩ := hrel
              have hd : k < E.length := by rw [MX.out.len]; exact hlt
              obtain ⟨e1, e2, e3⟩ := TR.out E t MX.out hd
              obtain ⟨q, cap, q1, q2, q3, q4, q5⟩ := B.out.bs.tree k hd
              have el : E[k].2.1.length = N.length := by rw [e3]; exact SLn.out t
              have c3 := B.out.bs.c3
              have cx : wr.cell? ⟨bx, k, none⟩ = some (.slice (some ⟨q, 0, none⟩) N.length cap) := by
                have own := B.out.bs.own
                rw [MX.out.len] at own
                rw [own.cellAt k (by omega), List.getElem?_map, List.getElem?_eq_getElem hd]
                show some (tV E[k]) = _
                unfold tV
                rw [q1, q2, el]
              have kz2 : (k : Int) < (C.length : Int) := by omega
              by_cases tl : t < N.length
              · have tz : (t : Int) < (N.length : Int) := by omega
                obtain ⟨v0, v1⟩ := VK.out t tl
                have tow := B.out.bs.trees k hd
                have tv2 : tV E[k] = .slice (some ⟨q, 0, none⟩) N.length cap := by unfold tV; rw [q1, q2, el]
                have hs := SC.out t tl
                have cv : wr.cell? ⟨q, t * 6 + 5, none⟩ = some (.int .i64 (M.nv (M.nAt N t))) := by
                  rw [tv2, el] at tow
                  have z5 := (ndCells_at E[k].2.1 t (by rw [el]; exact tl)).2.2.2.2.2
                  rw [tow.cellAt (t * 6 + 5) (by omega), z5, e3, SA.out t tl]
                have fv : wr.frozen? ⟨q, t * 6 + 5, none⟩ = false := by rw [tv2, el] at tow; exact tow.frozenAt _
                have BT : Hid (∀ nq, BW wz (w.heap.size + 1) (mn : Int) (.slice (some ⟨g7, 0, none⟩) (k + 1) c7) (.slice (some ⟨bx, 0, none⟩) C.length tc) (E.set k (E[k].1, scK (M.tmN C.length) N (t + 1), E[k].2.2)) (k + 1) ((wr.drewN nq).setCell ⟨q, t * 6 + 5, none⟩ (.int .i64 (M.tmN C.length (M.nv (M.nAt N t)))))) := fun nq =>
                  (B.out.drew (below_drew (Below.refl _ _) nq (Nat.le_refl _))).turn k hd q5 (by rw [e3]; exact hs) (by rw [SLn.out, el])
                have MT : Hid (Mix (M.tmN C.length) C (E.set k (E[k].1, scK (M.tmN C.length) N (t + 1), E[k].2.2)) k (t + 1)) := TN.out E t MX.out hd
                have tm : M.tmN C.length (M.nv (M.nAt N t)) = M.nv (M.nAt N t) * (C.length : Int) := rfl
                have tb := M.tm_in n9 (M.nv (M.nAt N t)) v0 v1
                rw [tm] at tb BT
                have w1 : IntKind.i64.wrap (M.nv (M.nAt N t) * (C.length : Int)) = M.nv (M.nAt N t) * (C.length : Int) := wrap_in5 _ (by omega) (by omega)
                have g1 : decide (1000000 < M.nv (M.nAt N t) * (C.length : Int)) = false := decide_eq_false (by omega)
                have g2 : decide (M.nv (M.nAt N t) * (C.length : Int) < -1000000) = false := decide_eq_false (by omega)
                clear tow tv2 hs e1 e2 e3 q1 q2 el tm tb VV TLn FINM SC SLn SA TR TN NX VK MX B
                generalize M.nv (M.nAt N t) = v at *
                generalize hvn : v * (C.length : Int) = vn at *
                go_upto_region 42 with fail
                go_quiet (fail)
                obtain ⟨w9, hw9⟩ : ∃ V, V = wr.drewN nq := ⟨_, rfl⟩
                rw [← hw9]
                have c39 : w9.cell? ⟨w.heap.size + 1, 3, none⟩ = some (.slice (some ⟨bx, 0, none⟩) C.length tc) := by rw [hw9]; exact c3
                have cx9 : w9.cell? ⟨bx, k, none⟩ = some (.slice (some ⟨q, 0, none⟩) N.length cap) := by rw [hw9]; exact cx
                have cv9 : w9.cell? ⟨q, t * 6 + 5, none⟩ = some (.int .i64 v) := by rw [hw9]; exact cv
                have fv9 : w9.frozen? ⟨q, t * 6 + 5, none⟩ = false := by rw [hw9]; exact fv
                have BT9 := hide (BT.out nq)
                rw [← hw9] at BT9
                clear hw9 c3 cx cv fv BT
                go_wp2
                go_roundw
                case rel => exact ⟨t + 1, _, by omega, by go_num, MT, BT9⟩
                case measure => simp [intOf]; omega
              · have te : t = N.length := by omega
                have tz : ¬ ((t : Int) < (N.length : Int)) := by omega
                have MN := hide (NX.out E t MX.out te)
                clear VV TLn FINM SC SLn SA TR TN NX VK MX e1 e2 e3 q1 q2 te el
                go_wp2
                go_roundw
                case rel => exact ⟨k + 1, _, E, by omega, by go_num, MN, B⟩
                case measure => simp [intOf]; omega
          · have ke : k = C.length := by omega
            have knz : ¬ ((k : Int) < (C.length : Int)) := by omega
            have mx := MX.out
            rw [ke] at mx
            have FM := hide (FINM.out D mx)
            have b := B.out
            rw [ke] at b
            have zs : wz.heap.size = w.heap.size + 1 := by rw [HWZ.out]; simp
            obtain ⟨wa, wc, ta, tc', ey, ex, NG⟩ := b.new (W0 := wz) (by omega) (by omega) (by rw [DL.out]; omega) (fun t ht => by
              obtain ⟨j, hj, rfl⟩ := List.getElem_of_mem ht
              have hj' : j < C.length := by rw [← DL.out]; exact hj
              obtain ⟨_, _, e3⟩ := mx.at' j hj' hj
              rw [e3, if_pos hj', List.length_map]
              have := TLn.out j hj'
              omega)
            subst ey
            have NK := new_kept HWZ.out b.bs.below
            have y0 := NK.1 0 _ rfl
            have y1 := NK.1 1 _ rfl
            have y2 := NK.1 2 _ rfl
            have y3 := NK.1 3 _ rfl
            have f0 := NK.2 0
            have f1 := NK.2 1
            have f2 := NK.2 2
            have f3 := NK.2 3
            have c0' := b.bs.c0
            have c1' := b.bs.c1
            have c2' := b.bs.c2
            have c3' := b.bs.c3
            have KB := hide (below_on kz.out b.bs.below)
            have NP := hide (fun x0 x1 x2 x3 => newG_put (w := w) (x0 := x0) (x1 := x1) (x2 := x2) (x3 := x3) NG zs)
            have GV : Hid (∀ (P : Gr), P = ⟨(mn : Int), 2, wa, List.replicate C.length 1, wc, ta, D, tc'⟩ → P.m = M.booG (sms xs) (mn : Int) r (dn : Int) s) := fun P hP => by rw [hP]; exact FM.out
            have EV : Hid ((⟨(mn : Int), 2, wa, List.replicate C.length 1, wc, ta, D, tc'⟩ : Gr).v = .agg #[.int .i64 (mn : Int), .int .i64 2, .slice wa C.length wc, .slice (some ⟨bx, 0, none⟩) C.length tc]) := by
              unfold Hid Gr.v
              rw [List.length_replicate, ← ex]
            clear mx b NG NK MX B FINM VV TLn FM ex DL zs ke
            go_wp2
            obtain ⟨e0, e1, e2, e3⟩ := put4 (x0 := .int .i64 (mn : Int)) (x1 := .int .i64 2) (x2 := .slice wa C.length wc) (x3 := .slice (some ⟨bx, 0, none⟩) C.length tc) y0 y1 y2 y3
            refine bodyPost_ret (v := .agg #[.int .i64 (mn : Int), .int .i64 2, .slice wa C.length wc, .slice (some ⟨bx, 0, none⟩) C.length tc]) (by simp [results, Tryz.results16, go_sem, e0, e1, e2, e3]) rfl ?_
            exact ⟨⟨(mn : Int), 2, wa, List.replicate C.length 1, wc, ta, D, tc'⟩, by rw [EV.out], GV.out _ rfl, NP.out _ _ _ _, lay4 KB.out (Nat.le_refl _)⟩

end Go.Proofs.YtpblpfleiilehafGreatDoor
