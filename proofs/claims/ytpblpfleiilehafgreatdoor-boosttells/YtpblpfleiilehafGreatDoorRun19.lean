/-
  Several texts as one: RefPart, SaAway, RefGrow.
-/
import Derived.Test.YtpblpfleiilehafGreatDoorRun18
import Derived.Test.YtpblpfleiilehafGreatDoorRun16
import Derived.Deep.AppendLies
import Derived.OwnWalk
import Derived.Test.YtpblpfleiilehafGreatDoorRun14
namespace Go.Proofs.YtpblpfleiilehafGreatDoor
open Go.ChangeShapes Go.WideShapes Go.ChangeAt Go.RowKit Go.Lib
set_option linter.unusedVariables false

set_option maxHeartbeats 4000000 in
set_option maxRecDepth 10000 in
theorem rpart_any (a : Option Addr) (xs : List Sx) (ca m f : Nat) (c : Int) (b : Bool) (w : World) (h : RdL w a xs) (A : Ask xs m) (hf : f < m) :
    Calls Tryz.prog 33 #[.slice a xs.length ca, .int .i64 (f : Nat), .int .i64 c, .bool b] w fun e w' => ∃ ag cg, e = .returned (.slice ag (partX xs f c b).length cg) ∧ RdL w' ag (partX xs f c b) ∧ Below w.heap.size w w' ∧ (∀ p, ag = some p → w.heap.size ≤ p.block) := by
  have HL := hide h
  have AA := hide A
  have l60 := A.le
  obtain ⟨i0, hi, hz0, hz1, hz2⟩ := info_parts infoSam
  have I0 := hide hi
  have PM : Hid (∀ k (hk : k < xs.length), partX (xs.take (k + 1)) f c b = if (decide (xs[k].2.1.getD f 0 < c) == b) = true then partX (xs.take k) f c b ++ [xs[k]] else partX (xs.take k) f c b) := fun k hk => partX_more xs f c b hk
  have PL : Hid (∀ k, (partX (xs.take k) f c b).length ≤ 60) := fun k => Nat.le_trans (List.length_filter_le _ _) (by rw [List.length_take]; omega)
  have PA : Hid (partX (xs.take xs.length) f c b = partX xs f c b) := by unfold Hid; rw [List.take_length]
  have PR : Hid (∀ W, Below w.heap.size w W → ∀ x ∈ partX xs f c b, Rd W x.1 x.2.1) := fun W hW x hx => (h.2.1 x (partX_mem hx)).below hW
  clear h A hi
  generalize partX xs f c b = PX at *
  go_enter Tryz.func33, Tryz.ntmps33
  go_wp2
  go_loopw [9, 10] (fun v i wr => ∃ k : Nat, k ≤ xs.length ∧ i = .int .i64 k ∧ Hid (wr.ownsRow w.heap.size 54 2 v (partX (xs.take k) f c b).length (saCells (partX (xs.take k) f c b))) ∧ Hid (Below w.heap.size w wr)) (fun _ i _ => xs.length - (intOf i).toNat)
  case atStart => exact ⟨0, Nat.zero_le _, rfl, World.ownsRow_nil _ _ _ _, Below.refl _ _⟩
  case round =>
    obtain ⟨k, hk, rfl, HO, K⟩ := hrel
    have pl := PL.out k
    by_cases hlt : k < xs.length
    · obtain ⟨bl, ol, rfl, hbl, hcl⟩ := (HL.out.below K.out).2.2 (by intro e; rw [e] at hlt; simp at hlt)
      obtain ⟨q0, q1⟩ := hcl k hlt
      have hr := AA.out.row xs[k] (List.getElem_mem hlt)
      have fr : f < xs[k].2.1.length := by omega
      obtain ⟨bx, ox, ex, hbx, hcx⟩ := ((HL.out.below K.out).2.1 xs[k] (List.getElem_mem hlt)).2 (by intro e; rw [e] at fr; simp at fr)
      have hx := hcx f fr
      have pm := PM.out k hlt
      have PC : Hid (saCells (partX (xs.take k) f c b ++ [xs[k]]) = saCells (partX (xs.take k) f c b) ++ [.slice (some ⟨bx, ox, none⟩) xs[k].2.1.length xs[k].2.2.1, .int .i64 xs[k].2.2.2]) := by
        unfold Hid; rw [saCells_snoc]; unfold sxV; rw [ex]
      unfold sxV at q0
      rw [ex] at q0
      have kz : (k : Int) < (xs.length : Int) := by omega
      have fz : (f : Int) < (xs[k].2.1.length : Int) := by omega
      obtain ⟨va, vc, rfl⟩ := own_any HO.out
      have w0 := K.out.size
      cases hq : (decide (xs[k].2.1.getD f 0 < c) == b) with
      | true =>
        rw [if_pos hq] at pm
        have z1 := hide pm
        clear hcl hcx PM hr fr ex PA PR pm PL
        generalize xs[k].2.2.2 = t at *
        generalize xs[k].2.1.getD f 0 = x at *
        generalize xs[k].2.1.length = rl at *
        generalize xs[k].2.2.1 = rc at *
        generalize partX (xs.take k) f c b = P at *
        go_wp2_with (at_builtin; refine wpList_append_lies _ rfl (.tmp 29) (.tmp 34) 22 rfl w.heap.size 54 i0 (.agg #[.slice none 0 0, .int .i64 0]) 2 32 Tryz.underlying22 I0.out hz0 hz1 hz2 rfl (by omega) (.slice va P.length vc) P.length (saCells P) rfl (HO.out.alloc _) ⟨wr.heap.size, 0, none⟩ 1 1 [.slice (some ⟨bx, ox, none⟩) rl rc, .int .i64 t] rfl rfl (World.news_of_block (heap_alloc_new _ _)) (by simp [Value.oneCell']) (by omega) (by unfold maxLen; omega) (by omega) (by simp; omega) (wr.heap.size + 1) (by simp) ?_)
        intro g cap w5 hov5 hgrow hat hlt5
        have hb5 : Hid (Below w.heap.size w w5) := (K.out.alloc w0 _).grown hgrow (by simp; omega) (fun k hk => (HO.out.lt k hk).1)
        have HO5 : Hid (w5.ownsRow w.heap.size 54 2 (.slice (some ⟨g, 0, none⟩) (P.length + 1) cap) (partX (xs.take (k + 1)) f c b).length (saCells (partX (xs.take (k + 1)) f c b))) := by
          unfold Hid; rw [z1.out, PC.out, List.length_append]; exact hov5
        clear hov5 hgrow hat
        go_wp2
        go_roundw
        case rel => exact ⟨k + 1, by omega, by go_num, HO5, hb5⟩
        case measure => simp [intOf]; omega
      | false =>
        rw [if_neg (by rw [hq]; decide)] at pm
        have z1 : Hid (wr.ownsRow w.heap.size 54 2 (.slice va (partX (xs.take k) f c b).length vc) (partX (xs.take (k + 1)) f c b).length (saCells (partX (xs.take (k + 1)) f c b))) := by unfold Hid; rw [pm]; exact HO.out
        clear hcl hcx PM hr fr ex PA PR pm PL PC
        generalize xs[k].2.2.2 = t at *
        generalize xs[k].2.1.getD f 0 = x at *
        generalize xs[k].2.1.length = rl at *
        generalize xs[k].2.2.1 = rc at *
        generalize (partX (xs.take k) f c b).length = pn at *
        go_wp2
        go_roundw
        case rel => exact ⟨k + 1, by omega, by go_num, z1, K⟩
        case measure => simp [intOf]; omega
    · have ke : k = xs.length := by omega
      have ho := HO.out
      rw [ke, PA.out] at ho
      have pl2 : PX.length ≤ 60 := by rw [← PA.out, ← ke]; exact pl
      obtain ⟨ga, gc, ev, hr⟩ := own_rdL rfl (by unfold maxLen; omega) ho (PR.out _ K.out)
      subst ev
      have HR := hide hr
      have LT : Hid (∀ p, ga = some p → w.heap.size ≤ p.block) := fun p hp => by subst hp; exact (ho.lt p.block rfl).1
      clear ke ho HO PM PL PA PR HL AA hr pl
      go_wp2
      go_ret
      exact ⟨ga, gc, rfl, HR.out, K.out, LT.out⟩

end Go.Proofs.YtpblpfleiilehafGreatDoor

namespace Go.Proofs.YtpblpfleiilehafGreatDoor
open Go.ChangeShapes Go.WideShapes Go.ChangeAt Go.RowKit Go.Lib
set_option linter.unusedVariables false

/-- samples lie apart from a block -/
def Away (o : Option Nat) (a : Option Addr) (xs : List Sx) : Prop := (∀ p, a = some p → o ≠ some p.block) ∧ ∀ x ∈ xs, ∀ p, x.1 = some p → o ≠ some p.block
theorem Rd.grown {w w' : World} {o : Option Nat} {a : Option Addr} {xs : List Int} (h : Rd w a xs) (ha : ∀ p, a = some p → o ≠ some p.block) (hg : w.grownBy w' o) : Rd w' a xs :=
  ⟨h.1, fun hn => by
    obtain ⟨b, off, rfl, hb, hc⟩ := h.2 hn
    exact ⟨b, off, rfl, Nat.lt_of_lt_of_le hb hg.size, fun i hi => hg.cell (hc i hi) (fun e => ha _ rfl e.symm)⟩⟩
theorem RdL.grown {w w' : World} {o : Option Nat} {a : Option Addr} {xs : List Sx} (h : RdL w a xs) (ha : Away o a xs) (hg : w.grownBy w' o) : RdL w' a xs :=
  ⟨h.1, fun x hx => (h.2.1 x hx).grown (ha.2 x hx) hg, fun hn => by
    obtain ⟨b, off, rfl, hb, hc⟩ := h.2.2 hn
    exact ⟨b, off, rfl, Nat.lt_of_lt_of_le hb hg.size, fun i hi => ⟨hg.cell (hc i hi).1 (fun e => ha.1 _ rfl e.symm), hg.cell (hc i hi).2 (fun e => ha.1 _ rfl e.symm)⟩⟩⟩
theorem partX_len (xs : List Sx) (f : Nat) (c : Int) (b : Bool) : ((partX xs f c b).length : Int) = M.nB (sms xs) f c b := by
  unfold M.nB; rw [← partX_sms, sms_len]

theorem away_new {w : World} {a : Option Addr} {xs : List Sx} {m : Nat} (h : RdL w a xs) (A : Ask xs m) (hm : 0 < m) (hp : 0 < xs.length) {g : Nat} (hg : w.heap.size ≤ g) : Away (some g) a xs := by
  refine ⟨fun p hp' => ?_, fun x hx p hp' => ?_⟩
  · obtain ⟨b, off, rfl, hb, _⟩ := h.2.2 (by intro e; rw [e] at hp; simp at hp)
    cases hp'
    intro e
    have e' : g = b := Option.some.inj e
    omega
  · have hl := A.row x hx
    obtain ⟨b, off, e0, hb, _⟩ := (h.2.1 x hx).2 (by intro e; rw [e] at hl; simp at hl; omega)
    rw [e0] at hp'
    cases hp'
    intro e
    have e' : g = b := Option.some.inj e
    omega
theorem away_part {w : World} {o : Option Nat} {a ag : Option Addr} {xs : List Sx} {f : Nat} {c : Int} {b : Bool} (h : Away o a xs) (ho : ∀ q, o = some q → q < w.heap.size) (hf : ∀ p, ag = some p → w.heap.size ≤ p.block) : Away o ag (partX xs f c b) := by
  refine ⟨fun p hp e => ?_, fun x hx p hp => h.2 x (partX_mem hx) p hp⟩
  have h1 := hf p hp
  have h2 := ho p.block e
  omega

end Go.Proofs.YtpblpfleiilehafGreatDoor

namespace Go.Proofs.YtpblpfleiilehafGreatDoor
open Go.ChangeShapes Go.WideShapes Go.ChangeAt Go.RowKit Go.Lib
set_option linter.unusedVariables false

set_option maxHeartbeats 8000000 in
set_option maxRecDepth 10000 in
theorem rgrow_leaf (m : Nat) (least : Int) (m8 : m ≤ 8) (B d : Nat) (xs : List Sx) (a : Option Addr) (ca : Nat) (O : List M.Nd) (va : Option Addr) (vc : Nat) (w : World) (hq : d = 0 ∨ (M.spV (sms xs) m least).2.2.2.2 = false) (hr : RdL w a xs) (A : Ask xs m) (hp : 0 < xs.length) (hv : w.ownsRow B 72 6 (.slice va O.length vc) O.length (ndCells O)) (hB : B ≤ w.heap.size) (hsz : O.length + 1 ≤ 1000) :
    Calls Tryz.prog 10 #[.slice va O.length vc, .slice a xs.length ca, .int .i64 (m : Nat), .int .i64 (d : Nat), .int .i64 least] w fun e w' => ∃ g c, e = .returned (.slice (some ⟨g, 0, none⟩) (O.length + 1) c) ∧ w'.ownsRow B 72 6 (.slice (some ⟨g, 0, none⟩) (O.length + 1) c) (O.length + 1) (ndCells (O ++ [(-1, 0, 0, 0, false, M.meanS (sms xs))])) ∧ w.grownBy w' (Value.slice va O.length vc).ownBlock ∧ ((Value.slice va O.length vc).ownBlock = some g ∨ w.heap.size ≤ g) := by
  have HL := hide hr
  have AA := hide A
  have l60 := A.le
  have RS := hide (rsplit_any a xs ca m least w hr A m8)
  have SM : Hid (∀ k (hk : k < xs.length), M.sumT ((sms xs).take (k + 1)) = M.sumT ((sms xs).take k) + xs[k].2.2.2) := fun k hk => by
    rw [List.take_succ_eq_append_getElem (by rw [sms_len]; exact hk), M.sumT_app]
    have e : (sms xs)[k]'(by rw [sms_len]; exact hk) = sm xs[k] := by simp [sms]
    rw [e]
    show _ + (xs[k].2.2.2 + 0) = _
    omega
  have ME : Hid (M.meanS (sms xs) = M.sumT ((sms xs).take xs.length) / (xs.length : Int)) := by
    unfold Hid M.meanS
    rw [← sms_len xs, List.take_length]
  obtain ⟨j0, hj, hy0, hy1, hy2⟩ := info_parts infoN
  have J0 := hide hj
  have HV := hide hv
  have NC0 : Hid (∀ v : Int, ndCells [(-1, 0, 0, 0, false, v)] = [.int .i64 (-1), .int .i64 0, .int .i64 0, .int .i64 0, .bool false, .int .i64 v]) := fun v => rfl
  obtain ⟨dz, hdz⟩ : ∃ dz, dz = ((d : Int) == 0) := ⟨_, rfl⟩
  have q1 : ((d : Int) == 0) = dz := hdz.symm
  obtain ⟨V, hV⟩ : ∃ V, V = M.spV (sms xs) m least := ⟨_, rfl⟩
  rw [← hV] at RS hq
  have HQ : Hid (dz = true ∨ V.2.2.2.2 = false) := by
    rcases hq with e | e
    · left; rw [hdz, e]; rfl
    · exact .inr e
  clear hr A hv hj hdz hq hV
  obtain ⟨V1, V2, V3, V4, V5⟩ := V
  dsimp only at RS HQ
  obtain ⟨mv, hmv⟩ : ∃ mv, mv = M.meanS (sms xs) := ⟨_, rfl⟩
  rw [← hmv]
  have HM : Hid (mv = M.sumT ((sms xs).take xs.length) / (xs.length : Int)) := hmv.trans ME.out
  clear hmv ME
  cases dz with
  | true =>
    clear HQ
    go_enter Tryz.func10, Tryz.ntmps10
    go_wp2_with (go_at_call 8; refine RS.out.mono ?_; rintro e w1 ⟨rfl, e1⟩; have e1' := e1.symm; subst e1')
    go_loopw [14, 15] (fun s i wr => ∃ k : Nat, k ≤ xs.length ∧ i = .int .i64 k ∧ s = .int .i64 (M.sumT ((sms xs).take k)) ∧ Hid (wr = w)) (fun _ i _ => xs.length - (intOf i).toNat)
    case atStart => exact ⟨0, Nat.zero_le _, rfl, rfl, rfl⟩
    case round =>
      obtain ⟨k, hk, rfl, rfl, W⟩ := hrel
      have we := W.out.symm
      subst we
      obtain ⟨b0, b1⟩ := AA.out.all k
      by_cases hlt : k < xs.length
      · obtain ⟨bl, ol, rfl, hbl, hcl⟩ := HL.out.2.2 (by intro e; rw [e] at hlt; simp at hlt)
        have q1 := (hcl k hlt).2
        obtain ⟨t0, t1⟩ := AA.out.tgt xs[k] (List.getElem_mem hlt)
        have S1 := hide (SM.out k hlt)
        have kz : (k : Int) < (xs.length : Int) := by omega
        clear hcl SM HM RS
        generalize xs[k].2.2.2 = t at *
        generalize M.sumT ((sms xs).take k) = s at *
        go_wp2
        go_roundw
        case rel => exact ⟨k + 1, by omega, by go_num, by rw [S1.out], (by first | rfl | trivial)⟩
        case measure => simp [intOf]; omega
      · have ke : k = xs.length := by omega
        subst ke
        have FL := hide (rfloor_any (M.sumT ((sms xs).take xs.length)) (xs.length : Int) w (by omega) (by omega) (by omega) (by omega))
        rw [← HM.out] at FL
        clear SM hlt hk HM HL AA RS
        generalize M.sumT ((sms xs).take xs.length) = s at *
        go_wp2_with (first
          | (go_at_call 32; refine FL.out.mono ?_; rintro e w2 ⟨rfl, e2⟩; have e2' := e2.symm; subst e2')
          | (at_builtin; refine wpList_append_lies _ rfl (.tmp 51) (.tmp 54) 23 rfl B 72 j0 (.agg #[.int .i64 0, .int .i64 0, .int .i64 0, .int .i64 0, .bool false, .int .i64 0]) 6 48 Tryz.underlying23 J0.out hy0 hy1 hy2 rfl (by omega) (.slice va O.length vc) O.length (ndCells O) rfl (HV.out.alloc _) ⟨w.heap.size, 0, none⟩ 1 1 [.int .i64 (-1), .int .i64 0, .int .i64 0, .int .i64 0, .bool false, .int .i64 mv] rfl rfl (World.news_of_block (heap_alloc_new _ _)) (by simp [Value.oneCell']) (by omega) (by unfold maxLen; omega) (by omega) (by simp; omega) (w.heap.size + 1) (by simp) ?_))
        intro g1 c1 w1 hov hgrow hat hlt1
        have HO1 : Hid (w1.ownsRow B 72 6 (.slice (some ⟨g1, 0, none⟩) (O.length + 1) c1) (O.length + 1) (ndCells (O ++ [(-1, 0, 0, 0, false, mv)]))) := by
          unfold Hid; rw [ndCells_app, NC0.out]; exact hov
        have G1 : Hid (w.grownBy w1 (Value.slice va O.length vc).ownBlock) := grown_trans (World.grownBy_alloc w _ _) hgrow (.inl rfl)
        have A1 : Hid ((Value.slice va O.length vc).ownBlock = some g1 ∨ w.heap.size ≤ g1) := by
          rcases hat with q | q
          · exact .inl q
          · exact .inr (by omega)
        clear hov hgrow hat HV
        go_wp2
        go_ret
        exact ⟨g1, c1, rfl, HO1.out, G1.out, A1.out⟩
  | false =>
    have v5 : V5 = false := HQ.out.elim (fun q => by cases q) id
    subst v5
    clear HQ
    go_enter Tryz.func10, Tryz.ntmps10
    go_wp2_with (go_at_call 8; refine RS.out.mono ?_; rintro e w1 ⟨rfl, e1⟩; have e1' := e1.symm; subst e1')
    go_loopw [14, 15] (fun s i wr => ∃ k : Nat, k ≤ xs.length ∧ i = .int .i64 k ∧ s = .int .i64 (M.sumT ((sms xs).take k)) ∧ Hid (wr = w)) (fun _ i _ => xs.length - (intOf i).toNat)
    case atStart => exact ⟨0, Nat.zero_le _, rfl, rfl, rfl⟩
    case round =>
      obtain ⟨k, hk, rfl, rfl, W⟩ := hrel
      have we := W.out.symm
      subst we
      obtain ⟨b0, b1⟩ := AA.out.all k
      by_cases hlt : k < xs.length
      · obtain ⟨bl, ol, rfl, hbl, hcl⟩ := HL.out.2.2 (by intro e; rw [e] at hlt; simp at hlt)
        have q1 := (hcl k hlt).2
        obtain ⟨t0, t1⟩ := AA.out.tgt xs[k] (List.getElem_mem hlt)
        have S1 := hide (SM.out k hlt)
        have kz : (k : Int) < (xs.length : Int) := by omega
        clear hcl SM HM RS
        generalize xs[k].2.2.2 = t at *
        generalize M.sumT ((sms xs).take k) = s at *
        go_wp2
        go_roundw
        case rel => exact ⟨k + 1, by omega, by go_num, by rw [S1.out], (by first | rfl | trivial)⟩
        case measure => simp [intOf]; omega
      · have ke : k = xs.length := by omega
        subst ke
        have FL := hide (rfloor_any (M.sumT ((sms xs).take xs.length)) (xs.length : Int) w (by omega) (by omega) (by omega) (by omega))
        rw [← HM.out] at FL
        clear SM hlt hk HM HL AA RS
        generalize M.sumT ((sms xs).take xs.length) = s at *
        go_wp2_with (first
          | (go_at_call 32; refine FL.out.mono ?_; rintro e w2 ⟨rfl, e2⟩; have e2' := e2.symm; subst e2')
          | (at_builtin; refine wpList_append_lies _ rfl (.tmp 51) (.tmp 54) 23 rfl B 72 j0 (.agg #[.int .i64 0, .int .i64 0, .int .i64 0, .int .i64 0, .bool false, .int .i64 0]) 6 48 Tryz.underlying23 J0.out hy0 hy1 hy2 rfl (by omega) (.slice va O.length vc) O.length (ndCells O) rfl (HV.out.alloc _) ⟨w.heap.size, 0, none⟩ 1 1 [.int .i64 (-1), .int .i64 0, .int .i64 0, .int .i64 0, .bool false, .int .i64 mv] rfl rfl (World.news_of_block (heap_alloc_new _ _)) (by simp [Value.oneCell']) (by omega) (by unfold maxLen; omega) (by omega) (by simp; omega) (w.heap.size + 1) (by simp) ?_))
        intro g1 c1 w1 hov hgrow hat hlt1
        have HO1 : Hid (w1.ownsRow B 72 6 (.slice (some ⟨g1, 0, none⟩) (O.length + 1) c1) (O.length + 1) (ndCells (O ++ [(-1, 0, 0, 0, false, mv)]))) := by
          unfold Hid; rw [ndCells_app, NC0.out]; exact hov
        have G1 : Hid (w.grownBy w1 (Value.slice va O.length vc).ownBlock) := grown_trans (World.grownBy_alloc w _ _) hgrow (.inl rfl)
        have A1 : Hid ((Value.slice va O.length vc).ownBlock = some g1 ∨ w.heap.size ≤ g1) := by
          rcases hat with q | q
          · exact .inl q
          · exact .inr (by omega)
        clear hov hgrow hat HV
        go_wp2
        go_ret
        exact ⟨g1, c1, rfl, HO1.out, G1.out, A1.out⟩

set_option maxHeartbeats 16000000 in
set_option maxRecDepth 10000 in
theorem rgrow_any (m : Nat) (least : Int) (h1 : 1 ≤ least) (m8 : m ≤ 8) (B : Nat) : ∀ (d : Nat) (xs : List Sx) (a : Option Addr) (ca : Nat) (O : List M.Nd) (va : Option Addr) (vc : Nat) (w : World), d ≤ 1000 → RdL w a xs → M.GoodS (sms xs) m → 0 < xs.length → Away (Value.slice va O.length vc).ownBlock a xs → w.ownsRow B 72 6 (.slice va O.length vc) O.length (ndCells O) → B ≤ w.heap.size → O.length + (M.growT m least d (sms xs)).size ≤ 1000 →
    Calls Tryz.prog 10 #[.slice va O.length vc, .slice a xs.length ca, .int .i64 (m : Nat), .int .i64 (d : Nat), .int .i64 least] w fun e w' => ∃ g c, e = .returned (.slice (some ⟨g, 0, none⟩) (O.length + (M.growT m least d (sms xs)).size) c) ∧ w'.ownsRow B 72 6 (.slice (some ⟨g, 0, none⟩) (O.length + (M.growT m least d (sms xs)).size) c) (O.length + (M.growT m least d (sms xs)).size) (ndCells (O ++ M.lay (M.growT m least d (sms xs)) O.length)) ∧ w.grownBy w' (Value.slice va O.length vc).ownBlock ∧ ((Value.slice va O.length vc).ownBlock = some g ∨ w.heap.size ≤ g)
  | 0, xs, a, ca, O, va, vc, w => by
    intro hd hr hG hp hA hv hB hsz
    exact rgrow_leaf m least m8 B 0 xs a ca O va vc w (.inl rfl) hr (Ask.of hG) hp hv hB hsz
  | d + 1, xs, a, ca, O, va, vc, w => by
    intro hd hr hG hp hA hv hB hsz
    cases hfo : (M.spV (sms xs) m least).2.2.2.2 with
    | false =>
      have e : M.growT m least (d + 1) (sms xs) = .lf (M.meanS (sms xs)) := by unfold M.growT; rw [if_neg (by rw [hfo]; decide)]
      rw [e] at hsz ⊢
      exact rgrow_leaf m least m8 B (d + 1) xs a ca O va vc w (.inr hfo) hr (Ask.of hG) hp hv hB hsz
    | true =>
      have hls : 0 < (sms xs).length := by rw [sms_len]; exact hp
      obtain ⟨s1, _, s3, s4, _⟩ := M.grow_sides h1 hls hfo
      have A := Ask.of hG
      have RS := hide (rsplit_any a xs ca m least w hr A m8)
      rw [hfo] at RS
      have ET : M.growT m least (d + 1) (sms xs) = .nd ((M.spV (sms xs) m least).2.2.1 : Nat) (M.spV (sms xs) m least).2.2.2.1 (decide (M.nB (sms xs) (M.spV (sms xs) m least).2.2.1 (M.spV (sms xs) m least).2.2.2.1 false < M.nB (sms xs) (M.spV (sms xs) m least).2.2.1 (M.spV (sms xs) m least).2.2.2.1 true)) (M.growT m least d (M.partS (sms xs) (M.spV (sms xs) m least).2.2.1 (M.spV (sms xs) m least).2.2.2.1 true)) (M.growT m least d (M.partS (sms xs) (M.spV (sms xs) m least).2.2.1 (M.spV (sms xs) m least).2.2.2.1 false)) := by
        rw [show M.growT m least (d + 1) (sms xs) = (if (M.spV (sms xs) m least).2.2.2.2 = true then _ else _) from rfl, if_pos hfo]
      generalize (M.spV (sms xs) m least).2.2.1 = f at *
      generalize (M.spV (sms xs) m least).2.2.2.1 = cu at *
      have GA : M.GoodS (sms (partX xs f cu true)) m := by rw [partX_sms]; exact hG.part f cu true
      have GB : M.GoodS (sms (partX xs f cu false)) m := by rw [partX_sms]; exact hG.part f cu false
      rw [← partX_sms, ← partX_sms, ← partX_len, ← partX_len] at ET
      rw [← partX_len] at s3 s4
      have PA0 : 0 < (partX xs f cu true).length := by omega
      have PB0 : 0 < (partX xs f cu false).length := by omega
      have hm : 0 < m := by omega
      have PC1 := hide (fun W (hW : Below w.heap.size w W) => rpart_any a xs ca m f cu true W (hr.below hW) A s1)
      have PC2 := hide (fun W (hW : Below w.heap.size w W) => rpart_any a xs ca m f cu false W (hr.below hW) A s1)
      have IA := hide (rgrow_any m least h1 m8 B d (partX xs f cu true))
      have IB := hide (rgrow_any m least h1 m8 B d (partX xs f cu false))
      have AKA := hide (A.part f cu true)
      have AKB := hide (A.part f cu false)
      have oB := hv.lt
      have HA1 : Hid (∀ ag, (∀ p, ag = some p → w.heap.size ≤ p.block) → Away (Value.slice va O.length vc).ownBlock ag (partX xs f cu true)) := fun ag hf => away_part hA (fun q hq => (oB q hq).2) hf
      have HA2 : Hid (∀ ag, (∀ p, ag = some p → w.heap.size ≤ p.block) → Away (Value.slice va O.length vc).ownBlock ag (partX xs f cu false)) := fun ag hf => away_part hA (fun q hq => (oB q hq).2) hf
      have HGA := hide GA
      have HGB := hide GB
      have l60 := A.le
      have la : (partX xs f cu true).length ≤ 60 := (A.part f cu true).le
      have lb : (partX xs f cu false).length ≤ 60 := (A.part f cu false).le
      obtain ⟨TA, hTA⟩ : ∃ T, T = M.growT m least d (sms (partX xs f cu true)) := ⟨_, rfl⟩
      obtain ⟨TB, hTB⟩ : ∃ T, T = M.growT m least d (sms (partX xs f cu false)) := ⟨_, rfl⟩
      rw [← hTA, ← hTB] at ET
      rw [← hTA] at IA
      rw [← hTB] at IB
      have ES : (M.growT m least (d + 1) (sms xs)).size = 1 + TA.size + TB.size := by rw [ET]; rfl
      have EL : M.lay (M.growT m least (d + 1) (sms xs)) O.length = (((f : Nat) : Int), cu, ((O.length + 1 : Nat) : Int), ((O.length + 1 + TA.size : Nat) : Int), decide (((partX xs f cu false).length : Int) < ((partX xs f cu true).length : Int)), 0) :: (M.lay TA (O.length + 1) ++ M.lay TB (O.length + 1 + TA.size)) := by rw [ET]; rfl
      have LA : Hid (∀ k, (M.lay TA k).length = TA.size) := fun k => M.lay_len _ k
      rw [ES] at hsz
      have cz1 : ((O.length + 1 : Nat) : Int) = (O.length : Int) + 1 := by omega
      have cz2 : ((O.length + 1 + TA.size : Nat) : Int) = (O.length : Int) + 1 + (TA.size : Int) := by omega
      rw [ES, EL, cz1, cz2, show O.length + (1 + TA.size + TB.size) = O.length + 1 + TA.size + TB.size by omega]
      obtain ⟨j0, hj, hy0, hy1, hy2⟩ := info_parts infoN
      have J0 := hide hj
      have HV := hide hv
      have ol : O.length ≤ 1000 := by omega
      obtain ⟨ls, hls'⟩ : ∃ ls, ls = decide (((partX xs f cu false).length : Int) < ((partX xs f cu true).length : Int)) := ⟨_, rfl⟩
      rw [← hls']
      have t1 : decide (((partX xs f cu false).length : Int) < ((partX xs f cu true).length : Int)) = ls := hls'.symm
      have t2 : decide ((partX xs f cu false).length < (partX xs f cu true).length) = ls := by rw [hls', Bool.eq_iff_iff, decide_eq_true_eq, decide_eq_true_eq]; omega
      have NC0 : Hid (ndCells [((f : Int), cu, (O.length : Int) + 1, (0 : Int), ls, (0 : Int))] = [.int .i64 (f : Int), .int .i64 cu, .int .i64 ((O.length : Int) + 1), .int .i64 0, .bool ls, .int .i64 0]) := rfl
      have d0 : (((d + 1 : Nat) : Int) == 0) = false := by rw [beq_eq_false_iff_ne]; omega
      have dz : IntKind.i64.wrap (((d + 1 : Nat) : Int) - 1) = (d : Int) ∨ True := .inr trivial
      clear hv hj hA hG GA GB s1 s3 s4 hls A cz1 cz2 ES EL ET hTA hTB hfo oB dz hls'
      have PLA : Hid (0 < (partX xs f cu true).length) := PA0
      have PLB : Hid (0 < (partX xs f cu false).length) := PB0
      have HM0 := hide hm
      clear PA0 PB0 hm hr
      generalize partX xs f cu true = XA at *
      generalize partX xs f cu false = XB at *
      go_enter Tryz.func10, Tryz.ntmps10
      go_upto_region 13 with (first
        | (go_at_call 8; refine RS.out.mono ?_; rintro e w0 ⟨rfl, e0⟩; have e0' := e0.symm; subst e0')
        | (go_at_call 33; have lean := k1; refine (PC2.out _ k1.out).mono ?_; rintro e w2 ⟨pb, pbc, rfl, hrb, hb2, hfb⟩; have k2 := hide (below_on k1.out hb2); have RB := hide hrb; have RA2 := hide (RA.out.below hb2); have FB : Hid (∀ p, pb = some p → w.heap.size ≤ p.block) := (fun p hp => Nat.le_trans k1.out.size (hfb p hp)); clear hrb hb2 hfb)
        | (go_at_call 33; refine (PC1.out _ (Below.refl _ _)).mono ?_; rintro e w1 ⟨pa, pac, rfl, hra, hb1, hfa⟩; have k1 := hide hb1; have RA := hide hra; have FA := hide hfa; clear hra hb1 hfa))
      have HV2 := hide (own_up HV.out k2.out)
      have w2s := k2.out.size
      have o60 : O.length + 1 ≤ 1000 := by omega
      go_wp2_with (at_builtin; refine wpList_append_lies _ rfl (.tmp 66) (.tmp 77) 23 rfl B 72 j0 (.agg #[.int .i64 0, .int .i64 0, .int .i64 0, .int .i64 0, .bool false, .int .i64 0]) 6 48 Tryz.underlying23 J0.out hy0 hy1 hy2 rfl (by omega) (.slice va O.length vc) O.length (ndCells O) rfl (HV2.out.alloc _) ⟨w2.heap.size, 0, none⟩ 1 1 [.int .i64 (f : Int), .int .i64 cu, .int .i64 ((O.length : Int) + 1), .int .i64 0, .bool ls, .int .i64 0] rfl rfl (World.news_of_block (heap_alloc_new _ _)) (by simp [Value.oneCell']) (by omega) (by unfold maxLen; omega) (by omega) (by simp; omega) (w2.heap.size + 1) (by simp) ?_)
      intro g1 c1 w3 hov hgrow hat hlt1
      have HO1 : Hid (w3.ownsRow B 72 6 (.slice (some ⟨g1, 0, none⟩) (O.length + 1) c1) (O.length + 1) (ndCells (O ++ [((f : Int), cu, (O.length : Int) + 1, (0 : Int), ls, (0 : Int))]))) := by
        unfold Hid; rw [ndCells_app, NC0.out]; exact hov
      have G23 : Hid (w2.grownBy w3 (Value.slice va O.length vc).ownBlock) := grown_trans (World.grownBy_alloc w2 _ _) hgrow (.inl rfl)
      have G1 : Hid (w.grownBy w3 (Value.slice va O.length vc).ownBlock) := grown_trans (grown_of k2.out _) G23.out (.inl rfl)
      have A1 : Hid ((Value.slice va O.length vc).ownBlock = some g1 ∨ w2.heap.size ≤ g1) := by
        rcases hat with q | q
        · exact .inl q
        · exact .inr (by omega)
      have AWA : Hid (∀ g, (Value.slice va O.length vc).ownBlock = some g ∨ w2.heap.size ≤ g → Away (some g) pa XA) := fun g hg => by
        rcases hg with q | q
        · rw [← q]; exact HA1.out pa FA.out
        · exact away_new RA2.out AKA.out HM0.out PLA.out q
      have AWB : Hid (∀ g, (Value.slice va O.length vc).ownBlock = some g ∨ w2.heap.size ≤ g → Away (some g) pb XB) := fun g hg => by
        rcases hg with q | q
        · rw [← q]; exact HA2.out pb FB.out
        · exact away_new RB.out AKB.out HM0.out PLB.out q
      have RA3 := hide (RA2.out.grown (HA1.out pa FA.out) G23.out)
      have RB3 := hide (RB.out.grown (HA2.out pb FB.out) G23.out)
      have g1s : Hid ((some g1 : Option Nat) = (Value.slice va O.length vc).ownBlock ∨ ∀ q, (some g1 : Option Nat) = some q → w.heap.size ≤ q) := by
        rcases A1.out with q | q
        · exact .inl q.symm
        · exact .inr (fun z hz => by cases hz; omega)
      have w3s : Hid (w2.heap.size ≤ w3.heap.size) := G23.out.size
      have I1 := IA.out pa pac (O ++ [((f : Int), cu, (O.length : Int) + 1, (0 : Int), ls, (0 : Int))]) (some ⟨g1, 0, none⟩) c1 w3 (by omega) RA3.out HGA.out PLA.out (AWA.out g1 A1.out) (by rw [List.length_append]; exact HO1.out) (Nat.le_trans hB (Nat.le_trans w2s w3s.out)) (by rw [List.length_append]; simp; omega)
      rw [show (O ++ [((f : Int), cu, (O.length : Int) + 1, (0 : Int), ls, (0 : Int))]).length = O.length + 1 by simp] at I1
      have HI1 := hide I1
      clear hov hgrow hat HV HV2 I1 RS PC1 PC2 IA RA RA2 RB k1 k2 HA1 HA2
      go_upto_region 15 with (go_at_call 10; refine HI1.out.mono ?_; rintro e w4 ⟨g3, c3, rfl, ho3, hg3, ha3⟩)
      have G3 : Hid (w.grownBy w4 (Value.slice va O.length vc).ownBlock) := grown_trans G1.out hg3 g1s.out
      have A3 : Hid ((Value.slice va O.length vc).ownBlock = some g3 ∨ w2.heap.size ≤ g3) := by
        rcases ha3 with q | q
        · have e : g1 = g3 := by simpa [Value.ownBlock] using q
          rw [← e]; exact A1.out
        · exact .inr (Nat.le_trans w3s.out q)
      have HO3 : Hid (w4.ownsRow B 72 6 (.slice (some ⟨g3, 0, none⟩) (O.length + 1 + TA.size) c3) (O.length + 1 + TA.size) (ndCells (O ++ ((f : Int), cu, (O.length : Int) + 1, (0 : Int), ls, (0 : Int)) :: M.lay TA (O.length + 1)))) := by
        have := ho3
        rw [List.append_assoc] at this
        exact this
      have RB4 := hide (RB3.out.grown (AWB.out g1 A1.out) hg3)
      have L3 : O.length < (O ++ ((f : Int), cu, (O.length : Int) + 1, (0 : Int), ls, (0 : Int)) :: M.lay TA (O.length + 1)).length := by simp
      obtain ⟨x0, x1, x2, x3, x4, x5⟩ := ndCells_at _ O.length L3
      have q3 := (HO3.out.cellAt (O.length * 6 + 3) (by omega)).trans x3
      have fz3 := HO3.out.frozenAt (O.length * 6 + 3)
      have oz3 : ((O.length : Nat) : Int) < ((O.length + 1 + TA.size : Nat) : Int) := by omega
      clear ho3 ha3 x0 x1 x2 x3 x4 x5 L3 HI1 RA3 RB3 AWA HO1
      go_upto_region 16 with fail
      obtain ⟨w5, hw5⟩ : ∃ W, W = w4.setCell ⟨g3, O.length * 6 + 3, none⟩ (.int .i64 ((O.length : Int) + 1 + (TA.size : Int))) := ⟨_, rfl⟩
      rw [← hw5]
      have g3s : Hid ((some g3 : Option Nat) = (Value.slice va O.length vc).ownBlock ∨ ∀ q, (some g3 : Option Nat) = some q → w.heap.size ≤ q) := by
        rcases A3.out with q | q
        · exact .inl q.symm
        · exact .inr (fun z hz => by cases hz; omega)
      have HO4 : Hid (w5.ownsRow B 72 6 (.slice (some ⟨g3, 0, none⟩) (O.length + 1 + TA.size) c3) (O.length + 1 + TA.size) (ndCells (O ++ ((f : Int), cu, (O.length : Int) + 1, (O.length : Int) + 1 + (TA.size : Int), ls, (0 : Int)) :: M.lay TA (O.length + 1)))) := by
        have st := (HO3.out.stored (O.length * 6 + 3) (.int .i64 ((O.length : Int) + 1 + (TA.size : Int)))).1
        rw [ndCells_setR _ O.length (by simp), nAt_snoc, set_snoc] at st
        rw [hw5]
        exact st
      have G4 : Hid (w.grownBy w5 (Value.slice va O.length vc).ownBlock) := by
        rw [hw5]
        exact grown_trans G3.out grown_set g3s.out
      have RB5 : Hid (RdL w5 pb XB) := by
        unfold Hid
        rw [hw5]
        exact RB4.out.grown (AWB.out g3 A3.out) grown_set
      have w5s : Hid (w.heap.size ≤ w5.heap.size) := G4.out.size
      have len4 : (O ++ ((f : Int), cu, (O.length : Int) + 1, (O.length : Int) + 1 + (TA.size : Int), ls, (0 : Int)) :: M.lay TA (O.length + 1)).length = O.length + 1 + TA.size := by
        rw [List.length_append, List.length_cons, LA.out]; omega
      have I2 := IB.out pb pbc (O ++ ((f : Int), cu, (O.length : Int) + 1, (O.length : Int) + 1 + (TA.size : Int), ls, (0 : Int)) :: M.lay TA (O.length + 1)) (some ⟨g3, 0, none⟩) c3 w5 (by omega) RB5.out HGB.out PLB.out (AWB.out g3 A3.out) (by rw [len4]; exact HO4.out) (Nat.le_trans hB w5s.out) (by rw [len4]; omega)
      rw [len4] at I2
      have HI2 := hide I2
      clear hw5 I2 HO3 q3 fz3 len4 IB NC0 RB4
      go_wp2_with (go_at_call 10; refine HI2.out.mono ?_; rintro e w6 ⟨g5, c5, rfl, ho5, hg5, ha5⟩)
      go_ret
      refine ⟨g5, c5, rfl, ?_, grown_trans G4.out hg5 g3s.out, ?_⟩
      · rw [List.append_assoc, List.cons_append] at ho5
        exact ho5
      · rcases ha5 with q | q
        · have e : g3 = g5 := by simpa [Value.ownBlock] using q
          rw [← e]
          rcases A3.out with z | z
          · exact .inl z
          · exact .inr (by omega)
        · exact .inr (Nat.le_trans w5s.out q)

end Go.Proofs.YtpblpfleiilehafGreatDoor
