/-
  GroveTells returns true for every two groves and every row; the variable of package errors lies as that package lays it.
-/
import Derived.Test.YtandimbpealclacDoorGTells
import Derived.Test.YtandimbpealclacDoorGEach
import Derived.Test.YtandimbpealclacDoorGJoinJ
import Derived.Test.YtandimbpealclacDoorGBoundsB
namespace Go.Proofs.YtandimbpealclacDoor
open Go.ChangeShapes Go.WideShapes Go.ChangeAt Go.RowKit Go.Lib
set_option linter.unusedVariables false

theorem gtells_all (G O : Gr) (b : Option Addr) (xs : List Int) (cb : Nat) (w : World) (hg : RdG w G) (ho : RdG w O) (hr : Rd w b xs) (hl : Lays w) :
    Calls Tryd.prog 4 #[G.v, O.v, .slice b xs.length cb] w fun e w' => e = .returned (.bool true) ∧ Below w.heap.size w w' := by
  have tg : (M.gt G.m).length = G.ks.length := tl_len G.ks
  have to' : (M.gt O.m).length = O.ks.length := tl_len O.ks
  have gt : ∀ k (h : k < G.ks.length), (M.gt G.m)[k]'(by rw [tg]; exact h) = G.ks[k].2.1 := fun k h => by
    show (tl G.ks)[k]'(by rw [tl_len]; exact h) = _
    simp [tl]
  refine gtells_core G O b xs cb w (M.groveF G.m) (M.standF G.m xs) (M.groveF O.m) (M.joinF G.m O.m) (M.eachV G.m xs) ((M.gt G.m).map M.lowT) ((M.gt G.m).map M.highT) (M.evalG G.m xs) (M.boundsV G.m).1 (M.boundsV G.m).2 (M.joinV G.m O.m)
    (fun W hW => rgrove_any G W (hg.below hW)) (fun W hW => rgrove_any O W (ho.below hW)) (fun W hW => gcheck_any G W (hg.below hW))
    (fun c W hW => (error_any c c W (hl.below hW)).mono fun r w' h => ⟨by rw [h.1, beq_self_eq_true], h.2⟩)
    (fun ag cg bg dg R W h1 h2 => (ints_any ag bg R R cg dg W h1 h2).mono fun r w' h => ⟨by rw [h.1]; simp, h.2⟩)
    (fun W hW => rstand_any G b xs cb W (hg.below hW) (hr.below hW)) ?RE ?RT ?RZ
    (fun W hW => geach_any G b xs cb W (hg.below hW) (hr.below hW)) (fun W hW => geval_any G b xs cb W (hg.below hW) (hr.below hW))
    ?n12 (fun W hW => (hg.below hW).2) ?TB ?LK ⟨by rw [List.length_map]; exact tg, by rw [List.length_map]; exact tg⟩ ?BT ?BN
    (fun W hW => gbounds_any G W (hg.below hW)) ?E1 ?E2 ?E3 ?E4 ?E5 ho.2.1 ?o12 ?JZ
    (fun W hW => gjoin_any G O W (hg.below hW) (ho.below hW)) (fun G1 G2 W h1 h2 hm => grovesame_any G1 G2 W h1 h2 hm) ?PG ?JG
  case RE =>
    intro h W hW
    have e : M.eachV G.m xs = M.eachL G.m xs := by unfold M.eachV; rw [if_pos h]
    rw [e]
    exact reachg_any G b xs cb W (hg.below hW) (hr.below hW) h
  case RT =>
    intro h ag cg W hW hv
    have e : M.eachV G.m xs = M.eachL G.m xs := by unfold M.eachV; rw [if_pos h]
    have e2 : M.evalG G.m xs = M.together G.w G.ws (M.eachL G.m xs) := by unfold M.evalG; rw [if_pos h]; rfl
    rw [e] at hv ⊢
    rw [e2]
    have hE := M.each_len G.m xs
    exact rtog_any G ag (M.eachL G.m xs) cg W (hg.below hW) hv (M.stand_ok h).1 (by rw [hE]; exact tg) (fun i hi => M.each_in h (by rw [← hE]; exact hi))
  case RZ => exact fun h => ⟨by unfold M.eachV; rw [if_neg h], by unfold M.evalG; rw [if_neg h]⟩
  case n12 => exact fun h => by rw [← tg]; exact ((M.good_iff _).1 h).t12
  case TB =>
    intro h k hk
    have K := (M.good_iff _).1 h
    have F := (M.tree_ok (K.trees G.ks[k].2.1 (List.mem_map.2 ⟨_, List.getElem_mem hk, rfl⟩))).1
    exact ⟨F.1, M.lv_some F⟩
  case LK =>
    intro k hk
    have h1 : k < ((M.gt G.m).map M.lowT).length := by rw [List.length_map, tg]; exact hk
    have h2 : k < ((M.gt G.m).map M.highT).length := by rw [List.length_map, tg]; exact hk
    rw [List.take_succ_eq_append_getElem h1, List.take_succ_eq_append_getElem h2, List.getElem_map, List.getElem_map, gt k hk]
    exact ⟨rfl, rfl⟩
  case BT =>
    intro h ag cg bg dg W hW h1 h2
    have K := (M.good_iff _).1 h
    obtain ⟨V1, V2⟩ := M.ends_vw K
    have e : M.boundsV G.m = M.between G.w G.ws ((M.gt G.m).map M.lowT) ((M.gt G.m).map M.highT) := by unfold M.boundsV; rw [if_pos h]; rfl
    rw [e]
    exact rbtw_any G ag bg _ _ cg dg W (hg.below hW) h1 h2 K (by rw [List.length_map]; exact tg) (by rw [List.length_map]; exact tg) V1.vals V2.vals
  case BN => exact fun h => by unfold M.boundsV; rw [if_neg h]; exact ⟨rfl, rfl⟩
  case E1 => exact fun h => by unfold M.joinF; rw [if_pos h]
  case E2 => exact fun h h2 => by unfold M.joinF; rw [if_neg (by simp [h]), if_pos h2]
  case E3 => exact fun h h2 h3 => by unfold M.joinF; rw [if_neg (by simp [h]), if_neg (by simp [h2]), if_pos (show M.gf G.m ≠ M.gf O.m ∨ M.gw G.m ≠ M.gw O.m from h3)]
  case E4 => exact fun h h2 h3 h4 h5 => by unfold M.joinF; rw [if_neg (by simp [h]), if_neg (by simp [h2]), if_neg (show ¬ (M.gf G.m ≠ M.gf O.m ∨ M.gw G.m ≠ M.gw O.m) from fun c => c.elim (fun q => q h3) (fun q => q h4)), if_pos (by rw [tg, to']; exact h5)]
  case E5 => exact fun h h2 h3 h4 h5 => by unfold M.joinF; rw [if_neg (by simp [h]), if_neg (by simp [h2]), if_neg (show ¬ (M.gf G.m ≠ M.gf O.m ∨ M.gw G.m ≠ M.gw O.m) from fun c => c.elim (fun q => q h3) (fun q => q h4)), if_neg (by rw [tg, to']; omega)]
  case o12 => exact fun h => by rw [← to']; exact ((M.good_iff _).1 h).t12
  case JZ => exact fun h => by unfold M.joinV; rw [if_neg h]
  case PG =>
    intro h
    obtain ⟨A, B, _, _, _⟩ := M.join_ok h
    exact ⟨hg, ho, by rw [← tg]; exact A.t0, by rw [← to']; exact B.t0, by rw [← tg]; exact A.len, by rw [← to']; exact B.len⟩
  case JG => exact fun h => by unfold M.joinV; rw [if_pos h]

end Go.Proofs.YtandimbpealclacDoor
