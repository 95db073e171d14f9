/-
  Several texts as one: WTell.
-/
import Derived.Test.YtlloiccodjnkcagGreatDoorRunW16
import Derived.Test.YtlloiccodjnkcagGreatDoorRunW8
import Derived.Test.YtlloiccodjnkcagGreatDoorRunW9
import Derived.Test.YtlloiccodjnkcagGreatDoorRunW10
import Derived.Test.YtlloiccodjnkcagGreatDoorRunW17
import Derived.Test.YtlloiccodjnkcagGreatDoorRunW11
import Derived.Test.YtlloiccodjnkcagGreatDoorRunW20
namespace Go.Proofs.YtlloiccodjnkcagGreatDoor
open Go.ChangeShapes Go.WideShapes Go.ChangeAt Go.RowKit Go.Lib
set_option linter.unusedVariables false

theorem wtells_walk (hU : WgUsesGives) (hN : WgGainsGives) (hW : WgWithoutGives) (hS : WgSameGives) (hR : RGainsGives) (G : Gr) (a b ia ib : Option Addr) (ts : List M.Nd) (xs : List Sx) (la lb : List Int) (ct cx ca cb : Nat) (f : Int) (w : World) (hg : RdG w G) (ht : RdN w a ts) (hx : RdL w b xs) (ha : Rd w ia la) (hb : Rd w ib lb) (hl : Lays w) :
    Calls Tryz.prog 3 #[G.v, .slice a ts.length ct, .slice b xs.length cx, .int .i64 f, .slice ia la.length ca, .slice ib lb.length cb] w fun r w' => r = .returned (.bool true) ∧ Below w.heap.size w w' := by
  have gfe : M.gf G.m = G.f := rfl
  refine wtells_core G a b ia ib ts.length xs.length la.length lb.length ct cx ca cb f (M.groveF G.m) (M.woF G.m f) (M.rdyF ts (sms xs)) (M.sameF la lb) (M.sameV la lb) (M.usV G.m) (M.gnV ts (sms xs)) (M.woV G.m f) ((tl G.ks).map (M.woT f)) (fun k => ((M.sameN (la.take k) (lb.take k) : Nat) : Int)) la lb w hg ha hb ?_ ?_ ?_ ?_ ?_ ?_ ?_ ?_ ?_ ?_ ?_ ?_ ?_ ?_ ?_ ?_ ?_ ?_ ?_
  · exact fun W hW' => rgrove_any G W (hg.below hW')
  · intro hz W hW'
    have e : M.usV G.m = M.usesV (M.gt G.m) := by unfold M.usV; rw [if_pos hz]
    rw [e]
    exact (rusesG_any G W (hg.below hW') ((M.good_iff _).1 hz)).mono fun r w' ⟨p, c, h1, h2, _, h4⟩ => ⟨p, c, h1, h2, h4⟩
  · intro hz; unfold M.usV; rw [if_neg hz]
  · exact fun W hW' => hU G W (hg.below hW')
  · exact fun c W hW' => (error_any c c W (hl.below hW')).mono (R' := fun r w' => r = .returned (.bool true) ∧ Below W.heap.size W w') fun r w' h => ⟨by rw [h.1, beq_self_eq_true], h.2⟩
  · exact fun l p q cp cq W h1 h2 => usessame_any p q l cp cq W h1 h2
  · refine ⟨fun hz => by unfold M.woF; rw [if_pos hz], fun hz y => by unfold M.woF; rw [if_neg (by simp [hz]), if_pos (by rw [gfe]; exact y)], fun hz y => by unfold M.woF; rw [if_neg (by simp [hz]), if_neg (by rw [gfe]; exact y)]⟩
  · intro hz; unfold M.woV; rw [if_neg hz]
  · intro hz
    obtain ⟨gd, _, _, e⟩ := M.wo_fine hz
    have tlen : (M.gt G.m).length = G.ks.length := tl_len G.ks
    exact ⟨e, by rw [List.length_map, tl_len], by rw [← tlen]; exact gd.t0, by rw [← tlen]; exact gd.t12⟩
  · exact fun W hW' => hW G f W (hg.below hW')
  · intro hz k hk W hW'
    obtain ⟨gd, f0, fl, e⟩ := M.wo_fine hz
    obtain ⟨fn, rfl⟩ : ∃ n : Nat, f = (n : Int) := ⟨f.toNat, by omega⟩
    have tz : (M.treeF G.ks[k].2.1 (M.gf G.m)).2 = 0 := gd.trees G.ks[k].2.1 (List.mem_map.2 ⟨_, List.getElem_mem hk, rfl⟩)
    obtain ⟨m, hm⟩ : ∃ m : Nat, M.gf G.m = (m : Int) := ⟨(M.gf G.m).toNat, by have := gd.f0; omega⟩
    have eT : ((tl G.ks).map (M.woT (fn : Int))).getD k [] = M.woT (fn : Int) G.ks[k].2.1 := by
      have h1 : k < (tl G.ks).length := by rw [tl_len]; exact hk
      rw [M.getD_at (by rw [List.length_map]; exact h1), List.getElem_map]
      simp [tl]
    rw [eT]
    have wt := M.woT_tree (fn : Int) tz
    refine ⟨fun z => ?_, ?_⟩
    · have q := (M.tree_ok wt.1).1.2.1
      rw [z] at q
      simp at q
    · have F := (M.tree_ok tz).1
      rw [hm] at F
      have r := rwo_any G.ks[k].1 G.ks[k].2.1 G.ks[k].2.2 m fn W ((hg.below hW').2.2.1 _ (List.getElem_mem hk)) F
      have el : (M.woT (fn : Int) G.ks[k].2.1).length = (M.wo (fn : Int) (M.bt G.ks[k].2.1 0)).size := by unfold M.woT; rw [M.lay_len]
      rw [el]
      exact r
  · exact fun P Q W h1 h2 hm => grovesame_any P Q W h1 h2 hm
  · exact fun W hW' => rready_any a b ts xs ct cx W (ht.below hW') (hx.below hW')
  · intro hz W hW'
    have e : M.gnV ts (sms xs) = M.gainsV ts (sms xs) := by unfold M.gnV; rw [if_pos hz]
    rw [e]
    exact (hR a b ts xs ct cx W (ht.below hW') (hx.below hW') hz).mono fun r w' ⟨p, c, h1, h2, _, h4⟩ => ⟨p, c, h1, h2, h4⟩
  · intro hz; unfold M.gnV; rw [if_neg hz]
  · exact fun W hW' => hN a b ts xs ct cx W (ht.below hW') (hx.below hW')
  · refine ⟨fun h => by unfold M.sameF; rw [if_pos h], fun h y => by unfold M.sameF; rw [if_neg (by simp [h]), if_pos y], fun h y => by unfold M.sameF; rw [if_neg (by simp [h]), if_neg y]⟩
  · refine ⟨fun h => by unfold M.sameV; rw [if_neg h], fun h => ?_⟩
    have ln : la.length = lb.length := by
      by_cases q : la.length = lb.length
      · exact q
      · unfold M.sameF at h; rw [if_pos q] at h; cases h
    have l1 : la.length ≤ 1000 := by
      by_cases q : 1000 < la.length
      · unfold M.sameF at h; rw [if_neg (by simp [ln]), if_pos q] at h; cases h
      · omega
    refine ⟨?_, rfl, fun k hk => ⟨Int.natCast_nonneg _, ?_, ?_⟩⟩
    · unfold M.sameV
      rw [if_pos h, List.take_length]
      rw [ln, List.take_length]
    · have := M.same_le (la.take k) (lb.take k)
      rw [List.length_take] at this
      omega
    · have := M.same_more ln hk
      show ((M.sameN (la.take (k + 1)) (lb.take (k + 1)) : Nat) : Int) = _
      rw [this]
      split
      · simp
      · simp
  · exact fun W hW' => hS ia ib la lb ca cb W (ha.below hW') (hb.below hW')

end Go.Proofs.YtlloiccodjnkcagGreatDoor
