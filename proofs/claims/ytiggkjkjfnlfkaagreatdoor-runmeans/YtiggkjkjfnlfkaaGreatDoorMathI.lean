/-
  How many nodes a tree has as it is told; a tree pruned or sorted; no condition beyond those named.
-/
import Derived.Test.YtiggkjkjfnlfkaaGreatDoorMathA
namespace Go.Proofs.YtiggkjkjfnlfkaaGreatDoor.M
set_option linter.unusedVariables false

def BT.lvs : BT → Nat
  | .lf _ => 1
  | .nd _ _ _ l r => l.lvs + r.lvs
theorem BT.two : ∀ T : BT, T.size + 1 = 2 * T.lvs
  | .lf _ => rfl
  | .nd _ _ _ l r => by
    have a := l.two
    have b := r.two
    unfold BT.size BT.lvs
    omega
theorem bt_lvs {t : List Nd} {m : Int} (h : Right t m) : ∀ (k i : Nat), i < t.length → t.length ≤ k + i → (bt t i).lvs = lfs t i
  | 0, i, hi, hk => by omega
  | k + 1, i, hi, hk => by
    by_cases hl : nf (nAt t i) = -1
    · rw [bt_leaf hi hl, lfs_leaf hi hl]; rfl
    · obtain ⟨a, b, ea, eb, h1, h2, h3, h4, _⟩ := ask_at h hi hl
      rw [bt_ask h hi hl ea eb, lfs_ask h hi hl ea eb]
      show (bt t a).lvs + (bt t b).lvs = _
      rw [bt_lvs h k a h2 (by omega), bt_lvs h k b h4 (by omega)]
/-- a tree that is right has its nodes, each once -/
theorem bt_size {t : List Nd} {m : Int} (F : Fair t m) : (bt t 0).size = t.length := by
  have a := (bt t 0).two
  have b := bt_lvs F.2.2.2.2.1 t.length 0 F.2.1 (by omega)
  have c := leaves_count F
  have d := halves F
  omega

/-- what comes of a tree, pruned -/
noncomputable def prunV (t : List Nd) (m : Int) : List Nd := if (treeF t m).2 = 0 then lay (prn (vld m.toNat) (bt t 0)) 0 else []
/-- .. and sorted -/
def sortV (t : List Nd) (m : Int) : List Nd := if (treeF t m).2 = 0 then lay (bt t 0) 0 else []
theorem fair_nat {t : List Nd} {m : Int} (h : (treeF t m).2 = 0) : Fair t ((m.toNat : Nat) : Int) ∧ ((m.toNat : Nat) : Int) = m := by
  have F := (tree_ok h).1
  have e : ((m.toNat : Nat) : Int) = m := by have := F.2.2.1; omega
  rw [e]; exact ⟨F, rfl⟩
/-- what is pruned is right -/
theorem prun_tree {t : List Nd} {m : Int} (h : (treeF t m).2 = 0) : (treeF (prunV t m) m).2 = 0 ∧ (prunV t m).length ≤ t.length := by
  have F := (tree_ok h).1
  have ok := bt_ok F.2.2.2.2.1 t.length 0 F.2.1 (by omega)
  have sz := prn_size (bt t 0) (vld m.toNat)
  have bs := bt_size F
  have l63 := F.1
  have dp := tree_deep h
  have bd := bt_deep F.2.2.2.2.1 t.length 0 F.2.1 (by omega)
  unfold prunV
  rw [if_pos h]
  exact ⟨lay_tree (prn_ok _ _ ok) F.2.2.1 F.2.2.2.1 (by omega) (by omega), by rw [lay_len]; omega⟩
/-- what is sorted is right -/
theorem sort_tree {t : List Nd} {m : Int} (h : (treeF t m).2 = 0) : (treeF (sortV t m) m).2 = 0 ∧ (sortV t m).length = t.length := by
  have F := (tree_ok h).1
  have ok := bt_ok F.2.2.2.2.1 t.length 0 F.2.1 (by omega)
  have bs := bt_size F
  have l63 := F.1
  have dp := tree_deep h
  have bd := bt_deep F.2.2.2.2.1 t.length 0 F.2.1 (by omega)
  unfold sortV
  rw [if_pos h]
  exact ⟨lay_tree ok F.2.2.1 F.2.2.2.1 (by omega) (by omega), by rw [lay_len]; omega⟩
/-- what is laid says what it is told -/
theorem lay_eval {T : BT} {r : List Int} (ok : okB (r.length : Int) T) (hz : (treeF (lay T 0) (r.length : Int)).2 = 0) (hr : rowF r = 0) : readyF (lay T 0) r = 0 ∧ evalV (lay T 0) r = evB T r := by
  have hy : readyF (lay T 0) r = 0 := by rw [ready_tree hr]; exact hz
  refine ⟨hy, ?_⟩
  have F := (tree_ok hz).1
  have := bt_ev F.2.2.2.2.1 r (lay T 0).length 0 F.2.1 (by omega)
  rw [bt_of_lay ok] at this
  rw [this]
  unfold evalV
  rw [if_pos hy]
theorem eval_bt {t : List Nd} {r : List Int} (h : readyF t r = 0) : evalV t r = evB (bt t 0) r := by
  have F := (tree_ok (ready_ok h).2).1
  rw [bt_ev F.2.2.2.2.1 r t.length 0 F.2.1 (by omega)]
  unfold evalV
  rw [if_pos h]
/-- pruned, a tree tells the same -/
theorem prun_eval {t : List Nd} {r : List Int} (h : readyF t r = 0) : readyF (prunV t (r.length : Int)) r = 0 ∧ evalV (prunV t (r.length : Int)) r = evalV t r := by
  have hr := (ready_ok h).1
  have hz := (ready_ok h).2
  have F := (tree_ok hz).1
  have ok := bt_ok F.2.2.2.2.1 t.length 0 F.2.1 (by omega)
  have pt := (prun_tree hz).1
  unfold prunV at pt ⊢
  rw [if_pos hz] at pt ⊢
  obtain ⟨e1, e2⟩ := lay_eval (prn_ok _ _ ok) pt hr
  refine ⟨e1, ?_⟩
  rw [e2, eval_bt h]
  exact prn_ev _ _ r ⟨hr, by rw [Int.toNat_natCast]⟩
/-- sorted, too -/
theorem sort_eval {t : List Nd} {r : List Int} (h : readyF t r = 0) : readyF (sortV t (r.length : Int)) r = 0 ∧ evalV (sortV t (r.length : Int)) r = evalV t r := by
  have hr := (ready_ok h).1
  have hz := (ready_ok h).2
  have F := (tree_ok hz).1
  have ok := bt_ok F.2.2.2.2.1 t.length 0 F.2.1 (by omega)
  have pt := (sort_tree hz).1
  unfold sortV at pt ⊢
  rw [if_pos hz] at pt ⊢
  obtain ⟨e1, e2⟩ := lay_eval ok pt hr
  exact ⟨e1, by rw [e2, eval_bt h]⟩
/-- pruned once more it stays -/
theorem prun_again {t : List Nd} {m : Int} (h : (treeF t m).2 = 0) : prunV (prunV t m) m = prunV t m := by
  have F := (tree_ok h).1
  have ok := bt_ok F.2.2.2.2.1 t.length 0 F.2.1 (by omega)
  have pt := (prun_tree h).1
  have e : prunV t m = lay (prn (vld m.toNat) (bt t 0)) 0 := by unfold prunV; rw [if_pos h]
  rw [e] at pt ⊢
  unfold prunV
  rw [if_pos pt, bt_of_lay (prn_ok _ _ ok), prn_again]

end Go.Proofs.YtiggkjkjfnlfkaaGreatDoor.M
