/-
  Several texts as one: WeiSort.
-/
import Derived.Test.YtlloiccodjnkcagGreatDoorRunW22
import Derived.Test.YtlloiccodjnkcagGreatDoorShelfW
import Derived.Shelf.SlSortCmp.WholeK
import Derived.Lib.OwnBridge
namespace Go.Proofs.YtlloiccodjnkcagGreatDoor
open Go.ChangeShapes Go.WideShapes Go.ChangeAt Go.RowKit Go.Shelf Go.Lib Go.Sort
set_option linter.unusedVariables false

def encU (u : M.Us) : List Value := [.int .i64 u.1, .int .i64 u.2.1, .int .i64 u.2.2]
theorem lt_cmpU (key : M.Us → Int) (a b : M.Us) : ltOf (M.cmpU key) a b = decide (key b < key a ∨ (key a = key b ∧ a.1 < b.1)) := by
  unfold ltOf M.cmpU M.orI Lib.compareInt
  by_cases h1 : key b < key a
  · simp [h1]
  · by_cases h2 : key a < key b
    · have h3 : ¬ key a = key b := by omega
      simp [h1, h2, h3]
    · have h3 : key a = key b := by omega
      by_cases h4 : a.1 < b.1
      · simp [h3, h4]
      · by_cases h5 : b.1 < a.1 <;> simp [h3, h4, h5]
theorem swo_cmpU (key : M.Us → Int) : SWO (ltOf (M.cmpU key)) where
  irrefl x := by rw [lt_cmpU]; simp
  trans x y z h1 h2 := by rw [lt_cmpU, decide_eq_true_iff] at *; omega
  ntrans x y z h1 h2 := by rw [lt_cmpU, decide_eq_false_iff_not] at *; omega
theorem holdsU {w : World} {base g cap : Nat} {F : List M.Us} (h : w.ownsRow base 50 3 (.slice (some ⟨g, 0, none⟩) F.length cap) F.length (usCells F)) : HoldsK encU 3 w g 0 F.toArray := by
  intro j hj
  have hj' : j < F.length * 3 := by simpa using hj
  rw [get_flatK _ _ _ _ (by simpa using hj'), Nat.zero_add]
  refine ⟨?_, h.frozenAt j⟩
  rw [h.cellAt j (by omega)]
  have hi : j / 3 < F.length := by omega
  obtain ⟨q0, q1, q2⟩ := usCells_at F (j / 3) hi
  have e : F.toArray[j / 3]! = M.uAt F (j / 3) := by rw [uAt_in F hi]; simp [hi]
  rw [e]
  rcases (show j % 3 = 0 ∨ j % 3 = 1 ∨ j % 3 = 2 by omega) with r | r | r
  · rw [r, show j = j / 3 * 3 by omega, q0, show j / 3 * 3 / 3 = j / 3 by omega]; rfl
  · rw [r, show j = j / 3 * 3 + 1 by omega, q1, show (j / 3 * 3 + 1) / 3 = j / 3 by omega]; rfl
  · rw [r, show j = j / 3 * 3 + 2 by omega, q2, show (j / 3 * 3 + 2) / 3 = j / 3 by omega]; rfl
theorem rdU_holds {w : World} {g : Nat} {d : Array M.Us} (h : HoldsK encU 3 w g 0 d) (hl : d.size ≤ maxLen) (hg : g < w.heap.size) : RdU w (some ⟨g, 0, none⟩) d.toList := by
  refine ⟨by simpa using hl, fun _ => ⟨g, 0, rfl, hg, fun i hi => ?_⟩⟩
  have hi' : i < d.size := by simpa using hi
  have e : M.uAt d.toList i = d[i]! := by rw [uAt_in _ hi]; simp [hi']
  have c0 := (h.cell hi' (c := 0) (by omega)).1
  have c1 := (h.cell hi' (c := 1) (by omega)).1
  have c2 := (h.cell hi' (c := 2) (by omega)).1
  rw [← e] at c0 c1 c2
  exact ⟨c0, c1, c2⟩

theorem sortU_own : SortUGives := by
  intro did key hd bm base a cap F w hown h8 hbase hbm hlt
  rcases hown.2 with ⟨h0, hz⟩ | ⟨g, cap', cur, hv, hb0, hb, h1, h2, h3, h4⟩
  · have e : F = [] := List.length_eq_zero_iff.1 hz
    subst e
    refine (Tryz.slices_SortFunc_no a cap _ w).mono ?_
    rintro e w' ⟨rfl, rfl⟩
    exact ⟨rfl, [], List.Perm.refl _, (fun i j hi hj => by simp at hj), ⟨Nat.zero_le _, fun h => absurd rfl h⟩, Below.refl _ _⟩
  · rw [Value.slice.injEq] at hv
    obtain ⟨rfl, _, rfl⟩ := hv
    have hg : g < w.heap.size := (Array.getElem?_eq_some_iff.1 hb).1
    have hH := holdsU hown
    have gb : bm ≠ g := by omega
    have hc : CmpLays Tryz.prog 56 #[.pointer (some ⟨bm, 0, none⟩)] encU 3 (M.cmpU key) g 0 F.toArray.size w := fun m os dk _ x y => by
      refine cmpU_any did key hd Tryz.cmp_Compare bm x y _ ?_
      unfold sortWorldK
      rw [cell?_grow _ _ _ (by show bm < _; simp [putRowK, putRow, mapBlock, Sort.ahead]; omega), cell?_putRowK_other _ _ _ _ _ _ _ gb]
      exact hbm
    have K := Tryz.slices_SortFunc_us encU (fun _ => rfl) (fun x v hv => by simp [encU] at hv; rcases hv with rfl | rfl | rfl <;> rfl) (M.cmpU key) (swo_cmpU key) 56 #[.pointer (some ⟨bm, 0, none⟩)] g 0 cap F.toArray w (enters_of Tryz.func56 (by kernel_rfl) rfl) hc hH hg (by simp; omega)
    rw [List.size_toArray] at K
    refine K.mono ?_
    rintro e w' ⟨rfl, d', n, os, hp, hs, rfl⟩
    have hsz : d'.size = F.length := by simpa using hp.1
    have hperm : d'.toList.Perm F := by
      have q := hp.2.2
      have e1 : (d'.extract 0 F.length).toList = d'.toList := by rw [← hsz]; simp
      have e2 : (F.toArray.extract 0 F.length).toList = F := by simp
      rw [e1, e2] at q
      exact q
    have hbl : RowKit.Below base w (putRowK encU 3 (Sort.ahead w n) g 0 d') := below_putRow (Below.refl base w) hb0
    have hps : (putRowK encU 3 (Sort.ahead w n) g 0 d').heap.size = w.heap.size := by simp [putRowK, putRow, mapBlock, Sort.ahead]
    refine ⟨rfl, d'.toList, hperm, fun i j hi hj => ?_, ?_, ?_⟩
    · have hj' : j < d'.size := by simpa using hj
      have q := hs i j (Nat.zero_le _) hi (by omega)
      rw [lt_cmpU, decide_eq_false_iff_not] at q
      rw [getElem!_pos d' i (by omega), getElem!_pos d' j hj'] at q
      simpa using q
    · refine rdU_holds ?_ (by unfold maxLen; omega) (by unfold sortWorldK; simp; omega)
      unfold sortWorldK
      exact holdsK_grow _ _ _ _ _ _ _ (by omega) (holdsK_putRowK _ _ _ _ _ _ _ (holdsK_ahead _ _ _ n _ _ _ hH) (by simpa using hsz))
    · refine hbl.trans ?_
      exact Gro.below ⟨0, os, rfl⟩ (by omega)

end Go.Proofs.YtlloiccodjnkcagGreatDoor
