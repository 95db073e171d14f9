/-
  What package cut's functions answer, each in one sentence, for every argument: the fault that comes first, and what is told where there is none.
-/
import Derived.Test.YtpobjlcgamcoiaaDoorRCutsOf
import Derived.Test.YtpobjlcgamcoiaaDoorRCuts
import Derived.Test.YtpobjlcgamcoiaaDoorCuts
import Derived.Test.YtpobjlcgamcoiaaDoorCount
import Derived.Test.YtpobjlcgamcoiaaDoorInts
import Derived.Test.YtpobjlcgamcoiaaDoorError
namespace Go.Proofs.YtpobjlcgamcoiaaDoor
open Go.ChangeShapes Go.WideShapes Go.ChangeAt Go.RowKit Go.Shelf Go.Lib Go.Sort
set_option linter.unusedVariables false

namespace M
def f2 (l : List Int) (m : Int) : Int := if m < 1 ∨ 60 < m then 1 else valsI l
def c2 (l : List Int) (m : Int) : List Int := if f2 l m = 0 then cutsOfI l m.toNat else []
def f3 (a : List Int) (x : Int) : Int := if cutsI a = 0 then (if outI x then 1 else 0) else cutsI a
def n3 (a : List Int) (x : Int) : Int := if f3 a x = 0 then (binI a x : Nat) else 0
def f4 (a : List Int) (k : Int) : Int := if cutsI a = 0 then (if k < 0 ∨ (a.length : Int) < k then 1 else 0) else cutsI a
def lo4 (a : List Int) (k : Int) : Int := if f4 a k = 0 then lowI a k.toNat else 0
def hi4 (a : List Int) (k : Int) : Int := if f4 a k = 0 then highI a k.toNat else 0
def f5 (a l : List Int) : Int := if cutsI a = 0 then valsI l else cutsI a
def c5 (a l : List Int) : List Int := if f5 a l = 0 then cntI a l l.length else []
def f6 (a b : List Int) : Int := if cutsI a = 0 then cutsI b else cutsI a
def g6 (a b : List Int) : Int := if f6 a b = 0 then (if 60 < (mergeI a b).length then 4 else 0) else f6 a b
def c6 (a b : List Int) : List Int := if g6 a b = 0 then mergeI a b else []
end M

theorem rd_nil (w : World) : Rd w none [] := ⟨Nat.zero_le _, fun h => absurd rfl h⟩

theorem own_rd0 {w : World} {base : Nat} {v : Value} {F : List Int} (h : w.ownsRow base 3 1 v F.length (F.map (Value.int .i64))) :
    ∃ a cap, v = .slice a F.length cap ∧ Rd w a F := by
  obtain ⟨a, cap, e, hr, _⟩ := own_rd h
  exact ⟨a, cap, e, hr⟩

theorem Cuts_any (a : Option Addr) (l : List Int) (ca : Nat) (m : Int) (w : World) (ha : Rd w a l) :
    Calls Tryd.prog 9 #[.slice a l.length ca, .int .i64 m] w fun e w' => ∃ ag cg, e = .returned (.tuple #[.slice ag (M.c2 l m).length cg, errV (M.f2 l m)]) ∧ Rd w' ag (M.c2 l m) ∧ Below w.heap.size w w' := by
  by_cases hm : m < 1 ∨ 60 < m
  · have e1 : M.f2 l m = 1 := by unfold M.f2; rw [if_pos hm]
    have e2 : M.c2 l m = [] := by unfold M.c2; rw [if_neg (by rw [e1]; decide)]
    rw [e1, e2, err_some (by decide)]
    refine (Cuts_many a l ca m w hm).mono ?_
    rintro e w' ⟨rfl, rfl⟩
    exact ⟨none, 0, rfl, rd_nil _, Below.refl _ _⟩
  · have e1 : M.f2 l m = M.valsI l := by unfold M.f2; rw [if_neg hm]
    by_cases hv : M.valsI l = 0
    · have e2 : M.c2 l m = M.cutsOfI l m.toNat := by unfold M.c2; rw [if_pos (by rw [e1]; exact hv)]
      rw [e1, e2, err_nil hv]
      obtain ⟨n, rfl⟩ : ∃ n : Nat, m = n := ⟨m.toNat, by omega⟩
      rw [Int.toNat_natCast]
      by_cases hl : l = []
      · subst hl
        rw [cutsOf_nil]
        refine (Cuts_none a ca n w ha (by omega) (by omega)).mono ?_
        rintro e w' ⟨rfl, hb⟩
        exact ⟨none, 0, rfl, rd_nil _, hb⟩
      · obtain ⟨b, off, rfl, hb, hc⟩ := ha.2 hl
        refine (Cuts_ok b off l ca n w hb hc (List.length_pos_iff.2 hl) (by omega) (by omega) hv).mono ?_
        rintro e w' ⟨v, rfl, hown, hb2⟩
        obtain ⟨ag, cg, rfl, hr⟩ := own_rd0 hown
        exact ⟨ag, cg, rfl, hr, hb2⟩
    · have e2 : M.c2 l m = [] := by unfold M.c2; rw [if_neg (by rw [e1]; exact hv)]
      rw [e1, e2, err_some hv]
      refine (Cuts_bad a l ca m w ha (by omega) (by omega) hv).mono ?_
      rintro e w' ⟨rfl, hb⟩
      exact ⟨none, 0, rfl, rd_nil _, hb⟩

theorem rcutsof_any (a : Option Addr) (l : List Int) (ca : Nat) (m : Int) (w : World) (ha : Rd w a l) (na : a = none → ca = 0) (hf : M.f2 l m = 0) :
    Calls Tryd.prog 8 #[.slice a l.length ca, .int .i64 m] w fun e w' => ∃ ag cg, e = .returned (.slice ag (M.c2 l m).length cg) ∧ Rd w' ag (M.c2 l m) ∧ Below w.heap.size w w' := by
  have e2 : M.c2 l m = M.cutsOfI l m.toNat := by unfold M.c2; rw [if_pos hf]
  rw [e2]
  have hm : ¬ (m < 1 ∨ 60 < m) := by
    intro h; unfold M.f2 at hf; rw [if_pos h] at hf; cases hf
  have hv : M.valsI l = 0 := by unfold M.f2 at hf; rwa [if_neg hm] at hf
  obtain ⟨n, rfl⟩ : ∃ n : Nat, m = n := ⟨m.toNat, by omega⟩
  rw [Int.toNat_natCast]
  by_cases hl : l = []
  · subst hl
    rw [cutsOf_nil]
    refine (rcutsof_none a ca n w na (by omega) (by omega)).mono ?_
    rintro e w' ⟨rfl, hb⟩
    exact ⟨none, 0, rfl, rd_nil _, hb⟩
  · obtain ⟨b, off, rfl, hb, hc⟩ := ha.2 hl
    refine (rcutsof_some b off l ca n w hb hc (List.length_pos_iff.2 hl) ((M.vals_ok l).1 hv).1 (by omega) (by omega)).mono ?_
    rintro e w' ⟨v, rfl, hown, hb2⟩
    obtain ⟨ag, cg, rfl, hr⟩ := own_rd0 hown
    exact ⟨ag, cg, rfl, hr, hb2⟩

theorem Bin_any (a : Option Addr) (xs : List Int) (cap : Nat) (x : Int) (w : World) (h : Rd w a xs) :
    Calls Tryd.prog 13 #[.slice a xs.length cap, .int .i64 x] w fun e w' => e = .returned (.tuple #[.int .i64 (M.n3 xs x), errV (M.f3 xs x)]) ∧ Below w.heap.size w w' := by
  by_cases hc : M.cutsI xs = 0
  · cases ho : M.outI x with
    | true =>
      have e1 : M.f3 xs x = 1 := by unfold M.f3; rw [if_pos hc, ho]; rfl
      have e2 : M.n3 xs x = 0 := by unfold M.n3; rw [if_neg (by rw [e1]; decide)]
      rw [e1, e2, err_some (by decide)]
      exact Bin_out a xs cap x w h hc ho
    | false =>
      have e1 : M.f3 xs x = 0 := by unfold M.f3; rw [if_pos hc, ho]; rfl
      have e2 : M.n3 xs x = (M.binI xs x : Nat) := by unfold M.n3; rw [if_pos e1]
      rw [e1, e2, err_nil rfl]
      exact Bin_ok a xs cap x w h hc ho
  · have e1 : M.f3 xs x = M.cutsI xs := by unfold M.f3; rw [if_neg hc]
    have e2 : M.n3 xs x = 0 := by unfold M.n3; rw [if_neg (by rw [e1]; exact hc)]
    rw [e1, e2, err_some hc]
    exact Bin_bad a xs cap x w h hc

theorem Ends_any (a : Option Addr) (xs : List Int) (cap : Nat) (k : Int) (w : World) (h : Rd w a xs) :
    Calls Tryd.prog 14 #[.slice a xs.length cap, .int .i64 k] w fun e w' => e = .returned (.tuple #[.int .i64 (M.lo4 xs k), .int .i64 (M.hi4 xs k), errV (M.f4 xs k)]) ∧ Below w.heap.size w w' := by
  by_cases hc : M.cutsI xs = 0
  · by_cases hk : k < 0 ∨ (xs.length : Int) < k
    · have e1 : M.f4 xs k = 1 := by unfold M.f4; rw [if_pos hc, if_pos hk]
      have e2 : M.lo4 xs k = 0 := by unfold M.lo4; rw [if_neg (by rw [e1]; decide)]
      have e3 : M.hi4 xs k = 0 := by unfold M.hi4; rw [if_neg (by rw [e1]; decide)]
      rw [e1, e2, e3, err_some (by decide)]
      exact Ends_out a xs cap k w h hc hk
    · have e1 : M.f4 xs k = 0 := by unfold M.f4; rw [if_pos hc, if_neg hk]
      have e2 : M.lo4 xs k = M.lowI xs k.toNat := by unfold M.lo4; rw [if_pos e1]
      have e3 : M.hi4 xs k = M.highI xs k.toNat := by unfold M.hi4; rw [if_pos e1]
      rw [e1, e2, e3, err_nil rfl]
      obtain ⟨n, rfl⟩ : ∃ n : Nat, k = n := ⟨k.toNat, by omega⟩
      rw [Int.toNat_natCast]
      exact Ends_ok a xs cap n w h hc (by omega)
  · have e1 : M.f4 xs k = M.cutsI xs := by unfold M.f4; rw [if_neg hc]
    have e2 : M.lo4 xs k = 0 := by unfold M.lo4; rw [if_neg (by rw [e1]; exact hc)]
    have e3 : M.hi4 xs k = 0 := by unfold M.hi4; rw [if_neg (by rw [e1]; exact hc)]
    rw [e1, e2, e3, err_some hc]
    exact Ends_bad a xs cap k w h hc

theorem Count_any (a b : Option Addr) (xs ys : List Int) (ca cb : Nat) (w : World) (ha : Rd w a xs) (hb : Rd w b ys) :
    Calls Tryd.prog 15 #[.slice a xs.length ca, .slice b ys.length cb] w fun e w' => ∃ ag cg, e = .returned (.tuple #[.slice ag (M.c5 xs ys).length cg, errV (M.f5 xs ys)]) ∧ Rd w' ag (M.c5 xs ys) ∧ Below w.heap.size w w' := by
  by_cases hc : M.cutsI xs = 0
  · have e1 : M.f5 xs ys = M.valsI ys := by unfold M.f5; rw [if_pos hc]
    by_cases hv : M.valsI ys = 0
    · have e2 : M.c5 xs ys = M.cntI xs ys ys.length := by unfold M.c5; rw [if_pos (by rw [e1]; exact hv)]
      rw [e1, e2, err_nil hv]
      refine (Count_ok a b xs ys ca cb w ha hb hc hv).mono ?_
      rintro e w' ⟨g, rfl, hown, hb2⟩
      have hl := M.cnt_len xs ys ys.length
      rw [← hl] at hown
      obtain ⟨ag, cg, e3, hr⟩ := own_rd0 hown
      refine ⟨ag, cg, ?_, hr, hb2⟩
      rw [← e3, hl]
    · have e2 : M.c5 xs ys = [] := by unfold M.c5; rw [if_neg (by rw [e1]; exact hv)]
      rw [e1, e2, err_some hv]
      refine (Count_bad2 a b xs ys ca cb w ha hb hc hv).mono ?_
      rintro e w' ⟨rfl, hb2⟩
      exact ⟨none, 0, rfl, rd_nil _, hb2⟩
  · have e1 : M.f5 xs ys = M.cutsI xs := by unfold M.f5; rw [if_neg hc]
    have e2 : M.c5 xs ys = [] := by unfold M.c5; rw [if_neg (by rw [e1]; exact hc)]
    rw [e1, e2, err_some hc]
    refine (Count_bad1 a b xs ys ca cb w ha hc).mono ?_
    rintro e w' ⟨rfl, hb2⟩
    exact ⟨none, 0, rfl, rd_nil _, hb2⟩

theorem Merge_any (a b : Option Addr) (xs ys : List Int) (ca cb : Nat) (w : World) (ha : Rd w a xs) (hb : Rd w b ys) (na : a = none → ca = 0) (nb : b = none → cb = 0) :
    Calls Tryd.prog 17 #[.slice a xs.length ca, .slice b ys.length cb] w fun e w' => ∃ ag cg, e = .returned (.tuple #[.slice ag (M.c6 xs ys).length cg, errV (M.g6 xs ys)]) ∧ Rd w' ag (M.c6 xs ys) ∧ Below w.heap.size w w' := by
  by_cases hc : M.cutsI xs = 0
  · have e0 : M.f6 xs ys = M.cutsI ys := by unfold M.f6; rw [if_pos hc]
    by_cases hd : M.cutsI ys = 0
    · refine (Merge_core a b xs ys ca cb w ha hb na nb hc hd).mono ?_
      rintro e w' ⟨hb2, ⟨h60, rfl⟩ | ⟨h60, v, rfl, hown⟩⟩
      · have e1 : M.g6 xs ys = 4 := by unfold M.g6; rw [if_pos (by rw [e0]; exact hd), if_pos h60]
        have e2 : M.c6 xs ys = [] := by unfold M.c6; rw [if_neg (by rw [e1]; decide)]
        rw [e1, e2, err_some (by decide)]
        exact ⟨none, 0, rfl, rd_nil _, hb2⟩
      · have e1 : M.g6 xs ys = 0 := by unfold M.g6; rw [if_pos (by rw [e0]; exact hd), if_neg (by omega)]
        have e2 : M.c6 xs ys = M.mergeI xs ys := by unfold M.c6; rw [if_pos e1]
        rw [e1, e2, err_nil rfl]
        obtain ⟨ag, cg, rfl, hr⟩ := own_rd0 hown
        exact ⟨ag, cg, rfl, hr, hb2⟩
    · have e1 : M.g6 xs ys = M.cutsI ys := by unfold M.g6; rw [if_neg (by rw [e0]; exact hd), e0]
      have e2 : M.c6 xs ys = [] := by unfold M.c6; rw [if_neg (by rw [e1]; exact hd)]
      rw [e1, e2, err_some hd]
      refine (Merge_bad2 a b xs ys ca cb w ha hb hc hd).mono ?_
      rintro e w' ⟨rfl, hb2⟩
      exact ⟨none, 0, rfl, rd_nil _, hb2⟩
  · have e0 : M.f6 xs ys = M.cutsI xs := by unfold M.f6; rw [if_neg hc]
    have e1 : M.g6 xs ys = M.cutsI xs := by unfold M.g6; rw [if_neg (by rw [e0]; exact hc), e0]
    have e2 : M.c6 xs ys = [] := by unfold M.c6; rw [if_neg (by rw [e1]; exact hc)]
    rw [e1, e2, err_some hc]
    refine (Merge_bad1 a b xs ys ca cb w ha hc).mono ?_
    rintro e w' ⟨rfl, hb2⟩
    exact ⟨none, 0, rfl, rd_nil _, hb2⟩

theorem error_same (c : Int) (w : World) (hg : Lays w) : Calls Tryd.prog 5 #[errV c, .int .i64 c] w fun e w' => e = .returned (.bool true) ∧ Below w.heap.size w w' := by
  have := error_any c c w hg
  rwa [show (c == c) = true from by simp] at this
theorem Ints_same (a b : Option Addr) (C : List Int) (ca cb : Nat) (w : World) (ha : Rd w a C) (hb : Rd w b C) :
    Calls Tryd.prog 10 #[.slice a C.length ca, .slice b C.length cb] w fun e w' => e = .returned (.bool true) ∧ Below w.heap.size w w' := by
  have h := ints_any a b C C ca cb w ha hb
  rw [decide_eq_true rfl] at h
  exact h

end Go.Proofs.YtpobjlcgamcoiaaDoor
