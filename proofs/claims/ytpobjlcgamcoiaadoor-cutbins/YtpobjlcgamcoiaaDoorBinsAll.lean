/-
  The law CutBins: for every three lists and every three numbers it returns true; the variable errors.errorType holds the handle of the type error.
-/
import Derived.Test.YtpobjlcgamcoiaaDoorBinsWalk
namespace Go.Proofs.YtpobjlcgamcoiaaDoor
open Go.ChangeShapes Go.WideShapes Go.ChangeAt Go.RowKit Go.Shelf Go.Lib Go.Sort
set_option linter.unusedVariables false

theorem nil_cap {k : IntKind} {w : World} {a : Option Addr} {len cap : Nat} {zs : List Int} (h : IsRow k w a len cap zs) : a = none → cap = 0 := by
  rcases h with ⟨_, _, h, _⟩ | ⟨x, rfl, _⟩
  · exact fun _ => h
  · intro h; cases h

theorem bins_walk (a b c : Option Addr) (xs ys ls : List Int) (ca cb cc : Nat) (m x k : Int) (w : World) (ha : Rd w a xs) (hb : Rd w b ys) (hc : Rd w c ls)
    (na : a = none → ca = 0) (nb : b = none → cb = 0) (nc : c = none → cc = 0) (hg : Lays w) :
    Calls Tryd.prog 3 #[.slice a xs.length ca, .slice b ys.length cb, .slice c ls.length cc, .int .i64 m, .int .i64 x, .int .i64 k] w fun e w' => e = .returned (.bool true) ∧ Below w.heap.size w w' := by
  have F4z : M.f4 xs k = 0 → M.cutsI xs = 0 := fun h => by
    by_cases hc : M.cutsI xs = 0
    · exact hc
    · exact absurd (((M.F4a xs k).1 hc).symm.trans h) hc
  have F5z : M.f5 xs ls = 0 → M.cutsI xs = 0 ∧ M.valsI ls = 0 := fun h => by
    by_cases hc : M.cutsI xs = 0
    · exact ⟨hc, by rw [← (M.F5a xs ls).2 hc]; exact h⟩
    · exact absurd (((M.F5a xs ls).1 hc).symm.trans h) hc
  have F6z : M.f6 xs ys = 0 → M.cutsI xs = 0 ∧ M.cutsI ys = 0 := fun h => by
    by_cases hc : M.cutsI xs = 0
    · exact ⟨hc, by rw [← (M.F6a xs ys).2 hc]; exact h⟩
    · exact absurd (((M.F6a xs ys).1 hc).symm.trans h) hc
  exact bins_core a b c xs ys ls ca cb cc m x k w (M.cutsI xs) (M.valsI ls) (M.cutsI ys) (M.f2 ls m) (M.f3 xs x) (M.n3 xs x) (M.f4 xs k) (M.lo4 xs k) (M.hi4 xs k) (M.f5 xs ls) (M.f6 xs ys) (M.g6 xs ys) (M.c2 ls m) (M.c5 xs ls) (M.c6 xs ys) (M.outI x)
    (fun W hW => ha.below hW) (fun W hW => hb.below hW) (fun W hW => hc.below hW) na nb ha.1
    (fun W hW => rcuts_any a xs ca W (ha.below hW))
    (fun W hW => check_any a xs ca W (ha.below hW))
    (fun c W hW => error_same c W (hg.below hW))
    (fun W hW => rvals_any c ls cc W (hc.below hW))
    (fun W hW => Cuts_any c ls cc m W (hc.below hW))
    (fun hf W hW => rcutsof_any c ls cc m W (hc.below hW) nc hf)
    (M.F2a ls m) (M.C2a ls m)
    (fun W hW => Bin_any a xs ca x W (ha.below hW))
    (fun z W hW => rbin_any a xs ca z W (ha.below hW))
    (fun W => rcell_any x W)
    (M.F3a xs x) (M.N3a xs x)
    (fun W hW => Ends_any a xs ca k W (ha.below hW))
    (M.F4a xs k) (M.N4a xs k)
    (fun h z hz => M.out_false (((M.cuts_ok xs).1 (F4z h)).2.1 z hz))
    (fun W hW => Count_any a c xs ls ca cc W (ha.below hW) (hc.below hW))
    (M.F5a xs ls) (M.C5a xs ls)
    (fun h => ⟨by unfold M.c5; rw [if_pos h], ((M.cuts_ok xs).1 (F5z h).1).1, ((M.vals_ok ls).1 (F5z h).2).1⟩)
    (fun W hW => Merge_any a b xs ys ca cb W (ha.below hW) (hb.below hW) na nb)
    (M.F6a xs ys)
    (fun W hW => rcuts_any b ys cb W (hb.below hW))
    (fun h => by
      have e : M.g6 xs ys = M.f6 xs ys := by unfold M.g6; rw [if_neg h]
      exact ⟨e, by unfold M.c6; rw [if_neg (by rw [e]; exact h)]⟩)
    (fun h h60 => by
      have e : M.g6 xs ys = 4 := by unfold M.g6; rw [if_pos h, if_pos h60]
      exact ⟨e, by unfold M.c6; rw [if_neg (by rw [e]; decide)]⟩)
    (fun h h60 => by
      have e : M.g6 xs ys = 0 := by unfold M.g6; rw [if_pos h, if_neg h60]
      exact ⟨e, by unfold M.c6; rw [if_pos e]⟩)
    (fun h => ⟨((M.cuts_ok xs).1 (F6z h).1).1, ((M.cuts_ok ys).1 (F6z h).2).1⟩)

end Go.Proofs.YtpobjlcgamcoiaaDoor
