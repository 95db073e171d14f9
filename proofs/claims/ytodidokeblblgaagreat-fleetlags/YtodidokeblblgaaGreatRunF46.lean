/-
  Several texts as one: GEach.
-/
import Derived.Test.YtodidokeblblgaaGreatRunF17
import Derived.Test.YtodidokeblblgaaGreatRunF30
import Derived.Test.YtodidokeblblgaaGreatRunF32
import Derived.Test.YtodidokeblblgaaGreatRunF18
import Derived.Test.YtodidokeblblgaaGreatRunF19
import Derived.OwnWalk
namespace Go.Proofs.YtodidokeblblgaaGreat
open Go.ChangeShapes Go.WideShapes Go.ChangeAt Go.RowKit Go.Lib
set_option linter.unusedVariables false
theorem M.each_vw {g : M.Gv} {r : List Int} (h : M.standF g r = 0) : Vw (M.gs g) (M.eachL g r) := by
  obtain ⟨K, _, _⟩ := M.stand_ok h
  have hE := M.each_len g r
  exact ⟨by rw [hE]; exact K.len, by rw [hE]; exact K.t0, by rw [hE]; exact K.t12, fun i hi => M.each_in h (by rw [← hE]; exact hi), fun i hi => M.wt_at K (by rw [← hE]; exact hi)⟩
end Go.Proofs.YtodidokeblblgaaGreat
