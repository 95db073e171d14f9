/-
  What the walks of the laws on pieces take of a Fetch: where it lies (whatever blocks it keeps), and what New, Put, Lacks and Bytes answer.
-/
import Derived.Test.YtelncekgjfpogahDoorChP
import Derived.Test.YtelncekgjfpogahDoorMathKb
import Derived.Test.YtelncekgjfpogahDoorStayB
namespace Go.Proofs.YtelncekgjfpogahDoor
open Go.ChangeShapes Go.WideShapes Go.ChangeAt Go.RowKit Go.Lib
set_option linter.unusedVariables false

/-- a Fetch in some blocks -/
structure FchGives (FA : World → Nat → (Nat → Prop) → List M.Pt → M.Has → Prop) : Prop where
  lt : ∀ {W : World} {f : Nat} {K : Nat → Prop} {l : List M.Pt} {h : M.Has}, FA W f K l h → ∀ q, K q → q < W.heap.size
  up : ∀ {W W' : World} {f : Nat} {K : Nat → Prop} {l : List M.Pt} {h : M.Has}, FA W f K l h → (∀ q, K q → W'.heap[q]? = W.heap[q]?) → W.heap.size ≤ W'.heap.size → FA W' f K l h
  new : ∀ (a : Option Addr) (l : List M.Pt) (c : Nat) (W : World), RdP W a l → M.partsF l = 0 → Calls Tryd.prog 13 #[.slice a l.length c] W fun e w' => ∃ f K, e = .returned (.tuple #[.pointer (some ⟨f, 0, none⟩), .nilIface]) ∧ FA w' f K l (M.has0 l) ∧ (∀ q, K q → W.heap.size ≤ q) ∧ Below W.heap.size W w'
  bad : ∀ (a : Option Addr) (l : List M.Pt) (c : Nat) (W : World), RdP W a l → M.partsF l ≠ 0 → Calls Tryd.prog 13 #[.slice a l.length c] W fun e w' => ∃ v, e = .returned (.tuple #[v, errV (M.partsF l)]) ∧ Below W.heap.size W w'
  put : ∀ {W : World} {f : Nat} {K : Nat → Prop} {l : List M.Pt} {h : M.Has} (i : Int) (a : Option Addr) (bs : List Nat) (c : Nat), FA W f K l h → RdB W a bs → bs.length ≤ c → c ≤ 9223372036854775807 → bs.length ≤ 140737488351232 → (a = none → c = 0) → (∀ p, a = some p → ¬ K p.block) → -9223372036854775808 ≤ i → i ≤ 9223372036854775807 → Calls Tryd.prog 14 #[.pointer (some ⟨f, 0, none⟩), .int .i64 i, .slice a bs.length c] W fun e w' => ∃ K', e = .returned (.tuple #[.bool (M.putN l h i bs), errV (M.putF l i bs)]) ∧ FA w' f K' l (M.putH l h i bs) ∧ StayBut K W w' ∧ (∀ q, K' q → K q ∨ W.heap.size ≤ q)
  lacks : ∀ {W : World} {f : Nat} {K : Nat → Prop} {l : List M.Pt} {h : M.Has}, FA W f K l h → Calls Tryd.prog 16 #[.pointer (some ⟨f, 0, none⟩)] W fun e w' => ∃ va vc, e = .returned (.slice va (M.lackL h).length vc) ∧ Rd w' va (M.lackL h) ∧ Below W.heap.size W w'
  bytes : ∀ {W : World} {f : Nat} {K : Nat → Prop} {l : List M.Pt} {h : M.Has}, FA W f K l h → Calls Tryd.prog 15 #[.pointer (some ⟨f, 0, none⟩)] W fun e w' => ∃ va vc, e = .returned (.tuple #[.slice va (M.bytV h).length vc, errV (M.bytF h)]) ∧ RdB w' va (M.bytV h) ∧ Below W.heap.size W w'

end Go.Proofs.YtelncekgjfpogahDoor
