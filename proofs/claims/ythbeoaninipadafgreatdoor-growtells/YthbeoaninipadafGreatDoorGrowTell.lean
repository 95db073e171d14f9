/-
  GrowTells' own walk, with what package grow answers as premises.
-/
import Derived.Test.YthbeoaninipadafGreatDoorGrowWalk
import Derived.Test.YthbeoaninipadafGreatDoorRefSamp
import Derived.Test.YthbeoaninipadafGreatDoorRefGrow
import Derived.Test.YthbeoaninipadafGreatDoorRefWrong
import Derived.Test.YthbeoaninipadafGreatDoorNdSame
import Derived.Test.YthbeoaninipadafGreatDoorErrJ
namespace Go.Proofs.YthbeoaninipadafGreatDoor
open Go.ChangeShapes Go.WideShapes Go.ChangeAt Go.RowKit Go.Lib
set_option linter.unusedVariables false

theorem below_none {W W' : World} (h : W.grownBy W' none) : Below W.heap.size W W' := (Below.refl _ W).grown h (Nat.le_refl _) (fun k hk => by cases hk)
/-- the reference's Grow, from nothing on -/
theorem rgrow_new (a : Option Addr) (xs : List Sx) (ca : Nat) (m d l : Int) (W : World) (h : RdL W a xs) (hg : M.grwF (sms xs) m d l = 0) :
    Calls Tryz.prog 9 #[.slice none 0 0, .slice a xs.length ca, .int .i64 m, .int .i64 d, .int .i64 l] W fun e w' => ∃ pa pc, e = .returned (.slice pa (M.grwT (sms xs) m d l).length pc) ∧ RdN w' pa (M.grwT (sms xs) m d l) ∧ Below W.heap.size W w' := by
  obtain ⟨gk1, d0, d5, l1, l60⟩ := M.grw_ok hg
  obtain ⟨G, hp, hm, _⟩ := M.sam_ok gk1
  have m8 : m.toNat ≤ 8 := G.m8
  have gt : M.grwT (sms xs) m d l = M.lay (M.growT m.toNat l d.toNat (sms xs)) 0 := by unfold M.grwT; rw [if_pos hg]
  have hd : ((d.toNat : Nat) : Int) = d := Int.toNat_of_nonneg d0
  have sz := (M.grw_tree hg).2.2
  have len : (M.grwT (sms xs) m d l).length = (M.growT m.toNat l d.toNat (sms xs)).size := by rw [gt, M.lay_len]
  have := rgrow_any m.toNat l l1 m8 W.heap.size d.toNat xs a ca [] none 0 W (by omega) h G (by rw [sms_len] at hp; exact hp) ⟨fun p _ e => (by cases e), fun x _ p _ e => (by cases e)⟩ (World.ownsRow_nil _ _ _ _) (Nat.le_refl _) (by simp only [List.length_nil]; omega)
  rw [hm, hd] at this
  refine this.mono ?_
  rintro e w' ⟨g, c, rfl, ho, hgr, _⟩
  have e0 : ([] : List M.Nd).length + (M.growT m.toNat l d.toNat (sms xs)).size = (M.grwT (sms xs) m d l).length := by rw [len]; simp
  rw [e0] at ho ⊢
  have ho2 : w'.ownsRow W.heap.size 57 6 (.slice (some ⟨g, 0, none⟩) (M.grwT (sms xs) m d l).length c) (M.grwT (sms xs) m d l).length (ndCells (M.grwT (sms xs) m d l)) := by
    have e1 : ([] : List M.Nd) ++ M.lay (M.growT m.toNat l d.toNat (sms xs)) ([] : List M.Nd).length = M.grwT (sms xs) m d l := by rw [gt]; rfl
    rw [e1] at ho
    exact ho
  obtain ⟨pa, pc, ev, rn, _⟩ := own_rdN rfl (by unfold maxLen; omega) ho2
  cases ev
  exact ⟨_, _, rfl, rn, below_none hgr⟩
theorem gtells_walk (hF : GroFitGives) (hC : GroCheckGives) (hS : GroSplitGives) (hW : GroWrongGives) (a c0 : Option Addr) (xs : List Sx) (ts : List M.Nd) (ca cc : Nat) (m d l : Int) (w : World) (h : RdL w a xs) (ht : RdN w c0 ts) (hl : Lays w) :
    Calls Tryz.prog 3 #[.slice a xs.length ca, .int .i64 m, .int .i64 d, .int .i64 l, .slice c0 ts.length cc] w fun r w' => r = .returned (.bool true) ∧ Below w.heap.size w w' := by
  refine gtells_core a c0 ts (M.grwT (sms xs) m d l) xs.length ca cc (M.samF (sms xs) m).1 m d l (M.samF (sms xs) m).2 (M.splF (sms xs) m l) (M.splX (sms xs) m l) (M.splC (sms xs) m l) (M.grwF (sms xs) m d l) (M.rdyF ts (sms xs)) (M.wrgV ts (sms xs)) w ?_ ?_ ?_ ?_ ?_ ?_ ?_ ?_ ?_ ?_ ?_ ?_ ?_ ?_ ?_
  · intro W hb
    exact (rsamples_any a xs ca m W (h.below hb)).mono (by rintro r w' ⟨rfl, rfl⟩; exact ⟨rfl, Below.refl _ _⟩)
  · exact fun W hb => hC a xs ca m W (h.below hb)
  · intro c W hb
    exact (error_any c c W (hl.below hb)).mono (by rintro r w' ⟨rfl, h2⟩; exact ⟨by rw [beq_self_eq_true], h2⟩)
  · intro he hr W hb
    obtain ⟨G, hp, hm, _⟩ := M.sam_ok he
    have := rsplit_any a xs ca m.toNat l W (h.below hb) (Ask.of G) G.m8
    rw [hm] at this
    refine this.mono ?_
    rintro r w' ⟨rfl, rfl⟩
    refine ⟨_, _, _, rfl, rfl, fun hb => ?_, fun hb => ?_⟩
    · have f0 : M.splF (sms xs) m l = 0 := by unfold M.splF; rw [if_neg (by simp [he]), if_neg hr, if_pos hb]
      exact ⟨f0, by unfold M.splX; rw [if_pos f0], by unfold M.splC; rw [if_pos f0]⟩
    · have f0 : M.splF (sms xs) m l = 5 := by unfold M.splF; rw [if_neg (by simp [he]), if_neg hr, if_neg (by rw [hb]; decide)]
      exact ⟨f0, by unfold M.splX; rw [if_neg (by rw [f0]; decide)], by unfold M.splC; rw [if_neg (by rw [f0]; decide)]⟩
  · refine ⟨fun he => ?_, fun he hr => ?_⟩
    · have f0 : M.splF (sms xs) m l = (M.samF (sms xs) m).2 := by unfold M.splF; rw [if_pos he]
      exact ⟨f0, by unfold M.splX; rw [if_neg (by rw [f0]; exact he)], by unfold M.splC; rw [if_neg (by rw [f0]; exact he)]⟩
    · have f0 : M.splF (sms xs) m l = 1 := by unfold M.splF; rw [if_neg (by simp [he]), if_pos hr]
      exact ⟨f0, by unfold M.splX; rw [if_neg (by rw [f0]; decide)], by unfold M.splC; rw [if_neg (by rw [f0]; decide)]⟩
  · exact fun W hb => hS a xs ca m l W (h.below hb)
  · refine ⟨fun he => ?_, fun he hr => ?_, fun he hr => ?_⟩
    · unfold M.grwF; rw [if_pos he]
    · unfold M.grwF; rw [if_neg (by simp [he]), if_pos hr]
    · unfold M.grwF; rw [if_neg (by simp [he]), if_neg hr]
  · intro hg
    unfold M.grwT; rw [if_neg hg]
  · exact fun hg W hb => rgrow_new a xs ca m d l W (h.below hb) hg
  · exact fun W hb => hF a xs ca m d l W (h.below hb)
  · exact fun pa pc qa qc W h1 h2 => nodesame_any pa qa _ pc qc W h1 h2
  · exact fun W hb => rready_any c0 a ts xs cc ca W (ht.below hb) (h.below hb)
  · intro hy W hb
    have := rwrong_any c0 a ts xs cc ca W (ht.below hb) (h.below hb) hy
    have e : M.wrgV ts (sms xs) = M.wrgS ts (sms xs) := by unfold M.wrgV; rw [if_pos hy]
    rw [e]
    exact this
  · intro hy
    unfold M.wrgV; rw [if_neg hy]
  · exact fun W hb => hW c0 a ts xs cc ca W (ht.below hb) (h.below hb)

end Go.Proofs.YthbeoaninipadafGreatDoor
