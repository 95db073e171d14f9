/-
  Several texts as one: LgS.
-/
import Derived.Test.YtodidokeblblgaaGreatDoorRunK20
import Derived.Test.YtodidokeblblgaaGreatDoorRunK8
import Derived.Test.YtodidokeblblgaaGreatDoorRunK30
namespace Go.Proofs.YtodidokeblblgaaGreatDoor
open Go.ChangeShapes Go.WideShapes Go.ChangeAt Go.RowKit Go.Lib Go.Maps
set_option linter.unusedVariables false
theorem CaIn.keepG {w w' : World} {c : M.Ca} {a : Option Addr} {cap : Nat} (h : CaIn w c a cap) (hk : ∀ p, a = some p → w'.heap[p.block]? = w.heap[p.block]?) (hz : w.heap.size ≤ w'.heap.size) : CaIn w' c a cap := h.keep hk hz
/-- calls that lie apart from a shelf -/
structure Apart (T : Nat → Nat) (w : World) (a : Option Addr) (l : List CaC) : Prop where
  rd : RdC w a l
  ra : ∀ p, a = some p → T p.block = 0 ∧ p.block < w.heap.size
  rk : ∀ k ∈ l, ∀ p, k.2.1 = some p → T p.block = 0 ∧ p.block < w.heap.size
theorem Apart.keep {T T' : Nat → Nat} {w w' : World} {a : Option Addr} {l : List CaC} (h : Apart T w a l) (hz : w.heap.size ≤ w'.heap.size) (hk : ∀ q, q < w.heap.size → T q = 0 → T' q = 0 ∧ w'.heap[q]? = w.heap[q]?) : Apart T' w' a l := by
  refine ⟨⟨h.rd.1, fun k hm => (h.rd.2.1 k hm).keepG (fun p hp => (hk _ (h.rk k hm p hp).2 (h.rk k hm p hp).1).2) hz, fun hne => ?_⟩, fun p hp => ⟨(hk _ (h.ra p hp).2 (h.ra p hp).1).1, Nat.lt_of_lt_of_le (h.ra p hp).2 hz⟩, fun k hm p hp => ⟨(hk _ (h.rk k hm p hp).2 (h.rk k hm p hp).1).1, Nat.lt_of_lt_of_le (h.rk k hm p hp).2 hz⟩⟩
  obtain ⟨b, off, e, hl, hc⟩ := h.rd.2.2 hne
  have eb := (hk b hl (h.ra _ e).1).2
  have key : ∀ j v, w.cell? ⟨b, j, none⟩ = some v → w'.cell? ⟨b, j, none⟩ = some v := fun j v hv => (World.cell?_of_block (a := ⟨b, j, none⟩) eb).trans hv
  exact ⟨b, off, e, Nat.lt_of_lt_of_le hl hz, fun i hi => ⟨key _ _ (hc i hi).1, key _ _ (hc i hi).2.1, key _ _ (hc i hi).2.2.1, key _ _ (hc i hi).2.2.2.1, key _ _ (hc i hi).2.2.2.2.1, key _ _ (hc i hi).2.2.2.2.2.1, key _ _ (hc i hi).2.2.2.2.2.2⟩⟩

set_option maxHeartbeats 8000000 in
set_option maxRecDepth 10000 in
theorem lg_Shelf {W w : World} {f : Nat} {va : Option Addr} {L : M.Lg} (h : HL W w f va L) (hl : L.calls.length ≤ 100) :
    Calls Tryz.prog 29 #[.pointer (some ⟨f, 0, none⟩)] w fun e w' => ∃ s T, e = .returned (.pointer (some ⟨s, 0, none⟩)) ∧ Has w w' s T (M.shAll M.sh0 L.calls) := by
  have NW := hide (sh_New w)
  have HH := hide h
  have IX := hide (M.sh0_all)
  clear h
  go_enter Tryz.func29, Tryz.ntmps29
  go_upto_region 2 with (go_at_call 7; refine NW.out.mono ?_; rintro e w1 ⟨s, T0, rfl, sa, bl, tn⟩; have H1 : Hid (Has w w1 s T0 M.sh0) := ⟨sa, bl, tn⟩; have G1 := hide (HH.out.up bl); clear sa bl tn)
  clear NW HH
  have CL := hide G1.out.callsG
  go_wp2_with (go_at_call 26; refine CL.out.mono ?_; rintro e w2 ⟨a, c, l, rfl, em, cw, b2⟩; have EM := hide em; have CW2 := hide cw; have H2 := hide (H1.out.up b2); have B2 := hide b2; clear em cw b2)
  have ll : L.calls.length = l.length := by rw [← EM.out, List.length_map]
  have LE := hide ll
  rw [ll]
  have hl' : l.length ≤ 100 := by omega
  have AP : Hid (Apart T0 w2 a l) := by
    refine ⟨own_rdC rfl (by unfold maxLen; omega) CW2.out.ci CW2.out.own, fun p hp => ?_, fun k hk p hp => ?_⟩
    · have q := own_spot CW2.out.own p hp
      refine ⟨H1.out.sa.lt ?_, q.2.1⟩
      exact (CW2.out.own.lt _ q.2.2).1
    · have q := CW2.out.ap k hk p hp
      exact ⟨H1.out.sa.lt q.1, q.2.1⟩
  clear CL H1 G1 CW2 ll hl B2
  go_loopw [5, 10] (fun _ i wr => ∃ (k : Nat) (T : Nat → Nat), k ≤ l.length ∧ i = .int .i64 k ∧ Hid (Has w wr s T (M.shAll M.sh0 ((l.take k).map (·.1)))) ∧ Hid (Apart T wr a l)) (fun _ i _ => l.length - (intOf i).toNat)
  case atStart => exact ⟨0, T0, Nat.zero_le _, rfl, H2, AP⟩
  case round =>
    clear H2 AP
    obtain ⟨k, T, hk, rfl, HS, AP⟩ := hrel
    by_cases hlt : k < l.length
    · have kz : (k : Int) < (l.length : Int) := by omega
      obtain ⟨b, off, rfl, hb, sv, ci⟩ := AP.out.rd.at hlt
      obtain ⟨c0, c1, c2, c3, c4, c5, c6⟩ := sv
      have mem : l.getD k ca0 ∈ l := by rw [List.getD, List.getElem?_eq_getElem hlt]; exact List.getElem_mem hlt
      have RK := hide (AP.out.rk _ mem)
      have CI := hide ci
      have ES : Hid (M.shAll M.sh0 ((l.take (k + 1)).map (·.1)) = (M.shDo (M.shAll M.sh0 ((l.take k).map (·.1))) (l.getD k ca0).1).2.2) := by
        unfold Hid
        rw [List.take_succ_eq_append_getElem hlt, List.map_append, M.shAll_app]
        have : l.getD k ca0 = l[k] := by simp [List.getD, hlt]
        rw [this]
        rfl
      have SI : Hid ((M.shAll M.sh0 ((l.take k).map (·.1))).idx ≤ 900000) := by
        have := IX.out ((l.take k).map (·.1))
        rw [List.length_map, List.length_take] at this
        unfold Hid
        omega
      have DO : Hid (∀ o : Obj, Calls Tryz.prog 9 #[.pointer (some ⟨s, 0, none⟩), caV (l.getD k ca0).1 (l.getD k ca0).2.1 (l.getD k ca0).2.2] (wr.alloc o) fun e w' => e = .returned (.tuple #[anV (M.shDo (M.shAll M.sh0 ((l.take k).map (·.1))) (l.getD k ca0).1).1, errV (M.shDo (M.shAll M.sh0 ((l.take k).map (·.1))) (l.getD k ca0).1).2.1]) ∧ ∃ T', Has w w' s T' (M.shAll M.sh0 ((l.take (k + 1)).map (·.1))) ∧ Apart T' w' (some ⟨b, off, none⟩) l) := fun o => by
        have bo : Below wr.heap.size wr (wr.alloc o) := (Below.refl _ _).alloc (Nat.le_refl _) o
        have ho := HS.out.up bo
        refine (sh_Do ho.sa (CI.out.below bo) (fun _ p hp => (RK.out p hp).1) SI.out).mono ?_
        rintro e w' ⟨rfl, hl⟩
        obtain ⟨T', a1, a2, a3⟩ := ho.left hl
        refine ⟨rfl, T', by rw [ES.out]; exact a1, ?_⟩
        have ap1 : Apart T (wr.alloc o) (some ⟨b, off, none⟩) l := AP.out.keep bo.size (fun q hq ht => ⟨ht, bo.block q hq⟩)
        exact ap1.keep a3 a2
      unfold caV at DO
      clear ES SI RK CI ci mem HS AP IX
      generalize anV (M.shDo (M.shAll M.sh0 ((l.take k).map (·.1))) (l.getD k ca0).1).1 = av at *
      generalize errV (M.shDo (M.shAll M.sh0 ((l.take k).map (·.1))) (l.getD k ca0).1).2.1 = ev at *
      generalize l.getD k ca0 = ck at *
      go_wp2_with (go_at_call 9; refine (DO.out _).mono ?_; rintro e w3 ⟨rfl, T3, h3, a3⟩; have H3 := hide h3; have A3 := hide a3; clear h3 a3)
      go_roundw
      case rel => exact ⟨k + 1, T3, by omega, by go_num, H3, A3⟩
      case measure => simp [intOf]; omega
    · have ek : k = l.length := by omega
      have kz : ¬ ((k : Int) < (l.length : Int)) := by omega
      have HF : Hid (Has w wr s T (M.shAll M.sh0 L.calls)) := by
        have := HS.out
        rw [ek, List.take_length, EM.out] at this
        exact this
      clear HS AP
      go_wp2
      go_ret
      exact ⟨s, rfl, T, HF.out⟩
end Go.Proofs.YtodidokeblblgaaGreatDoor
