/-
  What package code's add answers: numbers as bytes behind bytes in a row of our own, and what stays.
-/
import Derived.Test.YtnnhpbnnombpmaaDoorByCells
import Derived.Test.YtnnhpbnnombpmaaDoorCdFold
import Derived.Test.YtnnhpbnnombpmaaDoorGrownW
import Derived.Deep.AppendLies
import Derived.Deep.Cut
import Derived.Deep.CutRange
namespace Go.Proofs.YtnnhpbnnombpmaaDoor
open Go.ChangeShapes Go.WideShapes Go.ChangeAt Go.RowKit Go.Lib
set_option linter.unusedVariables false

/-- bytes in a row of our own that was there at w, or lies in a block that is new since; all else is as it was at w -/
structure BWy (B : Nat) (w : World) (r : Option Nat) (W : World) (va : Option Addr) (vc : Nat) (L : List Nat) : Prop where
  own : W.ownsRow B 5 1 (.slice va L.length vc) L.length (byCells L)
  gr : w.grownBy W r
  ob : (Value.slice va L.length vc).ownBlock = r ∨ ∀ q, (Value.slice va L.length vc).ownBlock = some q → w.heap.size ≤ q
  le : B ≤ w.heap.size
theorem BWy.alloc {B : Nat} {w : World} {r : Option Nat} {W : World} {va : Option Addr} {vc : Nat} {L : List Nat} (h : BWy B w r W va vc L) (o : Obj) : BWy B w r (W.alloc o) va vc L :=
  ⟨h.own.alloc o, grown_trans h.gr (grown_of ((Below.refl _ W).alloc (Nat.le_refl _) o) none) (.inr (fun q hq => by cases hq)), h.ob, h.le⟩
theorem wpList_append_b1 {W : World} {ops : Array Oper} {rest : List Oper} {o : Oper} {act : Act} {Q : Exit → Act → World → Prop} (hgd : o.guard = none) (s x : Operand)
    (ho : o.op = .call { callee := .builtin .append, args := #[s, x], argTypes := #[23, 23] })
    (B : Nat) (w : World) (r : Option Nat) (va : Option Addr) (vc : Nat) (L : List Nat) (y : Nat) (z : Int) (t : TypeId) (hz : z = (y : Int)) (hs : act.eval s = .slice va L.length vc) (h0 : BWy B w r W va vc L) (hx : act.eval x = .slice (some ⟨W.heap.size, 0, none⟩) 1 1) (hl : L.length + 1 ≤ 140737488355328)
    (h : ∀ g cap w', BWy B w r w' (some ⟨g, 0, none⟩) cap (L ++ [y]) → wpList Tryd.prog ops Q rest (act.put o.dst (.slice (some ⟨g, 0, none⟩) (L.length + 1) cap)) w') : wpList Tryd.prog ops Q (o :: rest) act (W.alloc (.cells #[.int .u8 z] t)) := by
  subst hz
  obtain ⟨i0, hi, hz0, hz1, hz2⟩ := info_parts info8
  have hA := h0.alloc (.cells #[.int .u8 (y : Int)] t)
  refine wpList_append_lies _ hgd s x 23 ho B 5 i0 (.int .u8 0) 1 1 Tryd.underlying23 hi hz0 hz1 hz2 rfl (by omega) _ L.length (byCells L) hs hA.own ⟨W.heap.size, 0, none⟩ 1 1 [.int .u8 (y : Int)] hx rfl (World.news_of_block (heap_alloc_new _ _)) (by simp [Value.oneCell']) (by omega) (by unfold maxLen; omega) (by omega) (Nat.le_trans hA.le hA.gr.size) (W.heap.size + 1) (by simp) ?_
  intro g cap w' ho' hgr hg' hlt
  have el : (L ++ [y]).length = L.length + 1 := by simp
  refine h g cap w' ⟨?_, grown_trans hA.gr hgr h0.ob, ?_, h0.le⟩
  · rw [el, byCells_app]; exact ho'
  · rw [el]
    have hob : (Value.slice (some ⟨g, 0, none⟩) (L.length + 1) cap).ownBlock = some g := by simp [Value.ownBlock]
    rw [hob]
    rcases hg' with hg' | hg'
    · rw [← hg']; exact h0.ob
    · refine .inr fun q hq => ?_
      have hs := h0.gr.size
      cases hq
      omega

set_option maxHeartbeats 4000000 in
set_option maxRecDepth 10000 in
theorem add_any (B : Nat) (va : Option Addr) (vc : Nat) (L : List Nat) (na : Option Addr) (ns : List Int) (nc : Nat) (w : World) (hB : B ≤ w.heap.size) (ho : w.ownsRow B 5 1 (.slice va L.length vc) L.length (byCells L)) (hn : Rd w na ns) (hi : ∀ x ∈ ns, -9223372036854775808 ≤ x ∧ x ≤ 9223372036854775807)
    (hne : ns ≠ [] → ∀ p, na = some p → (Value.slice va L.length vc).ownBlock ≠ some p.block) (hl : L.length + 10 * ns.length ≤ 140737488355328) :
    Calls Tryd.prog 35 #[.slice va L.length vc, .slice na ns.length nc] w fun e w' => ∃ va' vc', e = .returned (.slice va' (L ++ M.bysL ns).length vc') ∧ BWy B w (Value.slice va L.length vc).ownBlock w' va' vc' (L ++ M.bysL ns) := by
  have hm : ns.length ≤ 9223372036854775807 := by omega
  obtain ⟨r, hr⟩ : ∃ r, r = (Value.slice va L.length vc).ownBlock := ⟨_, rfl⟩
  rw [← hr] at hne
  have B0 : Hid (BWy B w r w va vc L) := ⟨ho, World.grownBy.refl _ _, .inl hr.symm, hB⟩
  have HN : Hid (∀ W, w.grownBy W r → Rd W na ns) := fun W hW => rd_grown hn hW (fun h p hp e => hne h p hp e.symm)
  have HI := hide hi
  have LL := hide hl
  have HF := hide (fun n W h1 h2 => fold_any n W h1 h2)
  rw [← hr]
  clear hr ho hn hi hne hl
  go_enter Tryd.func35, Tryd.ntmps35
  go_wp2
  go_loopw [0, 10] (fun v i wr => ∃ (k : Nat) (ua : Option Addr) (uc : Nat), k ≤ ns.length ∧ i = .int .i64 k ∧ v = .slice ua (L ++ M.bysL (ns.take k)).length uc ∧ Hid (BWy B w r wr ua uc (L ++ M.bysL (ns.take k)))) (fun _ i _ => ns.length - (intOf i).toNat)
  case atStart => exact ⟨0, va, vc, Nat.zero_le _, rfl, by simp [M.bysL], by unfold Hid; simpa [M.bysL] using B0.out⟩
  case round =>
    obtain ⟨k, ua, uc, hk, rfl, rfl, HB⟩ := hrel
    by_cases hlt : k < ns.length
    · have kz : (k : Int) < (ns.length : Int) := by omega
      obtain ⟨b, off, rfl, hb, hc⟩ := (HN.out wr HB.out.gr).2 (by intro e; rw [e] at hlt; simp at hlt)
      have c0 := hc k hlt
      have ee : ns.getD k 0 = ns[k] := by simp [List.getD, hlt]
      rw [ee] at c0
      have ei := HI.out ns[k] (List.getElem_mem hlt)
      have F1 := hide (fun W => HF.out ns[k] W ei.1 ei.2)
      have more : Hid (L ++ M.bysL (ns.take (k + 1)) = L ++ M.bysL (ns.take k) ++ M.sev (M.zz ns[k])) := by
        unfold Hid
        rw [List.take_succ_eq_append_getElem hlt, M.bys_app, ← List.append_assoc]
        congr 1
        rw [M.bys_cons]
        show M.numL _ ++ [] = _
        rw [List.append_nil]; rfl
      have zl := M.zz_lt ei.1 ei.2
      have bl : Hid ((L ++ M.bysL (ns.take k)).length ≤ L.length + 10 * k) := by
        have := M.bys_len (ns.take k) fun x hx => HI.out x (List.mem_of_mem_take hx)
        unfold Hid
        rw [List.length_append]
        rw [List.length_take] at this
        omega
      clear hc ee ei
      obtain ⟨P, hP⟩ : ∃ P, P = L ++ M.bysL (ns.take k) := ⟨_, rfl⟩
      rw [← hP] at HB more bl ⊢
      clear hP
      generalize ns[k] = x at *
      have SL : Hid (∀ Q u, Q ++ M.sev u = P ++ M.sev (M.zz x) → Q.length + 1 ≤ 140737488355328) := fun Q u e => by
        have e1 := congrArg List.length e
        rw [List.length_append, List.length_append] at e1
        have p1 : 1 ≤ (M.sev u).length := List.length_pos_iff.2 (M.sev_ne u)
        have p2 := M.sev_ten zl
        have := bl.out
        have := LL.out
        omega
      go_upto_region 5 with (go_at_call 42; refine (F1.out _).mono ?_; rintro e w1 ⟨rfl, rfl⟩)
      clear F1
      go_loopw [0, 7] (fun v x' wr => ∃ (u : Nat) (Q : List Nat) (ua : Option Addr) (uc : Nat), v = .slice ua Q.length uc ∧ x' = .int .u64 (u : Int) ∧ u < 18446744073709551616 ∧ Hid (Q ++ M.sev u = P ++ M.sev (M.zz x)) ∧ Hid (BWy B w r wr ua uc Q)) (fun _ x _ => (intOf x).toNat)
      case atStart => exact ⟨M.zz x, P, ua, uc, rfl, rfl, zl, rfl, HB⟩
      case round =>
        clear HB
        obtain ⟨u, Q, ua, uc, rfl, rfl, hu, EL, HB⟩ := hrel
        have ll := SL.out Q u EL.out
        by_cases hq : 127 < u
        · have q : decide ((128 : Int) ≤ (u : Int)) = true := decide_eq_true (by omega)
          have q2 : ((128 : Int) ≤ (u : Int)) := by omega
          obtain ⟨m, hm'⟩ : ∃ m, m = u % 128 := ⟨_, rfl⟩
          obtain ⟨d, hd⟩ : ∃ d, d = u / 128 := ⟨_, rfl⟩
          have r1 : (u : Int) % 128 = (m : Int) := by omega
          have r2 : Int.tmod (u : Int) 128 = (m : Int) := by rw [Int.tmod_eq_emod_of_nonneg (by omega)]; omega
          have d1 : (u : Int) / 128 = (d : Int) := by omega
          have E2 : Hid ((Q ++ [m + 128]) ++ M.sev d = P ++ M.sev (M.zz x)) := by
            unfold Hid
            rw [← EL.out, M.sev_more hq, ← hm', ← hd, List.append_assoc]
            rfl
          have m128 : m < 128 := by omega
          have dlt : d < u := by omega
          clear hm' hd EL
          go_wp2_with (at_builtin; refine wpList_append_b1 rfl (.tmp 20) (.tmp 25) rfl B w r ua uc Q (m + 128) _ _ (by omega) rfl HB.out rfl ll ?_; intro g cap w2 hb2; have B2 := hide hb2; clear hb2)
          go_roundw
          case rel => exact ⟨d, Q ++ [m + 128], _, _, by rw [List.length_append]; rfl, rfl, by omega, E2, B2⟩
          case measure => simp [intOf]; omega
        · have q : decide ((128 : Int) ≤ (u : Int)) = false := decide_eq_false (by omega)
          have q2 : ¬ ((128 : Int) ≤ (u : Int)) := by omega
          have E2 : Hid (Q ++ [u] = L ++ M.bysL (ns.take (k + 1))) := by unfold Hid; rw [more.out, ← EL.out, M.sev_last hq]
          clear EL
          go_wp2_with (at_builtin; refine wpList_append_b1 rfl (.tmp 27) (.tmp 30) rfl B w r ua uc Q u _ _ rfl rfl HB.out rfl ll ?_; intro g cap w2 hb2; have B2 := hide hb2; clear hb2)
          exact ⟨⟨k + 1, _, _, hlt, rfl, by rw [← E2.out, List.length_append]; rfl, by unfold Hid; rw [← E2.out]; exact B2.out⟩, by show ns.length - (((k : Int) + 1).toNat) < ns.length - ((k : Int).toNat); omega⟩
    · have ek : k = ns.length := by omega
      have kz : ¬ ((k : Int) < (ns.length : Int)) := by omega
      have B2 : Hid (BWy B w r wr ua uc (L ++ M.bysL ns)) := by have := HB.out; rw [ek, List.take_length] at this; exact this
      rw [show ns.take k = ns by rw [ek, List.take_length]]
      clear ek HB HN HI HF
      go_wp2
      go_ret
      exact ⟨_, _, rfl, B2.out⟩

end Go.Proofs.YtnnhpbnnombpmaaDoor
