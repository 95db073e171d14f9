/-
  What limit.cutsOf answers of up to 63 nodes: the cuts of those with a feature, rising, each once.
-/
import Derived.Test.YtcaljnhdfbjpnaeNodes
import Derived.Test.YtcaljnhdfbjpnaeLMathB
import Derived.Test.YtcaljnhdfbjpnaeSortOwn
import Derived.Deep.AppendLies
import Derived.OwnWalk
namespace Go.Proofs.Ytcaljnhdfbjpnae
open Go.ChangeShapes Go.WideShapes Go.ChangeAt Go.RowKit Go.Lib
set_option linter.unusedVariables false

theorem M.cuts_compact (t : List M.Nd) (f : Int) : Lib.compact (M.sortI (M.cutL t f t.length)) = M.cutsS t f := by
  refine M.rise_same (M.uniq_pw _ (M.sort_pw _)) (M.cutsS_pw t f) fun x => ?_
  rw [M.uniq_mem _ (M.sort_pw _), M.cutsS_mem, ← M.cutL_mem]
  exact (M.sort_perm _).mem_iff
theorem M.cutL_yes {t : List M.Nd} {f : Int} {k : Nat} (h : M.nf (M.nAt t k) = f) : M.cutL t f (k + 1) = M.cutL t f k ++ [M.nc (M.nAt t k)] := by rw [M.cutL, if_pos h]
theorem M.cutL_no {t : List M.Nd} {f : Int} {k : Nat} (h : M.nf (M.nAt t k) ≠ f) : M.cutL t f (k + 1) = M.cutL t f k := by rw [M.cutL, if_neg h]

set_option maxHeartbeats 4000000 in
set_option maxRecDepth 10000 in
theorem cutsof_any (a0 : Option Addr) (ts : List M.Nd) (ca : Nat) (f : Int) (w : World) (ht : RdN w a0 ts) (l63 : ts.length ≤ 63) :
    Calls Try.prog 31 #[.slice a0 ts.length ca, .int .i64 f] w fun e w' => ∃ v, e = .returned v ∧ w'.ownsRow w.heap.size 3 1 v (M.cutsS ts f).length ((M.cutsS ts f).map (Value.int .i64)) ∧ Below w.heap.size w w' := by
  have HT := hide ht
  have CC := hide (M.cuts_compact ts f)
  obtain ⟨i0, hi, hz0, hz1, hz2⟩ := info_parts info3
  have I0 := hide hi
  have SO := hide (fun v F W h h1 h2 => sort_own w.heap.size v F W h h1 h2)
  have CO := hide (fun v F W h h1 h2 => compact_own w.heap.size v F W h h1 h2)
  have SL := hide M.sort_length
  clear ht hi
  generalize M.cutsS ts f = V at *
  go_enter Try.func31, Try.ntmps31
  go_wp2
  go_loopw [5, 10] (fun v i wr => ∃ k : Nat, k ≤ ts.length ∧ i = .int .i64 k ∧ Hid (wr.ownsRow w.heap.size 3 1 v (M.cutL ts f k).length ((M.cutL ts f k).map (Value.int .i64))) ∧ Hid (Below w.heap.size w wr)) (fun _ i _ => ts.length - (intOf i).toNat)
  case atStart => exact ⟨0, Nat.zero_le _, rfl, World.ownsRow_nil _ _ _ _, Below.refl _ _⟩
  case round =>
    obtain ⟨k, hk, rfl, HO, K⟩ := hrel
    obtain ⟨va, vc, rfl, RV, _⟩ := own_rd HO.out
    have LL := M.cutL_len ts f k
    clear RV
    by_cases hlt : k < ts.length
    · obtain ⟨b1, off, rfl, hb1, hc⟩ := HT.out.2 (by intro e; subst e; simp at hlt)
      obtain ⟨s0, s1, s2, s3, s4, s5⟩ := (hc k hlt).below K.out hb1
      have kz : (k : Int) < (ts.length : Int) := by omega
      by_cases hf : M.nf (M.nAt ts k) = f
      · have q : (M.nf (M.nAt ts k) == f) = true := by rw [beq_iff_eq]; exact hf
        have LE : Hid (M.cutL ts f (k + 1) = M.cutL ts f k ++ [M.nc (M.nAt ts k)]) := M.cutL_yes hf
        clear hc hf SO CO SL CC
        generalize M.cutL ts f k = L at *
        generalize M.nf (M.nAt ts k) = nf at *
        generalize M.nc (M.nAt ts k) = c at *
        generalize M.nl (M.nAt ts k) = l at *
        generalize M.nr (M.nAt ts k) = r at *
        generalize M.ns (M.nAt ts k) = sl at *
        generalize M.nv (M.nAt ts k) = v at *
        go_upto_region 5 with fail
        obtain ⟨w1, hw1⟩ : ∃ W, W = wr.alloc (.cells #[.int .i64 nf, .int .i64 c, .int .i64 l, .int .i64 r, .bool sl, .int .i64 v] 29) := ⟨_, rfl⟩
        have k1 : Hid (Below wr.heap.size wr w1) := by rw [hw1]; exact (Below.refl _ wr).alloc (Nat.le_refl _) _
        have c0 : w1.cell? ⟨wr.heap.size, 0, none⟩ = some (.int .i64 nf) := by rw [hw1]; exact World.cell?_alloc_at _ _ _ 0 rfl
        have c1 : w1.cell? ⟨wr.heap.size, 1, none⟩ = some (.int .i64 c) := by rw [hw1]; exact World.cell?_alloc_at _ _ _ 1 rfl
        rw [← hw1]
        clear hw1 s0 s1 s2 s3 s4 s5
        have k4 := hide (below_on K.out k1.out)
        have kw4 := k4.out.size
        go_wp2_with (at_builtin; refine wpList_append_lies _ rfl (.tmp 18) (.tmp 21) 23 rfl w.heap.size 3 i0 (.int .i64 0) 1 8 Try.underlying23 I0.out hz0 hz1 hz2 rfl (by omega) (.slice va L.length vc) L.length (L.map (Value.int .i64)) rfl ((own_up HO.out k1.out).alloc _) ⟨w1.heap.size, 0, none⟩ 1 1 [.int .i64 c] rfl rfl (World.news_of_block (heap_alloc_new _ _)) (by simp [Value.oneCell']) (by omega) (by unfold maxLen; omega) (by omega) (by simp; omega) (w1.heap.size + 1) (by simp) ?_)
        intro g cap w5 hov5 hgrow hat hlt5
        have hb5 : Hid (Below w.heap.size w w5) := (k4.out.alloc k4.out.size _).grown hgrow (by simp; omega) (fun k hk => (HO.out.lt k hk).1)
        have HO5 : Hid (w5.ownsRow w.heap.size 3 1 (.slice (some ⟨g, 0, none⟩) (L.length + 1) cap) (M.cutL ts f (k + 1)).length ((M.cutL ts f (k + 1)).map (Value.int .i64))) := by
          unfold Hid; rw [LE.out, List.map_append, List.length_append]; exact hov5
        clear hov5 hgrow hat
        go_wp2
        go_roundw
        case rel => exact ⟨k + 1, by omega, by go_num, HO5, hb5⟩
        case measure => simp [intOf]; omega
      · have q : (M.nf (M.nAt ts k) == f) = false := by rw [beq_eq_false_iff_ne]; exact hf
        have LE : Hid (M.cutL ts f (k + 1) = M.cutL ts f k) := M.cutL_no hf
        clear hc hf SO CO SL CC
        generalize M.cutL ts f k = L at *
        generalize M.nf (M.nAt ts k) = nf at *
        generalize M.nc (M.nAt ts k) = c at *
        generalize M.nl (M.nAt ts k) = l at *
        generalize M.nr (M.nAt ts k) = r at *
        generalize M.ns (M.nAt ts k) = sl at *
        generalize M.nv (M.nAt ts k) = v at *
        have UA : Hid (∀ o, Below wr.heap.size wr (wr.alloc o)) := fun o => (Below.refl _ wr).alloc (Nat.le_refl _) o
        go_wp2
        go_roundw
        case rel => exact ⟨k + 1, by omega, by go_num, by unfold Hid; rw [LE.out]; exact own_up HO.out (UA.out _), below_on K.out (UA.out _)⟩
        case measure => simp [intOf]; omega
    · have E : k = ts.length := by omega
      subst E
      have l1 := SL.out (M.cutL ts f ts.length)
      have S1 := hide (SO.out (.slice va (M.cutL ts f ts.length).length vc) _ wr HO.out (by omega) K.out.size)
      generalize M.cutL ts f ts.length = L at *
      generalize M.sortI L = SI at *
      go_wp2_with (first
        | (go_at_call 58; refine S1.out.mono ?_; rintro e w2 ⟨rfl, ho2, hb2⟩; have k2 := hide (K.out.trans hb2); have C1 := hide (CO.out (.slice va L.length vc) SI w2 (by rw [l1]; exact ho2) (by omega) k2.out.size); clear ho2 hb2)
        | (go_at_call 59; refine C1.out.mono ?_; rintro e w3 ⟨v3, rfl, ho3, hb3⟩; have k3 := hide (k2.out.trans hb3); have O3 := hide ho3; clear ho3 hb3))
      go_ret
      rw [CC.out] at O3
      exact ⟨_, rfl, O3.out, k3.out⟩

end Go.Proofs.Ytcaljnhdfbjpnae
