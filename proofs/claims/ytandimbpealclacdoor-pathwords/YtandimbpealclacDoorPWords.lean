/-
  PathWords's own walk: at any tree and any row it answers true, where path.Path and path.Why answer what the chapter says.
-/
import Derived.Test.YtandimbpealclacDoorWhyB
import Derived.Test.YtandimbpealclacDoorMathX
import Derived.Test.YtandimbpealclacDoorTEval
namespace Go.Proofs.YtandimbpealclacDoor
open Go.ChangeShapes Go.WideShapes Go.ChangeAt Go.RowKit Go.Lib
set_option linter.unusedVariables false

def M.whyV (t : List M.Nd) (r : List Int) : ByteArray := if M.readyF t r = 0 then bs (M.why t r 0) else ⟨#[]⟩
def M.minus7 : List M.Nd := [(-1, 0, 0, 0, false, -7)]
theorem M.minus7_ready : M.readyF M.minus7 [] = 0 := by decide +kernel
theorem M.itoa_minus7 : Lib.itoa (-7) = [45, 55] := by
  unfold Lib.itoa
  rw [if_pos (by decide), show (-7 : Int).natAbs = 7 from rfl, M.dig_small (by decide)]; rfl
theorem M.minus7_why : M.whyV M.minus7 [] = ⟨#[61, 45, 55]⟩ := by
  unfold M.whyV
  rw [if_pos M.minus7_ready, M.why_leaf (by decide) (by rfl)]
  show bs (61 :: Lib.itoa (-7)) = _
  rw [M.itoa_minus7]; rfl
theorem M.count_take {l : List UInt8} {k : Nat} (h : k < l.length) : (l.take (k + 1)).count 32 = (l.take k).count 32 + if l[k] = 32 then 1 else 0 := by
  rw [List.take_succ_eq_append_getElem h, List.count_append]
  by_cases e : l[k] = 32
  · rw [e]; simp
  · rw [if_neg e]; simp [e]
theorem byte_is (s : ByteArray) (k : Nat) (h : k < s.size) (h' : k < s.data.toList.length) : s.data.toList[k] = s[k] := by simp; rfl

abbrev minusObj : Obj := .cells #[.int .i64 (-1), .int .i64 0, .int .i64 0, .int .i64 0, .bool false, .int .i64 (-7)] 29
theorem minus_rdn (w : World) : RdN (w.alloc minusObj) (some ⟨w.heap.size, 0, none⟩) M.minus7 := by
  refine ⟨by show 1 ≤ maxLen; unfold maxLen; decide, fun _ => ⟨w.heap.size, 0, rfl, by simp, fun i hi => ?_⟩⟩
  have c : ∀ j, (w.alloc minusObj).cell? ⟨w.heap.size, j, none⟩ = _ := fun j => World.cell?_alloc_at _ _ _ j rfl
  have hi' : i < 1 := hi
  rcases i with _ | i
  · exact ⟨c _, c _, c _, c _, c _, c _⟩
  · omega

set_option maxHeartbeats 8000000 in
set_option maxRecDepth 10000 in
theorem words_walk (a b : Option Addr) (ts : List M.Nd) (xs : List Int) (ca cb : Nat) (w : World) (ht : RdN w a ts) (hr : Rd w b xs)
    (hP : ∀ W, Below w.heap.size w W → Calls Tryd.prog 6 #[.slice a ts.length ca, .slice b xs.length cb] W fun e w' => ∃ ag cg, e = .returned (.tuple #[.slice ag (M.pathV ts xs).length cg, errV (M.readyF ts xs)]) ∧ Rd w' ag (M.pathV ts xs) ∧ Below W.heap.size W w')
    (hY : ∀ a b ts xs ca cb W, Below w.heap.size w W → RdN W a ts → Rd W b xs → Calls Tryd.prog 5 #[.slice a ts.length ca, .slice b xs.length cb] W fun e w' => e = .returned (.tuple #[.string (M.whyV ts xs), errV (M.readyF ts xs)]) ∧ Below W.heap.size W w') :
    Calls Tryd.prog 3 #[.slice a ts.length ca, .slice b xs.length cb] w fun e w' => e = .returned (.bool true) ∧ Below w.heap.size w w' := by
  have hm : ts.length ≤ 9223372036854775807 := ht.1
  have hm2 : xs.length ≤ 9223372036854775807 := hr.1
  have B0 : Hid (Below w.heap.size w (w.alloc minusObj)) := (Below.refl _ w).alloc (Nat.le_refl _) _
  have E1 : Hid (Calls Tryd.prog 5 #[.slice (some ⟨w.heap.size, 0, none⟩) 1 1, .slice none 0 0] (w.alloc minusObj) fun e w' => e = .returned (.tuple #[.string ⟨#[61, 45, 55]⟩, .nilIface]) ∧ Below (w.alloc minusObj).heap.size (w.alloc minusObj) w') := by
    have h := hY (some ⟨w.heap.size, 0, none⟩) none M.minus7 [] 1 0 (w.alloc minusObj) B0.out (minus_rdn w) ⟨Nat.zero_le _, fun h => absurd rfl h⟩
    rw [M.minus7_why, err_nil M.minus7_ready] at h
    exact h
  have C1 := hide (fun W (hW : Below w.heap.size w W) => hY a b ts xs ca cb W hW (ht.below hW) (hr.below hW))
  have C2 := hide hP
  have C3 := hide (fun W (hW : Below w.heap.size w W) => eval_any a b ts xs ca cb W (ht.below hW) (hr.below hW))
  clear hY hP
  by_cases h0 : M.readyF ts xs = 0
  · rw [err_nil h0] at C1 C2 C3
    obtain ⟨F, _⟩ := M.tree_ok (M.ready_ok h0).2
    have hR := F.2.2.2.2.1
    have eT : M.whyV ts xs = bs (M.why ts xs 0) := by unfold M.whyV; rw [if_pos h0]
    have eP : (M.pathV ts xs).length = (M.way ts xs 0).length := by unfold M.pathV; rw [if_pos h0, List.length_map]
    have eV : M.evalV ts xs = M.nv (M.nAt ts (M.toD ts xs 0)) := by unfold M.evalV; rw [if_pos h0]
    have WC := M.why_words hR xs ts.length 0 F.2.1 (by omega)
    obtain ⟨pre, WE⟩ := M.why_end hR xs ts.length 0 F.2.1 (by omega)
    have ov : M.outI (M.evalV ts xs) = false := by
      rw [eV]
      obtain ⟨h1, h2⟩ := M.to_end hR xs ts.length 0 F.2.1 (by omega)
      have h := hR _ h1
      unfold M.nodeF at h
      rw [if_pos h2] at h
      unfold M.lfF at h
      cases e : M.outI (M.nv (M.nAt ts (M.toD ts xs 0))) with
      | false => rfl
      | true => rw [if_pos e] at h; cases h
    have PN : (M.pathV ts xs).length ≤ 63 := by
      rw [eP]
      have := M.way_size hR xs ts.length 0 F.2.1 (by omega)
      have := F.1
      omega
    have tl : (M.whyV ts xs).size ≤ 1400 := by
      rw [eT, bs_size]
      have := M.why_len hR (by have := F.2.2.2.1; omega) xs ts.length 0 F.2.1 (by omega)
      rw [← eP] at this
      omega
    rw [← eV] at WE
    rw [← eP] at WC
    have TL : (M.whyV ts xs).data.toList = M.why ts xs 0 := by rw [eT, bs_list]
    have TS : (M.whyV ts xs).size = pre.length + 1 + (Lib.itoa (M.evalV ts xs)).length := by rw [eT, bs_size, WE]; simp; omega
    have DS : (bs (Lib.itoa (M.evalV ts xs))).size = (Lib.itoa (M.evalV ts xs)).length := bs_size _
    have EX : Hid ((M.whyV ts xs).extract pre.length (M.whyV ts xs).size = (⟨#[61]⟩ : ByteArray) ++ bs (Lib.itoa (M.evalV ts xs))) := by
      unfold Hid
      rw [← bs_drop, TL, WE, List.drop_left]
      exact (bs_app [61] _).symm
    have CN : Hid (∀ k, (M.whyV ts xs).size ≤ k → ((M.why ts xs 0).take k).count 32 + 1 = (M.pathV ts xs).length) := fun k hk => by
      rw [List.take_of_length_le (by rw [← TL, ← size_eq]; exact hk)]; exact WC
    have CB : Hid (∀ k, ((M.why ts xs 0).take k).count 32 ≤ 63) := fun k => by
      have h := List.Sublist.count_le 32 (List.take_sublist k (M.why ts xs 0))
      omega
    have CT : Hid (∀ k (h : k < (M.whyV ts xs).size), ((M.why ts xs 0).take (k + 1)).count 32 = ((M.why ts xs 0).take k).count 32 + if (M.whyV ts xs)[k] = 32 then 1 else 0) := fun k h => by
      have h' : k < (M.whyV ts xs).data.toList.length := by rw [← size_eq]; exact h
      rw [← byte_is _ k h h']
      have := M.count_take (l := (M.whyV ts xs).data.toList) h'
      simp only [TL] at this ⊢
      exact this
    have D1 := hide (digits_any (M.evalV ts xs) ov)
    have dl : (bs (Lib.itoa (M.evalV ts xs))).size ≤ 8 := by rw [bs_size]; exact M.itoa_len ov
    have hsz : (((M.whyV ts xs).size : Int) - ((bs (Lib.itoa (M.evalV ts xs))).size : Int) - 1) = (pre.length : Int) := by omega
    have hle : pre.length ≤ (M.whyV ts xs).size := by omega
    clear h0 F hR eT eP eV WC WE TL TS DS ov ht hr
    generalize bs (Lib.itoa (M.evalV ts xs)) = D at *
    generalize M.evalV ts xs = v at *
    generalize M.whyV ts xs = T at *
    generalize M.pathV ts xs = P at *
    generalize M.why ts xs 0 = L at *
    generalize pre.length = kk at *
    go_enter Tryd.func3, Tryd.ntmps3
    go_wp2_with fail
    refine E1.out.mono ?_
    rintro e w1 ⟨rfl, hb1⟩
    have k1 := below_on B0.out hb1
    clear E1
    go_wp2_with (first
      | (go_at_call 5; refine (C1.out _ k1).mono ?_; rintro e w2 ⟨rfl, hb2⟩; have k2 := below_on k1 hb2)
      | (go_at_call 6; refine (C2.out _ k2).mono ?_; rintro e w3 ⟨ag, cg, rfl, R3, hb3⟩; have k3 := below_on k2 hb3)
      | (go_at_call 7; refine (C3.out _ k3).mono ?_; rintro e w4 ⟨rfl, hb4⟩; have k4 := below_on k3 hb4))
    clear C1 C2 C3 hb1 hb2 hb3 hb4 k1 k2 k3 R3
    go_loop [12, 13] (fun c i => ∃ k : Nat, k ≤ T.size ∧ i = .int .i64 k ∧ c = .int .i64 (((L.take k).count 32 + 1 : Nat) : Int)) (fun _ i => T.size - (intOf i).toNat)
    case atStart => exact ⟨0, Nat.zero_le _, rfl, rfl⟩
    case round =>
      obtain ⟨k, hk, rfl, rfl⟩ := hrel
      have cb := CB.out k
      by_cases hlt : k < T.size
      · have N := hide (CT.out k hlt)
        generalize (L.take k).count 32 = cn at *
        by_cases h32 : T[k] = 32
        · have q : ((T[k].toNat : Int) == 32) = true := by rw [h32]; rfl
          have N2 : Hid ((L.take (k + 1)).count 32 = cn + 1) := by unfold Hid; rw [N.out, if_pos h32]
          clear h32 N
          go_wp2
          go_round
          case rel => exact ⟨k + 1, by omega, by go_num, by rw [N2.out]; go_num⟩
          case measure => simp [intOf]; omega
        · have q : ((T[k].toNat : Int) == 32) = false := by
            rw [beq_eq_false_iff_ne]; intro e
            apply h32
            apply UInt8.toNat_inj.1
            show T[k].toNat = 32
            omega
          have N2 : Hid ((L.take (k + 1)).count 32 = cn) := by unfold Hid; rw [N.out, if_neg h32]; rfl
          clear h32 N
          go_wp2
          go_round
          case rel => exact ⟨k + 1, by omega, by go_num, by rw [N2.out]⟩
          case measure => simp [intOf]; omega
      · have EC := CN.out k (by omega)
        rw [EC]
        clear EC cb CB CT CN
        have c1 : (0 : Int) ≤ (kk : Int) := by omega
        have c2 : (kk : Int) ≤ (T.size : Int) := by omega
        have hcat : ¬ 9223372036854775807 < 1 + D.size := by omega
        have ex := EX.out
        go_wp2_with (go_at_call 8; refine (D1.out _).mono ?_; rintro e w5 ⟨rfl, rfl⟩)
        go_ret
        exact ⟨rfl, k4⟩
  · rw [err_some h0] at C1 C2
    have eT : Hid (M.whyV ts xs = ⟨#[]⟩) := by unfold Hid M.whyV; rw [if_neg h0]
    rw [eT.out] at C1
    clear h0 C3 ht hr
    generalize M.pathV ts xs = P at *
    generalize M.readyF ts xs = rf at *
    go_enter Tryd.func3, Tryd.ntmps3
    go_wp2_with fail
    refine E1.out.mono ?_
    rintro e w1 ⟨rfl, hb1⟩
    have k1 := below_on B0.out hb1
    clear E1
    go_wp2_with (first
      | (go_at_call 5; refine (C1.out _ k1).mono ?_; rintro e w2 ⟨rfl, hb2⟩; have k2 := below_on k1 hb2)
      | (go_at_call 6; refine (C2.out _ k2).mono ?_; rintro e w3 ⟨ag, cg, rfl, R3, hb3⟩; have k3 := below_on k2 hb3))
    go_ret
    exact ⟨rfl, k3⟩

end Go.Proofs.YtandimbpealclacDoor
