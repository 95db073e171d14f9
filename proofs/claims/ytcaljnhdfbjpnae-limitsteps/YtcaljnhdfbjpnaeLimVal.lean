/-
  What package limit's valueOf answers of a tree that is right, whatever numbers the row's cells have.
-/
import Derived.Test.YtcaljnhdfbjpnaePut6
import Derived.Test.YtcaljnhdfbjpnaeTLeaf
import Derived.Test.YtcaljnhdfbjpnaeLMathB
import Derived.Deep.Cut
import Derived.Deep.CutRange
namespace Go.Proofs.Ytcaljnhdfbjpnae
open Go.ChangeShapes Go.WideShapes Go.ChangeAt Go.RowKit Go.Lib
set_option linter.unusedVariables false

set_option maxHeartbeats 8000000 in
set_option maxRecDepth 10000 in
theorem limval_fair (a0 b : Option Addr) (L : List M.Nd) (xs : List Int) (ca cb : Nat) (w : World) (ht : RdN w a0 L) (hr : Rd w b xs) (F : M.Fair L (xs.length : Int)) :
    Calls Try.prog 33 #[.slice a0 L.length ca, .slice b xs.length cb] w fun e w' => e = .returned (.int .i64 (M.nv (M.nAt L (M.toD L xs 0)))) ∧ Below w.heap.size w w' := by
  have l0 : 0 < L.length := F.2.1
  have l63 := F.1
  have FN := hide F.2.2.2.2.1
  obtain ⟨bn, on, rfl, hbn, hcn⟩ := ht.2 (by intro e; rw [e] at l0; simp at l0)
  have KN : Hid (∀ W, Below w.heap.size w W → ∀ q, q < L.length → SixAt W bn (on + q * 6) (M.nAt L q)) := fun W hW q hq => (hcn q hq).below hW hbn
  have HX := hide (fun W (hW : Below w.heap.size w W) => hr.below hW)
  have B0 : Hid (∀ o, Below w.heap.size w (w.alloc o)) := fun o => (Below.refl _ w).alloc (Nat.le_refl _) o
  have hmx : xs.length ≤ 9223372036854775807 := hr.1
  obtain ⟨r0, r1, r2, r3, r4, r5⟩ := KN.out w (Below.refl _ _) 0 l0
  simp only [Nat.zero_mul, Nat.add_zero] at r0 r1 r2 r3 r4 r5
  have lz : (0 : Int) < (L.length : Int) := by omega
  have S0 : Hid (Six (w.alloc (.cells #[.int .i64 (M.nf (M.nAt L 0)), .int .i64 (M.nc (M.nAt L 0)), .int .i64 (M.nl (M.nAt L 0)), .int .i64 (M.nr (M.nAt L 0)), .bool (M.ns (M.nAt L 0)), .int .i64 (M.nv (M.nAt L 0))] 29)) w.heap.size (M.nAt L 0)) :=
    ⟨World.cell?_alloc_at _ _ _ 0 rfl, World.cell?_alloc_at _ _ _ 1 rfl, World.cell?_alloc_at _ _ _ 2 rfl, World.cell?_alloc_at _ _ _ 3 rfl, World.cell?_alloc_at _ _ _ 4 rfl, World.cell?_alloc_at _ _ _ 5 rfl⟩
  have FR : Hid (∀ cs t j, (w.alloc (.cells cs t)).frozen? ⟨w.heap.size, j, none⟩ = false) := fun cs t j => by
    unfold World.frozen?
    rw [show (w.alloc (.cells cs t)).heap[w.heap.size]? = some (.cells cs t) from heap_alloc_new w _]
    simp
  clear hr F hbn hcn ht
  obtain ⟨sf, hsf⟩ : ∃ z, z = M.nf (M.nAt L 0) := ⟨_, rfl⟩
  obtain ⟨sc, hsc⟩ : ∃ z, z = M.nc (M.nAt L 0) := ⟨_, rfl⟩
  obtain ⟨sl, hsl⟩ : ∃ z, z = M.nl (M.nAt L 0) := ⟨_, rfl⟩
  obtain ⟨sr, hsr⟩ : ∃ z, z = M.nr (M.nAt L 0) := ⟨_, rfl⟩
  obtain ⟨ss, hss⟩ : ∃ z, z = M.ns (M.nAt L 0) := ⟨_, rfl⟩
  obtain ⟨sv, hsv⟩ : ∃ z, z = M.nv (M.nAt L 0) := ⟨_, rfl⟩
  rw [← hsf] at r0
  rw [← hsc] at r1
  rw [← hsl] at r2
  rw [← hsr] at r3
  rw [← hss] at r4
  rw [← hsv] at r5
  rw [← hsf, ← hsc, ← hsl, ← hsr, ← hss, ← hsv] at S0
  clear hsf hsc hsl hsr hss hsv
  go_enter Try.func33, Try.ntmps33
  go_wp2
  go_loopw [] (fun wr => ∃ q : Nat, q < L.length ∧ Hid (M.toD L xs q = M.toD L xs 0) ∧ Hid (Six wr w.heap.size (M.nAt L q)) ∧ Hid (∀ j, wr.frozen? ⟨w.heap.size, j, none⟩ = false) ∧ Hid (Below w.heap.size w wr) ∧ Hid (w.heap.size < wr.heap.size)) (fun wr => vFar w.heap.size wr)
  case atStart => exact ⟨0, l0, rfl, S0, fun j => FR.out _ _ j, B0.out _, by simp [Hid]⟩
  case round =>
    clear S0 FR r0 r1 r2 r3 r4 r5 lz
    obtain ⟨q, hlt, I, S, FR, K, SZ⟩ := hrel
    have VF := hide (vFar_six S.out)
    obtain ⟨s0, s1, s2, s3, s4, s5⟩ := S.out
    have hsz := SZ.out
    by_cases hf : M.nf (M.nAt L q) = -1
    · have t : (M.nf (M.nAt L q) != -1) = false := by rw [bne_eq_false_iff_eq]; exact hf
      have E : Hid (M.nv (M.nAt L q) = M.nv (M.nAt L (M.toD L xs 0))) := by unfold Hid; rw [← I.out, M.to_leaf hlt hf]
      clear hf VF S I KN HX FN
      generalize M.nf (M.nAt L q) = nf at *
      generalize M.nv (M.nAt L q) = nv at *
      go_wp2
      go_ret
      exact ⟨ret_int E.out, K.out⟩
    · have t : (M.nf (M.nAt L q) != -1) = true := by rw [bne_iff_ne]; exact hf
      have g0 := (M.node_ask (FN.out q hlt) hf).1
      have g1 := (M.node_ask (FN.out q hlt) hf).2.1
      obtain ⟨f, ef⟩ : ∃ f : Nat, M.nf (M.nAt L q) = f := ⟨(M.nf (M.nAt L q)).toNat, by omega⟩
      obtain ⟨a, c, ea, ec, qa, al, qc, cl, _⟩ := M.ask_at FN.out hlt hf
      have NX : Hid (M.nextI (M.nAt L q) xs = if M.lessC (M.nAt L q) (xs.getD f 0) = true then (a : Int) else (c : Int)) := by
        unfold Hid M.nextI; rw [ef, Int.toNat_natCast, ea, ec]
      have hfl : f < xs.length := by omega
      obtain ⟨bx, ox, ex, hbx, hcx⟩ := (HX.out wr K.out).2 (by intro e; rw [e] at hfl; simp at hfl)
      have hx := hcx f hfl
      have fz : (f : Int) < (xs.length : Int) := by omega
      have TL := hide (toleft_any (M.nAt L q) (xs.getD f 0))
      unfold ndV at TL
      have SN : Hid (∀ j, q < j → j < L.length → M.nextI (M.nAt L q) xs = (j : Int) → M.toD L xs j = M.toD L xs 0) := fun j h1 h2 e => by rw [← M.to_next FN.out hlt hf e]; exact I.out
      have VM : Hid (∀ j W, q < j → j < L.length → min a c ≤ j → Six W w.heap.size (M.nAt L j) → vFar w.heap.size W < vFar w.heap.size wr) := fun j W h1 h2 h3 hs => by
        rw [VF.out, if_neg hf, vFar_six hs, ea, ec, Int.toNat_natCast, Int.toNat_natCast]
        by_cases hj : M.nf (M.nAt L j) = -1
        · rw [if_pos hj]; omega
        · obtain ⟨a2, c2, ea2, ec2, h4, h5, h6, h7, _⟩ := M.ask_at FN.out h2 hj
          rw [if_neg hj, ea2, ec2, Int.toNat_natCast, Int.toNat_natCast]
          omega
      have UP : Hid (∀ W, Below wr.heap.size wr W → Six W w.heap.size (M.nAt L q) ∧ (∀ j, W.frozen? ⟨w.heap.size, j, none⟩ = false) ∧ Below w.heap.size w W ∧ w.heap.size < W.heap.size) := fun W hW =>
        ⟨S.out.below hW hsz, fun j => (hW.frozen (p := ⟨w.heap.size, j, none⟩) hsz).trans (FR.out j), below_on K.out hW, Nat.lt_of_lt_of_le hsz hW.size⟩
      subst ex
      have UPS : Hid (∀ W, Below wr.heap.size wr W → W.cell? ⟨w.heap.size, 0, none⟩ = some (.int .i64 (f : Int)) ∧ W.cell? ⟨w.heap.size, 1, none⟩ = some (.int .i64 (M.nc (M.nAt L q))) ∧ W.cell? ⟨w.heap.size, 2, none⟩ = some (.int .i64 (a : Int)) ∧ W.cell? ⟨w.heap.size, 3, none⟩ = some (.int .i64 (c : Int)) ∧ W.cell? ⟨w.heap.size, 4, none⟩ = some (.bool (M.ns (M.nAt L q))) ∧ W.cell? ⟨w.heap.size, 5, none⟩ = some (.int .i64 (M.nv (M.nAt L q)))) := fun W hW => by
        obtain ⟨u0, u1, u2, u3, u4, u5⟩ := (UP.out W hW).1
        rw [ef] at u0
        rw [ea] at u2
        rw [ec] at u3
        exact ⟨u0, u1, u2, u3, u4, u5⟩
      rw [ea, ec, ef] at TL
      rw [ef] at s0 t
      rw [ea] at s2
      rw [ec] at s3
      clear VF S hf g0 g1 ef ea ec hcx
      generalize M.lessC (M.nAt L q) (xs.getD f 0) = bl at *
      generalize xs.getD f 0 = x at *
      generalize M.nc (M.nAt L q) = nc at *
      generalize M.ns (M.nAt L q) = ns at *
      generalize M.nv (M.nAt L q) = nv at *
      cases bl with
      | true =>
        have EJ : Hid (M.toD L xs a = M.toD L xs 0) := SN.out a qa al (by rw [NX.out]; rfl)
        have VJ := hide (fun W hs => VM.out a W qa al (by omega) hs)
        have KJ : Hid (∀ W, Below wr.heap.size wr W → SixAt W bn (on + a * 6) (M.nAt L a)) := fun W hW => KN.out W (below_on K.out hW) a al
        have P6 : Hid (∀ W, Below wr.heap.size wr W → Six (put6 W w.heap.size (.int .i64 (M.nf (M.nAt L a))) (.int .i64 (M.nc (M.nAt L a))) (.int .i64 (M.nl (M.nAt L a))) (.int .i64 (M.nr (M.nAt L a))) (.bool (M.ns (M.nAt L a))) (.int .i64 (M.nv (M.nAt L a)))) w.heap.size (M.nAt L a) ∧ (∀ i, (put6 W w.heap.size (.int .i64 (M.nf (M.nAt L a))) (.int .i64 (M.nc (M.nAt L a))) (.int .i64 (M.nl (M.nAt L a))) (.int .i64 (M.nr (M.nAt L a))) (.bool (M.ns (M.nAt L a))) (.int .i64 (M.nv (M.nAt L a)))).frozen? ⟨w.heap.size, i, none⟩ = false) ∧ Below w.heap.size w (put6 W w.heap.size (.int .i64 (M.nf (M.nAt L a))) (.int .i64 (M.nc (M.nAt L a))) (.int .i64 (M.nl (M.nAt L a))) (.int .i64 (M.nr (M.nAt L a))) (.bool (M.ns (M.nAt L a))) (.int .i64 (M.nv (M.nAt L a)))) ∧ w.heap.size < (put6 W w.heap.size (.int .i64 (M.nf (M.nAt L a))) (.int .i64 (M.nc (M.nAt L a))) (.int .i64 (M.nl (M.nAt L a))) (.int .i64 (M.nr (M.nAt L a))) (.bool (M.ns (M.nAt L a))) (.int .i64 (M.nv (M.nAt L a)))).heap.size) := fun W hW => by
          obtain ⟨u1, u2, u3, u4⟩ := UP.out W hW
          exact ⟨put6_cells u1, fun i => put6_frozen (u2 i), put6_below u3 (Nat.le_refl _), by rw [put6_size]; exact u4⟩
        have jz : (a : Int) < (L.length : Int) := by omega
        clear SN VM KN NX HX FN I
        unfold SixAt at KJ
        generalize M.nf (M.nAt L a) = mf at *
        generalize M.nc (M.nAt L a) = mc at *
        generalize M.nl (M.nAt L a) = ml at *
        generalize M.nr (M.nAt L a) = mr at *
        generalize M.ns (M.nAt L a) = ms at *
        generalize M.nv (M.nAt L a) = mv at *
        go_upto_region 3 with fail
        go_cut [18] from 12 to 18 (fun v wx => v = .bool true ∧ Hid (Below wr.heap.size wr wx))
        case first =>
          go_region_with (go_at_call 61; refine (TL.out _).mono ?_; rintro e w1 ⟨rfl, hb1⟩; have hb2 := hide (((Below.refl _ _).drew).trans hb1))
          all_goals (
            go_wp2
            go_meet
            case rel => exact ⟨rfl, hb2⟩)
        case rest =>
          obtain ⟨rfl, hb2⟩ := hcut
          obtain ⟨z0, z1, z2, z3, z4, z5⟩ := UPS.out wc hb2.out
          obtain ⟨k0, k1, k2, k3, k4, k5⟩ := KJ.out wc hb2.out
          have FRW := (UP.out wc hb2.out).2.1
          obtain ⟨r1, r2, r3, r4⟩ := P6.out wc hb2.out
          have PR := hide r1
          have PF := hide r2
          have PB := hide r3
          have PS := hide r4
          clear r1 r2 r3 r4 P6 KJ UP UPS TL
          go_wp2
          exact ⟨⟨a, al, EJ, PR, PF, PB, PS⟩, VJ.out _ PR.out⟩
      | false =>
        have EJ : Hid (M.toD L xs c = M.toD L xs 0) := SN.out c qc cl (by rw [NX.out]; rfl)
        have VJ := hide (fun W hs => VM.out c W qc cl (by omega) hs)
        have KJ : Hid (∀ W, Below wr.heap.size wr W → SixAt W bn (on + c * 6) (M.nAt L c)) := fun W hW => KN.out W (below_on K.out hW) c cl
        have P6 : Hid (∀ W, Below wr.heap.size wr W → Six (put6 W w.heap.size (.int .i64 (M.nf (M.nAt L c))) (.int .i64 (M.nc (M.nAt L c))) (.int .i64 (M.nl (M.nAt L c))) (.int .i64 (M.nr (M.nAt L c))) (.bool (M.ns (M.nAt L c))) (.int .i64 (M.nv (M.nAt L c)))) w.heap.size (M.nAt L c) ∧ (∀ i, (put6 W w.heap.size (.int .i64 (M.nf (M.nAt L c))) (.int .i64 (M.nc (M.nAt L c))) (.int .i64 (M.nl (M.nAt L c))) (.int .i64 (M.nr (M.nAt L c))) (.bool (M.ns (M.nAt L c))) (.int .i64 (M.nv (M.nAt L c)))).frozen? ⟨w.heap.size, i, none⟩ = false) ∧ Below w.heap.size w (put6 W w.heap.size (.int .i64 (M.nf (M.nAt L c))) (.int .i64 (M.nc (M.nAt L c))) (.int .i64 (M.nl (M.nAt L c))) (.int .i64 (M.nr (M.nAt L c))) (.bool (M.ns (M.nAt L c))) (.int .i64 (M.nv (M.nAt L c)))) ∧ w.heap.size < (put6 W w.heap.size (.int .i64 (M.nf (M.nAt L c))) (.int .i64 (M.nc (M.nAt L c))) (.int .i64 (M.nl (M.nAt L c))) (.int .i64 (M.nr (M.nAt L c))) (.bool (M.ns (M.nAt L c))) (.int .i64 (M.nv (M.nAt L c)))).heap.size) := fun W hW => by
          obtain ⟨u1, u2, u3, u4⟩ := UP.out W hW
          exact ⟨put6_cells u1, fun i => put6_frozen (u2 i), put6_below u3 (Nat.le_refl _), by rw [put6_size]; exact u4⟩
        have jz : (c : Int) < (L.length : Int) := by omega
        clear SN VM KN NX HX FN I
        unfold SixAt at KJ
        generalize M.nf (M.nAt L c) = mf at *
        generalize M.nc (M.nAt L c) = mc at *
        generalize M.nl (M.nAt L c) = ml at *
        generalize M.nr (M.nAt L c) = mr at *
        generalize M.ns (M.nAt L c) = ms at *
        generalize M.nv (M.nAt L c) = mv at *
        go_upto_region 3 with fail
        go_cut [18] from 12 to 18 (fun v wx => v = .bool false ∧ Hid (Below wr.heap.size wr wx))
        case first =>
          go_region_with (go_at_call 61; refine (TL.out _).mono ?_; rintro e w1 ⟨rfl, hb1⟩; have hb2 := hide (((Below.refl _ _).drew).trans hb1))
          all_goals (
            go_wp2
            go_meet
            case rel => exact ⟨rfl, hb2⟩)
        case rest =>
          obtain ⟨rfl, hb2⟩ := hcut
          obtain ⟨z0, z1, z2, z3, z4, z5⟩ := UPS.out wc hb2.out
          obtain ⟨k0, k1, k2, k3, k4, k5⟩ := KJ.out wc hb2.out
          have FRW := (UP.out wc hb2.out).2.1
          obtain ⟨r1, r2, r3, r4⟩ := P6.out wc hb2.out
          have PR := hide r1
          have PF := hide r2
          have PB := hide r3
          have PS := hide r4
          clear r1 r2 r3 r4 P6 KJ UP UPS TL
          go_wp2
          exact ⟨⟨c, cl, EJ, PR, PF, PB, PS⟩, VJ.out _ PR.out⟩

end Go.Proofs.Ytcaljnhdfbjpnae
