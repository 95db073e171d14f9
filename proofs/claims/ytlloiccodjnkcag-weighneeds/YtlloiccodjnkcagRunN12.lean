/-
  Several texts as one: WeiLay, GFix, RefCell, RefDepth.
-/
import Derived.Test.YtlloiccodjnkcagRunN10
import Derived.Test.YtlloiccodjnkcagRunN11
import Derived.Deep.Cut
import Derived.Deep.CutRange
import Derived.RegionTactic
import Derived.Test.YtlloiccodjnkcagRunN1
import Derived.Test.YtlloiccodjnkcagRunN6
import Derived.Test.YtlloiccodjnkcagRunN2
import Derived.BigQuiet
import Derived.Deep.QuietTactic
import Derived.Test.YtlloiccodjnkcagRunN3
namespace Go.Proofs.Ytlloiccodjnkcag
open Go.ChangeShapes Go.WideShapes Go.ChangeAt Go.RowKit Go.Lib
set_option linter.unusedVariables false

set_option maxHeartbeats 4000000 in
set_option maxRecDepth 10000 in
theorem past_any (ts : List M.Nd) (m : Int) (hR : M.Right ts m) (l63 : ts.length ≤ 63) (bt ot cap ff i : Nat) (w : World) (hi : i < ts.length) (hbt : bt < w.heap.size) (hct : ∀ j, j < ts.length → SixAt w bt (ot + j * 6) (M.nAt ts j)) :
    Calls Try.prog 53 #[.slice (some ⟨bt, ot, none⟩) ts.length cap, .int .i64 (i : Nat), .int .i64 (ff : Nat)] w fun e w' => e = .returned (.int .i64 (M.pst ts (ff : Int) i : Nat)) ∧ Below w.heap.size w w' := by
  have HC : Hid (∀ W, Below w.heap.size w W → ∀ j, j < ts.length → SixAt W bt (ot + j * 6) (M.nAt ts j)) := fun W hW j hj => (hct j hj).below hW hbt
  have P0 : Hid (M.pst ts (ff : Int) i = M.pstK ts (ff : Int) ts.length i) := rfl
  have SI : Hid (∀ j, j < ts.length → M.nf (M.nAt ts j) = (ff : Int) → ∃ a : Nat, M.sideN (M.nAt ts j) = (a : Int) ∧ j < a ∧ a < ts.length ∧ ∀ n, M.pstK ts (ff : Int) (n + 1) j = M.pstK ts (ff : Int) n a) := fun j hj e => by
    obtain ⟨a, ea, h1, h2⟩ := M.side_in hR hj (by rw [e]; omega)
    exact ⟨a, ea, h1, h2, fun n => M.pst_hit e ea⟩
  have SM : Hid (∀ j n, M.nf (M.nAt ts j) ≠ (ff : Int) → M.pstK ts (ff : Int) n j = j) := fun j n e => M.pst_miss e
  have TL := hide (fun j W => toleft_any (M.nAt ts j) M.nilI W)
  have LS : Hid (∀ j, M.lessC (M.nAt ts j) M.nilI = M.ns (M.nAt ts j)) := fun j => by unfold M.lessC; rw [if_pos rfl]
  generalize M.pst ts (ff : Int) i = o at *
  clear hct
  go_enter Try.func53, Try.ntmps53
  go_wp2
  go_loopw [1] (fun v wr => ∃ j n : Nat, v = .int .i64 j ∧ j < ts.length ∧ Hid (o = M.pstK ts (ff : Int) n j ∧ ts.length ≤ n + j) ∧ Hid (Below w.heap.size w wr)) (fun v _ => ts.length - (intOf v).toNat)
  case atStart => exact ⟨i, ts.length, rfl, hi, ⟨P0.out, by omega⟩, Below.refl _ _⟩
  case round =>
    obtain ⟨j, n, rfl, hj, PN, KB⟩ := hrel
    have jz : (j : Int) < (ts.length : Int) := by omega
    obtain ⟨s0, s1, s2, s3, s4, s5⟩ := HC.out wr KB.out j hj
    by_cases hf : M.nf (M.nAt ts j) = (ff : Int)
    · obtain ⟨a, ea, h1, h2, h3⟩ := SI.out j hj hf
      have q : (M.nf (M.nAt ts j) == (ff : Int)) = true := by rw [beq_iff_eq]; exact hf
      obtain ⟨n', rfl⟩ : ∃ x, n = x + 1 := ⟨n - 1, by have := PN.out.2; omega⟩
      have PN2 : Hid (o = M.pstK ts (ff : Int) n' a ∧ ts.length ≤ n' + a) := ⟨by rw [PN.out.1]; exact h3 n', by have := PN.out.2; omega⟩
      have T1 := hide (TL.out j wr)
      unfold ndV at T1
      rw [LS.out j] at T1
      have C2 := hide (fun W hW => HC.out W (below_on KB.out hW) j hj)
      unfold M.sideN at ea
      clear hf SI SM TL LS h3 PN P0 HC
      generalize M.nf (M.nAt ts j) = nf at *
      generalize M.nc (M.nAt ts j) = nc at *
      generalize M.nv (M.nAt ts j) = nv at *
      cases hs : M.ns (M.nAt ts j) with
      | true =>
        rw [hs] at s4 ea T1
        rw [if_pos rfl] at ea
        rw [ea] at s2 T1
        go_wp2_with (go_at_call 52; refine T1.out.mono ?_; rintro e w1 ⟨rfl, hb1⟩; have K1 := hide (below_on KB.out hb1); obtain ⟨t0, t1, t2, t3, t4, t5⟩ := C2.out w1 hb1; rw [ea] at t2; clear hb1)
        go_roundw
        case rel => exact ⟨a, n', rfl, h2, PN2, K1⟩
        case measure => simp [intOf]; omega
      | false =>
        rw [hs] at s4 ea T1
        rw [if_neg (by decide)] at ea
        rw [ea] at s3 T1
        go_wp2_with (go_at_call 52; refine T1.out.mono ?_; rintro e w1 ⟨rfl, hb1⟩; have K1 := hide (below_on KB.out hb1); obtain ⟨t0, t1, t2, t3, t4, t5⟩ := C2.out w1 hb1; rw [ea] at t3; clear hb1)
        go_roundw
        case rel => exact ⟨a, n', rfl, h2, PN2, K1⟩
        case measure => simp [intOf]; omega
    · have q : (M.nf (M.nAt ts j) == (ff : Int)) = false := by rw [beq_eq_false_iff_ne]; exact hf
      have E1 : Hid (j = o) := by unfold Hid; rw [PN.out.1, SM.out j n hf]
      clear hf SI SM TL LS PN P0 HC
      go_wp2
      go_ret
      exact ⟨by rw [← E1.out]; rfl, KB.out⟩

set_option maxHeartbeats 8000000 in
set_option maxRecDepth 10000 in
theorem wlay_any (ts : List M.Nd) (l63 : ts.length ≤ 63) (bt ot cap B ff : Nat) (PA : ∀ (i : Nat) (w : World), i < ts.length → bt < w.heap.size → (∀ j, j < ts.length → SixAt w bt (ot + j * 6) (M.nAt ts j)) → Calls Try.prog 53 #[.slice (some ⟨bt, ot, none⟩) ts.length cap, .int .i64 (i : Nat), .int .i64 (ff : Nat)] w fun e w' => e = .returned (.int .i64 (M.pst ts (ff : Int) i : Nat)) ∧ Below w.heap.size w w') : ∀ (T : M.BT) (i : Nat), M.WDen ts (ff : Int) T i → ∀ (O : List M.Nd) (va : Option Addr) (vc : Nat) (w : World), bt < w.heap.size → (∀ j, j < ts.length → SixAt w bt (ot + j * 6) (M.nAt ts j)) → (Value.slice va O.length vc).ownBlock ≠ some bt → w.ownsRow B 38 6 (.slice va O.length vc) O.length (ndCells O) → B ≤ w.heap.size → O.length + T.size ≤ 1000 →
    Calls Try.prog 30 #[.slice va O.length vc, .slice (some ⟨bt, ot, none⟩) ts.length cap, .int .i64 (i : Nat), .int .i64 (ff : Nat)] w fun e w' => ∃ g c, e = .returned (.slice (some ⟨g, 0, none⟩) (O.length + T.size) c) ∧ w'.ownsRow B 38 6 (.slice (some ⟨g, 0, none⟩) (O.length + T.size) c) (O.length + T.size) (ndCells (O ++ M.lay T O.length)) ∧ w.grownBy w' (Value.slice va O.length vc).ownBlock ∧ ((Value.slice va O.length vc).ownBlock = some g ∨ w.heap.size ≤ g) := by
  intro T
  induction T with
  | lf v =>
    intro i hD O va vc w hbt hct hne hv hB hsz
    obtain ⟨hi0, hi, hn⟩ := hD
    have PI := hide (PA i w hi0 hbt hct)
    obtain ⟨p, hp⟩ : ∃ p, p = M.pst ts (ff : Int) i := ⟨_, rfl⟩
    rw [← hp] at PI hi hn
    clear hp
    have H0 : Hid (bt < w.heap.size ∧ (∀ j, j < ts.length → SixAt w bt (ot + j * 6) (M.nAt ts j)) ∧ w.ownsRow B 38 6 (.slice va O.length vc) O.length (ndCells O) ∧ B ≤ w.heap.size) := ⟨hbt, hct, hv, hB⟩
    clear hbt hct hv hB
    have ol : O.length ≤ 1000 := by omega
    have e1 : (M.BT.lf v).size = 1 := rfl
    have e2 : M.lay (.lf v) O.length = [(-1, 0, 0, 0, false, v)] := rfl
    rw [e1, e2]
    clear e1 e2 hsz
    go_enter Try.func30, Try.ntmps30
    go_upto_region 2 with (go_at_call 53; refine PI.out.mono ?_; rintro e wp ⟨rfl, hbp⟩; have KP := hide hbp; clear hbp)
    have hbt : bt < wp.heap.size := Nat.lt_of_lt_of_le H0.out.1 KP.out.size
    have hct : ∀ j, j < ts.length → SixAt wp bt (ot + j * 6) (M.nAt ts j) := fun j hj => (H0.out.2.1 j hj).below KP.out H0.out.1
    have hv := own_up H0.out.2.2.1 KP.out
    have hB : B ≤ wp.heap.size := Nat.le_trans H0.out.2.2.2 KP.out.size
    clear PI
    have iz : (p : Int) < (ts.length : Int) := by omega
    obtain ⟨j0, hj, hy0, hy1, hy2⟩ := info_parts infoN
    have J0 := hide hj
    have R0 := hct p hi
    rw [hn] at R0
    have HL : Hid (∀ g, (Value.slice va O.length vc).ownBlock = some g → g < wp.heap.size) := fun g hg => (hv.lt g hg).2
    have HV := hide hv
    have RA : Hid (∀ o, SixAt (wp.alloc o) bt (ot + p * 6) (-1, 0, 0, 0, false, v)) := fun o => R0.below ((Below.refl _ wp).alloc (Nat.le_refl _) o) hbt
    have r0 : wp.cell? ⟨bt, ot + p * 6, none⟩ = some (.int .i64 (-1)) := R0.1
    have a0 : ∀ o, (wp.alloc o).cell? ⟨bt, ot + p * 6, none⟩ = some (.int .i64 (-1)) := fun o => (RA.out o).1
    have r1 : wp.cell? ⟨bt, ot + p * 6 + 1, none⟩ = some (.int .i64 0) := R0.2.1
    have a1 : ∀ o, (wp.alloc o).cell? ⟨bt, ot + p * 6 + 1, none⟩ = some (.int .i64 0) := fun o => (RA.out o).2.1
    have r2 : wp.cell? ⟨bt, ot + p * 6 + 2, none⟩ = some (.int .i64 0) := R0.2.2.1
    have a2 : ∀ o, (wp.alloc o).cell? ⟨bt, ot + p * 6 + 2, none⟩ = some (.int .i64 0) := fun o => (RA.out o).2.2.1
    have r3 : wp.cell? ⟨bt, ot + p * 6 + 3, none⟩ = some (.int .i64 0) := R0.2.2.2.1
    have a3 : ∀ o, (wp.alloc o).cell? ⟨bt, ot + p * 6 + 3, none⟩ = some (.int .i64 0) := fun o => (RA.out o).2.2.2.1
    have r4 : wp.cell? ⟨bt, ot + p * 6 + 4, none⟩ = some (.bool false) := R0.2.2.2.2.1
    have a4 : ∀ o, (wp.alloc o).cell? ⟨bt, ot + p * 6 + 4, none⟩ = some (.bool false) := fun o => (RA.out o).2.2.2.2.1
    have r5 : wp.cell? ⟨bt, ot + p * 6 + 5, none⟩ = some (.int .i64 v) := R0.2.2.2.2.2
    have a5 : ∀ o, (wp.alloc o).cell? ⟨bt, ot + p * 6 + 5, none⟩ = some (.int .i64 v) := fun o => (RA.out o).2.2.2.2.2
    have HC := hide hct
    have HE := hide hne
    clear hv hct hj hne hn R0 RA
    go_cut [9, 10] from 15 to 20 (fun x y wx => x = .int .i64 (O.length : Int) ∧ y = .pointer (some ⟨wp.heap.size, 0, none⟩) ∧ Hid (Below wp.heap.size wp wx ∧ wx.heap.size = wp.heap.size + 1 ∧ SixAt wx wp.heap.size 0 (-1, 0, 0, 0, false, v)))
    case first =>
      clear HC HL HV HE
      go_region
      all_goals (
        go_wp2
        go_meet
        case rel => exact ⟨rfl, rfl, ((Below.refl _ wp).alloc (Nat.le_refl _) _).drew, by simp, six_alloc wp (-1, 0, 0, 0, false, v) _⟩)
    case rest =>
      obtain ⟨rfl, rfl, HX⟩ := hcut
      clear r0 r1 r2 r3 r4 r5 a0 a1 a2 a3 a4 a5
      have HO := hide (own_up HV.out HX.out.1)
      have ws := HX.out.2.1
      have s0 : wc.cell? ⟨wp.heap.size, 0, none⟩ = some (.int .i64 (-1)) := HX.out.2.2.1
      have s1 : wc.cell? ⟨wp.heap.size, 1, none⟩ = some (.int .i64 0) := HX.out.2.2.2.1
      have s2 : wc.cell? ⟨wp.heap.size, 2, none⟩ = some (.int .i64 0) := HX.out.2.2.2.2.1
      have s3 : wc.cell? ⟨wp.heap.size, 3, none⟩ = some (.int .i64 0) := HX.out.2.2.2.2.2.1
      have s4 : wc.cell? ⟨wp.heap.size, 4, none⟩ = some (.bool false) := HX.out.2.2.2.2.2.2.1
      have s5 : wc.cell? ⟨wp.heap.size, 5, none⟩ = some (.int .i64 v) := HX.out.2.2.2.2.2.2.2
      have KB : Hid (∀ W, wc.grownBy W (Value.slice va O.length vc).ownBlock → W.cell? ⟨wp.heap.size, 0, none⟩ = some (.int .i64 (-1))) := fun W hW => (six_keep (hW.block _ (by omega) (fun e => by have := HL.out _ e.symm; omega)) HX.out.2.2).1
      have WS := hide ws
      clear ws
      go_wp2_with (at_builtin; refine wpList_append_lies _ rfl (.tmp 21) (.tmp 23) 35 rfl B 38 j0 (.agg #[.int .i64 0, .int .i64 0, .int .i64 0, .int .i64 0, .bool false, .int .i64 0]) 6 48 Try.underlying35 J0.out hy0 hy1 hy2 rfl (by omega) (.slice va O.length vc) O.length (ndCells O) rfl (HO.out.alloc _) ⟨wc.heap.size, 0, none⟩ 1 1 [.int .i64 (-1), .int .i64 0, .int .i64 0, .int .i64 0, .bool false, .int .i64 v] rfl rfl (World.news_of_block (heap_alloc_new _ _)) (by simp [Value.oneCell']) (by omega) (by unfold maxLen; omega) (by omega) (by simp; have := WS.out; omega) (wc.heap.size + 1) (by simp) ?_)
      intro g1 c1 w1 hov hgrow hat hlt1
      have HO1 : Hid (w1.ownsRow B 38 6 (.slice (some ⟨g1, 0, none⟩) (O.length + 1) c1) (O.length + 1) (ndCells (O ++ [(-1, 0, 0, 0, false, v)]))) := by
        unfold Hid; rw [ndCells_app]; exact hov
      have G1 : Hid (wc.grownBy w1 (Value.slice va O.length vc).ownBlock) := grown_trans (World.grownBy_alloc wc _ _) hgrow (.inl rfl)
      have A1 : Hid ((Value.slice va O.length vc).ownBlock = some g1 ∨ wp.heap.size ≤ g1) := by
        rcases hat with q | q
        · exact .inl q
        · exact .inr (by have := WS.out; omega)
      have z0 := KB.out w1 G1.out
      clear hov hgrow hat HV HO s0 s1 s2 s3 s4 s5 KB
      go_wp2
      go_ret
      exact ⟨g1, c1, rfl, HO1.out, grown_trans (grown_of KP.out _) (grown_trans (grown_of HX.out.1 _) G1.out (.inl rfl)) (.inl rfl), A1.out.imp id (fun q => Nat.le_trans KP.out.size q)⟩
  | nd f c s l r ihl ihr =>
    intro i hD O va vc w hbt hct hne hv hB hsz
    obtain ⟨hi0, hi, hf, a, b, hn, hDl, hDr⟩ := hD
    have PI := hide (PA i w hi0 hbt hct)
    obtain ⟨p, hp⟩ : ∃ p, p = M.pst ts (ff : Int) i := ⟨_, rfl⟩
    rw [← hp] at PI hi hn
    clear hp
    have H0 : Hid (bt < w.heap.size ∧ (∀ j, j < ts.length → SixAt w bt (ot + j * 6) (M.nAt ts j)) ∧ w.ownsRow B 38 6 (.slice va O.length vc) O.length (ndCells O) ∧ B ≤ w.heap.size) := ⟨hbt, hct, hv, hB⟩
    clear hbt hct hv hB
    have ol : O.length ≤ 1000 := by omega
    have hf' : (f == -1) = false := by rw [beq_eq_false_iff_ne]; exact hf
    have IA := hide (ihl a hDl)
    have IB := hide (ihr b hDr)
    have LA : Hid (∀ k, (M.lay l k).length = l.size) := fun k => M.lay_len _ k
    have e1 : (M.BT.nd f c s l r).size = 1 + l.size + r.size := rfl
    have e2 : M.lay (.nd f c s l r) O.length = (f, c, ((O.length + 1 : Nat) : Int), ((O.length + 1 + l.size : Nat) : Int), s, 0) :: (M.lay l (O.length + 1) ++ M.lay r (O.length + 1 + l.size)) := rfl
    have cz1 : ((O.length + 1 : Nat) : Int) = (O.length : Int) + 1 := by omega
    have cz2 : ((O.length + 1 + l.size : Nat) : Int) = (O.length : Int) + 1 + (l.size : Int) := by omega
    rw [e1] at hsz
    rw [e1, e2, cz1, cz2, show O.length + (1 + l.size + r.size) = O.length + 1 + l.size + r.size by omega]
    clear e1 e2 cz1 cz2 ihl ihr hDl hDr hf
    generalize htl : l.size = sl at *
    generalize htr : r.size = sr at *
    have TL := hide htl
    have TR := hide htr
    clear htl htr
    go_enter Try.func30, Try.ntmps30
    go_upto_region 2 with (go_at_call 53; refine PI.out.mono ?_; rintro e wp ⟨rfl, hbp⟩; have KP := hide hbp; clear hbp)
    have hbt : bt < wp.heap.size := Nat.lt_of_lt_of_le H0.out.1 KP.out.size
    have hct : ∀ j, j < ts.length → SixAt wp bt (ot + j * 6) (M.nAt ts j) := fun j hj => (H0.out.2.1 j hj).below KP.out H0.out.1
    have hv := own_up H0.out.2.2.1 KP.out
    have hB : B ≤ wp.heap.size := Nat.le_trans H0.out.2.2.2 KP.out.size
    clear PI
    have iz : (p : Int) < (ts.length : Int) := by omega
    obtain ⟨j0, hj, hy0, hy1, hy2⟩ := info_parts infoN
    have J0 := hide hj
    have R0 := hct p hi
    rw [hn] at R0
    have HL : Hid (∀ g, (Value.slice va O.length vc).ownBlock = some g → g < wp.heap.size) := fun g hg => (hv.lt g hg).2
    have HV := hide hv
    have RA : Hid (∀ o, SixAt (wp.alloc o) bt (ot + p * 6) (f, c, (a : Int), (b : Int), s, 0)) := fun o => R0.below ((Below.refl _ wp).alloc (Nat.le_refl _) o) hbt
    have r0 : wp.cell? ⟨bt, ot + p * 6, none⟩ = some (.int .i64 f) := R0.1
    have a0 : ∀ o, (wp.alloc o).cell? ⟨bt, ot + p * 6, none⟩ = some (.int .i64 f) := fun o => (RA.out o).1
    have r1 : wp.cell? ⟨bt, ot + p * 6 + 1, none⟩ = some (.int .i64 c) := R0.2.1
    have a1 : ∀ o, (wp.alloc o).cell? ⟨bt, ot + p * 6 + 1, none⟩ = some (.int .i64 c) := fun o => (RA.out o).2.1
    have r2 : wp.cell? ⟨bt, ot + p * 6 + 2, none⟩ = some (.int .i64 (a : Int)) := R0.2.2.1
    have a2 : ∀ o, (wp.alloc o).cell? ⟨bt, ot + p * 6 + 2, none⟩ = some (.int .i64 (a : Int)) := fun o => (RA.out o).2.2.1
    have r3 : wp.cell? ⟨bt, ot + p * 6 + 3, none⟩ = some (.int .i64 (b : Int)) := R0.2.2.2.1
    have a3 : ∀ o, (wp.alloc o).cell? ⟨bt, ot + p * 6 + 3, none⟩ = some (.int .i64 (b : Int)) := fun o => (RA.out o).2.2.2.1
    have r4 : wp.cell? ⟨bt, ot + p * 6 + 4, none⟩ = some (.bool s) := R0.2.2.2.2.1
    have a4 : ∀ o, (wp.alloc o).cell? ⟨bt, ot + p * 6 + 4, none⟩ = some (.bool s) := fun o => (RA.out o).2.2.2.2.1
    have r5 : wp.cell? ⟨bt, ot + p * 6 + 5, none⟩ = some (.int .i64 0) := R0.2.2.2.2.2
    have a5 : ∀ o, (wp.alloc o).cell? ⟨bt, ot + p * 6 + 5, none⟩ = some (.int .i64 0) := fun o => (RA.out o).2.2.2.2.2
    have HC := hide hct
    have HE := hide hne
    clear hv hct hj hne hn R0 RA
    go_cut [9, 10] from 15 to 20 (fun x y wx => x = .int .i64 (O.length : Int) ∧ y = .pointer (some ⟨wp.heap.size, 0, none⟩) ∧ Hid (Below wp.heap.size wp wx ∧ wx.heap.size = wp.heap.size + 1 ∧ SixAt wx wp.heap.size 0 (f, c, (a : Int), (b : Int), s, 0)))
    case first =>
      clear HC HL HV HE
      go_region
      all_goals (
        go_wp2
        go_meet
        case rel => exact ⟨rfl, rfl, ((Below.refl _ wp).alloc (Nat.le_refl _) _).drew, by simp, six_alloc wp (f, c, (a : Int), (b : Int), s, 0) _⟩)
    case rest =>
      obtain ⟨rfl, rfl, HX⟩ := hcut
      clear r0 r1 r2 r3 r4 r5 a0 a1 a2 a3 a4 a5
      have HO := hide (own_up HV.out HX.out.1)
      have ws := HX.out.2.1
      have s0 : wc.cell? ⟨wp.heap.size, 0, none⟩ = some (.int .i64 f) := HX.out.2.2.1
      have s1 : wc.cell? ⟨wp.heap.size, 1, none⟩ = some (.int .i64 c) := HX.out.2.2.2.1
      have s2 : wc.cell? ⟨wp.heap.size, 2, none⟩ = some (.int .i64 (a : Int)) := HX.out.2.2.2.2.1
      have s3 : wc.cell? ⟨wp.heap.size, 3, none⟩ = some (.int .i64 (b : Int)) := HX.out.2.2.2.2.2.1
      have s4 : wc.cell? ⟨wp.heap.size, 4, none⟩ = some (.bool s) := HX.out.2.2.2.2.2.2.1
      have s5 : wc.cell? ⟨wp.heap.size, 5, none⟩ = some (.int .i64 0) := HX.out.2.2.2.2.2.2.2
      have KB : Hid (∀ W, wc.grownBy W (Value.slice va O.length vc).ownBlock → W.cell? ⟨wp.heap.size, 0, none⟩ = some (.int .i64 f) ∧ W.cell? ⟨wp.heap.size, 2, none⟩ = some (.int .i64 (a : Int)) ∧ W.cell? ⟨wp.heap.size, 3, none⟩ = some (.int .i64 (b : Int))) := fun W hW => by
        have q := six_keep (hW.block wp.heap.size (by omega) (fun e => by have := HL.out _ e.symm; omega)) HX.out.2.2
        exact ⟨q.1, q.2.2.1, q.2.2.2.1⟩
      have KC : Hid (∀ W, wc.grownBy W (Value.slice va O.length vc).ownBlock → bt < W.heap.size ∧ wc.heap.size ≤ W.heap.size ∧ ∀ j, j < ts.length → SixAt W bt (ot + j * 6) (M.nAt ts j)) := fun W hW => by
        refine ⟨by have := hW.size; omega, hW.size, fun j hj => ?_⟩
        exact six_keep (hW.block bt (by omega) (fun e => HE.out e.symm)) ((HC.out j hj).below HX.out.1 hbt)
      have WS := hide ws
      clear ws
      go_wp2_with (at_builtin; refine wpList_append_lies _ rfl (.tmp 21) (.tmp 23) 35 rfl B 38 j0 (.agg #[.int .i64 0, .int .i64 0, .int .i64 0, .int .i64 0, .bool false, .int .i64 0]) 6 48 Try.underlying35 J0.out hy0 hy1 hy2 rfl (by omega) (.slice va O.length vc) O.length (ndCells O) rfl (HO.out.alloc _) ⟨wc.heap.size, 0, none⟩ 1 1 [.int .i64 f, .int .i64 c, .int .i64 (a : Int), .int .i64 (b : Int), .bool s, .int .i64 0] rfl rfl (World.news_of_block (heap_alloc_new _ _)) (by simp [Value.oneCell']) (by omega) (by unfold maxLen; omega) (by omega) (by simp; have := WS.out; omega) (wc.heap.size + 1) (by simp) ?_)
      intro g1 c1 w1 hov hgrow hat hlt1
      have HO1 : Hid (w1.ownsRow B 38 6 (.slice (some ⟨g1, 0, none⟩) (O.length + 1) c1) (O.length + 1) (ndCells (O ++ [(f, c, (a : Int), (b : Int), s, (0 : Int))]))) := by
        unfold Hid; rw [ndCells_app]; exact hov
      have G1 : Hid (wc.grownBy w1 (Value.slice va O.length vc).ownBlock) := grown_trans (World.grownBy_alloc wc _ _) hgrow (.inl rfl)
      have A1 : Hid ((Value.slice va O.length vc).ownBlock = some g1 ∨ wc.heap.size ≤ g1) := by
        rcases hat with q | q
        · exact .inl q
        · exact .inr (by omega)
      have L0 : O.length < (O ++ [(f, c, (a : Int), (b : Int), s, (0 : Int))]).length := by simp
      obtain ⟨t0, t2, t3⟩ := KB.out w1 G1.out
      obtain ⟨x0, x1, x2, x3, x4, x5⟩ := ndCells_at _ O.length L0
      have q2 := (HO1.out.cellAt (O.length * 6 + 2) (by omega)).trans x2
      have fz2 := HO1.out.frozenAt (O.length * 6 + 2)
      have oz : ((O.length : Nat) : Int) < ((O.length + 1 : Nat) : Int) := by omega
      clear hov hgrow hat HV HO s0 s1 s2 s3 s4 s5 x0 x1 x2 x3 x4 x5 L0
      go_upto_region 7 with fail
      obtain ⟨w2, hw2⟩ : ∃ W, W = w1.setCell ⟨g1, O.length * 6 + 2, none⟩ (.int .i64 ((O.length : Int) + 1)) := ⟨_, rfl⟩
      rw [← hw2]
      have g1s : Hid ((some g1 : Option Nat) = (Value.slice va O.length vc).ownBlock ∨ ∀ q, (some g1 : Option Nat) = some q → wc.heap.size ≤ q) := by
        rcases A1.out with q | q
        · exact .inl q.symm
        · exact .inr (fun z hz => by cases hz; exact q)
      have HO2 : Hid (w2.ownsRow B 38 6 (.slice (some ⟨g1, 0, none⟩) (O.length + 1) c1) (O.length + 1) (ndCells (O ++ [(f, c, (O.length : Int) + 1, (b : Int), s, (0 : Int))]))) := by
        have st := (HO1.out.stored (O.length * 6 + 2) (.int .i64 ((O.length : Int) + 1))).1
        rw [ndCells_setL _ O.length (by simp), nAt_last, set_last] at st
        rw [hw2]
        exact st
      have G2 : Hid (wc.grownBy w2 (Value.slice va O.length vc).ownBlock) := by
        rw [hw2]
        exact grown_trans G1.out grown_set g1s.out
      have gne : Hid (g1 ≠ bt) := fun e => by
        subst e
        rcases A1.out with q | q
        · exact HE.out q
        · have := WS.out; omega
      obtain ⟨kc1, kc2, kc3⟩ := KC.out w2 G2.out
      have I1 := IA.out (O ++ [(f, c, (O.length : Int) + 1, (b : Int), s, (0 : Int))]) (some ⟨g1, 0, none⟩) c1 w2 kc1 kc3 (fun e => gne.out (by cases e; rfl)) (by rw [List.length_append]; exact HO2.out) (by have := WS.out; omega) (by rw [List.length_append]; simp; omega)
      rw [show (O ++ [(f, c, (O.length : Int) + 1, (b : Int), s, (0 : Int))]).length = O.length + 1 by simp] at I1
      have HI1 := hide I1
      obtain ⟨u0, u2, u3⟩ := KB.out w2 G2.out
      clear hw2 I1 HO1 q2 fz2 t0 t2 t3 kc1 kc3 IA
      go_upto_region 8 with (go_at_call 30; refine HI1.out.mono ?_; rintro e w3 ⟨g3, c3, rfl, ho3, hg3, ha3⟩)
      have G3 : Hid (wc.grownBy w3 (Value.slice va O.length vc).ownBlock) := grown_trans G2.out hg3 g1s.out
      have A3 : Hid ((Value.slice va O.length vc).ownBlock = some g3 ∨ wc.heap.size ≤ g3) := by
        rcases ha3 with q | q
        · have e : g1 = g3 := by simpa [Value.ownBlock] using q
          rw [← e]; exact A1.out
        · exact .inr (Nat.le_trans kc2 q)
      have HO3 : Hid (w3.ownsRow B 38 6 (.slice (some ⟨g3, 0, none⟩) (O.length + 1 + sl) c3) (O.length + 1 + sl) (ndCells (O ++ (f, c, (O.length : Int) + 1, (b : Int), s, (0 : Int)) :: M.lay l (O.length + 1)))) := by
        have := ho3
        rw [List.append_assoc] at this
        exact this
      have L3 : O.length < (O ++ (f, c, (O.length : Int) + 1, (b : Int), s, (0 : Int)) :: M.lay l (O.length + 1)).length := by simp
      obtain ⟨x0, x1, x2, x3, x4, x5⟩ := ndCells_at _ O.length L3
      have q3 := (HO3.out.cellAt (O.length * 6 + 3) (by omega)).trans x3
      have fz3 := HO3.out.frozenAt (O.length * 6 + 3)
      have oz3 : ((O.length : Nat) : Int) < ((O.length + 1 + sl : Nat) : Int) := by omega
      clear ho3 hg3 ha3 HO2 x0 x1 x2 x3 x4 x5 L3 u0 u2 u3 HI1 kc2
      go_upto_region 9 with fail
      obtain ⟨w4, hw4⟩ : ∃ W, W = w3.setCell ⟨g3, O.length * 6 + 3, none⟩ (.int .i64 ((O.length : Int) + 1 + (sl : Int))) := ⟨_, rfl⟩
      rw [← hw4]
      have g3s : Hid ((some g3 : Option Nat) = (Value.slice va O.length vc).ownBlock ∨ ∀ q, (some g3 : Option Nat) = some q → wc.heap.size ≤ q) := by
        rcases A3.out with q | q
        · exact .inl q.symm
        · exact .inr (fun z hz => by cases hz; exact q)
      have HO4 : Hid (w4.ownsRow B 38 6 (.slice (some ⟨g3, 0, none⟩) (O.length + 1 + sl) c3) (O.length + 1 + sl) (ndCells (O ++ (f, c, (O.length : Int) + 1, (O.length : Int) + 1 + (sl : Int), s, (0 : Int)) :: M.lay l (O.length + 1)))) := by
        have st := (HO3.out.stored (O.length * 6 + 3) (.int .i64 ((O.length : Int) + 1 + (sl : Int)))).1
        rw [ndCells_setR _ O.length (by simp), nAt_last, set_last] at st
        rw [hw4]
        exact st
      have G4 : Hid (wc.grownBy w4 (Value.slice va O.length vc).ownBlock) := by
        rw [hw4]
        exact grown_trans G3.out grown_set g3s.out
      have gne3 : Hid (g3 ≠ bt) := fun e => by
        subst e
        rcases A3.out with q | q
        · exact HE.out q
        · have := WS.out; omega
      obtain ⟨kc1, kc2, kc3⟩ := KC.out w4 G4.out
      have len4 : (O ++ (f, c, (O.length : Int) + 1, (O.length : Int) + 1 + (sl : Int), s, (0 : Int)) :: M.lay l (O.length + 1)).length = O.length + 1 + sl := by
        rw [List.length_append, List.length_cons, LA.out]; omega
      have I2 := IB.out (O ++ (f, c, (O.length : Int) + 1, (O.length : Int) + 1 + (sl : Int), s, (0 : Int)) :: M.lay l (O.length + 1)) (some ⟨g3, 0, none⟩) c3 w4 kc1 kc3 (fun e => gne3.out (by cases e; rfl)) (by rw [len4]; exact HO4.out) (by have := WS.out; omega) (by rw [len4]; omega)
      rw [len4] at I2
      have HI2 := hide I2
      obtain ⟨u0, u2, u3⟩ := KB.out w4 G4.out
      clear hw4 I2 HO3 q3 fz3 len4 KB KC IB kc1 kc3 HC HE
      go_wp2_with (go_at_call 30; refine HI2.out.mono ?_; rintro e w5 ⟨g5, c5, rfl, ho5, hg5, ha5⟩)
      go_ret
      refine ⟨g5, c5, rfl, ?_, grown_trans (grown_of KP.out _) (grown_trans (grown_of HX.out.1 _) (grown_trans G4.out hg5 g3s.out) (.inl rfl)) (.inl rfl), ?_⟩
      · rw [List.append_assoc, List.cons_append] at ho5
        exact ho5
      · have := HX.out.1.size
        have := KP.out.size
        rcases ha5 with q | q
        · have e : g3 = g5 := by simpa [Value.ownBlock] using q
          rw [← e]
          rcases A3.out with q | q
          · exact .inl q
          · exact .inr (by omega)
        · exact .inr (by omega)

end Go.Proofs.Ytlloiccodjnkcag

namespace Go.Proofs.Ytlloiccodjnkcag
open Go.ChangeShapes Go.WideShapes Go.ChangeAt Go.RowKit Go.Lib
set_option linter.unusedVariables false

theorem fit_in (n : Int) (w : World) (h1 : -1099511627776 ≤ n) (h2 : n ≤ 1099511627776) :
    Calls Try.prog 93 #[.int .i64 n] w fun e w' => e = .returned (.int .i64 n) ∧ w' = w := by
  go_enter Try.func93, Try.ntmps93
  go_wp2
  go_ret
  exact ⟨rfl, rfl⟩

theorem size_pos (n : Int) (w : World) (h1 : 0 ≤ n) (h2 : n ≤ 1099511627776) :
    Calls Try.prog 94 #[.int .i64 n] w fun e w' => e = .returned (.int .i64 n) ∧ w' = w := by
  go_enter Try.func94, Try.ntmps94
  go_wp2
  go_ret
  exact ⟨rfl, rfl⟩

theorem size_neg (n X : Int) (w : World) (E : Hid (-n = X)) (h1 : -1099511627776 ≤ n) (h2 : n < 0) :
    Calls Try.prog 94 #[.int .i64 n] w fun e w' => e = .returned (.int .i64 X) ∧ w' = w := by
  go_enter Try.func94, Try.ntmps94
  go_wp2
  go_ret
  exact ⟨ret_int E.out, rfl⟩

theorem add_in (a b : Int) (w : World) (a1 : -549755813888 ≤ a) (a2 : a ≤ 549755813888) (b1 : -549755813888 ≤ b) (b2 : b ≤ 549755813888) :
    Calls Try.prog 79 #[.int .i64 a, .int .i64 b] w fun e w' => e = .returned (.int .i64 (a + b)) ∧ w' = w := by
  go_enter Try.func79, Try.ntmps79
  go_wp2_with (go_at_call 93; refine (fit_in _ _ (by omega) (by omega)).mono ?_; rintro e w' ⟨rfl, rfl⟩)
  go_ret
  exact ⟨rfl, rfl⟩

theorem M.mul_far {a b : Int} (a1 : -1000000 ≤ a) (a2 : a ≤ 1000000) (b1 : 1 ≤ b) (b2 : b ≤ 1000) : -1000000000 ≤ a * b ∧ a * b ≤ 1000000000 := by
  have h1 : a * b ≤ 1000000 * b := Int.mul_le_mul_of_nonneg_right a2 (by omega)
  have h2 : -1000000 * b ≤ a * b := Int.mul_le_mul_of_nonneg_right a1 (by omega)
  omega
theorem M.quo_far {x b : Int} (x1 : 0 < x) (x2 : x ≤ 1000000) (b1 : 1 ≤ b) (b2 : b ≤ 1000) : b ≤ 1099511627776 / x := by
  rw [Int.le_ediv_iff_mul_le x1]
  have h1 : x * b ≤ 1000000 * b := Int.mul_le_mul_of_nonneg_right x2 (by omega)
  rw [Int.mul_comm]
  omega

set_option maxHeartbeats 1000000 in
theorem mul_small (a b : Int) (w : World) (a1 : -1000000 ≤ a) (a2 : a ≤ 1000000) (b1 : 1 ≤ b) (b2 : b ≤ 1000) :
    Calls Try.prog 70 #[.int .i64 a, .int .i64 b] w fun e w' => e = .returned (.int .i64 (a * b)) ∧ w' = w := by
  obtain ⟨m1, m2⟩ := M.mul_far a1 a2 b1 b2
  rcases (show a = 0 ∨ 0 < a ∨ a < 0 from by omega) with h0 | h0 | h0
  · have E : Hid (0 = a * b) := by unfold Hid; rw [h0, Int.zero_mul]
    have hz : (a == 0) = true := by rw [h0]; rfl
    clear h0
    go_enter Try.func70, Try.ntmps70
    go_wp2_with (go_at_call 93; refine (fit_in _ _ (by omega) (by omega)).mono ?_; rintro e w' ⟨rfl, rfl⟩)
    go_ret
    exact ⟨rfl, rfl⟩
  · have hz : (a == 0) = false := by simp; omega
    have hq := M.quo_far h0 a2 b1 b2
    go_enter Try.func70, Try.ntmps70
    go_wp2_with (first | (go_at_call 93; refine (fit_in _ _ (by omega) (by omega)).mono ?_; rintro e w' ⟨rfl, rfl⟩) | (go_at_call 94; refine (size_pos _ _ (by omega) (by omega)).mono ?_; rintro e w' ⟨rfl, rfl⟩))
    go_ret
    exact ⟨rfl, rfl⟩
  · have hz : (a == 0) = false := by simp; omega
    obtain ⟨X, hX⟩ : ∃ X, -a = X := ⟨_, rfl⟩
    have x1 : 0 < X := by omega
    have x2 : X ≤ 1000000 := by omega
    have hq := M.quo_far x1 x2 b1 b2
    have HX := hide hX
    clear hX
    go_enter Try.func70, Try.ntmps70
    go_wp2_with (first | (go_at_call 93; refine (fit_in _ _ (by omega) (by omega)).mono ?_; rintro e w' ⟨rfl, rfl⟩) | (go_at_call 94; refine (size_pos _ _ (by omega) (by omega)).mono ?_; rintro e w' ⟨rfl, rfl⟩) | (go_at_call 94; refine (size_neg _ X _ HX (by omega) (by omega)).mono ?_; rintro e w' ⟨rfl, rfl⟩))
    go_ret
    exact ⟨rfl, rfl⟩

set_option maxHeartbeats 1000000 in
theorem total_in (a : Option Addr) (ws : List Int) (ca : Nat) (w : World) (h : Rd w a ws) (h0 : 0 < ws.length) (n12 : ws.length ≤ 12) (hx : ∀ i, i < ws.length → 1 ≤ ws.getD i 0 ∧ ws.getD i 0 ≤ 1000) :
    Calls Try.prog 59 #[.slice a ws.length ca] w fun e w' => e = .returned (.int .i64 (M.allK ws ws.length)) ∧ w' = w := by
  obtain ⟨ba, oa, rfl, hba, hca⟩ := h.2 (by intro e; rw [e] at h0; simp at h0)
  have HC := hide hca
  have HX := hide hx
  have SB := hide (fun k (hk : k ≤ ws.length) => M.all_pos (ws := ws) k (fun i hi => hx i (by omega)))
  clear h hca hx hba h0
  go_enter Try.func59, Try.ntmps59
  go_wp2
  go_loopw [3, 8] (fun s i wr => ∃ k : Nat, k ≤ ws.length ∧ s = .int .i64 (M.allK ws k) ∧ i = .int .i64 k ∧ wr = w) (fun _ i _ => ws.length - (intOf i).toNat)
  case atStart => exact ⟨0, Nat.zero_le _, rfl, rfl, rfl⟩
  case round =>
    obtain ⟨k, hk, rfl, rfl, ew⟩ := hrel
    subst wr
    by_cases hlt : k < ws.length
    · have c1 := HC.out k hlt
      obtain ⟨x1, x2⟩ := HX.out k hlt
      obtain ⟨s1, s2⟩ := SB.out k hk
      have SS : Hid (M.allK ws k + ws.getD k 0 = M.allK ws (k + 1)) := rfl
      have kz : (k : Int) < (ws.length : Int) := by omega
      clear HC HX SB
      generalize ws.getD k 0 = x at *
      go_wp2_with (go_at_call 79; refine (add_in _ _ _ (by omega) (by omega) (by omega) (by omega)).mono ?_; rintro e w1 ⟨rfl, e1⟩; subst w1)
      go_roundw
      case rel => exact ⟨k + 1, by omega, by rw [SS.out], by go_num, (by first | rfl | trivial)⟩
      case measure => simp [intOf]; omega
    · have ek : k = ws.length := by omega
      have EE := hide ek
      clear ek HC HX SB
      go_wp2
      go_ret
      exact ⟨ret_int (by rw [EE.out]), rfl⟩

end Go.Proofs.Ytlloiccodjnkcag

namespace Go.Proofs.Ytlloiccodjnkcag
open Go.ChangeShapes Go.WideShapes Go.ChangeAt Go.RowKit
set_option linter.unusedVariables false

theorem rcell_any (x : Int) (w : World) : Calls Try.prog 54 #[.int .i64 x] w fun e w' => e = .returned (.bool (!M.outI x)) ∧ w' = w := by
  by_cases h1 : -1000000 ≤ x
  · have E : Hid (decide (x ≤ 1000000) = !M.outI x) := by
      unfold Hid M.outI
      rw [decide_eq_false (show ¬ x < -1000000 by omega), Bool.false_or]
      by_cases h : x ≤ 1000000
      · rw [decide_eq_true h, decide_eq_false (by omega)]; rfl
      · rw [decide_eq_false h, decide_eq_true (by omega)]; rfl
    have h1' : decide (-1000000 ≤ x) = true := decide_eq_true h1
    clear h1
    go_enter Try.func54, Try.ntmps54
    go_wp2
    go_ret
    exact ⟨ret_bool E.out, rfl⟩
  · have E : Hid (false = !M.outI x) := by
      unfold Hid M.outI
      rw [decide_eq_true (show x < -1000000 by omega)]; rfl
    have h1' : decide (-1000000 ≤ x) = false := decide_eq_false h1
    clear h1
    go_enter Try.func54, Try.ntmps54
    go_wp2
    go_ret
    exact ⟨ret_bool E.out, rfl⟩

end Go.Proofs.Ytlloiccodjnkcag

namespace Go.Proofs.Ytlloiccodjnkcag
open Go.ChangeShapes Go.WideShapes Go.ChangeAt Go.RowKit
set_option linter.unusedVariables false

set_option maxHeartbeats 1000000 in
theorem rdepth_any (a0 : Option Addr) (ts : List M.Nd) (cap : Nat) (m : Int) (w : World) (h : RdN w a0 ts) (hl : ts.length ≤ 63) (hf : ∀ j, j < ts.length → M.nodeF (M.nAt ts j) j ts.length m = 0) :
    ∀ (f i : Nat), i < ts.length → ts.length ≤ f + i → Calls Try.prog 55 #[.slice a0 ts.length cap, .int .i64 (i : Nat)] w fun e w' => e = .returned (.int .i64 (M.depth ts i : Nat)) ∧ w' = w
  | 0, i, hi, hk => by omega
  | f + 1, i, hi, hk => by
    obtain ⟨b, off, rfl, hb, hc⟩ := h.2 (by intro e; subst e; simp at hi)
    obtain ⟨s0, s1, s2, s3, s4, s5⟩ := hc i hi
    have C : Hid (∀ j : Nat, i < j → j < ts.length → Calls Try.prog 55 #[.slice (some ⟨b, off, none⟩) ts.length cap, .int .i64 (j : Nat)] w fun e w' => e = .returned (.int .i64 (M.depth ts j : Nat)) ∧ w' = w) :=
      fun j h1 h2 => rdepth_any _ ts cap m w h hl hf f j h2 (by omega)
    have hm : ts.length ≤ 9223372036854775807 := h.1
    by_cases hn : M.nf (M.nAt ts i) = -1
    · have E : Hid (M.depth ts i = 0) := M.depth_leaf hi hn
      have q : (M.nf (M.nAt ts i) == -1) = true := by rw [beq_iff_eq]; exact hn
      clear hn hc h hf C
      generalize M.depth ts i = o at *
      generalize M.nf (M.nAt ts i) = f at *
      go_enter Try.func55, Try.ntmps55
      go_wp2
      go_ret
      exact ⟨ret_int (by rw [E.out]; rfl), rfl⟩
    · obtain ⟨a, c, ea, ec, h1, h2, h3, h4, hac⟩ := M.ask_at hf hi hn
      have q : (M.nf (M.nAt ts i) == -1) = false := by rw [beq_eq_false_iff_ne]; exact hn
      have E : Hid (M.depth ts i = max (M.depth ts a) (M.depth ts c) + 1) := M.depth_ask hf hi hn ea ec
      have da : M.depth ts a ≤ 63 := by have := M.depth_le hf ts.length a h2 (by omega); omega
      have dc : M.depth ts c ≤ 63 := by have := M.depth_le hf ts.length c h4 (by omega); omega
      rw [ea] at s2
      rw [ec] at s3
      by_cases hlt : M.depth ts a < M.depth ts c
      · have EE : Hid (M.depth ts i = M.depth ts c + 1) := by unfold Hid; rw [E.out]; omega
        clear hn hc h hf ea ec E hac
        generalize M.depth ts i = o at *
        generalize M.nf (M.nAt ts i) = f at *
        go_enter Try.func55, Try.ntmps55
        go_wp2_with (go_at_call 55; refine (C.out _ (by assumption) (by assumption)).mono ?_; rintro e w1 ⟨rfl, rfl⟩)
        go_ret
        exact ⟨ret_int (by rw [EE.out]; omega), rfl⟩
      · have EE : Hid (M.depth ts i = M.depth ts a + 1) := by unfold Hid; rw [E.out]; omega
        have hle : M.depth ts c ≤ M.depth ts a := by omega
        clear hn hc h hf ea ec E hac
        generalize M.depth ts i = o at *
        generalize M.nf (M.nAt ts i) = f at *
        go_enter Try.func55, Try.ntmps55
        go_wp2_with (go_at_call 55; refine (C.out _ (by assumption) (by assumption)).mono ?_; rintro e w1 ⟨rfl, rfl⟩)
        go_ret
        exact ⟨ret_int (by rw [EE.out]; omega), rfl⟩

end Go.Proofs.Ytlloiccodjnkcag
