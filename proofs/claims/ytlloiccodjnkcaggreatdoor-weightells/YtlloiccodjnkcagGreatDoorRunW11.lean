/-
  Several texts as one: AppendUs, RefRank, RefUse, NdSame, UsSame, SaPart, RefFloor, RefSpr, SaCells.
-/
import Derived.Test.YtlloiccodjnkcagGreatDoorRunW5
import Derived.Laws.AppendOwnNone
import Derived.OwnWalk
import Derived.Test.YtlloiccodjnkcagGreatDoorRunW7
import Derived.Deep.AppendLies
import Derived.Deep.Cut
import Derived.Deep.CutRange
import Derived.Deep.CutBlock
import Derived.BigQuiet
import Derived.Deep.QuietTactic
import Derived.Test.YtlloiccodjnkcagGreatDoorRunW6
import Derived.RegionTactic
import Derived.BigRegion
import Derived.Deep.RegionWith
import Derived.Test.YtlloiccodjnkcagGreatDoorRunW0
namespace Go.Proofs.YtlloiccodjnkcagGreatDoor
open Go.ChangeShapes Go.WideShapes Go.ChangeAt Go.RowKit Go.Lib
set_option linter.unusedVariables false

theorem wpList_append_us {w : World} {ops : Array Oper} {rest : List Oper} {o : Oper} {act : Act} {Q : Exit → Act → World → Prop} (hgd : o.guard = none) (s x : Operand)
    (ho : o.op = .call { callee := .builtin .append, args := #[s, x], argTypes := #[29, 29] })
    (base : Nat) (v : Value) (n : Nat) (zs : List M.Us) (hs : act.eval s = v) (hown : w.ownsRow base 50 3 v n (usCells zs))
    (a : Option Addr) (ys : List M.Us) (m cap : Nat) (hm : ys.length = m) (hx : act.eval x = .slice a m cap) (hr : ys ≠ [] → ∃ ad, a = some ad ∧ ∀ j u, (usCells ys)[j]? = some u → w.cell? (ad.add j) = some u) (hnil : a = none → cap = 0) (hlen : n + ys.length ≤ 1000) (hbase : base ≤ w.heap.size)
    (h : ∀ va vc w', w'.ownsRow base 50 3 (.slice va (n + m) vc) (n + m) (usCells (zs ++ ys)) → Below base w w' → w.grownBy w' v.ownBlock → wpList Tryz.prog ops Q rest (act.put o.dst (.slice va (n + m) vc)) w') : wpList Tryz.prog ops Q (o :: rest) act w := by
  subst hm
  obtain ⟨i0, hi, hz0, hz1, hz2⟩ := info_parts infoU
  cases a with
  | none =>
    have e : ys = [] := by
      by_cases hy : ys = []
      · exact hy
      · obtain ⟨ad, e, _⟩ := hr hy; cases e
    subst e
    have hc := hnil rfl
    subst hc
    refine wpList_append_own_none hgd s x 29 ho base 50 i0 3 Tryz.underlying29 hi v n (usCells zs) hs hown hx ?_
    obtain ⟨va, vc, e⟩ : ∃ va vc, v = .slice va n vc := by
      rcases hown.2 with ⟨hv, h0⟩ | ⟨g, cap, cur, hv, _⟩
      · exact ⟨none, 0, by rw [hv, h0]⟩
      · exact ⟨some ⟨g, 0, none⟩, cap, hv⟩
    subst e
    have := h va vc w (by simpa using hown) (Below.refl _ _) ⟨rfl, rfl, rfl, Nat.le_refl _, fun _ _ _ => rfl⟩
    simpa using this
  | some ad =>
    have hnews : ∀ j u, (usCells ys)[j]? = some u → w.cell? (ad.add j) = some u := by
      by_cases hy : ys = []
      · subst hy; intro j u hj; simp [usCells] at hj
      · obtain ⟨ad', e, hc⟩ := hr hy
        cases e
        exact hc
    refine wpList_append_own _ hgd s x 29 ho base 50 i0 (.agg #[.int .i64 0, .int .i64 0, .int .i64 0]) 3 24 Tryz.underlying29 hi hz0 hz1 hz2 rfl (by decide) v n (usCells zs) hs hown ad ys.length cap (usCells ys) hx (usCells_len ys) hnews (usCells_one ys) (by unfold maxLen; omega) (by omega) hbase ?_
    intro v' w' hown' hgrow _
    obtain ⟨va, vc, e⟩ : ∃ va vc, v' = .slice va (n + ys.length) vc := by
      rcases hown'.2 with ⟨hv, h0⟩ | ⟨g, cap, cur, hv, _⟩
      · exact ⟨none, 0, by rw [hv, h0]⟩
      · exact ⟨some ⟨g, 0, none⟩, cap, hv⟩
    subst e
    exact h va vc w' (by rw [usCells_app]; exact hown') ((Below.refl _ w).grown hgrow hbase (fun k hk => (hown.lt k hk).1)) hgrow

end Go.Proofs.YtlloiccodjnkcagGreatDoor

namespace Go.Proofs.YtlloiccodjnkcagGreatDoor
open Go.ChangeShapes Go.WideShapes Go.ChangeAt Go.RowKit Go.Lib
set_option linter.unusedVariables false

theorem own_base {w : World} {B B' e size n : Nat} {v : Value} {l : List Value} (h : w.ownsRow B' e size v n l) (hB : B ≤ B') : w.ownsRow B e size v n l := by
  refine ⟨h.1, ?_⟩
  rcases h.2 with h0 | ⟨g, cap, cur, hv, h1, h2⟩
  · exact .inl h0
  · exact .inr ⟨g, cap, cur, hv, Nat.le_trans hB h1, h2⟩
theorem M.insU_len (g : Bool) (out : List M.Us) (u : M.Us) : (M.insU g out u).length = out.length + 1 := by
  unfold M.insU
  rw [List.length_append, List.length_append, List.length_take, List.length_drop]
  have := M.toU_le g out u out.length
  simp
  omega
theorem M.rankK_len (g : Bool) (l : List M.Us) : ∀ k, (M.rankK g l k).length ≤ k
  | 0 => Nat.le_refl _
  | k + 1 => by
    have := M.rankK_len g l k
    unfold M.rankK
    split
    · omega
    · rw [M.insU_len]; omega

set_option maxHeartbeats 16000000 in
set_option maxRecDepth 10000 in
theorem rranked_any (a : Option Addr) (xs : List M.Us) (ca : Nat) (gb : Bool) (w : World) (h : RdU w a xs) (l8 : xs.length ≤ 8) :
    Calls Tryz.prog 23 #[.slice a xs.length ca, .bool gb] w fun e w' => ∃ ag cg, e = .returned (.slice ag (M.rankU gb xs).length cg) ∧ RdU w' ag (M.rankU gb xs) ∧ (∀ p, ag = some p → w.heap.size ≤ p.block) ∧ Below w.heap.size w w' := by
  have HX := hide h
  have RL := hide (M.rankK_len gb xs)
  have RS : Hid (∀ i, i < xs.length → M.rankK gb xs (i + 1) = if (M.uAt xs i).2.1 = 0 then M.rankK gb xs i else M.insU gb (M.rankK gb xs i) (M.uAt xs i)) := fun i _ => rfl
  have RU : Hid (M.rankK gb xs xs.length = M.rankU gb xs) := rfl
  obtain ⟨RR, hRR⟩ : ∃ R, R = M.rankU gb xs := ⟨_, rfl⟩
  rw [← hRR] at RU ⊢
  clear h hRR
  go_enter Tryz.func23, Tryz.ntmps23
  go_wp2
  go_loopw [5, 6] (fun v i wr => ∃ (k : Nat) (va : Option Addr) (vc : Nat), k ≤ xs.length ∧ i = .int .i64 k ∧ v = .slice va (M.rankK gb xs k).length vc ∧ Hid (wr.ownsRow w.heap.size 50 3 (.slice va (M.rankK gb xs k).length vc) (M.rankK gb xs k).length (usCells (M.rankK gb xs k))) ∧ Hid (Below w.heap.size w wr)) (fun _ i _ => xs.length - (intOf i).toNat)
  case atStart => exact ⟨0, none, 0, Nat.zero_le _, rfl, rfl, World.ownsRow_nil _ _ _ _, Below.refl _ _⟩
  case round =>
    obtain ⟨i, va, vc, hi, rfl, rfl, HO, K⟩ := hrel
    have rl := RL.out i
    by_cases hlt : i < xs.length
    · have iz : (i : Int) < (xs.length : Int) := by omega
      obtain ⟨b, off, rfl, hb, hc⟩ := HX.out.2 (by intro e; rw [e] at hlt; simp at hlt)
      have XC : Hid (∀ W, Below w.heap.size w W → ThreeAt W b (off + i * 3) (M.uAt xs i)) := fun W hW => by
        obtain ⟨q0, q1, q2⟩ := hc i hlt
        exact ⟨(hW.cell (p := ⟨b, off + i * 3, none⟩) hb).trans q0, (hW.cell (p := ⟨b, off + i * 3 + 1, none⟩) hb).trans q1, (hW.cell (p := ⟨b, off + i * 3 + 2, none⟩) hb).trans q2⟩
      obtain ⟨x0, x1, x2⟩ := XC.out wr K.out
      have RN := hide (RS.out i hlt)
      by_cases hn : (M.uAt xs i).2.1 = 0
      · have q : ((M.uAt xs i).2.1 == 0) = true := by rw [beq_iff_eq]; exact hn
        have e : M.rankK gb xs (i + 1) = M.rankK gb xs i := by rw [RN.out, if_pos hn]
        have HO2 : Hid (wr.ownsRow w.heap.size 50 3 (.slice va (M.rankK gb xs i).length vc) (M.rankK gb xs (i + 1)).length (usCells (M.rankK gb xs (i + 1)))) := by unfold Hid; rw [e]; exact HO.out
        have EL : Hid ((M.rankK gb xs (i + 1)).length = (M.rankK gb xs i).length) := by unfold Hid; rw [e]
        clear hc HX RS RU RN hn HO XC e RL
        generalize (M.uAt xs i).2.1 = un at *
        generalize (M.rankK gb xs i).length = n at *
        go_wp2
        go_roundw
        case rel => exact ⟨i + 1, va, vc, by omega, by go_num, by rw [EL.out], by unfold Hid; rw [EL.out]; have := HO2.out; rw [EL.out] at this; exact this, K⟩
        case measure => simp [intOf]; omega
      · have q : ((M.uAt xs i).2.1 == 0) = false := by rw [beq_eq_false_iff_ne]; exact hn
        have e : M.rankK gb xs (i + 1) = M.insU gb (M.rankK gb xs i) (M.uAt xs i) := by rw [RN.out, if_neg hn]
        have RN2 := hide e
        obtain ⟨R, hR⟩ : ∃ R, R = M.rankK gb xs i := ⟨_, rfl⟩
        rw [← hR] at HO rl RN2 ⊢
        obtain ⟨u, hu⟩ : ∃ u, u = M.uAt xs i := ⟨_, rfl⟩
        rw [← hu] at x0 x1 x2 XC q RN2
        have WR : Hid (∀ W, Below wr.heap.size wr W → W.ownsRow w.heap.size 50 3 (.slice va R.length vc) R.length (usCells R)) := fun W hW => own_up HO.out hW
        clear hc HX RS RU RN hn e hR hu RL
        go_upto_block 2 with fail
        go_cut [7] from 23 to 61 (fun kk wx => kk = .int .i64 (M.toU gb R u R.length : Nat) ∧ Hid (Below wr.heap.size wr wx))
        case first =>
          generalize wr = wA at *
          go_wp2
          go_loopw [7] (fun kk wq => ∃ k : Nat, kk = .int .i64 k ∧ k ≤ R.length ∧ Hid (M.toU gb R u R.length = M.toU gb R u k) ∧ Hid (Below wA.heap.size wA wq)) (fun kk _ => (intOf kk).toNat)
          case atStart => exact ⟨R.length, rfl, Nat.le_refl _, rfl, Below.refl _ _⟩
          case round =>
            obtain ⟨k, rfl, hk, TU, KQ⟩ := hrel
            have KD : Hid (∀ nq, Below wA.heap.size wA (wr.drewN nq)) := fun nq => below_on KQ.out (below_drew (Below.refl _ _) nq (Nat.le_refl _))
            rcases k with _ | j
            · have T0 : Hid (M.toU gb R u R.length = 0) := TU.out
              clear TU
              go_upto_region 7 with fail
              go_quiet (fail)
              go_wp2
              go_meet
              case rel => exact ⟨by rw [T0.out], KD.out _⟩
            · have hj : j < R.length := by omega
              have own := WR.out wr KQ.out
              obtain ⟨g, vc', e⟩ : ∃ g vc', (Value.slice va R.length vc) = .slice (some ⟨g, 0, none⟩) R.length vc' := by
                rcases own.2 with ⟨h0, h1⟩ | ⟨g, cap, cur, hv, _⟩
                · omega
                · exact ⟨g, cap, hv⟩
              rw [Value.slice.injEq] at e
              obtain ⟨rfl, _, rfl⟩ := e
              obtain ⟨_, r1, r2⟩ := usCells_at R j hj
              have c1 := (own.cellAt (j * 3 + 1) (by omega)).trans r1
              have c2 := (own.cellAt (j * 3 + 2) (by omega)).trans r2
              obtain ⟨_, y1, y2⟩ := XC.out wr (below_on K.out KQ.out)
              have jz : (j : Int) < (R.length : Int) := by omega
              have j0 : (0 : Int) ≤ (j : Int) := by omega
              have EU : M.uAt R j = R.getD j (0, 0, 0) := rfl
              have TS : Hid (M.toU gb R u (j + 1) = if M.keyU gb (M.uAt R j) < M.keyU gb u then M.toU gb R u j else j + 1) := rfl
              have p1 : decide ((0 : Int) < ((j + 1 : Nat) : Int)) = true := decide_eq_true (by omega)
              clear own r1 r2 WR HO EU
              cases gb with
              | false =>
                have KE : Hid (M.keyU false (M.uAt R j) = (M.uAt R j).2.1 ∧ M.keyU false u = u.2.1) := ⟨rfl, rfl⟩
                by_cases lt : (M.uAt R j).2.1 < u.2.1
                · have t1 : decide ((M.uAt R j).2.1 < u.2.1) = true := decide_eq_true lt
                  have T2 : Hid (M.toU false R u R.length = M.toU false R u j) := by unfold Hid; rw [TU.out, TS.out, KE.out.1, KE.out.2, if_pos lt]
                  clear TU TS KE lt
                  generalize (M.uAt R j).2.1 = rn at *
                  generalize (M.uAt R j).2.2 = rg at *
                  go_upto_region 7 with fail
                  go_quiet (fail)
                  go_wp2
                  go_roundw
                  case rel => exact ⟨j, by go_num, by omega, T2, KD.out _⟩
                  case measure => simp [intOf]; try omega
                · have t1 : decide ((M.uAt R j).2.1 < u.2.1) = false := decide_eq_false lt
                  have T2 : Hid (M.toU false R u R.length = j + 1) := by unfold Hid; rw [TU.out, TS.out, KE.out.1, KE.out.2, if_neg lt]
                  clear TU TS KE lt
                  generalize (M.uAt R j).2.1 = rn at *
                  generalize (M.uAt R j).2.2 = rg at *
                  go_upto_region 7 with fail
                  go_quiet (fail)
                  go_wp2
                  go_meet
                  case rel => exact ⟨by rw [T2.out]; go_num, KD.out _⟩
              | true =>
                have KE : Hid (M.keyU true (M.uAt R j) = (M.uAt R j).2.2 ∧ M.keyU true u = u.2.2) := ⟨rfl, rfl⟩
                by_cases lt : (M.uAt R j).2.2 < u.2.2
                · have t1 : decide ((M.uAt R j).2.2 < u.2.2) = true := decide_eq_true lt
                  have T2 : Hid (M.toU true R u R.length = M.toU true R u j) := by unfold Hid; rw [TU.out, TS.out, KE.out.1, KE.out.2, if_pos lt]
                  clear TU TS KE lt
                  generalize (M.uAt R j).2.1 = rn at *
                  generalize (M.uAt R j).2.2 = rg at *
                  go_upto_region 7 with fail
                  go_quiet (fail)
                  go_wp2
                  go_roundw
                  case rel => exact ⟨j, by go_num, by omega, T2, KD.out _⟩
                  case measure => simp [intOf]; try omega
                · have t1 : decide ((M.uAt R j).2.2 < u.2.2) = false := decide_eq_false lt
                  have T2 : Hid (M.toU true R u R.length = j + 1) := by unfold Hid; rw [TU.out, TS.out, KE.out.1, KE.out.2, if_neg lt]
                  clear TU TS KE lt
                  generalize (M.uAt R j).2.1 = rn at *
                  generalize (M.uAt R j).2.2 = rg at *
                  go_upto_region 7 with fail
                  go_quiet (fail)
                  go_wp2
                  go_meet
                  case rel => exact ⟨by rw [T2.out]; go_num, KD.out _⟩
        case rest =>
          obtain ⟨rfl, KC⟩ := hcut
          have KW := hide (below_on K.out KC.out)
          have own := WR.out wc KC.out
          obtain ⟨y0, y1, y2⟩ := XC.out wc KW.out
          have tle := M.toU_le gb R u R.length
          have IE : Hid (M.insU gb R u = R.take (M.toU gb R u R.length) ++ [u] ++ R.drop (M.toU gb R u R.length)) := rfl
          have IL := hide (M.insU_len gb R u)
          have sz := KW.out.size
          generalize M.toU gb R u R.length = k at *
          have kz0 : (0 : Int) ≤ (k : Int) := by omega
          have kz1 : (k : Int) ≤ (R.length : Int) := by omega
          have TL : Hid ((R.take k).length = k) := by unfold Hid; rw [List.length_take]; omega
          have DLn : Hid ((R.drop k).length = R.length - k) := List.length_drop
          have L1 : Hid (k + 1 + (R.length - k) = (M.rankK gb xs (i + 1)).length) := by unfold Hid; rw [RN2.out, IL.out]; omega
          have C1 : Hid (usCells (R.take k ++ [u] ++ R.drop k) = usCells (M.rankK gb xs (i + 1))) := by unfold Hid; rw [RN2.out, IE.out]
          rcases own.2 with ⟨h0, hR0⟩ | ⟨g, cap, cur, hv, hg1, hg2, hg3, hg4, _⟩
          · rw [Value.slice.injEq] at h0
            obtain ⟨rfl, _, rfl⟩ := h0
            have RE : R = [] := List.length_eq_zero_iff.1 hR0
            have kE : k = 0 := by omega
            subst RE
            subst kE
            have z1 : Hid (0 + 1 = (M.rankK gb xs (i + 1)).length) := by unfold Hid; rw [← L1.out]; rfl
            have z2 : Hid (usCells ([] ++ [u]) = usCells (M.rankK gb xs (i + 1))) := by unfold Hid; rw [← C1.out]; rfl
            have RN0 : Hid (wc.ownsRow wc.heap.size 50 3 (.slice none 0 0) 0 (usCells [])) := World.ownsRow_nil _ _ _ _
            clear WR HO XC RN2 IE IL own L1 C1 TL DLn
            go_upto_region 11 with (at_builtin; refine wpList_append_us rfl (.tmp 62) (.tmp 65) rfl wc.heap.size (.slice none 0 0) 0 [] rfl RN0.out none [] 0 0 rfl rfl (fun q => absurd rfl q) (fun _ => rfl) (by decide) (Nat.le_refl _) ?_; intro na nc w5 ho5 hb5 hg5; have O5 : Hid (w5.ownsRow wc.heap.size 50 3 (.slice na 0 nc) 0 (usCells [])) := ho5; have K5 := hide hb5; clear ho5 hb5 hg5)
            have s5 := K5.out.size
            obtain ⟨z5, z6, z7⟩ : ThreeAt w5 b (off + i * 3) u := ⟨(K5.out.cell (p := ⟨b, off + i * 3, none⟩) (by show b < _; omega)).trans y0, (K5.out.cell (p := ⟨b, off + i * 3 + 1, none⟩) (by show b < _; omega)).trans y1, (K5.out.cell (p := ⟨b, off + i * 3 + 2, none⟩) (by show b < _; omega)).trans y2⟩
            have NBK : Hid (∀ j v, (usCells [u])[j]? = some v → (w5.alloc (.cells #[.int .i64 u.1, .int .i64 u.2.1, .int .i64 u.2.2] 50)).cell? ((⟨w5.heap.size, 0, none⟩ : Addr).add j) = some v) := by
              show ∀ j v, ([.int .i64 u.1, .int .i64 u.2.1, .int .i64 u.2.2] : List Value)[j]? = some v → _
              exact World.news_of_block (heap_alloc_new _ _)
            have O5A : Hid ((w5.alloc (.cells #[.int .i64 u.1, .int .i64 u.2.1, .int .i64 u.2.2] 50)).ownsRow wc.heap.size 50 3 (.slice na 0 nc) 0 (usCells [])) := O5.out.alloc _
            have s5a : wc.heap.size ≤ (w5.alloc (.cells #[.int .i64 u.1, .int .i64 u.2.1, .int .i64 u.2.2] 50)).heap.size := by simp; omega
            have S5A := hide s5a
            clear s5a
            go_upto_region 12 with (at_builtin; refine wpList_append_us rfl (.tmp 67) (.tmp 72) rfl wc.heap.size (.slice na 0 nc) 0 [] rfl O5A.out (some ⟨w5.heap.size, 0, none⟩) [u] 1 1 rfl rfl (fun _ => ⟨_, rfl, NBK.out⟩) (fun e => by cases e) (show 0 + 1 ≤ 1000 by decide) S5A.out ?_; intro nb nbc w6 ho6 hb6 hg6; have O6 : Hid (w6.ownsRow wc.heap.size 50 3 (.slice nb 1 nbc) 1 (usCells ([] ++ [u]))) := ho6; have K6 : Hid (Below wc.heap.size wc w6) := ((K5.out.alloc s5 _).trans hb6); clear ho6 hb6 hg6)
            have s6 := hide K6.out.size
            go_wp2_with (at_builtin; refine wpList_append_us rfl (.tmp 74) (.tmp 77) rfl wc.heap.size (.slice nb 1 nbc) 1 ([] ++ [u]) rfl O6.out none [] 0 0 rfl rfl (fun q => absurd rfl q) (fun _ => rfl) (by decide) s6.out ?_; intro nv nvc w7 ho7 hb7 hg7; have O7 : Hid (w7.ownsRow wc.heap.size 50 3 (.slice nv 1 nvc) 1 (usCells ([] ++ [u]))) := ho7; have K7 := hide (K6.out.trans hb7); clear ho7 hb7 hg7)
            have OF : Hid (w7.ownsRow w.heap.size 50 3 (.slice nv (M.rankK gb xs (i + 1)).length nvc) (M.rankK gb xs (i + 1)).length (usCells (M.rankK gb xs (i + 1)))) := by unfold Hid; rw [← z1.out, ← z2.out]; exact own_base O7.out sz
            have KF := hide (below_on KW.out K7.out)
            go_roundw
            case rel => exact ⟨i + 1, nv, nvc, by omega, by go_num, by rw [← z1.out], OF, KF⟩
            case measure => simp [intOf]; omega
          · rw [Value.slice.injEq] at hv
            obtain ⟨rfl, _, rfl⟩ := hv
            have cm : vc ≤ 9223372036854775807 := hg4
            have gs : g < wc.heap.size := (Array.getElem?_eq_some_iff.1 hg2).1
            have RC : Hid (∀ W, Below wc.heap.size wc W → ∀ j, j < R.length → ThreeAt W g (0 + j * 3) (M.uAt R j)) := fun W hW j hj => by
              obtain ⟨r0, r1, r2⟩ := usCells_at R j hj
              have o2 := own_up own hW
              rw [Nat.zero_add]
              exact ⟨(o2.cellAt (j * 3) (by omega)).trans r0, (o2.cellAt (j * 3 + 1) (by omega)).trans r1, (o2.cellAt (j * 3 + 2) (by omega)).trans r2⟩
            have S1 : Hid (∀ W, Below wc.heap.size wc W → ∀ j v, (usCells (R.take k))[j]? = some v → W.cell? ((⟨g, 0, none⟩ : Addr).add j) = some v) := fun W hW => by
              have z := us_src (k := 0) (n := k) (RC.out W hW) (by omega)
              rw [List.drop_zero] at z
              exact z
            have S2 : Hid (∀ W, Below wc.heap.size wc W → ∀ j v, (usCells (R.drop k))[j]? = some v → W.cell? ((⟨g, k * 3, none⟩ : Addr).add j) = some v) := fun W hW => by
              have z := us_src (k := k) (n := R.length - k) (RC.out W hW) (by omega)
              rw [List.take_of_length_le (by rw [List.length_drop]; omega), Nat.zero_add] at z
              exact z
            clear hg1 hg2 WR HO XC RN2 IE IL
            go_upto_region 11 with (at_builtin; refine wpList_append_us rfl (.tmp 62) (.tmp 65) rfl wc.heap.size (.slice none 0 0) 0 [] rfl (World.ownsRow_nil _ _ _ _) (some ⟨g, 0, none⟩) (R.take k) k vc TL.out rfl (fun _ => ⟨_, rfl, S1.out _ (Below.refl _ _)⟩) (fun e => by cases e) (by rw [TL.out]; omega) (Nat.le_refl _) ?_; intro na nc w5 ho5 hb5 hg5; have O5 := hide ho5; have K5 := hide hb5; clear ho5 hb5 hg5)
            rw [Nat.zero_add, List.nil_append] at O5
            have s5 := K5.out.size
            obtain ⟨z0, z1, z2⟩ : ThreeAt w5 b (off + i * 3) u := ⟨(K5.out.cell (p := ⟨b, off + i * 3, none⟩) (by show b < _; omega)).trans y0, (K5.out.cell (p := ⟨b, off + i * 3 + 1, none⟩) (by show b < _; omega)).trans y1, (K5.out.cell (p := ⟨b, off + i * 3 + 2, none⟩) (by show b < _; omega)).trans y2⟩
            have NBK : Hid (∀ j v, (usCells [u])[j]? = some v → (w5.alloc (.cells #[.int .i64 u.1, .int .i64 u.2.1, .int .i64 u.2.2] 50)).cell? ((⟨w5.heap.size, 0, none⟩ : Addr).add j) = some v) := by
              show ∀ j v, ([.int .i64 u.1, .int .i64 u.2.1, .int .i64 u.2.2] : List Value)[j]? = some v → _
              exact World.news_of_block (heap_alloc_new _ _)
            have O5A : Hid ((w5.alloc (.cells #[.int .i64 u.1, .int .i64 u.2.1, .int .i64 u.2.2] 50)).ownsRow wc.heap.size 50 3 (.slice na k nc) k (usCells (R.take k))) := O5.out.alloc _
            have s5a : wc.heap.size ≤ (w5.alloc (.cells #[.int .i64 u.1, .int .i64 u.2.1, .int .i64 u.2.2] 50)).heap.size := by simp; omega
            have S5A := hide s5a
            have k8 : k + 1 ≤ 1000 := by omega
            clear s5a
            go_upto_region 12 with (at_builtin; refine wpList_append_us rfl (.tmp 67) (.tmp 72) rfl wc.heap.size (.slice na k nc) k (R.take k) rfl O5A.out (some ⟨w5.heap.size, 0, none⟩) [u] 1 1 rfl rfl (fun _ => ⟨_, rfl, NBK.out⟩) (fun e => by cases e) k8 S5A.out ?_; intro nb nbc w6 ho6 hb6 hg6; have O6 := hide ho6; have K6 : Hid (Below wc.heap.size wc w6) := ((K5.out.alloc s5 _).trans hb6); clear ho6 hb6 hg6)
            have s6 := hide K6.out.size
            have k9 : k + 1 + (R.drop k).length ≤ 1000 := by rw [DLn.out]; omega
            have K9 := hide k9
            clear k9
            by_cases hvk : vc = k
            · have DE : Hid (R.drop k = []) := List.drop_eq_nil_of_le (by omega)
              subst hvk
              have C2 : Hid (usCells (R.take vc ++ [u] ++ []) = usCells (M.rankK gb xs (i + 1))) := by unfold Hid; rw [← C1.out, DE.out]
              have L2 : Hid (vc + 1 + 0 = (M.rankK gb xs (i + 1)).length) := by unfold Hid; rw [← L1.out]; omega
              have k10 : Hid (vc + 1 + ([] : List M.Us).length ≤ 1000) := k8
              go_wp2_with (at_builtin; refine wpList_append_us rfl (.tmp 74) (.tmp 77) rfl wc.heap.size (.slice nb (vc + 1) nbc) (vc + 1) (R.take vc ++ [u]) rfl O6.out (some ⟨g, 0, none⟩) [] 0 0 rfl rfl (fun q => absurd rfl q) (fun e => by cases e) k10.out s6.out ?_; intro nv nvc w7 ho7 hb7 hg7; have O7 := hide ho7; have K7 := hide (K6.out.trans hb7); clear ho7 hb7 hg7)
              have OF : Hid (w7.ownsRow w.heap.size 50 3 (.slice nv (M.rankK gb xs (i + 1)).length nvc) (M.rankK gb xs (i + 1)).length (usCells (M.rankK gb xs (i + 1)))) := by unfold Hid; rw [← L2.out, ← C2.out]; exact own_base O7.out sz
              have KF := hide (below_on KW.out K7.out)
              go_roundw
              case rel => exact ⟨i + 1, nv, nvc, by omega, by go_num, by rw [← L2.out], OF, KF⟩
              case measure => simp [intOf]; omega
            · go_wp2_with (at_builtin; refine wpList_append_us rfl (.tmp 74) (.tmp 77) rfl wc.heap.size (.slice nb (k + 1) nbc) (k + 1) (R.take k ++ [u]) rfl O6.out (some ⟨g, k * 3, none⟩) (R.drop k) (R.length - k) (vc - k) DLn.out rfl (fun _ => ⟨_, rfl, S2.out _ K6.out⟩) (fun e => by cases e) K9.out s6.out ?_; intro nv nvc w7 ho7 hb7 hg7; have O7 := hide ho7; have K7 := hide (K6.out.trans hb7); clear ho7 hb7 hg7)
              all_goals (
                have OF : Hid (w7.ownsRow w.heap.size 50 3 (.slice nv (M.rankK gb xs (i + 1)).length nvc) (M.rankK gb xs (i + 1)).length (usCells (M.rankK gb xs (i + 1)))) := by unfold Hid; rw [← L1.out, ← C1.out]; exact own_base O7.out sz
                have KF := hide (below_on KW.out K7.out)
                go_roundw
                case rel => exact ⟨i + 1, nv, nvc, by omega, by go_num, by rw [← L1.out], OF, KF⟩
                case measure => simp [intOf]; omega)
    · have ie : i = xs.length := by omega
      have iz : ¬ ((i : Int) < (xs.length : Int)) := by omega
      have ho := HO.out
      rw [ie, RU.out] at ho
      have EL : Hid ((M.rankK gb xs i).length = RR.length) := by unfold Hid; rw [ie, RU.out]
      have rr8 : RR.length ≤ 8 := by rw [← EL.out]; omega
      obtain ⟨ga, gc, ev, hr, hf⟩ := own_rdU rfl (by unfold maxLen; omega) ho
      rw [Value.slice.injEq] at ev
      have HR : Hid (RdU wr va RR) := by rw [ev.1]; exact hr
      have HF : Hid (∀ p, va = some p → w.heap.size ≤ p.block) := by rw [ev.1]; exact hf
      clear ie ho hr hf ev HO HX RS RU RL
      generalize (M.rankK gb xs i).length = n at *
      go_wp2
      go_ret
      exact ⟨va, ⟨vc, by rw [← EL.out]; rfl⟩, HR.out, HF.out, K.out⟩

end Go.Proofs.YtlloiccodjnkcagGreatDoor

namespace Go.Proofs.YtlloiccodjnkcagGreatDoor
open Go.ChangeShapes Go.WideShapes Go.ChangeAt Go.RowKit Go.Lib
set_option linter.unusedVariables false

/-- eight features with their nodes and gains -/
def M.useF (n g : Nat → Int) (k : Nat) : List M.Us := (List.range k).map fun (i : Nat) => ((i : Int), n i, g i)
theorem M.useF_len (n g : Nat → Int) (k : Nat) : (M.useF n g k).length = k := by simp [M.useF]
theorem M.useF_at (n g : Nat → Int) {k i : Nat} (h : i < k) : M.uAt (M.useF n g k) i = ((i : Int), n i, g i) := by
  rw [uAt_in _ (by rw [M.useF_len]; exact h)]; simp [M.useF]
theorem M.useF_more (n g : Nat → Int) (k : Nat) : M.useF n g (k + 1) = M.useF n g k ++ [((k : Int), n k, g k)] := by
  unfold M.useF; rw [List.range_succ, List.map_append]; rfl
theorem M.useF_set (n g : Nat → Int) {k i : Nat} (h : i < k) (v : Int) : (M.useF n g k).set i ((M.uAt (M.useF n g k) i).1, v, (M.uAt (M.useF n g k) i).2.2) = M.useF (fun j => if j = i then v else n j) g k := by
  rw [M.useF_at n g h]
  refine List.ext_getElem (by simp [M.useF]) fun j h1 h2 => ?_
  by_cases e : i = j
  · subst e; simp [M.useF]
  · rw [List.getElem_set_ne e]
    simp [M.useF]
    exact fun z => absurd z.symm e
theorem M.useF_setG (n g : Nat → Int) {k i : Nat} (h : i < k) (v : Int) : (M.useF n g k).set i ((M.uAt (M.useF n g k) i).1, (M.uAt (M.useF n g k) i).2.1, v) = M.useF n (fun j => if j = i then v else g j) k := by
  rw [M.useF_at n g h]
  refine List.ext_getElem (by simp [M.useF]) fun j h1 h2 => ?_
  by_cases e : i = j
  · subst e; simp [M.useF]
  · rw [List.getElem_set_ne e]
    simp [M.useF]
    exact fun z => absurd z.symm e
theorem M.useF_use (l : List (List M.Nd)) : M.useF (fun i => ((M.cntG (i : Int) l : Nat) : Int)) (fun _ => 0) 8 = M.useL l := rfl

set_option maxHeartbeats 4000000 in
set_option maxRecDepth 10000 in
theorem rblank_any (w : World) : Calls Tryz.prog 21 #[] w fun e w' => ∃ g c, e = .returned (.slice (some ⟨g, 0, none⟩) 8 c) ∧ w'.ownsRow w.heap.size 50 3 (.slice (some ⟨g, 0, none⟩) 8 c) 8 (usCells (M.useF (fun _ => 0) (fun _ => 0) 8)) ∧ Below w.heap.size w w' := by
  obtain ⟨i0, hi, hz0, hz1, hz2⟩ := info_parts infoU
  have I0 := hide hi
  clear hi
  go_enter Tryz.func21, Tryz.ntmps21
  go_wp2
  go_loopw [1, 2] (fun v i wr => ∃ (k : Nat) (va : Option Addr) (vc : Nat), k ≤ 8 ∧ i = .int .i64 k ∧ v = .slice va k vc ∧ Hid (wr.ownsRow w.heap.size 50 3 (.slice va k vc) k (usCells (M.useF (fun _ => 0) (fun _ => 0) k))) ∧ Hid (Below w.heap.size w wr)) (fun _ i _ => 8 - (intOf i).toNat)
  case atStart => exact ⟨0, none, 0, by omega, rfl, rfl, World.ownsRow_nil _ _ _ _, Below.refl _ _⟩
  case round =>
    obtain ⟨k, va, vc, hk, rfl, rfl, HO, K⟩ := hrel
    have w0 := K.out.size
    by_cases hlt : k < 8
    · have kz : decide ((k : Int) < 8) = true := decide_eq_true (by omega)
      have N : Hid (usCells (M.useF (fun _ => 0) (fun _ => 0) (k + 1)) = usCells (M.useF (fun _ => 0) (fun _ => 0) k) ++ [.int .i64 (k : Int), .int .i64 0, .int .i64 0]) := by
        unfold Hid; rw [M.useF_more, usCells_app]; rfl
      go_wp2_with (at_builtin; refine wpList_append_lies _ rfl (.tmp 7) (.tmp 10) 29 rfl w.heap.size 50 i0 (.agg #[.int .i64 0, .int .i64 0, .int .i64 0]) 3 24 Tryz.underlying29 I0.out hz0 hz1 hz2 rfl (by omega) (.slice va k vc) k (usCells (M.useF (fun _ => 0) (fun _ => 0) k)) rfl (HO.out.alloc _) ⟨wr.heap.size, 0, none⟩ 1 1 [.int .i64 (k : Int), .int .i64 0, .int .i64 0] rfl rfl (World.news_of_block (heap_alloc_new _ _)) (by simp [Value.oneCell']) (by omega) (by unfold maxLen; omega) (by omega) (by simp; omega) (wr.heap.size + 1) (by simp) ?_)
      intro g c w5 hov hgrow hat hlt5
      have HO5 : Hid (w5.ownsRow w.heap.size 50 3 (.slice (some ⟨g, 0, none⟩) (k + 1) c) (k + 1) (usCells (M.useF (fun _ => 0) (fun _ => 0) (k + 1)))) := by unfold Hid; rw [N.out]; exact hov
      have B5 : Hid (Below w.heap.size w w5) := (K.out.alloc w0 _).grown hgrow (by simp; omega) (fun k hk => (HO.out.lt k hk).1)
      clear hov hgrow hat
      go_wp2
      go_roundw
      case rel => exact ⟨k + 1, some ⟨g, 0, none⟩, c, by omega, by go_num, rfl, HO5, B5⟩
      case measure => simp [intOf]; omega
    · have kz : decide ((k : Int) < 8) = false := decide_eq_false (by omega)
      have ke : k = 8 := by omega
      have ho := HO.out
      rw [ke] at ho
      obtain ⟨g, c, e, _⟩ : ∃ g c, Value.slice va 8 vc = .slice (some ⟨g, 0, none⟩) 8 c ∧ True := by
        rcases ho.2 with ⟨h0, _⟩ | ⟨g, cap, cur, hv, _⟩
        · cases h0
        · exact ⟨g, cap, hv, trivial⟩
      rw [e] at ho
      have E := hide e
      have KE := hide ke
      have HO8 := hide ho
      clear e ho ke HO
      go_wp2
      go_ret
      exact ⟨g, c, by rw [← E.out, ← KE.out]; rfl, HO8.out, K.out⟩

theorem M.cnt_more (f : Int) (t : List M.Nd) {k : Nat} (hk : k < t.length) : M.cntN f (t.take (k + 1)) = M.cntN f (t.take k) + (if M.nf (M.nAt t k) = f then 1 else 0) := by
  rw [List.take_succ_eq_append_getElem hk, M.cntN_app]
  have e : M.nAt t k = t[k] := by unfold M.nAt; rw [M.getD_at hk]
  rw [e]
  rfl
theorem M.cnt_le (f : Int) : ∀ t : List M.Nd, M.cntN f t ≤ t.length
  | [] => Nat.le_refl _
  | n :: t => by
    have := M.cnt_le f t
    show (if M.nf n = f then 1 else 0) + M.cntN f t ≤ t.length + 1
    split <;> omega

set_option maxHeartbeats 8000000 in
set_option maxRecDepth 10000 in
theorem ruses_any (B : Nat) (a : Option Addr) (ts : List M.Nd) (ca : Nat) (n gg : Nat → Int) (g c : Nat) (w : World) (h : RdN w a ts) (l63 : ts.length ≤ 63) (hf : ∀ k, k < ts.length → M.nf (M.nAt ts k) = -1 ∨ (0 ≤ M.nf (M.nAt ts k) ∧ M.nf (M.nAt ts k) < 8)) (ho : w.ownsRow B 50 3 (.slice (some ⟨g, 0, none⟩) 8 c) 8 (usCells (M.useF n gg 8))) (hn : ∀ i, 0 ≤ n i ∧ n i ≤ 1000) (hag : ∀ p, a = some p → p.block ≠ g) :
    Calls Tryz.prog 22 #[.slice a ts.length ca, .slice (some ⟨g, 0, none⟩) 8 c] w fun e w' => e = .returned (.tuple #[]) ∧ w'.ownsRow B 50 3 (.slice (some ⟨g, 0, none⟩) 8 c) 8 (usCells (M.useF (fun i => n i + (M.cntN (i : Int) ts : Nat)) gg 8)) ∧ w.grownBy w' (some g) := by
  have HT := hide h
  have HF := hide hf
  have HN := hide hn
  have HA := hide hag
  have O0 : Hid (w.ownsRow B 50 3 (.slice (some ⟨g, 0, none⟩) 8 c) 8 (usCells (M.useF (fun i => n i + (M.cntN (i : Int) (ts.take 0) : Nat)) gg 8))) := by
    unfold Hid
    have e : M.useF (fun i => n i + (M.cntN (i : Int) (ts.take 0) : Nat)) gg 8 = M.useF n gg 8 := by unfold M.useF; simp [M.cntN]
    rw [e]; exact ho
  have G0 : Hid (w.grownBy w (some g)) := ⟨rfl, rfl, rfl, Nat.le_refl _, fun _ _ _ => rfl⟩
  have TT : Hid (ts.take ts.length = ts) := List.take_length
  clear h hf ho hn hag
  go_enter Tryz.func22, Tryz.ntmps22
  go_wp2
  go_loopw [4] (fun i wr => ∃ k : Nat, k ≤ ts.length ∧ i = .int .i64 k ∧ Hid (wr.ownsRow B 50 3 (.slice (some ⟨g, 0, none⟩) 8 c) 8 (usCells (M.useF (fun i => n i + (M.cntN (i : Int) (ts.take k) : Nat)) gg 8))) ∧ Hid (w.grownBy wr (some g))) (fun i _ => ts.length - (intOf i).toNat)
  case atStart => exact ⟨0, Nat.zero_le _, rfl, O0, G0⟩
  case round =>
    clear O0 G0
    obtain ⟨k, hk, rfl, HO, GR⟩ := hrel
    by_cases hlt : k < ts.length
    · obtain ⟨b, off, rfl, hb, hc⟩ := HT.out.2 (by intro e; rw [e] at hlt; simp at hlt)
      have bg : b ≠ g := HA.out _ rfl
      have x0 : wr.cell? ⟨b, off + k * 6, none⟩ = some (.int .i64 (M.nf (M.nAt ts k))) := GR.out.cell (hc k hlt).1 (fun e => bg (Option.some.inj e))
      have kz : (k : Int) < (ts.length : Int) := by omega
      by_cases hl : M.nf (M.nAt ts k) = -1
      · have q : (M.nf (M.nAt ts k) != -1) = false := by rw [bne_eq_false_iff_eq]; exact hl
        have N : Hid (M.useF (fun i => n i + (M.cntN (i : Int) (ts.take (k + 1)) : Nat)) gg 8 = M.useF (fun i => n i + (M.cntN (i : Int) (ts.take k) : Nat)) gg 8) := by
          unfold Hid
          congr 1
          funext i
          rw [M.cnt_more _ ts hlt, if_neg (by rw [hl]; omega)]; rfl
        have HO2 : Hid (wr.ownsRow B 50 3 (.slice (some ⟨g, 0, none⟩) 8 c) 8 (usCells (M.useF (fun i => n i + (M.cntN (i : Int) (ts.take (k + 1)) : Nat)) gg 8))) := by unfold Hid; rw [N.out]; exact HO.out
        clear hc HT HF HN hl N HO
        generalize M.nf (M.nAt ts k) = nf at *
        go_wp2
        go_roundw
        case rel => exact ⟨k + 1, by omega, by go_num, HO2, GR⟩
        case measure => simp [intOf]; omega
      · have q : (M.nf (M.nAt ts k) != -1) = true := by rw [bne_iff_ne]; exact hl
        obtain ⟨f, hfe⟩ : ∃ f : Nat, M.nf (M.nAt ts k) = (f : Int) := ⟨(M.nf (M.nAt ts k)).toNat, by have := HF.out k hlt; omega⟩
        have f8 : f < 8 := by have := HF.out k hlt; omega
        have at1 := (usCells_at (M.useF (fun i => n i + (M.cntN (i : Int) (ts.take k) : Nat)) gg 8) f (by rw [M.useF_len]; exact f8)).2.1
        rw [M.useF_at _ _ f8] at at1
        have cv := (HO.out.cellAt (f * 3 + 1) (by omega)).trans at1
        have fv := HO.out.frozenAt (f * 3 + 1)
        have st := (HO.out.stored (f * 3 + 1) (.int .i64 (n f + (M.cntN (f : Int) (ts.take k) : Nat) + 1))).1
        rw [usCells_setN _ f (by rw [M.useF_len]; exact f8), M.useF_set _ _ f8] at st
        have N : M.useF (fun j => if j = f then n f + (M.cntN (f : Int) (ts.take k) : Nat) + 1 else n j + (M.cntN (j : Int) (ts.take k) : Nat)) gg 8 = M.useF (fun i => n i + (M.cntN (i : Int) (ts.take (k + 1)) : Nat)) gg 8 := by
          congr 1
          funext i
          rw [M.cnt_more _ ts hlt, hfe]
          by_cases e : i = f
          · subst e; rw [if_pos rfl, if_pos rfl]; omega
          · rw [if_neg e, if_neg (by omega)]; rfl
        rw [N] at st
        have ST := hide st
        have hb1 := HN.out f
        have hb2 := M.cnt_le (f : Int) (ts.take k)
        rw [List.length_take] at hb2
        have GS : Hid (∀ v, w.grownBy ((wr.setCell ⟨g, f * 3 + 1, none⟩ v)) (some g)) := fun v => grown_trans GR.out grown_set (.inl rfl)
        have nb0 : 0 ≤ n f + (M.cntN (f : Int) (ts.take k) : Nat) := by omega
        have nb1 : n f + (M.cntN (f : Int) (ts.take k) : Nat) ≤ 2000 := by omega
        have fz : (f : Int) < 8 := by omega
        have f0 : (0 : Int) ≤ (f : Int) := by omega
        rw [hfe] at x0 q
        clear hc HT HF HN hl N st hfe at1 hb1 hb2 HO
        generalize hnv : n f + (M.cntN (f : Int) (ts.take k) : Nat) = nv at *
        clear hnv
        go_upto_region 4 with fail
        go_region
        all_goals (
          go_wp2
          go_roundw
          case rel => exact ⟨k + 1, by omega, by go_num, ST.out.drew, grown_drew (GS.out _)⟩
          case measure => simp [intOf]; omega)
    · have ke : k = ts.length := by omega
      have kz : ¬ ((k : Int) < (ts.length : Int)) := by omega
      have ho := HO.out
      rw [ke, TT.out] at ho
      have HO2 := hide ho
      clear ho ke HO HT HF HN
      go_wp2
      refine bodyPost_end (results_none rfl _ _ _) rfl ?_
      exact ⟨rfl, HO2.out, GR.out⟩

end Go.Proofs.YtlloiccodjnkcagGreatDoor

namespace Go.Proofs.YtlloiccodjnkcagGreatDoor
open Go.ChangeShapes Go.WideShapes Go.ChangeAt Go.RowKit Go.Lib
set_option linter.unusedVariables false

set_option maxHeartbeats 8000000 in
set_option maxRecDepth 10000 in
theorem nodesame_any (a b : Option Addr) (ts : List M.Nd) (ca cb : Nat) (w : World) (ha : RdN w a ts) (hb : RdN w b ts) :
    Calls Tryz.prog 34 #[.slice a ts.length ca, .slice b ts.length cb] w fun e w' => e = .returned (.bool true) ∧ Below w.heap.size w w' := by
  have hm : ts.length ≤ 9223372036854775807 := ha.1
  have HA := hide ha
  have HB := hide hb
  clear ha hb
  go_enter Tryz.func34, Tryz.ntmps34
  go_wp2
  go_loopw [5] (fun i wr => ∃ k : Nat, k ≤ ts.length ∧ i = .int .i64 k ∧ Hid (Below w.heap.size w wr)) (fun i _ => ts.length - (intOf i).toNat)
  case atStart => exact ⟨0, Nat.zero_le _, rfl, Below.refl _ _⟩
  case round =>
    obtain ⟨k, hk, rfl, K⟩ := hrel
    by_cases hlt : k < ts.length
    · have kz : (k : Int) < (ts.length : Int) := by omega
      obtain ⟨b1, o1, rfl, h1, hc1⟩ := (HA.out.below K.out).2 (by intro e; subst e; simp at hlt)
      obtain ⟨b2, o2, rfl, h2, hc2⟩ := (HB.out.below K.out).2 (by intro e; subst e; simp at hlt)
      obtain ⟨s0, s1, s2, s3, s4, s5⟩ := hc1 k hlt
      obtain ⟨u0, u1, u2, u3, u4, u5⟩ := hc2 k hlt
      clear hc1 hc2 HA HB
      generalize M.nf (M.nAt ts k) = f at *
      generalize M.nc (M.nAt ts k) = c at *
      generalize M.nl (M.nAt ts k) = l at *
      generalize M.nr (M.nAt ts k) = r at *
      generalize M.ns (M.nAt ts k) = sl at *
      generalize M.nv (M.nAt ts k) = v at *
      go_upto_region 6 with fail
      go_cut [25] from 17 to 24 (fun t wx => t = .bool false ∧ Hid (Below wr.heap.size wr wx))
      case first =>
        go_region
        all_goals go_wp2
        all_goals go_meet
        all_goals (case rel => exact ⟨by simp, (Below.refl wr.heap.size wr).drew⟩)
      case rest =>
        obtain ⟨rfl, K6⟩ := hcut
        have K7 := hide (below_on K.out K6.out)
        go_wp2
        go_roundw
        case rel => exact ⟨k + 1, by omega, by go_num, K7⟩
        case measure => simp [intOf]; omega
    · go_wp2
      go_ret
      exact ⟨rfl, K.out⟩

end Go.Proofs.YtlloiccodjnkcagGreatDoor

namespace Go.Proofs.YtlloiccodjnkcagGreatDoor
open Go.ChangeShapes Go.WideShapes Go.ChangeAt Go.RowKit Go.Lib
set_option linter.unusedVariables false

set_option maxHeartbeats 8000000 in
set_option maxRecDepth 10000 in
theorem usessame_any (a b : Option Addr) (ts : List M.Us) (ca cb : Nat) (w : World) (ha : RdU w a ts) (hb : RdU w b ts) :
    Calls Tryz.prog 9 #[.slice a ts.length ca, .slice b ts.length cb] w fun e w' => e = .returned (.bool true) ∧ Below w.heap.size w w' := by
  have hm : ts.length ≤ 9223372036854775807 := ha.1
  have HA := hide ha
  have HB := hide hb
  clear ha hb
  go_enter Tryz.func9, Tryz.ntmps9
  go_wp2
  go_loopw [5] (fun i wr => ∃ k : Nat, k ≤ ts.length ∧ i = .int .i64 k ∧ Hid (Below w.heap.size w wr)) (fun i _ => ts.length - (intOf i).toNat)
  case atStart => exact ⟨0, Nat.zero_le _, rfl, Below.refl _ _⟩
  case round =>
    obtain ⟨k, hk, rfl, K⟩ := hrel
    by_cases hlt : k < ts.length
    · have kz : (k : Int) < (ts.length : Int) := by omega
      obtain ⟨b1, o1, rfl, h1, hc1⟩ := (HA.out.below K.out).2 (by intro e; subst e; simp at hlt)
      obtain ⟨b2, o2, rfl, h2, hc2⟩ := (HB.out.below K.out).2 (by intro e; subst e; simp at hlt)
      obtain ⟨s0, s1, s2⟩ := hc1 k hlt
      obtain ⟨u0, u1, u2⟩ := hc2 k hlt
      clear hc1 hc2 HA HB
      generalize (M.uAt ts k).1 = f at *
      generalize (M.uAt ts k).2.1 = c at *
      generalize (M.uAt ts k).2.2 = l at *
      go_upto_region 6 with fail
      go_cut [25] from 17 to 24 (fun t wx => t = .bool false ∧ Hid (Below wr.heap.size wr wx))
      case first =>
        go_region
        all_goals go_wp2
        all_goals go_meet
        all_goals (case rel => exact ⟨by simp, (Below.refl wr.heap.size wr).drew⟩)
      case rest =>
        obtain ⟨rfl, K6⟩ := hcut
        have K7 := hide (below_on K.out K6.out)
        go_wp2
        go_roundw
        case rel => exact ⟨k + 1, by omega, by go_num, K7⟩
        case measure => simp [intOf]; omega
    · go_wp2
      go_ret
      exact ⟨rfl, K.out⟩

end Go.Proofs.YtlloiccodjnkcagGreatDoor

namespace Go.Proofs.YtlloiccodjnkcagGreatDoor
open Go.ChangeShapes Go.WideShapes Go.ChangeAt Go.RowKit Go.Lib
set_option linter.unusedVariables false

theorem M.part_more (l : List M.Sa) (f : Nat) (c : Int) (b : Bool) {k : Nat} (hk : k < l.length) : M.partS (l.take (k + 1)) f c b = if (decide (M.colA (M.sAt l k) f < c) == b) = true then M.partS (l.take k) f c b ++ [M.sAt l k] else M.partS (l.take k) f c b := by
  have e : M.sAt l k = l[k] := by unfold M.sAt; rw [M.getD_at hk]
  unfold M.partS
  rw [List.take_succ_eq_append_getElem hk, List.filter_append, e]
  by_cases q : (decide (M.colA l[k] f < c) == b) = true
  · rw [if_pos q, List.filter_cons_of_pos (by exact q)]; rfl
  · rw [if_neg q, List.filter_cons_of_neg (by exact q)]; simp
theorem M.sum_more (l : List M.Sa) (f : Nat) (c : Int) (b : Bool) {k : Nat} (hk : k < l.length) : M.sumT (M.partS (l.take (k + 1)) f c b) = (if (decide (M.colA (M.sAt l k) f < c) == b) = true then M.sumT (M.partS (l.take k) f c b) + (M.sAt l k).2 else M.sumT (M.partS (l.take k) f c b)) ∧ (M.partS (l.take (k + 1)) f c b).length = (if (decide (M.colA (M.sAt l k) f < c) == b) = true then (M.partS (l.take k) f c b).length + 1 else (M.partS (l.take k) f c b).length) := by
  rw [M.part_more l f c b hk]
  split
  · refine ⟨?_, by simp⟩
    rw [M.sumT_app]
    show _ + ((M.sAt l k).2 + 0) = _
    omega
  · exact ⟨rfl, rfl⟩

/-- samples that may be asked for a feature -/
structure Ask (xs : List Sx) (m : Nat) : Prop where
  le : xs.length ≤ 60
  row : ∀ x ∈ xs, x.2.1.length = m
  tgt : ∀ x ∈ xs, -1000 ≤ x.2.2.2 ∧ x.2.2.2 ≤ 1000
theorem Ask.of {xs : List Sx} {m : Nat} (h : M.GoodS (sms xs) m) : Ask xs m :=
  ⟨by have := h.le; rw [sms_len] at this; exact this, fun x hx => (h.each (sm x) (List.mem_map.2 ⟨x, hx, rfl⟩)).2.1, fun x hx => (h.each (sm x) (List.mem_map.2 ⟨x, hx, rfl⟩)).2.2.1⟩
theorem Ask.in {xs : List Sx} {m : Nat} (h : Ask xs m) (f : Nat) (c : Int) (b : Bool) (k : Nat) : -60000 ≤ M.sumT (M.partS ((sms xs).take k) f c b) ∧ M.sumT (M.partS ((sms xs).take k) f c b) ≤ 60000 ∧ (M.partS ((sms xs).take k) f c b).length ≤ 60 := by
  have l1 : (M.partS ((sms xs).take k) f c b).length ≤ 60 := by
    refine Nat.le_trans (List.length_filter_le _ _) ?_
    rw [List.length_take, sms_len]
    have := h.le
    omega
  have := M.sum_in (l := M.partS ((sms xs).take k) f c b) fun s hs => by
    have h1 := List.mem_of_mem_take (List.mem_filter.1 hs).1
    obtain ⟨x, hx, rfl⟩ := List.mem_map.1 h1
    exact h.tgt x hx
  omega

/-- the samples of one side, where their rows lie -/
def partX (xs : List Sx) (f : Nat) (c : Int) (b : Bool) : List Sx := xs.filter fun x => decide (x.2.1.getD f 0 < c) == b
theorem partX_sms (xs : List Sx) (f : Nat) (c : Int) (b : Bool) : sms (partX xs f c b) = M.partS (sms xs) f c b := by
  unfold sms partX M.partS
  rw [List.filter_map]
  rfl
theorem partX_more (xs : List Sx) (f : Nat) (c : Int) (b : Bool) {k : Nat} (hk : k < xs.length) : partX (xs.take (k + 1)) f c b = if (decide (xs[k].2.1.getD f 0 < c) == b) = true then partX (xs.take k) f c b ++ [xs[k]] else partX (xs.take k) f c b := by
  unfold partX
  rw [List.take_succ_eq_append_getElem hk, List.filter_append]
  by_cases q : (decide (xs[k].2.1.getD f 0 < c) == b) = true
  · rw [if_pos q, List.filter_cons_of_pos (by exact q)]; rfl
  · rw [if_neg q, List.filter_cons_of_neg (by exact q)]; simp
theorem partX_mem {xs : List Sx} {f : Nat} {c : Int} {b : Bool} {x : Sx} (h : x ∈ partX xs f c b) : x ∈ xs := (List.mem_filter.1 h).1
theorem Ask.part {xs : List Sx} {m : Nat} (h : Ask xs m) (f : Nat) (c : Int) (b : Bool) : Ask (partX xs f c b) m :=
  ⟨Nat.le_trans (List.length_filter_le _ _) h.le, fun x hx => h.row x (partX_mem hx), fun x hx => h.tgt x (partX_mem hx)⟩

theorem wrap_in5 (x : Int) (h1 : -9223372036854775808 ≤ x) (h2 : x ≤ 9223372036854775807) : IntKind.i64.wrap x = x := by
  simp [IntKind.wrap, IntKind.bits, IntKind.signed]
  split <;> omega
theorem M.sqR_in {s B : Int} (h1 : -B ≤ s) (h2 : s ≤ B) : 0 ≤ s * s ∧ s * s ≤ B * B := by
  by_cases h : 0 ≤ s
  · exact ⟨Int.mul_nonneg h h, Int.mul_le_mul h2 h2 h (by omega)⟩
  · have e : s * s = (-s) * (-s) := by grind
    rw [e]
    exact ⟨Int.mul_nonneg (by omega) (by omega), Int.mul_le_mul (by omega) (by omega) (by omega) (by omega)⟩
theorem M.mulp_in {a b A B : Int} (h1 : 0 ≤ a) (h2 : a ≤ A) (h3 : 0 ≤ b) (h4 : b ≤ B) : 0 ≤ a * b ∧ a * b ≤ A * B := ⟨Int.mul_nonneg h1 h3, Int.mul_le_mul h2 h4 h3 (by omega)⟩
theorem Ask.two {xs : List Sx} {m : Nat} (h : Ask xs m) (f : Nat) (c : Int) (b : Bool) : -60000 ≤ M.tB (sms xs) f c b ∧ M.tB (sms xs) f c b ≤ 60000 ∧ 0 ≤ M.nB (sms xs) f c b ∧ M.nB (sms xs) f c b ≤ 60 := by
  have := h.in f c b xs.length
  rw [← sms_len xs, List.take_length] at this
  unfold M.tB M.nB
  omega
theorem Ask.all {xs : List Sx} {m : Nat} (h : Ask xs m) (k : Nat) : -60000 ≤ M.sumT ((sms xs).take k) ∧ M.sumT ((sms xs).take k) ≤ 60000 := by
  have l1 : ((sms xs).take k).length ≤ 60 := by
    rw [List.length_take, sms_len]
    have := h.le
    omega
  have := M.sum_in (l := (sms xs).take k) fun s hs => by
    obtain ⟨x, hx, rfl⟩ := List.mem_map.1 (List.mem_of_mem_take hs)
    exact h.tgt x hx
  omega
theorem Ask.ud {xs : List Sx} {m : Nat} (h : Ask xs m) (f : Nat) (c : Int) : (0 ≤ M.spU (sms xs) f c ∧ M.spU (sms xs) f c ≤ 432000000000) ∧ (0 ≤ M.spD (sms xs) f c ∧ M.spD (sms xs) f c ≤ 3600) := by
  obtain ⟨a1, a2, a3, a4⟩ := h.two f c true
  obtain ⟨b1, b2, b3, b4⟩ := h.two f c false
  have s1 := M.sqR_in a1 a2
  have s2 := M.sqR_in b1 b2
  have u1 := M.mulp_in s1.1 s1.2 b3 b4
  have u2 := M.mulp_in s2.1 s2.2 a3 a4
  have d := M.mulp_in a3 a4 b3 b4
  unfold M.spU M.spD
  omega
theorem Ask.st {xs : List Sx} {m : Nat} (h : Ask xs m) (least : Int) : (0 ≤ (M.sp0 (sms xs)).1 ∧ (M.sp0 (sms xs)).1 ≤ 432000000000) ∧ (0 ≤ (M.sp0 (sms xs)).2.1 ∧ (M.sp0 (sms xs)).2.1 ≤ 3600) := by
  have := h.all xs.length
  rw [← sms_len xs, List.take_length] at this
  have s := M.sqR_in this.1 this.2
  have := h.le
  have e : (M.sp0 (sms xs)).2.1 = (xs.length : Nat) := by show (((sms xs).length : Nat) : Int) = _; rw [sms_len]
  rw [e]
  refine ⟨⟨s.1, ?_⟩, by omega, by omega⟩
  show M.sumT (sms xs) * M.sumT (sms xs) ≤ _
  omega
def StIn (st : M.SpS) : Prop := (0 ≤ st.1 ∧ st.1 ≤ 432000000000) ∧ (0 ≤ st.2.1 ∧ st.2.1 ≤ 3600)
theorem Ask.step {xs : List Sx} {m : Nat} (h : Ask xs m) (least : Int) {st : M.SpS} (hs : StIn st) (f : Nat) (c : Int) : StIn (M.spN (sms xs) least st f c) := by
  unfold M.spN
  split
  · split
    · exact h.ud f c
    · exact hs
  · exact hs
theorem Ask.inner {xs : List Sx} {m : Nat} (h : Ask xs m) (least : Int) {st : M.SpS} (hs : StIn st) (f : Nat) : ∀ k, StIn (M.spI (sms xs) least f st k)
  | 0 => hs
  | k + 1 => h.step least (h.inner least hs f k) f _
theorem Ask.outer {xs : List Sx} {m : Nat} (h : Ask xs m) (least : Int) : ∀ f, StIn (M.spA (sms xs) least f)
  | 0 => h.st least
  | f + 1 => h.inner least (h.outer least f) f _

end Go.Proofs.YtlloiccodjnkcagGreatDoor

namespace Go.Proofs.YtlloiccodjnkcagGreatDoor
open Go.ChangeShapes Go.WideShapes Go.ChangeAt Go.RowKit Go.Lib
set_option linter.unusedVariables false

theorem rfloor_any (a b : Int) (w : World) (hb : 0 < b) (hb2 : b ≤ 9007199254740992) (ha : -9007199254740992 ≤ a) (ha2 : a ≤ 9007199254740992) :
    Calls Tryz.prog 64 #[.int .i64 a, .int .i64 b] w fun e w' => e = .returned (.int .i64 (a / b)) ∧ w' = w := by
  have D := hide (M.floor_eq a b hb)
  by_cases h : a < 0
  · obtain ⟨q1, q2⟩ := M.ediv_bd (b - 1 - a) b 18014398509481984 hb (by omega) (by omega) (by omega)
    go_enter Tryz.func64, Tryz.ntmps64
    go_wp2
    go_ret
    exact ⟨ret_int (by rw [← D.out, if_pos h]), rfl⟩
  · go_enter Tryz.func64, Tryz.ntmps64
    go_wp2
    go_ret
    exact ⟨ret_int rfl, rfl⟩

end Go.Proofs.YtlloiccodjnkcagGreatDoor

namespace Go.Proofs.YtlloiccodjnkcagGreatDoor
open Go.ChangeShapes Go.WideShapes Go.ChangeAt Go.RowKit Go.Lib
set_option linter.unusedVariables false

set_option maxHeartbeats 4000000 in
set_option maxRecDepth 10000 in
theorem rspread_any (a : Option Addr) (xs : List Sx) (ca m : Nat) (w : World) (h : RdL w a xs) (A : Ask xs m) :
    Calls Tryz.prog 38 #[.slice a xs.length ca] w fun e w' => e = .returned (.int .i64 (M.sprd (sms xs))) ∧ Below w.heap.size w w' := by
  have l60 := A.le
  by_cases h0 : xs.length = 0
  · have E : Hid ((0 : Int) = M.sprd (sms xs)) := (M.sprd_none (by rw [sms_len]; exact h0)).symm
    have q : ((xs.length : Int) == 0) = true := by rw [beq_iff_eq]; omega
    clear h A h0
    generalize xs.length = n at *
    go_enter Tryz.func38, Tryz.ntmps38
    go_wp2
    go_ret
    exact ⟨ret_int E.out, Below.refl _ _⟩
  · have q : ((xs.length : Int) == 0) = false := by rw [beq_eq_false_iff_ne]; omega
    have hp : 0 < xs.length := by omega
    have HL := hide h
    have AA := hide A
    have SM : Hid (∀ k (hk : k < xs.length), M.sumT ((sms xs).take (k + 1)) = M.sumT ((sms xs).take k) + xs[k].2.2.2 ∧ M.sqT ((sms xs).take (k + 1)) = M.sqT ((sms xs).take k) + xs[k].2.2.2 * xs[k].2.2.2) := fun k hk => by
      rw [List.take_succ_eq_append_getElem (by rw [sms_len]; exact hk), M.sumT_app, M.sqT_app]
      have e : (sms xs)[k]'(by rw [sms_len]; exact hk) = sm xs[k] := by simp [sms]
      rw [e]
      refine ⟨?_, ?_⟩
      · show _ + (xs[k].2.2.2 + 0) = _; omega
      · show _ + (xs[k].2.2.2 * xs[k].2.2.2 + 0) = _; omega
    have BQ : Hid (∀ k, 0 ≤ M.sqT ((sms xs).take k) ∧ M.sqT ((sms xs).take k) ≤ 60000000) := fun k => by
      have := M.sqT_bd (l := (sms xs).take k) fun s hs => by
        obtain ⟨x, hx, rfl⟩ := List.mem_map.1 (List.mem_of_mem_take hs)
        exact A.tgt x hx
      have l : ((sms xs).take k).length ≤ 60 := by rw [List.length_take, sms_len]; omega
      omega
    have ES : Hid (M.sprd (sms xs) = ((xs.length : Nat) * M.sqT ((sms xs).take xs.length) - M.sumT ((sms xs).take xs.length) * M.sumT ((sms xs).take xs.length)) / (xs.length : Nat)) := by
      unfold Hid
      rw [M.sprd_some (by rw [sms_len]; exact hp), sms_len, ← sms_len xs, List.take_length]
    clear h A h0
    generalize M.sprd (sms xs) = o at *
    go_enter Tryz.func38, Tryz.ntmps38
    go_wp2
    go_loopw [3, 4, 5] (fun s q i wr => ∃ k : Nat, k ≤ xs.length ∧ i = .int .i64 k ∧ s = .int .i64 (M.sumT ((sms xs).take k)) ∧ q = .int .i64 (M.sqT ((sms xs).take k)) ∧ Hid (Below w.heap.size w wr)) (fun _ _ i _ => xs.length - (intOf i).toNat)
    case atStart => exact ⟨0, Nat.zero_le _, rfl, rfl, rfl, Below.refl _ _⟩
    case round =>
      obtain ⟨k, hk, rfl, rfl, rfl, K⟩ := hrel
      obtain ⟨b0, b1⟩ := AA.out.all k
      obtain ⟨c0, c1⟩ := BQ.out k
      by_cases hlt : k < xs.length
      · obtain ⟨bl, ol, rfl, hbl, hcl⟩ := (HL.out.below K.out).2.2 (by intro e; rw [e] at hlt; simp at hlt)
        have q1 := (hcl k hlt).2
        obtain ⟨t0, t1⟩ := AA.out.tgt xs[k] (List.getElem_mem hlt)
        have S1 := hide (SM.out k hlt)
        have kz : (k : Int) < (xs.length : Int) := by omega
        have KD : Hid (∀ nq, Below w.heap.size w (wr.drewN nq)) := fun nq => below_on K.out (below_drew (Below.refl _ _) nq (Nat.le_refl _))
        clear hcl SM ES BQ HL AA
        generalize xs[k].2.2.2 = t at *
        generalize M.sumT ((sms xs).take k) = s at *
        generalize M.sqT ((sms xs).take k) = qq at *
        have sq := M.sqR_in t0 t1
        have x1 : IntKind.i64.wrap (t * t) = t * t := wrap_in5 _ (by omega) (by omega)
        have x2 : IntKind.i64.wrap (qq + t * t) = qq + t * t := wrap_in5 _ (by omega) (by omega)
        clear sq
        go_upto_region 9 with fail
        go_quiet (fail)
        go_wp2
        go_roundw
        case rel => exact ⟨k + 1, by omega, by go_num, by rw [S1.out.1], by rw [S1.out.2], KD.out _⟩
        case measure => simp [intOf]; omega
      · have ke : k = xs.length := by omega
        have kz : ¬ ((k : Int) < (xs.length : Int)) := by omega
        subst ke
        have sq := M.sqR_in b0 b1
        have mq := M.mulp_in (a := (xs.length : Int)) (b := M.sqT ((sms xs).take xs.length)) (A := 60) (B := 60000000) (by omega) (by omega) c0 c1
        have FL := hide (rfloor_any ((xs.length : Nat) * M.sqT ((sms xs).take xs.length) - M.sumT ((sms xs).take xs.length) * M.sumT ((sms xs).take xs.length)) (xs.length : Int) wr (by omega) (by omega) (by omega) (by omega))
        rw [← ES.out] at FL
        clear SM ES BQ HL AA
        generalize M.sumT ((sms xs).take xs.length) = s at *
        generalize M.sqT ((sms xs).take xs.length) = qq at *
        have x1 : IntKind.i64.wrap (s * s) = s * s := wrap_in5 _ (by omega) (by omega)
        have x2 : IntKind.i64.wrap ((xs.length : Int) * qq) = (xs.length : Int) * qq := wrap_in5 _ (by omega) (by omega)
        have x3 : IntKind.i64.wrap ((xs.length : Int) * qq - s * s) = (xs.length : Int) * qq - s * s := wrap_in5 _ (by omega) (by omega)
        clear sq mq
        go_wp2_with (go_at_call 64; refine FL.out.mono ?_; rintro e w2 ⟨rfl, e2⟩; have e2' := e2.symm; subst e2')
        go_ret
        exact ⟨rfl, K.out⟩

end Go.Proofs.YtlloiccodjnkcagGreatDoor

namespace Go.Proofs.YtlloiccodjnkcagGreatDoor
open Go.ChangeShapes Go.WideShapes Go.ChangeAt Go.RowKit Go.Lib
set_option linter.unusedVariables false

/-! ### samples as cells -/
def saCells (xs : List Sx) : List Value := xs.flatMap fun x => [sxV x, .int .i64 x.2.2.2]
theorem saCells_snoc (xs : List Sx) (x : Sx) : saCells (xs ++ [x]) = saCells xs ++ [sxV x, .int .i64 x.2.2.2] := by simp [saCells]
theorem saCells_at : ∀ (xs : List Sx) (i : Nat) (h : i < xs.length), (saCells xs)[i * 2]? = some (sxV xs[i]) ∧ (saCells xs)[i * 2 + 1]? = some (.int .i64 xs[i].2.2.2)
  | [], i, h => by simp at h
  | x :: t, 0, h => ⟨rfl, rfl⟩
  | x :: t, i + 1, h => by
    have := saCells_at t i (by simpa using h)
    have e : saCells (x :: t) = sxV x :: .int .i64 x.2.2.2 :: saCells t := rfl
    rw [e, show (i + 1) * 2 = i * 2 + 1 + 1 by omega]
    simpa using this
theorem own_rdL {w : World} {base n : Nat} {v : Value} {xs : List Sx} (hn : xs.length = n) (hm : n ≤ maxLen) (h : w.ownsRow base 52 2 v n (saCells xs)) (hr : ∀ x ∈ xs, Rd w x.1 x.2.1) : ∃ a cap, v = .slice a n cap ∧ RdL w a xs := by
  subst hn
  rcases h.2 with ⟨hv, h0⟩ | ⟨g, cap, cur, hv, hb, hg, h1, h2, h3, h4⟩
  · have e : xs = [] := List.length_eq_zero_iff.1 h0
    subst e
    exact ⟨none, 0, hv, ⟨Nat.zero_le _, hr, fun h => absurd rfl h⟩⟩
  · subst hv
    refine ⟨_, cap, rfl, ⟨hm, hr, fun _ => ⟨g, 0, rfl, (Array.getElem?_eq_some_iff.1 hg).1, fun i hi => ?_⟩⟩⟩
    obtain ⟨q0, q1⟩ := saCells_at xs i hi
    rw [Nat.zero_add]
    exact ⟨(h.cellAt (i * 2) (by omega)).trans q0, (h.cellAt (i * 2 + 1) (by omega)).trans q1⟩
theorem own_any {w : World} {base n e size : Nat} {v : Value} {l : List Value} (h : w.ownsRow base e size v n l) : ∃ va vc, v = .slice va n vc := by
  rcases h.2 with ⟨hv, h0⟩ | ⟨g, cap, cur, hv, _⟩
  · exact ⟨none, 0, by rw [hv, h0]⟩
  · exact ⟨some ⟨g, 0, none⟩, cap, hv⟩
theorem infoSam : (Tryz.prog.info? 52).map (fun i => (i.zero, i.size, i.bytes)) = some (some (.agg #[.slice none 0 0, .int .i64 0]), 2, 32) := by kernel_rfl

end Go.Proofs.YtlloiccodjnkcagGreatDoor
