/-
  What package flat's end and lift answer: where a tree's nodes end, and a tree's nodes as they stand alone.
-/
import Derived.Test.YtcaljnhdfbjpnaeDoorFlatL
namespace Go.Proofs.YtcaljnhdfbjpnaeDoor
open Go.ChangeShapes Go.WideShapes Go.ChangeAt Go.RowKit Go.Lib
set_option linter.unusedVariables false

theorem fend_any (p : Nat) (g : M.Gv) (P : Fp) (k : Nat) (w : World) (h : FoAt w p g P) (hk : k < (M.gt g).length) (h12 : (M.gt g).length ≤ 12) :
    Calls Tryd.prog 39 #[.pointer (some ⟨p, 0, none⟩), .int .i64 (k : Nat)] w fun e w' => e = .returned (.int .i64 ((M.laidK (M.gt g) (k + 1)).length : Nat)) ∧ w' = w := by
  have c3 := h.c3
  have c4 := h.c4
  have nr : (M.allR g).length = (M.gt g).length := M.allR_len g
  obtain ⟨br, or, er, hbr, hcr⟩ := h.rr.2 (by intro e; rw [e] at nr; simp at nr; omega)
  rw [er] at c4
  by_cases h1 : k + 1 < (M.gt g).length
  · have cr := hcr (k + 1) (by omega)
    rw [show (M.allR g).getD (k + 1) 0 = ((M.laidK (M.gt g) (k + 1)).length : Int) from M.rootsK_at _ _ (k + 1) h1] at cr
    rw [nr] at c4
    have kz : (k : Int) + 1 < ((M.gt g).length : Int) := by omega
    clear h hcr nr er
    generalize (M.laidK (M.gt g) (k + 1)).length = L at *
    generalize (M.gt g).length = NG at *
    go_enter Tryd.func39, Tryd.ntmps39
    go_wp2
    go_ret
    exact ⟨rfl, rfl⟩
  · have e : k + 1 = (M.gt g).length := by omega
    have E : Hid ((M.laidK (M.gt g) (k + 1)).length = (M.allN g).length) := by unfold Hid M.allN; rw [e]
    rw [nr] at c4
    have kz : ¬ ((k : Int) + 1 < ((M.gt g).length : Int)) := by omega
    clear h hcr nr er e
    generalize (M.laidK (M.gt g) (k + 1)).length = L at *
    generalize (M.allN g).length = NN at *
    generalize (M.gt g).length = NG at *
    go_enter Tryd.func39, Tryd.ntmps39
    go_wp2
    go_ret
    exact ⟨by rw [E.out]; rfl, rfl⟩

/-- the first k as they stand alone, the rest as they stood -/
def M.unK (S : List M.Nd) (o k : Nat) : List M.Nd := (S.take k).map (M.un o) ++ S.drop k
theorem M.unK_len (S : List M.Nd) (o k : Nat) : (M.unK S o k).length = S.length := by
  unfold M.unK
  rw [List.length_append, List.length_map, List.length_take, List.length_drop]; omega
theorem M.unK_zero (S : List M.Nd) (o : Nat) : M.unK S o 0 = S := by unfold M.unK; simp
theorem M.unK_all (S : List M.Nd) (o : Nat) : M.unK S o S.length = S.map (M.un o) := by unfold M.unK; simp
theorem M.unK_at (S : List M.Nd) (o : Nat) {k : Nat} (h : k < S.length) : M.nAt (M.unK S o k) k = M.nAt S k := by
  unfold M.unK M.nAt
  have hl : ((S.take k).map (M.un o)).length = k := by rw [List.length_map, List.length_take]; omega
  simp only [List.getD]
  rw [List.getElem?_append_right (by omega), hl, Nat.sub_self, List.getElem?_drop, Nat.add_zero]
theorem M.unK_step (S : List M.Nd) (o : Nat) {k : Nat} (h : k < S.length) : M.unK S o (k + 1) = (M.unK S o k).set k (M.un o (M.nAt S k)) := by
  unfold M.unK
  have hl : ((S.take k).map (M.un o)).length = k := by rw [List.length_map, List.length_take]; omega
  have e : M.nAt S k = S[k] := by unfold M.nAt; simp [List.getD, List.getElem?_eq_getElem h]
  rw [List.set_append_right _ _ (by omega), hl, Nat.sub_self, List.drop_eq_getElem_cons h, List.set_cons_zero, e, List.take_add_one, List.getElem?_eq_getElem h]
  simp only [Option.toList_some, List.map_append, List.map_cons, List.map_nil, List.append_assoc, List.cons_append, List.nil_append]
theorem M.set_same (S : List M.Nd) {k : Nat} (h : k < S.length) : S.set k (M.nAt S k) = S := by
  unfold M.nAt
  simp [List.getD, List.getElem?_eq_getElem h]
theorem M.un_map (L : List M.Nd) (o : Nat) : (L.map (M.sh o)).map (M.un o) = L := by
  rw [List.map_map]
  conv => rhs; rw [← List.map_id L]
  apply List.map_congr_left
  intro a _
  exact M.un_sh o a

set_option maxHeartbeats 8000000 in
set_option maxRecDepth 10000 in
theorem lift_in (b off c root : Nat) (L : List M.Nd) (m : Int) (w : World) (hc : ∀ i, i < L.length → SixAt w b (off + i * 6) (M.sh root (M.nAt L i))) (F : M.Fair L m) (hb : b < w.heap.size) (hr : root ≤ 1000) :
    Calls Tryd.prog 38 #[.slice (some ⟨b, off, none⟩) L.length c, .int .i64 (root : Nat)] w fun e w' => ∃ a cap, e = .returned (.slice a L.length cap) ∧ RdN w' a L ∧ (∀ p, a = some p → w.heap.size ≤ p.block) ∧ Below w.heap.size w w' := by
  have l63 : L.length ≤ 63 := F.1
  have l0 : 0 < L.length := F.2.1
  have sl : (L.map (M.sh root)).length = L.length := by simp
  have sa : ∀ i, i < L.length → M.nAt (L.map (M.sh root)) i = M.sh root (M.nAt L i) := fun i hi => by
    unfold M.nAt; simp [List.getD, List.getElem?_eq_getElem hi]
  have CL := hide (clone_own b off c (L.map (M.sh root)) w (fun i hi => by rw [sl] at hi; rw [sa i hi]; exact hc i hi) (by rw [sl]; exact l63) (by rw [sl]; exact l0) hb)
  rw [sl] at CL
  have U0 : Hid (M.unK (L.map (M.sh root)) root 0 = L.map (M.sh root)) := M.unK_zero _ _
  have UN : Hid (M.unK (L.map (M.sh root)) root L.length = L) := by
    unfold Hid
    have := M.unK_all (L.map (M.sh root)) root
    rw [sl, M.un_map] at this
    exact this
  have UL : Hid (∀ k, (M.unK (L.map (M.sh root)) root k).length = L.length) := fun k => by rw [M.unK_len, sl]
  have ST : Hid (∀ k, k < L.length → M.nAt (M.unK (L.map (M.sh root)) root k) k = M.sh root (M.nAt L k) ∧ (M.nf (M.nAt L k) = -1 → M.unK (L.map (M.sh root)) root (k + 1) = M.unK (L.map (M.sh root)) root k) ∧ (M.nf (M.nAt L k) ≠ -1 → ∃ a d : Nat, a ≤ 63 ∧ d ≤ 63 ∧ M.nl (M.sh root (M.nAt L k)) = ((root + a : Nat) : Int) ∧ M.nr (M.sh root (M.nAt L k)) = ((root + d : Nat) : Int) ∧ M.unK (L.map (M.sh root)) root (k + 1) = (M.unK (L.map (M.sh root)) root k).set k (M.nf (M.sh root (M.nAt L k)), M.nc (M.sh root (M.nAt L k)), ((root + a : Nat) : Int) - (root : Int), ((root + d : Nat) : Int) - (root : Int), M.ns (M.sh root (M.nAt L k)), M.nv (M.sh root (M.nAt L k))))) := fun k hk => by
    have hk' : k < (L.map (M.sh root)).length := by rw [sl]; exact hk
    refine ⟨by rw [M.unK_at _ _ hk', sa k hk], fun hf => ?_, fun hf => ?_⟩
    · rw [M.unK_step _ _ hk', sa k hk, M.un_sh]
      have e := M.unK_at (L.map (M.sh root)) root hk'
      rw [sa k hk, M.sh_leaf root hf] at e
      conv => lhs; rw [← e]
      exact M.set_same _ (by rw [M.unK_len]; exact hk')
    · obtain ⟨a, d, ea, ed, h1, h2, h3, h4, _⟩ := M.ask_at F.2.2.2.2.1 hk hf
      have el : M.nl (M.sh root (M.nAt L k)) = ((root + a : Nat) : Int) := by rw [M.sh_ask root hf]; show M.nl (M.nAt L k) + (root : Nat) = _; rw [ea]; omega
      have er : M.nr (M.sh root (M.nAt L k)) = ((root + d : Nat) : Int) := by rw [M.sh_ask root hf]; show M.nr (M.nAt L k) + (root : Nat) = _; rw [ed]; omega
      refine ⟨a, d, by omega, by omega, el, er, ?_⟩
      rw [M.unK_step _ _ hk', sa k hk]
      unfold M.un
      rw [if_neg (by rw [M.sh_nf]; exact hf), el, er]
  clear hc F sl sa hb
  generalize M.unK (L.map (M.sh root)) root = U at *
  generalize L.map (M.sh root) = SL at *
  go_enter Tryd.func38, Tryd.ntmps38
  go_wp2_with (go_at_call 53; refine CL.out.mono ?_; rintro e w1 ⟨g, cp, rfl, ho1, hb1⟩; rw [← U0.out] at ho1; have HO1 := hide ho1; have HB1 := hide hb1; clear ho1 hb1)
  go_loopw [12] (fun i wr => ∃ (k : Nat), k ≤ L.length ∧ i = .int .i64 k ∧ wr.ownsRow w.heap.size 25 6 (.slice (some ⟨g, 0, none⟩) L.length cp) L.length (ndCells (U k)) ∧ Hid (Below w.heap.size w wr)) (fun i _ => L.length - (intOf i).toNat)
  case atStart => exact ⟨0, Nat.zero_le _, rfl, HO1.out, HB1⟩
  case round =>
    clear HO1 HB1
    obtain ⟨k, hk, rfl, hown, K⟩ := hrel
    by_cases hlt : k < L.length
    · obtain ⟨s1, s2, s3⟩ := ST.out k hlt
      have hU : k < (U k).length := by rw [UL.out]; exact hlt
      obtain ⟨x0, x1, x2, x3, x4, x5⟩ := ndCells_at (U k) k hU
      rw [s1] at x0 x1 x2 x3 x4 x5
      rw [M.sh_nf] at x0
      have q0 := (hown.cellAt (k * 6) (by omega)).trans x0
      have q1 := (hown.cellAt (k * 6 + 1) (by omega)).trans x1
      have q2 := (hown.cellAt (k * 6 + 2) (by omega)).trans x2
      have q3 := (hown.cellAt (k * 6 + 3) (by omega)).trans x3
      have q4 := (hown.cellAt (k * 6 + 4) (by omega)).trans x4
      have q5 := (hown.cellAt (k * 6 + 5) (by omega)).trans x5
      have fz2 := hown.frozenAt (k * 6 + 2)
      have fz3 := hown.frozenAt (k * 6 + 3)
      have gl := (hown.lt g rfl).2
      have gB := (hown.lt g rfl).1
      have ksz := K.out.size
      have kz : (k : Int) < (L.length : Int) := by omega
      have HO := hide hown
      clear x0 x1 x2 x3 x4 x5 hown
      by_cases hf : M.nf (M.nAt L k) = -1
      · have t : (M.nf (M.nAt L k) != -1) = false := by rw [bne_eq_false_iff_eq]; exact hf
        have N1 : Hid (U (k + 1) = U k) := s2 hf
        clear s1 s2 s3 hf ST
        generalize M.nf (M.nAt L k) = nf at *
        generalize M.nc (M.sh root (M.nAt L k)) = nc at *
        generalize M.nl (M.sh root (M.nAt L k)) = nl at *
        generalize M.nr (M.sh root (M.nAt L k)) = nr at *
        generalize M.ns (M.sh root (M.nAt L k)) = ns at *
        generalize M.nv (M.sh root (M.nAt L k)) = nv at *
        go_wp2
        go_roundw
        case rel => exact ⟨k + 1, by omega, by go_num, by rw [N1.out]; exact HO.out.alloc _, K.out.alloc ksz _⟩
        case measure => simp [intOf]; omega
      · have t : (M.nf (M.nAt L k) != -1) = true := by rw [bne_iff_ne]; exact hf
        obtain ⟨a, d, ha, hd, el, er, eU⟩ := s3 hf
        have S2 : Hid (((ndCells (U k)).set (k * 6 + 2) (.int .i64 (((root + a : Nat) : Int) - (root : Int)))).set (k * 6 + 3) (.int .i64 (((root + d : Nat) : Int) - (root : Int))) = ndCells (U (k + 1))) := by
          have := ndCells_set2 (U k) k hU (((root + a : Nat) : Int) - (root : Int)) (((root + d : Nat) : Int) - (root : Int))
          rw [s1] at this
          unfold Hid
          rw [this, eU]
        rw [el] at q2
        rw [er] at q3
        have ha2 : root + a ≤ 1063 := by omega
        have hd2 : root + d ≤ 1063 := by omega
        clear s1 s2 s3 hf ST el er eU hU
        generalize root + a = A at *
        generalize root + d = D at *
        generalize M.nf (M.nAt L k) = nf at *
        generalize M.nc (M.sh root (M.nAt L k)) = nc at *
        generalize M.ns (M.sh root (M.nAt L k)) = ns at *
        generalize M.nv (M.sh root (M.nAt L k)) = nv at *
        have st2 := ((HO.out.stored (k * 6 + 2) (.int .i64 ((A : Int) - (root : Int)))).1.stored (k * 6 + 3) (.int .i64 ((D : Int) - (root : Int)))).1
        rw [S2.out] at st2
        have ST2 := hide st2
        have KB : Hid (∀ o, Below w.heap.size w ((((wr.setCell ⟨g, k * 6 + 2, none⟩ (.int .i64 ((A : Int) - (root : Int)))).setCell ⟨g, k * 6 + 3, none⟩ (.int .i64 ((D : Int) - (root : Int)))).alloc o).drew)) := fun o => (((K.out.setCell (p := ⟨g, k * 6 + 2, none⟩) gB _).setCell (p := ⟨g, k * 6 + 3, none⟩) gB _).alloc (by simp; omega) o).drew
        clear st2 S2
        go_upto_region 6 with fail
        go_region
        go_wp2
        go_roundw
        case rel => exact ⟨k + 1, by omega, by go_num, (ST2.out.alloc _).drew, KB.out _⟩
        case measure => simp [intOf]; omega
    · have hke : k = L.length := by omega
      have kz : ¬ ((k : Int) < (L.length : Int)) := by omega
      rw [hke, UN.out] at hown
      obtain ⟨a, cc, e, hr, hp⟩ := own_rdN rfl (by unfold maxLen; omega) hown
      cases e
      have HR := hide hr
      have HP := hide hp
      clear hke hown hr hp ST
      go_wp2
      go_ret
      exact ⟨_, ⟨_, rfl⟩, HR.out, HP.out, K.out⟩

end Go.Proofs.YtcaljnhdfbjpnaeDoor
