/-
  Several texts as one: ShAllM, ShAll.
-/
import Derived.Test.YtiggkjkjfnlfkaaGreatDoorRunS19
import Derived.Test.YtiggkjkjfnlfkaaGreatDoorRunS29
import Derived.Maps.RangeWalk
import Derived.Deep.Cut
import Derived.Deep.CutRange
namespace Go.Proofs.YtiggkjkjfnlfkaaGreatDoor
open Go.ChangeShapes Go.WideShapes Go.ChangeAt Go.RowKit Go.Lib Go.Maps
set_option linter.unusedVariables false
def AllF (S : M.Sh) (left : Lit → Bool) (F : List M.Vn) : Prop := F.Nodup ∧ ∀ x, x ∈ F ↔ ∃ k, k < S.l.length ∧ vAt S k = x ∧ left (nmK (vAt S k).name) = false
theorem same_self {n : List Nat} : (nmK n).sameKey (nmK n) = true := by unfold nmK; simp [Lit.sameKey]
theorem AllF.start {S : M.Sh} {left : Lit → Bool} (h : ∀ k, k < S.l.length → left (nmK (vAt S k).name) = true) : AllF S left [] :=
  ⟨List.nodup_nil, fun x => ⟨(fun z => by cases z), fun ⟨k, hk, _, z⟩ => by rw [h k hk] at z; cases z⟩⟩
theorem AllF.step {S : M.Sh} {left : Lit → Bool} {F : List M.Vn} (h : AllF S left F) (hi : Inv S) {n : List Nat} (hb : isB n) (hl : left (nmK n) = true) : AllF S (fun z => left z && !z.sameKey (nmK n)) (F ++ (M.posL S.l n).map (vAt S)) := by
  have key : ∀ k, k < S.l.length → ((left (nmK (vAt S k).name) && !(nmK (vAt S k).name).sameKey (nmK n)) = false ↔ left (nmK (vAt S k).name) = false ∨ (vAt S k).name = n) := fun k hk => by
    by_cases e : (vAt S k).name = n
    · rw [e, same_self]; simp
    · have : (nmK (vAt S k).name).sameKey (nmK n) = false := sameKey_ne (fun z => e (nmK_inj (hi.nb k hk) hb z))
      rw [this]; simp [e]
  refine ⟨?_, fun x => ?_⟩
  · rw [List.nodup_append]
    refine ⟨h.1, ?_, fun a ha b hb' e => ?_⟩
    · unfold List.Nodup
      rw [List.pairwise_iff_getElem]
      intro i j hi' hj' hij e
      rw [List.getElem_map, List.getElem_map] at e
      have li : i < (M.posL S.l n).length := by simpa using hi'
      have lj : j < (M.posL S.l n).length := by simpa using hj'
      have a := M.pos_num hi.nu n li
      have b := M.pos_num hi.nu n lj
      have ei : (M.posL S.l n).getD i 0 = (M.posL S.l n)[i] := by simp [List.getD, li]
      have ej : (M.posL S.l n).getD j 0 = (M.posL S.l n)[j] := by simp [List.getD, lj]
      rw [ei] at a
      rw [ej] at b
      have e' : (S.l.getD (M.posL S.l n)[i] M.vg0).1 = (S.l.getD (M.posL S.l n)[j] M.vg0).1 := e
      rw [e'] at a
      omega
    · subst e
      obtain ⟨k, hk, e1, e2⟩ := (h.2 a).1 ha
      obtain ⟨j, hj, e3⟩ := List.mem_map.1 hb'
      have nj := (M.pos_mem.1 hj).2
      have : (vAt S k).name = n := by
        have e4 : vAt S k = vAt S j := e1.trans e3.symm
        rw [e4]; exact nj
      rw [this, hl] at e2
      cases e2
  · rw [List.mem_append]
    constructor
    · rintro (z | z)
      · obtain ⟨k, hk, e1, e2⟩ := (h.2 x).1 z
        exact ⟨k, hk, e1, (key k hk).2 (.inl e2)⟩
      · obtain ⟨j, hj, e3⟩ := List.mem_map.1 z
        obtain ⟨j1, j2⟩ := M.pos_mem.1 hj
        exact ⟨j, j1, e3, (key j j1).2 (.inr j2)⟩
    · rintro ⟨k, hk, e1, e2⟩
      rcases (key k hk).1 e2 with z | z
      · exact .inl ((h.2 x).2 ⟨k, hk, e1, z⟩)
      · exact .inr (List.mem_map.2 ⟨k, M.pos_mem.2 ⟨hk, z⟩, e1⟩)
/-- in their order they are all -/
theorem AllF.done {S : M.Sh} {left : Lit → Bool} {F R : List M.Vn} (h : AllF S left F) (hi : Inv S) (hl : ∀ z, left z = false) (hp : R.Perm F) (hs : ∀ i j (hi : i < j) (hj : j < R.length), M.vLt (M.kv R[j]) (M.kv (R[i]'(by omega))) = false) : R = M.allS S := by
  have mem : ∀ x, x ∈ R ↔ ∃ k, k < S.l.length ∧ vAt S k = x := fun x => by
    rw [hp.mem_iff, h.2 x]
    exact ⟨fun ⟨k, a, b, _⟩ => ⟨k, a, b⟩, fun ⟨k, a, b⟩ => ⟨k, a, b, hl _⟩⟩
  have nd : R.Nodup := hp.nodup_iff.2 h.1
  refine M.all_only (M.key_ky hi.nu) ?_ (fun x => ?_)
  · unfold M.SortV
    rw [List.pairwise_iff_getElem]
    intro i j hi' hj' hij
    have ne : R[i] ≠ R[j] := by
      have := nd
      unfold List.Nodup at this
      rw [List.pairwise_iff_getElem] at this
      exact this i j hi' hj' hij
    obtain ⟨k, k1, k2⟩ := (mem R[i]).1 (List.getElem_mem hi')
    obtain ⟨m, m1, m2⟩ := (mem R[j]).1 (List.getElem_mem hj')
    have bi : ∀ x ∈ R[i].name, x < 256 := by rw [← k2]; exact hi.nb k k1
    have bj : ∀ x ∈ R[j].name, x < 256 := by rw [← m2]; exact hi.nb m m1
    have kk : ¬ (R[i].name = R[j].name ∧ R[i].num = R[j].num) := fun z => by
      have ky := M.key_ky hi.nu
      unfold M.keyL at ky
      rw [List.pairwise_iff_getElem] at ky
      rcases Nat.lt_trichotomy k m with q | q | q
      · refine ky k m (by rw [List.length_map]; exact k1) (by rw [List.length_map]; exact m1) q ?_
        have e1 : (S.l.map (·.1))[k]'(by rw [List.length_map]; exact k1) = vAt S k := by show _ = (S.l.getD k M.vg0).1; simp [List.getD, k1]
        have e2 : (S.l.map (·.1))[m]'(by rw [List.length_map]; exact m1) = vAt S m := by show _ = (S.l.getD m M.vg0).1; simp [List.getD, m1]
        rw [e1, e2, k2, m2]
        exact z
      · subst q
        exact ne (k2.symm.trans m2)
      · refine ky m k (by rw [List.length_map]; exact m1) (by rw [List.length_map]; exact k1) q ?_
        have e1 : (S.l.map (·.1))[k]'(by rw [List.length_map]; exact k1) = vAt S k := by show _ = (S.l.getD k M.vg0).1; simp [List.getD, k1]
        have e2 : (S.l.map (·.1))[m]'(by rw [List.length_map]; exact m1) = vAt S m := by show _ = (S.l.getD m M.vg0).1; simp [List.getD, m1]
        rw [e1, e2, k2, m2]
        exact ⟨z.1.symm, z.2.symm⟩
    have q := hs i j hij hj'
    have e : M.vLt (M.kv R[j]) (M.kv R[i]) = M.vLt R[j] R[i] := by
      unfold M.vLt
      rw [kv_name bi, kv_name bj]
      rfl
    rw [e] at q
    rcases M.v_total kk with z | z
    · exact z
    · rw [z] at q; cases q
  · rw [mem x]
    exact ⟨fun ⟨k, a, b⟩ => ⟨k, a, by rw [← b]; show (S.l.getD k M.vg0).1 = _; simp [List.getD, a]⟩, fun ⟨k, a, b⟩ => ⟨k, a, by rw [b]; show (S.l.getD k M.vg0).1 = _; simp [List.getD, a]⟩⟩

/-- a step of the range over models by name -/
theorem wpList_next_models {w : World} {ops : Array Oper} {rest : List Oper} {o : Oper} {a : Act} {Q : Exit → Act → World → Prop} (hg : o.guard = none) (it : Operand) (hop : o.op = Op.next it false) (mm r m : Nat) (D : DataW Value) (left : Lit → Bool) (cnt : Nat) (mb : List Nat → Nat)
    (hD : ∀ n, isB n → Maps.has D (nmK n) = true → ∀ z, D.atKey (nmK n) z = .held (ptB (some (mb n))))
    (hit : a.eval it = .pointer (some ⟨r, 0, none⟩)) (h : w.ranges Tryz.prog 9 selfE mm r m D left cnt)
    (hDone : cnt = 0 → (∀ kl, left kl = false) → wpList Tryz.prog ops Q rest (a.put o.dst (.tuple #[.bool false])) w)
    (hMore : ∀ (n : List Nat) (w' : World) (cnt' : Nat), isB n → left (nmK n) = true → Maps.has D (nmK n) = true → w'.ranges Tryz.prog 9 selfE mm r m D (fun z => left z && !z.sameKey (nmK n)) cnt' → cnt' < cnt → w.grownBy w' (some r) → w'.heap.size = w.heap.size → (Instr.entry (.pointer (some ⟨r, 0, none⟩))).run Tryz.prog w' = .ok (.tuple #[.string (byStr n), .pointer (some ⟨mb n, 0, none⟩)]) w' → wpList Tryz.prog ops Q rest (a.put o.dst (.tuple #[.bool true, .string (byStr n), .pointer (some ⟨mb n, 0, none⟩)])) w') :
    wpList Tryz.prog ops Q (o :: rest) a w := by
  refine wpList_next_ranges (α := ByteArray) (β := Value) w hg it hop 9 keyS selfE Value.string id (fun key kl hk => by
    obtain ⟨s, rfl, _⟩ := Go.WideMaps.string_of_keyOf Tryz.underlying9 hk
    exact ⟨s, rfl⟩) (fun v y _ => ⟨v, rfl⟩) mm r m D left cnt hit h hDone ?_
  intro s v kl y w' cnt' hkey hlk hR hat hrg hlt hgr hsz hen
  obtain ⟨s', e1, e2, e3⟩ := Go.WideMaps.string_of_keyOf Tryz.underlying9 hkey
  cases e1
  have en : s.data.toList = (s.data.toList.map UInt8.toNat).map UInt8.ofNat := by
    rw [List.map_map]
    conv => lhs; rw [← List.map_id s.data.toList]
    exact List.map_congr_left (fun z _ => by simp)
  have bn : isB (s.data.toList.map UInt8.toNat) := fun x hx => by
    obtain ⟨u, _, rfl⟩ := List.mem_map.1 hx
    exact u.toNat_lt
  have ek : kl = nmK (s.data.toList.map UInt8.toNat) := by
    rw [e2]
    unfold nmK
    rw [← en]
  have es : s = byStr (s.data.toList.map UInt8.toNat) := by
    have : s.data.toList = (byStr (s.data.toList.map UInt8.toNat)).data.toList := by rw [byStr_list, ← en]
    exact bytes_inj this
  have hv : y = (.held v, []) := by
    unfold selfE at hR
    cases hR
    rfl
  subst hv
  have hh : Maps.has D kl = true := has_true_of_atKey hat
  generalize s.data.toList.map UInt8.toNat = n at *
  subst ek
  subst es
  have := (hD n bn hh (.held v)).symm.trans (hat (.held v))
  injection this with this
  have hv : v = .pointer (some ⟨mb n, 0, none⟩) := this.symm
  subst hv
  exact hMore n w' cnt' bn hlk hh hrg hlt hgr hsz hen
theorem src_one {w : World} {v : M.Vn} {t : TypeId} : [v] ≠ [] → ∃ ad, (some ⟨w.heap.size, 0, none⟩ : Option Addr) = some ad ∧ ∀ j u, (vnCells [v])[j]? = some u → (w.alloc (.cells #[.string (byStr v.name), .int .i64 v.num, .int .i64 v.stage, .int .i64 v.share] t)).cell? (ad.add j) = some u := fun _ => by
  refine ⟨_, rfl, fun j u hu => ?_⟩
  have e : (⟨w.heap.size, 0, none⟩ : Addr).add j = ⟨w.heap.size, j, none⟩ := by unfold Addr.add; split <;> simp_all
  rw [e]
  exact (bx_new w [.string (byStr v.name), .int .i64 v.num, .int .i64 v.stage, .int .i64 v.share] t).cell j u (by simpa [vnCells, encN] using hu)

set_option maxHeartbeats 16000000 in
set_option maxRecDepth 10000 in
theorem sh_All {W : World} {f : Nat} {T : Nat → Nat} {S : M.Sh} (h : SA W f T S) (hi : S.idx ≤ 900) :
    Calls Tryz.prog 13 #[.pointer (some ⟨f, 0, none⟩)] W fun e w' => ∃ a cap, e = .returned (.slice a (M.allS S).length cap) ∧ RdV w' a (M.allS S) ∧ Below W.heap.size W w' ∧ ∀ p, a = some p → W.heap.size ≤ p.block ∧ p.block < w'.heap.size := by
  obtain ⟨mm, ml, D, E, kb, mb, va, vc, G, h⟩ := h
  have H := hide h
  have c0 := h.box.cell 0 _ rfl
  have HD : Hid (∀ n, isB n → Maps.has D (nmK n) = true → M.posL S.l n ≠ [] ∧ ∀ z, D.atKey (nmK n) z = .held (ptB (some (mb n)))) := fun n hb hh => by
    have hn : M.posL S.l n ≠ [] := fun e => by rw [h.mn n hb e] at hh; cases hh
    exact ⟨hn, h.ms n hn⟩
  have LL : Hid (S.l.length ≤ 900) := by unfold Hid; have := h.inv.ll; omega
  have SD : Hid (Maps.size D ≤ 900) := by
    unfold Hid
    rw [h.mz]
    have : M.names S ≤ S.l.length := List.length_filter_le _ _
    have := LL.out
    omega
  have ST : Hid (∀ k, k < S.l.length → Maps.has D (nmK (vAt S k).name) = true) := fun k hk => has_true_of_atKey (h.ms _ (h.posNe hk))
  have HI := hide h.inv
  have MO := hide h.mo
  have mml : mm < W.heap.size := h.tlt mm (by rw [h.tm]; decide)
  clear h
  go_enter Tryz.func13, Tryz.ntmps13
  go_wp2_with (first
    | (at_range; refine wpList_range_own _ rfl _ 76 rfl 9 92 keyS Tryz.underlying76 _ mm (M.names S) D rfl MO.out ?_; intro w0 hrg0 hg0 hs0)
    | go_in)
  go_frame
  have HR0 := hide hrg0
  have K0 : Hid (Below W.heap.size W w0) := (Below.refl _ _).grown hg0 (Nat.le_refl _) (fun j hj => by cases hj)
  have HS0 := hide hs0
  clear hrg0 hg0 hs0
  go_loopw [3] (fun v wr => ∃ (left : Lit → Bool) (cnt : Nat) (F : List M.Vn) (a : Option Addr) (cap : Nat), v = .slice a F.length cap ∧ Hid (wr.ranges Tryz.prog 9 selfE mm W.heap.size (M.names S) D left cnt) ∧ Hid (wr.ownsRow (W.heap.size + 1) 49 4 (.slice a F.length cap) F.length (vnCells F)) ∧ Hid (Below W.heap.size W wr ∧ W.heap.size + 1 ≤ wr.heap.size) ∧ Hid (AllF S left F) ∧ Hid (F.length + cnt * 900 ≤ 810000)) (fun _ wr => wr.rangeLeft mm W.heap.size)
  case atStart =>
    refine ⟨_, _, [], none, 0, rfl, HR0, World.ownsRow_nil _ _ _ _, ⟨K0.out, by have := HS0.out; omega⟩, AllF.start ST.out, ?_⟩
    unfold Hid
    have := SD.out
    simp only [List.length_nil]
    omega
  case round =>
    obtain ⟨left, cnt, F, a, cap, rfl, HR, HO, HB, HA, HN⟩ := hrel
    go_wp2_with (first
      | (at_next; refine wpList_next_models rfl _ rfl mm W.heap.size (M.names S) D left cnt mb (fun n hb hh => (HD.out n hb hh).2) rfl HR.out ?_ ?_)
      | go_in)
    · intro hc0 hl0
      have FLN : F.length ≤ 1000000 := by have := HN.out; omega
      have SO := hide (sortV_own (W.heap.size + 1) a cap F wr HO.out FLN HB.out.2)
      have HL0 := hide hl0
      clear hl0
      go_wp2_with (go_at_call 37; refine SO.out.mono ?_; rintro e w2 ⟨rfl, R, hp, hs, hr, hb⟩; have RR := hide (AllF.done HA.out HI.out HL0.out hp hs); have RD := hide hr; have BB := hide hb; have PL := hide hp.length_eq; clear hp hs hr hb)
      go_ret
      refine ⟨a, cap, ?_, by rw [← RR.out]; exact RD.out, HB.out.1.trans (BB.out.mono (Nat.le_succ _)), fun p hp => ?_⟩
      · rw [← RR.out, PL.out]
        rfl
      · have q := HO.out.lt p.block (by rw [hp]; rfl)
        have := BB.out.size
        exact ⟨by omega, by omega⟩
    · intro n w1 cnt1 bn hlx hh hrg1 hlt hg1 hs1 hen
      obtain ⟨hn, _⟩ := HD.out n bn hh
      have b1 : Below W.heap.size W w1 := HB.out.1.grown hg1 HB.out.1.size (fun j hj => by cases hj; exact Nat.le_refl _)
      have z1 : W.heap.size + 1 ≤ w1.heap.size := by rw [hs1]; exact HB.out.2
      have sv1 := H.out.below b1
      have o1 : w1.ownsRow (W.heap.size + 1) 49 4 (.slice a F.length cap) F.length (vnCells F) := HO.out.kept hg1 (by
        cases hv : (Value.slice a F.length cap).ownBlock with
        | none => exact .inl rfl
        | some q => exact .inr (fun e => by cases e; have := (HO.out.lt _ hv).1; omega))
      have m0 := (sv1.mc n hn).cell 0 _ rfl
      obtain ⟨g, cp, ea, ec⟩ : ∃ g cp, va n = some ⟨g, 0, none⟩ ∧ vc n = cp := by
        rcases (sv1.ro n hn).2 with ⟨_, z⟩ | ⟨g, cp, cur, hv, _⟩
        · exact absurd (List.length_eq_zero_iff.1 z) hn
        · rw [Value.slice.injEq] at hv
          exact ⟨g, vc n, hv.1, rfl⟩
      have CE : Hid (∀ wi k, Below W.heap.size W wi → k < (M.posL S.l n).length → wi.cell? ⟨g, k, none⟩ = some (.pointer (some ⟨kb ((M.posL S.l n).getD k 0), 0, none⟩)) ∧ Bx wi (kb ((M.posL S.l n).getD k 0)) (kpL (vAt S ((M.posL S.l n).getD k 0)) (G ((M.posL S.l n).getD k 0)))) := fun wi k hw hk => by
        have sv := H.out.below hw
        have ro := sv.ro n hn
        rw [ea] at ro
        have mem : (M.posL S.l n).getD k 0 ∈ M.posL S.l n := by
          rw [List.getD, List.getElem?_eq_getElem hk]; exact List.getElem_mem hk
        refine ⟨?_, sv.kc _ (M.pos_mem.1 mem).1⟩
        rw [ro.cellAt k (by omega), List.getElem?_map, List.getElem?_eq_getElem hk]
        simp [List.getD, hk, ptB]
      have TK : Hid (∀ k, k < (M.posL S.l n).length → F ++ ((M.posL S.l n).take (k + 1)).map (vAt S) = (F ++ ((M.posL S.l n).take k).map (vAt S)) ++ [vAt S ((M.posL S.l n).getD k 0)]) := fun k hk => by
        rw [List.take_succ_eq_append_getElem hk, List.map_append, List.append_assoc]
        simp [List.getD, hk]
      have L9 : Hid ((M.posL S.l n).length ≤ 900) := by
        unfold Hid
        rw [M.pos_len]
        have : M.many S n ≤ S.l.length := List.length_filter_le _ _
        have := LL.out
        omega
      have FN : Hid (F.length ≤ 810000) := by unfold Hid; have := HN.out; omega
      have A1 := hide (AllF.step HA.out HI.out bn hlx)
      have HR1 := hide hrg1
      have B1 := hide b1
      have Z1 := hide z1
      have O1 := hide o1
      have HLT := hide hlt
      rw [ea, ec] at m0
      clear hg1 hs1 b1 z1 sv1 o1 hrg1 hlt hh hlx hn ea ec
      generalize hL : (M.posL S.l n).length = L at *
      have EL := hide hL
      clear hL
      have l9 := L9.out
      go_wp2
      go_loopw [3, 22] (fun v i wi => ∃ (k : Nat) (a2 : Option Addr) (c2 : Nat), k ≤ L ∧ i = .int .i64 k ∧ v = .slice a2 (F.length + k) c2 ∧ Hid (wi.ranges Tryz.prog 9 selfE mm W.heap.size (M.names S) D (fun z => left z && !z.sameKey (nmK n)) cnt1) ∧ Hid (wi.ownsRow (W.heap.size + 1) 49 4 (.slice a2 (F.length + k) c2) (F.length + k) (vnCells (F ++ ((M.posL S.l n).take k).map (vAt S)))) ∧ Hid (Below W.heap.size W wi ∧ W.heap.size + 1 ≤ wi.heap.size)) (fun _ i _ => L - (intOf i).toNat)
      case atStart => exact ⟨0, a, cap, Nat.zero_le _, rfl, rfl, HR1, (by unfold Hid; rw [List.take_zero, List.map_nil, List.append_nil]; exact O1.out), ⟨B1.out, Z1.out⟩⟩
      case round =>
        obtain ⟨k, a2, c2, hk, rfl, rfl, HRi, HOi, HBi⟩ := hrel
        by_cases hlt : k < L
        · have kz : (k : Int) < (L : Int) := by omega
          obtain ⟨rc, bk⟩ := CE.out wr k HBi.out.1 hlt
          have d0 := bk.cell 0 _ rfl
          have d1 := bk.cell 1 _ rfl
          have d2 := bk.cell 2 _ rfl
          have d3 := bk.cell 3 _ rfl
          have tk := hide (TK.out k hlt)
          have fk : F.length + k + 1 ≤ 1000000 := by have := FN.out; omega
          clear bk CE TK
          generalize hvk : vAt S ((M.posL S.l n).getD k 0) = vk at *
          clear hvk
          generalize kb ((M.posL S.l n).getD k 0) = q at *
          go_wp2_with (first
            | (at_builtin; refine wpList_append_vn rfl (.tmp 26) (.tmp 31) rfl (W.heap.size + 1) (.slice a2 (F.length + k) c2) (F.length + k) (F ++ ((M.posL S.l n).take k).map (vAt S)) rfl (HOi.out.alloc _) (some ⟨wr.heap.size, 0, none⟩) [vk] 1 1 rfl rfl src_one (fun e => by cases e) (by simpa using fk) (by have := HBi.out.2; simp; omega) ?_; intro a3 c3 w3 ho3 hb3 hg3)
            | go_in)
          have hr3 := (HRi.out.alloc (.cells #[.string (byStr vk.name), .int .i64 vk.num, .int .i64 vk.stage, .int .i64 vk.share] 49)).kept hg3 (fun e => by have := (HOi.out.lt mm e.symm).1; omega) (fun e => by have := (HOi.out.lt W.heap.size e.symm).1; omega)
          have hbz : Below W.heap.size W w3 := ((HBi.out.1.alloc HBi.out.1.size (.cells #[.string (byStr vk.name), .int .i64 vk.num, .int .i64 vk.stage, .int .i64 vk.share] 49))).trans (hb3.mono (Nat.le_succ _))
          have hz3 : W.heap.size + 1 ≤ w3.heap.size := by have := hb3.size; have := HBi.out.2; simp at *; omega
          go_roundw
          case rel => exact ⟨k + 1, a3, c3, by omega, by go_num, rfl, hr3, (by unfold Hid; rw [tk.out]; exact ho3), ⟨hbz, hz3⟩⟩
          case measure => simp [intOf]; omega
        · have ek : k = L := by omega
          have kz : ¬ ((k : Int) < (L : Int)) := by omega
          have EK := hide ek
          clear ek CE TK
          go_wp2
          go_roundw
          case rel =>
            refine ⟨_, cnt1, F ++ (M.posL S.l n).map (vAt S), a2, c2, ?_, HRi, ?_, HBi, A1, ?_⟩
            · rw [List.length_append, List.length_map, EL.out, EK.out]
            · unfold Hid
              have ho := HOi.out
              rw [EK.out, ← EL.out, List.take_length] at ho
              rw [List.length_append, List.length_map]
              exact ho
            · unfold Hid
              rw [List.length_append, List.length_map, EL.out]
              have := HN.out
              have := HLT.out
              have : cnt1 * 900 + 900 ≤ cnt * 900 := by omega
              omega
          case measure =>
            rw [HRi.out.left_eq, HR.out.left_eq]
            exact HLT.out
end Go.Proofs.YtiggkjkjfnlfkaaGreatDoor
