/-
  What the reference's Cut, Nine and ReadRow answer, for every text of at most two million bytes.
-/
import Derived.Test.YtihaphicidjooabGreatDoorRefRow
import Derived.Test.YtihaphicidjooabGreatDoorMathT
namespace Go.Proofs.YtihaphicidjooabGreatDoor
open Go.ChangeShapes Go.WideShapes Go.ChangeAt Go.RowKit Go.Shelf Go.Lib Go.Sort
set_option linter.unusedVariables false

def wcells (ws : List (List UInt8)) : List Value := ws.map fun w => .string (bs w)
theorem wcells_snoc (ws : List (List UInt8)) (w : List UInt8) : wcells (ws ++ [w]) = wcells ws ++ [.string (bs w)] := by simp [wcells]
theorem byte_at (s : ByteArray) (k : Nat) (h : k < s.size) (h' : k < s.data.toList.length) : s[k] = s.data.toList[k] := rfl
theorem extract_bs (s : ByteArray) (a b : Nat) : s.extract a b = bs ((s.data.toList.drop a).take (b - a)) := extract_eq s a b

set_option maxHeartbeats 2000000 in
set_option maxRecDepth 10000 in
theorem rcut_any (s : ByteArray) (w : World) (hs : s.size ≤ 2000000) :
    Calls Tryz.prog 26 #[.string s, .int .u8 44] w fun e w' => ∃ g cap, e = .returned (.slice (some ⟨g, 0, none⟩) (M.words s.data.toList).length cap) ∧
      w'.ownsRow w.heap.size 9 1 (.slice (some ⟨g, 0, none⟩) (M.words s.data.toList).length cap) (M.words s.data.toList).length (wcells (M.words s.data.toList)) ∧ Below w.heap.size w w' := by
  obtain ⟨i0, hi, hz0, hz1, hz2⟩ := info_parts info9
  have I0 := hide hi
  have SL := hide (M.stC_len s.data.toList)
  have EN := hide (M.stC_end s.data.toList)
  have SZ := hide (size_eq s)
  clear hi
  generalize M.words s.data.toList = V at *
  go_enter Tryz.func26, Tryz.ntmps26
  go_wp2
  go_loopw [5, 6, 7] (fun v f i wr => ∃ k : Nat, k ≤ s.size ∧ i = .int .i64 k ∧ f = .int .i64 ((M.stC s.data.toList k).2 : Nat) ∧ wr.ownsRow w.heap.size 9 1 v (M.stC s.data.toList k).1.length (wcells (M.stC s.data.toList k).1) ∧ Below w.heap.size w wr) (fun _ _ i _ => s.size - (intOf i).toNat)
  case atStart => exact ⟨0, Nat.zero_le _, rfl, rfl, World.ownsRow_nil _ _ _ _, Below.refl _ _⟩
  case round =>
    obtain ⟨k, hk, rfl, rfl, hown, hbl⟩ := hrel
    have hn := (SL.out k).1
    have hf := (SL.out k).2
    by_cases hlt : k < s.size
    · have hlt' : k < s.data.toList.length := by rw [← SZ.out]; exact hlt
      have gD : s.data.toList.getD k 0 = s[k] := by rw [byte_at s k hlt hlt']; simp [List.getD, List.getElem?_eq_getElem hlt']
      by_cases h44 : s[k] = 44
      · have q : ((s[k].toNat : Int) == 44) = true := by rw [h44]; rfl
        have NX := hide (M.stC_hit (gD.trans h44))
        have HO := hide hown
        have PC : Hid (s.extract (M.stC s.data.toList k).2 k = bs ((s.data.toList.drop (M.stC s.data.toList k).2).take (k - (M.stC s.data.toList k).2))) := extract_bs s _ _
        clear hown gD h44
        generalize (M.stC s.data.toList k).2 = f at *
        generalize (M.stC s.data.toList k).1 = D at *
        generalize (s.data.toList.drop f).take (k - f) = wd at *
        have c1 : (0 : Int) ≤ ↑f := by omega
        have c2 : (↑f : Int) ≤ ↑k := by omega
        have c3 : (↑k : Int) ≤ ↑s.size := by omega
        have hwr : w.heap.size ≤ wr.heap.size := hbl.size
        go_wp2_with (at_builtin; refine wpList_append_lies _ rfl (.tmp 19) (.tmp 24) 51 rfl w.heap.size 9 i0 (.string ⟨#[]⟩) 1 16 Tryz.underlying51 I0.out hz0 hz1 hz2 rfl (by omega) u5 D.length (wcells D) rfl (HO.out.alloc _) ⟨wr.heap.size, 0, none⟩ 1 1 [.string (s.extract f k)] rfl rfl (World.news_of_block (heap_alloc_new _ _)) (by simp [Value.oneCell']) (by omega) (by unfold maxLen; omega) (by omega) (by simp; omega) (wr.heap.size + 1) (by simp) ?_)
        intro g cap w3 hov3 hgrow hat hlt3
        have hb3 : Below w.heap.size w w3 := (hbl.alloc hbl.size _).grown hgrow (by simp; omega) (fun k hk => (HO.out.lt k hk).1)
        have HO3 : Hid (w3.ownsRow w.heap.size 9 1 (.slice (some ⟨g, 0, none⟩) (D.length + 1) cap) (M.stC s.data.toList (k + 1)).1.length (wcells (M.stC s.data.toList (k + 1)).1)) := by
          unfold Hid; rw [NX.out, wcells_snoc, List.length_append, ← PC.out]; exact hov3
        have E2 : Hid ((M.stC s.data.toList (k + 1)).2 = k + 1) := by unfold Hid; rw [NX.out]
        clear hov3 hgrow hat
        go_wp2
        go_roundw
        case rel => exact ⟨k + 1, by omega, by go_num, by rw [E2.out]; go_num, HO3.out, hb3⟩
        case measure => simp [intOf]; omega
      · have q : ((s[k].toNat : Int) == 44) = false := by
          rw [beq_eq_false_iff_ne]; intro e
          apply h44
          apply UInt8.toNat_inj.1
          show s[k].toNat = 44
          omega
        have NX := hide (M.stC_miss (by rw [gD]; exact h44 : s.data.toList.getD k 0 ≠ 44))
        have HO := hide hown
        clear hown gD h44
        go_wp2
        go_roundw
        case rel => exact ⟨k + 1, by omega, by go_num, by rw [NX.out], by rw [NX.out]; exact HO.out, hbl⟩
        case measure => simp [intOf]; omega
    · have hke : k = s.size := by omega
      have hkl : k = s.data.toList.length := by rw [← SZ.out]; exact hke
      have HO := hide hown
      have EN2 : Hid ((M.stC s.data.toList k).1 ++ [s.data.toList.drop (M.stC s.data.toList k).2] = V) := by unfold Hid; rw [hkl]; exact EN.out
      have PC : Hid (s.extract (M.stC s.data.toList k).2 s.size = bs (s.data.toList.drop (M.stC s.data.toList k).2)) := (bs_drop s _).symm
      clear hown EN hkl
      generalize (M.stC s.data.toList k).2 = f at *
      generalize (M.stC s.data.toList k).1 = D at *
      generalize s.data.toList.drop f = wd at *
      have c1 : (0 : Int) ≤ ↑f := by omega
      have c2 : (↑f : Int) ≤ ↑s.size := by omega
      have hwr : w.heap.size ≤ wr.heap.size := hbl.size
      clear hke
      go_wp2_with (at_builtin; refine wpList_append_lies _ rfl (.tmp 28) (.tmp 32) 51 rfl w.heap.size 9 i0 (.string ⟨#[]⟩) 1 16 Tryz.underlying51 I0.out hz0 hz1 hz2 rfl (by omega) u5 D.length (wcells D) rfl (HO.out.alloc _) ⟨wr.heap.size, 0, none⟩ 1 1 [.string (s.extract f s.size)] rfl rfl (World.news_of_block (heap_alloc_new _ _)) (by simp [Value.oneCell']) (by omega) (by unfold maxLen; omega) (by omega) (by simp; omega) (wr.heap.size + 1) (by simp) ?_)
      intro g cap w3 hov3 hgrow hat hlt3
      have hb3 : Below w.heap.size w w3 := (hbl.alloc hbl.size _).grown hgrow (by simp; omega) (fun k hk => (HO.out.lt k hk).1)
      have HO3 : Hid (w3.ownsRow w.heap.size 9 1 (.slice (some ⟨g, 0, none⟩) V.length cap) V.length (wcells V) ∧ D.length + 1 = V.length) := by
        have e : V.length = D.length + 1 := by rw [← EN2.out]; simp
        refine ⟨?_, e.symm⟩
        rw [e, ← EN2.out, wcells_snoc, ← PC.out]; exact hov3
      clear hov3 hgrow hat
      go_wp2
      go_ret
      exact ⟨g, cap, by rw [← HO3.out.2]; rfl, HO3.out.1, hb3⟩

/-! ### Nine -/

/-- where a word's digits begin, and what they come to -/
def M.fromI (l : List UInt8) : Nat := if l.head? = some 45 then 1 else 0
def M.nineF (l : List UInt8) (f : Nat) : Option Int := (M.magI (l.drop f) l.length).map fun (m : Nat) => if f = 1 then -(m : Int) else (m : Int)
theorem M.nine_from (l : List UInt8) : M.nineI l = M.nineF l (M.fromI l) := by
  unfold M.nineI M.nineF M.fromI
  by_cases h : l.head? = some 45
  · rw [if_pos h, if_pos h, List.drop_one]; rfl
  · rw [if_neg h, if_neg h]; rfl
theorem M.from_le (l : List UInt8) : M.fromI l ≤ 1 ∧ (l ≠ [] → M.fromI l ≤ l.length) := by
  unfold M.fromI
  split
  · exact ⟨Nat.le_refl _, fun h => List.length_pos_iff.2 h⟩
  · exact ⟨Nat.zero_le _, fun _ => Nat.zero_le _⟩
theorem M.nineF_none {l : List UInt8} {f : Nat} (h : M.magI (l.drop f) l.length = none) : M.nineF l f = none := by unfold M.nineF; rw [h]; rfl
theorem M.nineF_some {l : List UInt8} {f m : Nat} (h : M.magI (l.drop f) l.length = some m) : M.nineF l f = some (if f = 1 then -(m : Int) else (m : Int)) := by unfold M.nineF; rw [h]; rfl
theorem M.mag_nil {l : List UInt8} {f : Nat} (h : l.length ≤ f) : M.magI (l.drop f) l.length = none := by
  unfold M.magI; rw [if_pos (List.drop_of_length_le h)]
theorem M.mag_long {l : List UInt8} {f : Nat} (h : f < l.length) (h9 : 9 < l.length - f) : M.magI (l.drop f) l.length = none := by
  unfold M.magI
  have e : (l.drop f).length = l.length - f := List.length_drop
  rw [if_neg (by intro e2; rw [e2] at e; simp at e; omega), if_pos (by omega)]
theorem M.mag_zero {l : List UInt8} {f : Nat} (h : f < l.length) (h9 : l.length - f ≤ 9) (h0 : l[f] = 48) (h1 : 1 < l.length) : M.magI (l.drop f) l.length = none := by
  unfold M.magI
  have e : (l.drop f).length = l.length - f := List.length_drop
  rw [if_neg (by intro e2; rw [e2] at e; simp at e; omega), if_neg (by omega), if_pos ⟨by rw [List.drop_eq_getElem_cons h, h0]; rfl, h1⟩]
theorem M.mag_digs {l : List UInt8} {f : Nat} (h : f < l.length) (h9 : l.length - f ≤ 9) (h0 : ¬ (l[f] = 48 ∧ 1 < l.length)) : M.magI (l.drop f) l.length = Lib.decFrom 0 (l.drop f) := by
  have e : (l.drop f).length = l.length - f := List.length_drop
  refine M.mag_of (by intro e2; rw [e2] at e; simp at e; omega) (by omega) ?_
  rw [List.drop_eq_getElem_cons h]
  rintro ⟨g1, g2⟩
  rw [List.head?_cons] at g1
  injection g1 with g1
  exact h0 ⟨g1, g2⟩
theorem M.drop_at {l : List UInt8} {f j : Nat} (hf : f ≤ j) (hj : j < l.length) (h' : j - f < (l.drop f).length) : (l.drop f)[j - f] = l[j] := by
  rw [List.getElem_drop]; simp only [show f + (j - f) = j by omega]
theorem M.step_not {l : List UInt8} {f j m : Nat} (hf : f ≤ j) (hj : j < l.length) (hm : Lib.decFrom 0 ((l.drop f).take (j - f)) = some m) (hd : ¬ (48 ≤ l[j].toNat ∧ l[j].toNat ≤ 57)) : Lib.decFrom 0 (l.drop f) = none := by
  have h' : j - f < (l.drop f).length := by rw [List.length_drop]; omega
  exact M.digs_not h' hm (by rw [M.drop_at hf hj h']; exact hd)
theorem M.step_next {l : List UInt8} {f j m : Nat} (hf : f ≤ j) (hj : j < l.length) (hm : Lib.decFrom 0 ((l.drop f).take (j - f)) = some m) (h1 : 48 ≤ l[j].toNat) (h2 : l[j].toNat ≤ 57) : Lib.decFrom 0 ((l.drop f).take (j + 1 - f)) = some (m * 10 + (l[j].toNat - 48)) := by
  have h' : j - f < (l.drop f).length := by rw [List.length_drop]; omega
  have := M.digs_next h' hm (by rw [M.drop_at hf hj h']; exact h1) (by rw [M.drop_at hf hj h']; exact h2)
  rw [M.drop_at hf hj h'] at this
  rw [show j + 1 - f = j - f + 1 by omega]
  exact this

set_option maxHeartbeats 4000000 in
set_option maxRecDepth 10000 in
theorem nine_any (s : ByteArray) (w : World) (hs : s.size ≤ 2000000) :
    Calls Tryz.prog 27 #[.string s] w fun e w' => e = .returned (.tuple #[.int .i64 ((M.nineI s.data.toList).getD 0), .bool (M.nineI s.data.toList).isSome]) ∧ w' = w := by
  have SZ := size_eq s
  by_cases he : s.data.toList = []
  · have es : s = ⟨#[]⟩ := bs_eq he
    subst es
    clear he hs SZ
    rw [show M.nineI (⟨#[]⟩ : ByteArray).data.toList = none from rfl]
    go_enter Tryz.func27, Tryz.ntmps27
    go_wp2
    go_ret2
    exact ⟨rfl, rfl⟩
  · have hp : 0 < s.size := by rw [SZ]; exact List.length_pos_iff.2 he
    have q0 : s.toList.isEmpty = false := by rw [toList_data, List.isEmpty_eq_false_iff]; exact he
    have FL := hide (M.from_le s.data.toList)
    have hfl : M.fromI s.data.toList ≤ s.size := by rw [SZ]; exact FL.out.2 he
    have hf1 := FL.out.1
    have F45 : Hid (∀ q : Bool, q = ((s[0].toNat : Int) == 45) → M.fromI s.data.toList = if q = true then 1 else 0) := fun q hq => by
      have hl : 0 < s.data.toList.length := by rw [← SZ]; exact hp
      have e0 : s.data.toList.head? = some s[0] := by
        rw [byte_at s 0 hp hl, List.head?_eq_getElem?, List.getElem?_eq_getElem hl]
      unfold M.fromI
      rw [e0]
      by_cases h : s[0] = 45
      · rw [if_pos (by rw [h]), hq, h]; rfl
      · rw [if_neg (by intro e; injection e with e; exact h e), hq]
        have : ((s[0].toNat : Int) == 45) = false := by
          rw [beq_eq_false_iff_ne]; intro e; apply h; apply UInt8.toNat_inj.1; show s[0].toNat = 45; omega
        rw [this]; rfl
    rw [M.nine_from]
    have HZ := hide SZ
    clear he FL SZ
    generalize hF : M.fromI s.data.toList = f at *
    clear hF
    generalize hR : M.nineF s.data.toList f = R at *
    have HR := hide hR
    clear hR
    go_enter Tryz.func27, Tryz.ntmps27
    go_upto_region 2 with fail
    go_cut [13] from 7 to 13 (fun b wx => ∃ q : Bool, b = .bool q ∧ Hid (q = ((s[0].toNat : Int) == 45)) ∧ wx = w)
    case first =>
      cases hq : ((s[0].toNat : Int) == 45) with
      | true =>
        have E := hide hq
        go_wp2
        go_meet
        case rel => exact ⟨true, rfl, E.out.symm, rfl⟩
      | false =>
        have E := hide hq
        go_wp2
        go_meet
        case rel => exact ⟨false, rfl, E.out.symm, rfl⟩
    case rest =>
      obtain ⟨q, rfl, HQ, rfl⟩ := hcut
      have hfq := F45.out q HQ.out
      have HFQ := hide hfq
      clear hfq F45 HQ
      go_upto_if 13 with fail
      go_cut [4] from 13 to 13 (fun v wx => v = .int .i64 (f : Nat) ∧ wx = wc)
      case first =>
        cases q with
        | true =>
          have E : Hid (f = 1) := HFQ.out
          clear HFQ
          go_wp2
          go_meet
          case rel => exact ⟨by rw [E.out]; rfl, rfl⟩
        | false =>
          have E : Hid (f = 0) := HFQ.out
          clear HFQ
          go_wp2
          go_meet
          case rel => exact ⟨by rw [E.out]; rfl, rfl⟩
      case rest =>
        obtain ⟨rfl, rfl⟩ := hcut
        clear HFQ
        have LB : Hid (∀ j (h : j < s.size) (h' : j < s.data.toList.length), s.data.toList[j] = s[j]) := fun j h h' => (byte_at s j h h').symm
        by_cases hA : s.size = f
        · have t1 : ((s.size : Int) == (f : Int)) = true := by rw [beq_iff_eq]; omega
          have E : Hid (R = none) := by unfold Hid; rw [← HR.out]; exact M.nineF_none (M.mag_nil (by rw [← HZ.out]; omega))
          clear hA HR
          go_wp2
          go_ret2
          exact ⟨by rw [E.out]; rfl, rfl⟩
        · have t1 : ((s.size : Int) == (f : Int)) = false := by rw [beq_eq_false_iff_ne]; omega
          have hfs : f < s.size := by omega
          have hfl' : f < s.data.toList.length := by rw [← HZ.out]; exact hfs
          clear hA
          by_cases hB : 9 < s.size - f
          · have t2 : decide ((9 : Int) < (s.size : Int) - (f : Int)) = true := decide_eq_true (by omega)
            have E : Hid (R = none) := by unfold Hid; rw [← HR.out]; exact M.nineF_none (M.mag_long hfl' (by rw [← HZ.out]; exact hB))
            clear hB HR
            go_wp2
            go_ret2
            exact ⟨by rw [E.out]; rfl, rfl⟩
          · have t2 : decide ((9 : Int) < (s.size : Int) - (f : Int)) = false := decide_eq_false (by omega)
            have h9 : s.data.toList.length - f ≤ 9 := by rw [← HZ.out]; omega
            by_cases hC : s[f] = 48 ∧ 1 < s.size
            · have t3 : ((s[f].toNat : Int) == 48) = true := by rw [hC.1]; rfl
              have t4 : decide ((1 : Int) < (s.size : Int)) = true := decide_eq_true (by omega)
              have t5 : 1 < s.size := hC.2
              have E : Hid (R = none) := by unfold Hid; rw [← HR.out]; exact M.nineF_none (M.mag_zero hfl' h9 (by rw [LB.out f hfs hfl']; exact hC.1) (by rw [← HZ.out]; exact hC.2))
              clear hC HR hB
              go_wp2
              go_ret2
              exact ⟨by rw [E.out]; rfl, rfl⟩
            · have MD : Hid (M.magI (s.data.toList.drop f) s.data.toList.length = Lib.decFrom 0 (s.data.toList.drop f)) := M.mag_digs hfl' h9 (by rw [LB.out f hfs hfl', ← HZ.out]; exact hC)
              have RN : Hid (Lib.decFrom 0 (s.data.toList.drop f) = none → R = none) := fun h => by rw [← HR.out]; exact M.nineF_none (by rw [MD.out]; exact h)
              have RS : Hid (∀ m : Nat, Lib.decFrom 0 (s.data.toList.drop f) = some m → R = some (if f = 1 then -(m : Int) else (m : Int))) := fun m h => by rw [← HR.out]; exact M.nineF_some (by rw [MD.out]; exact h)
              have BD : Hid (∀ j m, Lib.decFrom 0 ((s.data.toList.drop f).take j) = some m → m ≤ 999999999) := fun j m h => M.digs_bd (by rw [List.length_drop]; exact h9) h
              have D0 : Hid (Lib.decFrom 0 ((s.data.toList.drop f).take (f - f)) = some 0) := by unfold Hid; rw [Nat.sub_self]; rfl
              have SN : Hid (∀ j m (hj : j < s.size), f ≤ j → Lib.decFrom 0 ((s.data.toList.drop f).take (j - f)) = some m → ¬ (48 ≤ s[j].toNat ∧ s[j].toNat ≤ 57) → Lib.decFrom 0 (s.data.toList.drop f) = none) := fun j m hj hf hm hd => by
                have hj' : j < s.data.toList.length := by rw [← HZ.out]; exact hj
                exact M.step_not hf hj' hm (by rw [LB.out j hj hj']; exact hd)
              have SX : Hid (∀ j m (hj : j < s.size), f ≤ j → Lib.decFrom 0 ((s.data.toList.drop f).take (j - f)) = some m → 48 ≤ s[j].toNat → s[j].toNat ≤ 57 → Lib.decFrom 0 ((s.data.toList.drop f).take (j + 1 - f)) = some (m * 10 + (s[j].toNat - 48))) := fun j m hj hf hm h1 h2 => by
                have hj' : j < s.data.toList.length := by rw [← HZ.out]; exact hj
                have := M.step_next hf hj' hm (by rw [LB.out j hj hj']; exact h1) (by rw [LB.out j hj hj']; exact h2)
                rwa [LB.out j hj hj'] at this
              have EA : Hid ((s.data.toList.drop f).take (s.size - f) = s.data.toList.drop f) := List.take_of_length_le (by rw [List.length_drop, ← HZ.out]; exact Nat.le_refl _)
              have HC := hide hC
              clear hC MD HR LB hB h9
              generalize s.data.toList.drop f = d at *
              go_upto_region 4 with fail
              go_cut [35] from 14 to 35 (fun b wx => b = .bool false ∧ wx = wc)
              case first =>
                clear RN RS BD D0 SN SX EA
                by_cases h48 : s[f] = 48
                · have t3 : ((s[f].toNat : Int) == 48) = true := by rw [h48]; rfl
                  have hn1 : ¬ 1 < s.size := fun h => HC.out ⟨h48, h⟩
                  have t4 : decide ((1 : Int) < (s.size : Int)) = false := decide_eq_false (by omega)
                  clear h48
                  go_wp2
                  go_meet
                  case rel => exact ⟨rfl, rfl⟩
                · have t3 : ((s[f].toNat : Int) == 48) = false := by
                    rw [beq_eq_false_iff_ne]; intro e; apply h48; apply UInt8.toNat_inj.1; show s[f].toNat = 48; omega
                  clear h48
                  go_wp2
                  go_meet
                  case rel => exact ⟨rfl, rfl⟩
              case rest =>
                obtain ⟨rfl, rfl⟩ := hcut
                clear HC t1 t2
                go_wp2
                go_loop [5, 6] (fun n i => ∃ j m : Nat, f ≤ j ∧ j ≤ s.size ∧ i = .int .i64 j ∧ n = .int .i64 m ∧ Hid (Lib.decFrom 0 (d.take (j - f)) = some m)) (fun _ i => s.size - (intOf i).toNat)
                case atStart => exact ⟨f, 0, Nat.le_refl _, by omega, rfl, rfl, D0⟩
                case round =>
                  obtain ⟨j, m, hfj, hjs, rfl, rfl, I⟩ := hrel
                  have hm := BD.out _ _ I.out
                  by_cases hlt : j < s.size
                  · have b256 : (s[j].toNat : Int) < 256 := by have := s[j].toNat_lt; omega
                    have b0 : (0 : Int) ≤ (s[j].toNat : Int) := by omega
                    by_cases hd : 48 ≤ s[j].toNat ∧ s[j].toNat ≤ 57
                    · have NX := hide (SX.out j m hlt hfj I.out hd.1 hd.2)
                      have t1 : decide ((s[j].toNat : Int) < 48) = false := decide_eq_false (by omega)
                      have t2 : decide ((57 : Int) < (s[j].toNat : Int)) = false := decide_eq_false (by omega)
                      have d1 : 48 ≤ s[j].toNat := hd.1
                      have d2 : s[j].toNat ≤ 57 := hd.2
                      clear hd I
                      go_wp2
                      go_round
                      case rel => exact ⟨j + 1, m * 10 + (s[j].toNat - 48), by omega, by omega, by go_num, congrArg (Value.int .i64) (by omega), NX⟩
                      case measure => simp [intOf]; omega
                    · have E := hide (RN.out (SN.out j m hlt hfj I.out hd))
                      by_cases h1 : s[j].toNat < 48
                      · have t1 : decide ((s[j].toNat : Int) < 48) = true := decide_eq_true (by omega)
                        clear hd I h1
                        go_wp2
                        go_ret2
                        exact ⟨by rw [E.out]; rfl, rfl⟩
                      · have t1 : decide ((s[j].toNat : Int) < 48) = false := decide_eq_false (by omega)
                        have t2 : decide ((57 : Int) < (s[j].toNat : Int)) = true := decide_eq_true (by omega)
                        clear hd I h1
                        go_wp2
                        go_ret2
                        exact ⟨by rw [E.out]; rfl, rfl⟩
                  · have hje : j = s.size := by omega
                    have E := hide (RS.out m (by rw [← EA.out, ← hje]; exact I.out))
                    clear I hje
                    by_cases h1 : f = 1
                    · have t1 : ((f : Int) == 1) = true := by rw [beq_iff_eq]; omega
                      have E2 : Hid (R = some (-(m : Int))) := by unfold Hid; rw [E.out, if_pos h1]
                      clear h1 E
                      go_wp2
                      go_ret2
                      exact ⟨by rw [E2.out]; rfl, rfl⟩
                    · have t1 : ((f : Int) == 1) = false := by rw [beq_eq_false_iff_ne]; omega
                      have E2 : Hid (R = some (m : Int)) := by unfold Hid; rw [E.out, if_neg h1]
                      clear h1 E
                      go_wp2
                      go_ret2
                      exact ⟨by rw [E2.out]; rfl, rfl⟩

/-! ### ReadRow -/

theorem drop_next (V : List (List UInt8)) (k : Nat) (h : k < V.length) : V.drop k = V[k] :: V.drop (k + 1) := List.drop_eq_getElem_cons h
theorem own_add {w w3 : World} {B n : Nat} {v : Value} {g cap : Nat} {R : List Int} {c : Int} (h : w3.ownsRow B 3 1 (.slice (some ⟨g, 0, none⟩) (R.length + 1) cap) (R.length + 1) (R.map (Value.int .i64) ++ [.int .i64 c])) :
    w3.ownsRow B 3 1 (.slice (some ⟨g, 0, none⟩) (R.length + 1) cap) (R ++ [c]).length ((R ++ [c]).map (Value.int .i64)) := by
  rw [List.map_append, List.length_append]; exact h

set_option maxHeartbeats 4000000 in
set_option maxRecDepth 10000 in
theorem readrow_any (s : ByteArray) (w : World) (hs : s.size ≤ 2000000) :
    Calls Tryz.prog 9 #[.string s] w fun e w' => ∃ ag cg, e = .returned (.tuple #[.slice ag (M.parseL s.data.toList).1.length cg, .int .i64 (M.parseL s.data.toList).2]) ∧ Rd w' ag (M.parseL s.data.toList).1 ∧ Below w.heap.size w w' := by
  have RN : ∀ W, Rd W none [] := fun W => ⟨Nat.zero_le _, fun h => absurd rfl h⟩
  have RN' := hide RN
  clear RN
  by_cases he : s.data.toList = []
  · have es : s = ⟨#[]⟩ := bs_eq he
    subst es
    clear he hs
    rw [show M.parseL (⟨#[]⟩ : ByteArray).data.toList = ([], 0) from rfl]
    go_enter Tryz.func9, Tryz.ntmps9
    go_wp2
    go_ret2
    exact ⟨none, 0, rfl, RN'.out _, Below.refl _ _⟩
  · have q0 : (s.toList == []) = false := by rw [empty_eq, decide_eq_false he]
    have PE : Hid (M.goL [] (M.words s.data.toList) = M.parseL s.data.toList) := by unfold Hid M.parseL; rw [if_neg he]
    have CU := hide (rcut_any s w hs)
    have WM : Hid (∀ wd ∈ M.words s.data.toList, (bs wd).size ≤ 2000000) := fun wd hw => by
      rw [bs_size]; have := M.words_mem _ wd hw; rw [← size_eq] at this; omega
    have vl : (M.words s.data.toList).length ≤ 2000001 := by have := M.words_len s.data.toList; rw [← size_eq] at this; omega
    clear he
    generalize M.parseL s.data.toList = P at *
    generalize M.words s.data.toList = V at *
    obtain ⟨i0, hi, hz0, hz1, hz2⟩ := info_parts info3
    have I0 := hide hi
    clear hi
    go_enter Tryz.func9, Tryz.ntmps9
    go_wp2_with (go_at_call 26; refine CU.out.mono ?_; rintro e w2 ⟨g, cap, rfl, hov, hb2⟩)
    have HV : Hid (∀ W, Below w2.heap.size w2 W → ∀ k (h : k < V.length), W.cell? ⟨g, k, none⟩ = some (.string (bs V[k]))) := fun W hW k h => by
      have hgl : g < w2.heap.size := (hov.lt g rfl).2
      rw [hW.cell (p := ⟨g, k, none⟩) hgl, hov.cellAt k (by omega)]
      simp [wcells, h]
    have K2 := hide hb2
    clear hov hb2 CU
    go_loopw [4, 6] (fun v i wr => ∃ (k : Nat) (acc : List Int), k ≤ V.length ∧ i = .int .i64 k ∧ acc.length ≤ k ∧ wr.ownsRow w2.heap.size 3 1 v acc.length (acc.map (Value.int .i64)) ∧ Below w2.heap.size w2 wr ∧ Hid (M.goL acc (V.drop k) = P)) (fun _ i _ => V.length - (intOf i).toNat)
    case atStart => exact ⟨0, [], Nat.zero_le _, rfl, Nat.le_refl _, World.ownsRow_nil _ _ _ _, Below.refl _ _, PE⟩
    case round =>
      clear PE
      obtain ⟨k, acc, hk, rfl, hal, hown, hbl, I⟩ := hrel
      by_cases hlt : k < V.length
      · have hck := HV.out wr hbl k hlt
        have I2 : Hid (M.goL acc (V[k] :: V.drop (k + 1)) = P) := by unfold Hid; rw [← drop_next V k hlt]; exact I.out
        have ws := WM.out V[k] (List.getElem_mem hlt)
        have HO := hide hown
        have hwr : w2.heap.size ≤ wr.heap.size := hbl.size
        clear I hown
        generalize hwd : V[k] = wd at *
        clear hwd
        by_cases h45 : wd = [45]
        · have hc : M.cellOf wd = some M.nilI := by unfold M.cellOf; rw [if_pos h45]
          have NX : Hid (M.goL (acc ++ [-1125899906842624]) (V.drop (k + 1)) = P) := by unfold Hid; rw [← I2.out, M.go_some hc]; rfl
          have eb : bs wd = ⟨#[45]⟩ := by rw [h45]; rfl
          rw [eb] at hck
          clear hc h45 eb I2 ws
          go_wp2_with (at_builtin; refine wpList_append_lies _ rfl (.tmp 25) (.tmp 26) 22 rfl w2.heap.size 3 i0 (.int .i64 0) 1 8 Tryz.underlying22 I0.out hz0 hz1 hz2 rfl (by omega) u4 acc.length (acc.map (Value.int .i64)) rfl (HO.out.alloc _) ⟨wr.heap.size, 0, none⟩ 1 1 [.int .i64 (-1125899906842624)] rfl rfl (World.news_of_block (heap_alloc_new _ _)) (by simp [Value.oneCell']) (by omega) (by unfold maxLen; omega) (by omega) (by simp; omega) (wr.heap.size + 1) (by simp) ?_)
          intro g3 cap3 w3 hov3 hgrow hat hlt3
          have hb3 : Below w2.heap.size w2 w3 := (hbl.alloc hbl.size _).grown hgrow (by simp; omega) (fun k hk => (HO.out.lt k hk).1)
          have HO3 := hide (own_add (w := w) (n := 0) (v := .nilIface) hov3)
          clear hov3 hgrow hat
          go_wp2
          go_roundw
          case rel => exact ⟨k + 1, acc ++ [-1125899906842624], by omega, by go_num, by simp; omega, HO3.out, hb3, NX⟩
          case measure => simp [intOf]; omega
        · have q45 : ((bs wd).toList == [45]) = false := by rw [beq_eq_false_iff_ne, toList_data, bs_list]; exact h45
          have NI : Hid (∀ W, Calls Tryz.prog 27 #[.string (bs wd)] W fun e w' => e = .returned (.tuple #[.int .i64 ((M.nineI wd).getD 0), .bool (M.nineI wd).isSome]) ∧ w' = W) := fun W => by
            have := nine_any (bs wd) W ws; rwa [bs_list] at this
          have CE := hide (rcell_any ((M.nineI wd).getD 0))
          cases hn : M.nineI wd with
          | none =>
            have E : Hid (P = ([], 2)) := by unfold Hid; rw [← I2.out, M.go_none (M.nine_not h45 hn)]
            rw [hn] at NI CE
            clear hn h45 I2 ws HO
            generalize bs wd = t at *
            go_wp2_with (first
              | (go_at_call 27; refine (NI.out _).mono ?_; rintro e w' ⟨rfl, rfl⟩)
              | (go_at_call 17; refine (CE.out _).mono ?_; rintro e w' ⟨rfl, rfl⟩))
            go_ret2
            refine ⟨none, 0, ?_, ?_, below_on K2.out hbl⟩
            · rw [E.out]; rfl
            · rw [E.out]; exact RN'.out _
          | some c =>
            rw [hn] at NI CE
            simp only [Option.getD_some, Option.isSome_some] at NI CE
            cases ho : M.outI c with
            | true =>
              have E : Hid (P = ([], 2)) := by unfold Hid; rw [← I2.out, M.go_none (M.nine_out h45 hn ho)]
              rw [ho] at CE
              clear hn h45 I2 ws HO ho
              generalize bs wd = t at *
              go_wp2_with (first
                | (go_at_call 27; refine (NI.out _).mono ?_; rintro e w' ⟨rfl, rfl⟩)
                | (go_at_call 17; refine (CE.out _).mono ?_; rintro e w' ⟨rfl, rfl⟩))
              go_ret2
              refine ⟨none, 0, ?_, ?_, below_on K2.out hbl⟩
              · rw [E.out]; rfl
              · rw [E.out]; exact RN'.out _
            | false =>
              have NX : Hid (M.goL (acc ++ [c]) (V.drop (k + 1)) = P) := by unfold Hid; rw [← I2.out, M.go_some (M.nine_cell h45 hn ho)]
              rw [ho] at CE
              clear hn h45 I2 ws ho
              generalize bs wd = t at *
              go_wp2_with (first
                | (go_at_call 27; refine (NI.out _).mono ?_; rintro e w' ⟨rfl, rfl⟩)
                | (go_at_call 17; refine (CE.out _).mono ?_; rintro e w' ⟨rfl, rfl⟩)
                | (at_builtin; refine wpList_append_lies _ rfl (.tmp 44) (.tmp 46) 22 rfl w2.heap.size 3 i0 (.int .i64 0) 1 8 Tryz.underlying22 I0.out hz0 hz1 hz2 rfl (by omega) u4 acc.length (acc.map (Value.int .i64)) rfl (HO.out.alloc _) ⟨_, 0, none⟩ 1 1 [.int .i64 c] rfl rfl (World.news_of_block (heap_alloc_new _ _)) (by simp [Value.oneCell']) (by omega) (by unfold maxLen; omega) (by omega) (by simp; omega) _ rfl ?_))
              intro g3 cap3 w3 hov3 hgrow hat hlt3
              have hb3 : Below w2.heap.size w2 w3 := (hbl.alloc hbl.size _).grown hgrow (by simp; omega) (fun k hk => (HO.out.lt k hk).1)
              have HO3 := hide (own_add (w := w) (n := 0) (v := .nilIface) hov3)
              clear hov3 hgrow hat
              go_wp2
              go_roundw
              case rel => exact ⟨k + 1, acc ++ [c], by omega, by go_num, by simp; omega, HO3.out, hb3, NX⟩
              case measure => simp [intOf]; omega
      · have E0 : Hid (M.goL acc [] = P) := by unfold Hid; rw [← I.out, List.drop_of_length_le (by omega)]
        obtain ⟨va, vc, rfl, RV, _⟩ := own_rd hown
        have HV2 := hide RV
        clear hown RV I
        by_cases h8 : 8 < acc.length
        · have E : Hid (P = ([], 4)) := by unfold Hid; rw [← E0.out]; exact M.go_many h8
          have d8 : decide ((8 : Int) < (acc.length : Int)) = true := decide_eq_true (by omega)
          clear E0 h8 HV2
          go_wp2
          go_ret2
          refine ⟨none, 0, ?_, ?_, below_on K2.out hbl⟩
          · rw [E.out]; rfl
          · rw [E.out]; exact RN'.out _
        · have E : Hid (P = (acc, 0)) := by unfold Hid; rw [← E0.out]; exact M.go_few (by omega)
          have d8 : decide ((8 : Int) < (acc.length : Int)) = false := decide_eq_false (by omega)
          clear E0 h8
          go_wp2
          go_ret2
          refine ⟨va, vc, ?_, ?_, below_on K2.out hbl⟩
          · rw [E.out]; rfl
          · rw [E.out]; exact HV2.out

end Go.Proofs.YtihaphicidjooabGreatDoor
