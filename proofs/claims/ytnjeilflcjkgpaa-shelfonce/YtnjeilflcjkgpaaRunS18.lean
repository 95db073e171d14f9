/-
  Several texts as one: ShSaid, ShNew.
-/
import Derived.Test.YtnjeilflcjkgpaaRunS17
import Derived.Test.YtnjeilflcjkgpaaRunS16
namespace Go.Proofs.Ytnjeilflcjkgpaa
open Go.ChangeShapes Go.WideShapes Go.ChangeAt Go.RowKit Go.Lib Go.Maps
set_option linter.unusedVariables false
theorem SV.count {W : World} {f : Nat} {T : Nat → Nat} {S : M.Sh} {mm ml : Nat} {D E : DataW Value} {kb : Nat → Nat} {mb : List Nat → Nat} {va : List Nat → Option Addr} {vc : List Nat → Nat} {G : Nat → Gr} (h : SV W f T S mm ml D E kb mb va vc G) : SV (W.setCell ⟨f, 2, none⟩ (.int .i64 (S.idx + 1))) f T ⟨S.idx + 1, S.l, S.done⟩ mm ml D E kb mb va vc G := by
  have keep : ∀ q, T q ≠ 1 → (W.setCell ⟨f, 2, none⟩ (.int .i64 (S.idx + 1))).heap[q]? = W.heap[q]? := fun q hq => heap_setCell_other _ _ _ _ (fun e => hq (by rw [e]; exact h.tf))
  have sz : (W.setCell ⟨f, 2, none⟩ (.int .i64 (S.idx + 1))).heap.size = W.heap.size := World.size_setCell ..
  exact {
    inv := ⟨⟨h.inv.ok.one, h.inv.ok.shr, by have := h.inv.ok.i0; show (0 : Int) ≤ S.idx + 1; omega, fun d hd hb => by have := h.inv.ok.ans d hd hb; refine ⟨this.1, ?_⟩; show d.ans.idx ≤ S.idx + 1; omega⟩, h.inv.zr, h.inv.nu, by have := h.inv.ll; show (S.l.length : Int) ≤ S.idx + 1; omega, by have := h.inv.dl; show (S.done.length : Int) ≤ S.idx + 1; omega, h.inv.nb⟩
    tlt := fun q hq => by rw [sz]; exact h.tlt q hq
    box := h.box.put (j := 2)
    tf := h.tf
    tm := h.tm
    tl := h.tl
    lo := by
      obtain ⟨m, h1⟩ := h.lo
      exact ⟨m, ownsMap_keep h1 (keep ml (by rw [h.tl]; decide))⟩
    lz := h.lz
    la := h.la
    ln := h.ln
    mo := ownsMap_keep h.mo (keep mm (by rw [h.tm]; decide))
    mz := h.mz
    mn := h.mn
    ms := h.ms
    tb := h.tb
    mi := h.mi
    mc := fun n hn => (h.mc n hn).keep (keep _ (by rw [h.tb n hn]; decide))
    ro := fun n hn => own_keep_at (h.ro n hn) (fun q hq => keep q (by
      cases e : va n with
      | none => rw [e] at hq; cases hq
      | some p =>
        rw [e] at hq
        have hq' : p.block = q := by cases hq; rfl
        rw [← hq', h.rt n p hn e]
        decide))
    rt := h.rt
    ri := h.ri
    tk := h.tk
    ki := h.ki
    kc := fun k hk' => (h.kc k hk').keep (keep _ (by rw [h.tk k hk']; decide))
    kg := fun k hk' hs => ⟨(h.kg k hk' hs).1, (h.kg k hk' hs).2.up (by rw [sz]; exact Nat.le_refl _) (fun q hq => keep q (by rw [hq]; decide)) (fun q hq => hq)⟩ }

/-- whose call it was -/
theorem last_say {S : M.Sh} {d : M.Dn} (i : Int) (l : List (M.Vn × M.Gv)) (ses : Int) : M.lastN ⟨i, l, M.say S.done (M.lastN S d.ses) d⟩ ses = if d.ses = ses then some ((M.lastN S d.ses).getD S.done.length) else M.lastN S ses := by
  cases hl : M.lastN S d.ses with
  | none =>
    show M.findN (fun x : M.Dn => decide (x.ses = ses)) (S.done ++ [d]) 0 = _
    by_cases q : d.ses = ses
    · rw [if_pos q]
      subst q
      have := M.find_app (fun x : M.Dn => decide (x.ses = d.ses)) d (by simp) S.done 0 hl
      rw [this, Nat.zero_add]
      rfl
    · rw [if_neg q]
      show _ = M.findN (fun x : M.Dn => decide (x.ses = ses)) S.done 0
      have : ∀ (L : List M.Dn) (k : Nat), M.findN (fun x : M.Dn => decide (x.ses = ses)) (L ++ [d]) k = M.findN (fun x : M.Dn => decide (x.ses = ses)) L k := fun L => by
        induction L with
        | nil => intro k; show (if decide (d.ses = ses) = true then some k else none) = none; rw [if_neg (by simpa using q)]
        | cons y L ih => intro k; show (if decide (y.ses = ses) = true then some k else M.findN _ (L ++ [d]) (k + 1)) = (if decide (y.ses = ses) = true then some k else M.findN _ L (k + 1)); rw [ih]
      exact this _ _
  | some k =>
    show M.findN (fun x : M.Dn => decide (x.ses = ses)) (S.done.set k d) 0 = _
    obtain ⟨_, k2, k3⟩ := M.find_more _ S.done 0 k hl
    rw [Nat.sub_zero] at k2 k3
    by_cases q : d.ses = ses
    · rw [if_pos q]
      subst q
      have := M.find_set (fun x : M.Dn => decide (x.ses = d.ses)) d (by simp) S.done 0 k hl
      rw [Nat.sub_zero] at this
      exact this
    · rw [if_neg q]
      show _ = M.findN (fun x : M.Dn => decide (x.ses = ses)) S.done 0
      have : ∀ (L : List M.Dn) (j b : Nat), (∀ h : j < L.length, L[j].ses = d.ses) → M.findN (fun x : M.Dn => decide (x.ses = ses)) (L.set j d) b = M.findN (fun x : M.Dn => decide (x.ses = ses)) L b := fun L => by
        induction L with
        | nil => intro j b _; rfl
        | cons y L ih =>
          intro j b hj
          cases j with
          | zero =>
            have hy : y.ses = d.ses := hj (by simp)
            show (if decide (d.ses = ses) = true then some b else M.findN _ L (b + 1)) = (if decide (y.ses = ses) = true then some b else M.findN _ L (b + 1))
            rw [hy]
          | succ j =>
            show (if decide (y.ses = ses) = true then some b else M.findN _ (L.set j d) (b + 1)) = (if decide (y.ses = ses) = true then some b else M.findN _ L (b + 1))
            rw [ih j (b + 1) (fun h => hj (by simpa using h))]
      refine this _ _ _ (fun h => ?_)
      have := k3 d
      rw [List.getD, List.getElem?_eq_getElem h] at this
      exact of_decide_eq_true this
theorem done_say {S : M.Sh} {d : M.Dn} : (M.say S.done (M.lastN S d.ses) d).getD ((M.lastN S d.ses).getD S.done.length) dn0 = d ∧ ∀ ses k, M.lastN S ses = some k → ses ≠ d.ses → (M.say S.done (M.lastN S d.ses) d).getD k dn0 = S.done.getD k dn0 := by
  cases hl : M.lastN S d.ses with
  | none =>
    refine ⟨by show (S.done ++ [d]).getD S.done.length dn0 = d; simp [List.getD], fun ses k hk hne => ?_⟩
    obtain ⟨_, k2, _⟩ := M.find_more _ S.done 0 k hk
    rw [Nat.sub_zero] at k2
    show (S.done ++ [d]).getD k dn0 = _
    simp [List.getD, List.getElem?_append_left k2]
  | some j =>
    obtain ⟨_, j2, j3⟩ := M.find_more _ S.done 0 j hl
    rw [Nat.sub_zero] at j2 j3
    refine ⟨by show (S.done.set j d).getD j dn0 = d; simp [List.getD, j2], fun ses k hk hne => ?_⟩
    obtain ⟨_, k2, k3⟩ := M.find_more _ S.done 0 k hk
    rw [Nat.sub_zero] at k2 k3
    have jk : j ≠ k := fun e => by
      subst e
      have a := of_decide_eq_true (j3 dn0)
      have b := of_decide_eq_true (k3 dn0)
      exact hne (b.symm.trans a)
    show (S.done.set j d).getD k dn0 = _
    simp [List.getD, List.getElem?_set_ne jk]
theorem say_len {S : M.Sh} {d : M.Dn} : (M.say S.done (M.lastN S d.ses) d).length ≤ S.done.length + 1 := by
  cases M.lastN S d.ses with
  | none => show (S.done ++ [d]).length ≤ _; simp
  | some k => show (S.done.set k d).length ≤ _; simp
theorem say_mem {S : M.Sh} {d x : M.Dn} (h : x ∈ M.say S.done (M.lastN S d.ses) d) : x ∈ S.done ∨ x = d := by
  cases e : M.lastN S d.ses with
  | none =>
    rw [e] at h
    have h' : x ∈ S.done ++ [d] := h
    simpa using h'
  | some k =>
    rw [e] at h
    have h' : x ∈ S.done.set k d := h
    exact List.mem_or_eq_of_mem_set h'
theorem isKeyI (x : Int) (h1 : -9223372036854775808 ≤ x) (h2 : x ≤ 9223372036854775807) : WideAt.IsKeyLit (.int .i64 x) := keyI.key (keyOf_int_mk Try.underlying3 (WalkArith.wf_i64 ⟨h1, h2⟩))

theorem SV.said {W W' : World} {f : Nat} {T : Nat → Nat} {S : M.Sh} {mm ml : Nat} {D E : DataW Value} {kb : Nat → Nat} {mb : List Nat → Nat} {va : List Nat → Option Addr} {vc : List Nat → Nat} {G : Nat → Gr} (h : SV W f T S mm ml D E kb mb va vc G) {d : M.Dn} {m : Nat} (hd : (S.done.length : Int) + 1 ≤ S.idx) (hs : 0 ≤ d.ses ∧ d.ses ≤ 1000000) (ha : d.bad = 0 → 1 ≤ d.ans.idx ∧ d.ans.idx ≤ S.idx) (ho : W'.ownsMap Try.prog 3 selfE ml m (E.put (.int .i64 d.ses) (.held (lastV d)))) (hg : W.grownBy W' (some ml)) :
    SV W' f T ⟨S.idx, S.l, M.say S.done (M.lastN S d.ses) d⟩ mm ml D (E.put (.int .i64 d.ses) (.held (lastV d))) kb mb va vc G := by
  have keep : ∀ q, T q ≠ 0 → T q ≠ 3 → W'.heap[q]? = W.heap[q]? := fun q h0 hq => hg.block q (h.tlt q h0) (fun e => hq (by cases e; exact h.tl))
  have kd := isKeyI d.ses (by omega) (by omega)
  exact {
    inv := ⟨⟨h.inv.ok.one, h.inv.ok.shr, h.inv.ok.i0, fun x hx hb => by
      rcases say_mem hx with z | z
      · exact h.inv.ok.ans x z hb
      · subst z; exact ha hb⟩, h.inv.zr, h.inv.nu, h.inv.ll, by have := say_len (S := S) (d := d); show ((M.say S.done (M.lastN S d.ses) d).length : Int) ≤ S.idx; omega, h.inv.nb⟩
    tlt := fun q hq => Nat.lt_of_lt_of_le (h.tlt q hq) hg.size
    box := h.box.keep (keep f (by rw [h.tf]; decide) (by rw [h.tf]; decide))
    tf := h.tf
    tm := h.tm
    tl := h.tl
    lo := ⟨m, ho⟩
    lz := by
      obtain ⟨m0, h1⟩ := h.lo
      rw [size_put (h1.tidy keyI), h.lz]
      show _ = (M.say S.done (M.lastN S d.ses) d).length
      cases hl : M.lastN S d.ses with
      | none => rw [h.ln d.ses hl]; show _ = (S.done ++ [d]).length; simp
      | some k => rw [has_true_of_atKey (h.la d.ses k hl)]; show _ = (S.done.set k d).length; simp
    la := fun ses k hk z => by
      rw [last_say] at hk
      show _ = DataW.held (lastV ((M.say S.done (M.lastN S d.ses) d).getD k dn0))
      by_cases q : d.ses = ses
      · rw [if_pos q] at hk
        cases hk
        subst q
        obtain ⟨m0, h1⟩ := h.lo
        rw [atKey_put_same h1.isMap kd, done_say.1]
      · rw [if_neg q] at hk
        rw [atKey_put_other (by intro e; cases e; exact q rfl), done_say.2 ses k hk (Ne.symm q)]
        exact h.la ses k hk z
    ln := fun ses hk => by
      rw [last_say] at hk
      by_cases q : d.ses = ses
      · rw [if_pos q] at hk; cases hk
      · rw [if_neg q] at hk
        rw [has_put_other (by intro e; cases e; exact q rfl)]
        exact h.ln ses hk
    mo := ownsMap_keep h.mo (keep mm (by rw [h.tm]; decide) (by rw [h.tm]; decide))
    mz := h.mz
    mn := h.mn
    ms := h.ms
    tb := h.tb
    mi := h.mi
    mc := fun n hn => (h.mc n hn).keep (keep _ (by rw [h.tb n hn]; decide) (by rw [h.tb n hn]; decide))
    ro := fun n hn => own_keep_at (h.ro n hn) (fun q hq => by
      cases e : va n with
      | none => rw [e] at hq; cases hq
      | some p =>
        rw [e] at hq
        have hq' : p.block = q := by cases hq; rfl
        have t5 := h.rt n p hn e
        rw [hq'] at t5
        exact keep q (by rw [t5]; decide) (by rw [t5]; decide))
    rt := h.rt
    ri := h.ri
    tk := h.tk
    ki := h.ki
    kc := fun k hk' => (h.kc k hk').keep (keep _ (by rw [h.tk k hk']; decide) (by rw [h.tk k hk']; decide))
    kg := fun k hk' hs => ⟨(h.kg k hk' hs).1, (h.kg k hk' hs).2.up hg.size (fun q hq => keep q (by rw [hq]; decide) (by rw [hq]; decide)) (fun q hq => hq)⟩ }
theorem inv_zero : Inv M.sh0 where
  ok := M.ok_zero
  zr := fun k hk => by simp [M.sh0] at hk
  nu := fun k d hk => by simp [M.sh0, M.kyL] at hk
  ll := Int.le_refl _
  dl := Int.le_refl _
  nb := fun k hk => by simp [M.sh0] at hk
def newT (B : Nat) (q : Nat) : Nat := if q = B + 1 + 1 then 1 else if q = B then 2 else if q = B + 1 then 3 else 0
set_option maxHeartbeats 4000000 in
theorem sh_New (W : World) : Calls Try.prog 4 #[] W fun e w' => ∃ f T, e = .returned (.pointer (some ⟨f, 0, none⟩)) ∧ SA w' f T M.sh0 ∧ Below W.heap.size W w' ∧ ∀ q, T q ≠ 0 → W.heap.size ≤ q := by
  have hmm := @run_makeMap Try.prog
  have FIN : Hid (SA (((W.alloc (.map #[] 0)).alloc (.map #[] 0)).alloc (.cells #[.map (some W.heap.size), .map (some (W.heap.size + 1)), .int .i64 0] 45)) (W.heap.size + 1 + 1) (newT W.heap.size) M.sh0 ∧ Below W.heap.size W (((W.alloc (.map #[] 0)).alloc (.map #[] 0)).alloc (.cells #[.map (some W.heap.size), .map (some (W.heap.size + 1)), .int .i64 0] 45))) := by
    have z2 : ((W.alloc (.map #[] 0)).alloc (.map #[] 0)).heap.size = W.heap.size + 1 + 1 := by simp
    have z1 : (W.alloc (.map #[] 0)).heap.size = W.heap.size + 1 := by simp
    have o1 := World.ownsMap_made W Try.prog 9 selfE
    have o2 := World.ownsMap_made (W.alloc (.map #[] 0)) Try.prog 3 selfE
    rw [z1] at o2
    have bx := bx_new ((W.alloc (.map #[] 0)).alloc (.map #[] 0)) [.map (some W.heap.size), .map (some (W.heap.size + 1)), .int .i64 0] 45
    rw [z2] at bx
    have pn : ∀ n, M.posL M.sh0.l n = [] := fun n => rfl
    have t1 : newT W.heap.size (W.heap.size + 1 + 1) = 1 := by unfold newT; rw [if_pos rfl]
    have t2 : newT W.heap.size W.heap.size = 2 := by unfold newT; rw [if_neg (by omega), if_pos rfl]
    have t3 : newT W.heap.size (W.heap.size + 1) = 3 := by unfold newT; rw [if_neg (by omega), if_neg (by omega), if_pos rfl]
    refine ⟨⟨W.heap.size, W.heap.size + 1, .map [], .map [], fun _ => 0, fun _ => 0, fun _ => none, fun _ => 0, fun _ => ⟨0, 0, none, [], 0, none, [], 0⟩, ?_⟩, (((Below.refl _ _).alloc (Nat.le_refl _) _).alloc (by simp) _).alloc (by simp; omega) _⟩
    exact {
      inv := inv_zero
      tlt := fun q hq => by
        unfold newT at hq
        simp only [World.alloc]
        by_cases q1 : q = W.heap.size + 1 + 1
        · subst q1; simp
        · rw [if_neg q1] at hq
          by_cases q2 : q = W.heap.size
          · subst q2; simp; omega
          · rw [if_neg q2] at hq
            by_cases q3 : q = W.heap.size + 1
            · subst q3; simp
            · rw [if_neg q3] at hq; exact absurd rfl hq
      box := bx
      tf := t1
      tm := t2
      tl := t3
      lo := ⟨0, o2.alloc _⟩
      lz := rfl
      la := fun ses k hk => by cases hk
      ln := fun ses _ => rfl
      mo := (o1.alloc _).alloc _
      mz := rfl
      mn := fun n _ _ => rfl
      ms := fun n hn => absurd (pn n) hn
      tb := fun n hn => absurd (pn n) hn
      mi := fun n n' hn => absurd (pn n) hn
      mc := fun n hn => absurd (pn n) hn
      ro := fun n hn => absurd (pn n) hn
      rt := fun n p hn => absurd (pn n) hn
      ri := fun n n' p p' hn => absurd (pn n) hn
      tk := fun k hk => by simp [M.sh0] at hk
      ki := fun k j hk => by simp [M.sh0] at hk
      kc := fun k hk => by simp [M.sh0] at hk
      kg := fun k hk => by simp [M.sh0] at hk }
  go_enter Try.func4, Try.ntmps4
  go_wp2
  go_ret
  refine ⟨_, _, rfl, FIN.out.1, FIN.out.2, fun q hq => ?_⟩
  unfold newT at hq
  by_cases q1 : q = W.heap.size + 1 + 1
  · omega
  · rw [if_neg q1] at hq
    by_cases q2 : q = W.heap.size
    · omega
    · rw [if_neg q2] at hq
      by_cases q3 : q = W.heap.size + 1
      · omega
      · rw [if_neg q3] at hq; exact absurd rfl hq
theorem sh_Index {W : World} {f : Nat} {T : Nat → Nat} {S : M.Sh} (h : SA W f T S) : Calls Try.prog 6 #[.pointer (some ⟨f, 0, none⟩)] W fun e w' => e = .returned (.int .i64 S.idx) ∧ w' = W := by
  obtain ⟨mm, ml, D, E, kb, mb, va, vc, G, h⟩ := h
  have c2 := h.box.cell 2 _ rfl
  clear h
  go_enter Try.func6, Try.ntmps6
  go_wp2
  go_ret
  exact ⟨rfl, rfl⟩
end Go.Proofs.Ytnjeilflcjkgpaa
