/-
  Several texts as one: RefShU, RefShV.
-/
import Derived.Test.YtiggkjkjfnlfkaaGreatDoorRefShT
import Derived.Test.YtiggkjkjfnlfkaaGreatDoorRunP6
import Derived.Test.YtiggkjkjfnlfkaaGreatDoorRunP1
namespace Go.Proofs.YtiggkjkjfnlfkaaGreatDoor
open Go.ChangeShapes Go.WideShapes Go.ChangeAt Go.RowKit Go.Lib Go.Maps
set_option linter.unusedVariables false
theorem rDo (hR : RGrvGives) {W : World} {s : Nat} {T : Nat → Nat} {S : M.Sh} (h : RA W s T S) {c : M.Ca} {a : Option Addr} {cap : Nat} (hc : CaIn W c a cap) (ha : c.bys ≠ [] → ∀ p, a = some p → T p.block = 0) (hi : S.idx ≤ 900000) :
    Calls Tryz.prog 9 #[.pointer (some ⟨s, 0, none⟩), caV c a cap] W fun e w' => e = .returned (.tuple #[anV (M.shDo S c).1, .int .i64 (M.shDo S c).2.1]) ∧ RLeft W s T (M.shDo S c).2.2 w' := by
  obtain ⟨la, lc, da, dc, G, h⟩ := h
  have no : (M.callF c ≠ 0 ∨ (M.was S c.ses).seq = c.seq ∨ c.seq < (M.was S c.ses).seq) → (M.shDo S c).2.2 = S → Calls Tryz.prog 9 #[.pointer (some ⟨s, 0, none⟩), caV c a cap] W fun e w' => e = .returned (.tuple #[anV (M.shDo S c).1, .int .i64 (M.shDo S c).2.1]) ∧ RLeft W s T (M.shDo S c).2.2 w' := fun hq he => by
    refine (rDo_no h c a cap hc.nb hc.nl hq).mono ?_
    rintro e w' ⟨rfl, hb⟩
    rw [he]
    exact ⟨rfl, T, ⟨la, lc, da, dc, G, h.below hb⟩, stay_of hb (Nat.le_refl _), fun q hq => .inl hq⟩
  rcases M.cnt_ways S c with ⟨z, q1, q2⟩ | ⟨z, hq⟩
  · rw [M.cnt_do_is z]
    exact rDo_yes hR h c a cap hc.nb hc.rd ha hc.le hc.cp hi q1 (by omega) (by omega)
  · exact no hq (M.cnt_no z)

def newR (b q : Nat) : Nat := if q = b then 1 else 0
theorem ra_new (W : World) : RA (W.alloc (.cells #[.int .i64 0, .slice none 0 0, .slice none 0 0] 29)) W.heap.size (newR W.heap.size) M.sh0 := by
  have z : (W.alloc (.cells #[.int .i64 0, .slice none 0 0, .slice none 0 0] 29)).heap.size = W.heap.size + 1 := by simp
  exact ⟨none, 0, none, 0, fun _ => ⟨0, 0, none, [], 0, none, [], 0⟩, {
    inv := inv_zero
    tlt := fun q hq => by
      unfold newR at hq
      by_cases e : q = W.heap.size
      · rw [z]; omega
      · rw [if_neg e] at hq; exact absurd rfl hq
    box := bx_new W _ _
    ts := if_pos rfl
    lo := World.ownsRow_nil _ _ _ _
    tl := fun p hp => by cases hp
    dd := World.ownsRow_nil _ _ _ _
    td := fun p hp => by cases hp
    kg := fun k hk => by simp [M.sh0] at hk }⟩
theorem Side.start {W0 w : World} {f : Nat} {T : Nat → Nat} (h : Has W0 w f T M.sh0) : Side W0 (w.alloc (.cells #[.int .i64 0, .slice none 0 0, .slice none 0 0] 29)) f T w.heap.size (newR w.heap.size) M.sh0 M.sh0 :=
  ⟨h.up ((Below.refl _ _).alloc (Nat.le_refl _) _), ra_new w, fun q hq => by
    unfold newR at hq
    by_cases e : q = w.heap.size
    · have := h.bl.size; omega
    · rw [if_neg e] at hq; exact absurd rfl hq, fun q hq => by
    unfold newR
    rw [if_neg (fun e => hq (h.sa.lt (by omega)))]⟩
def gr0 : Gr := ⟨0, 0, none, [], 0, none, [], 0⟩
def M.gE (S : M.Sh) (n : List Nat) (num : Int) : Int := match M.verN S n num with
  | none => 5
  | some k => if (vAt S k).stage = 4 then 5 else 0
def M.gM (S : M.Sh) (n : List Nat) (num : Int) : M.Gv := match M.verN S n num with
  | none => gr0.m
  | some k => if (vAt S k).stage = 4 then gr0.m else (S.l.getD k M.vg0).2
theorem gr0_rd (W : World) : RdG W gr0 := ⟨⟨Nat.zero_le _, fun h => absurd rfl h⟩, ⟨Nat.zero_le _, (fun t ht => by cases ht), fun h => absurd rfl h⟩⟩
theorem sa_grove {W : World} {f : Nat} {T : Nat → Nat} {S : M.Sh} (h : SA W f T S) (gg : M.GG S) {n : List Nat} (hb : isB n) (hl : n.length ≤ 9223372036854775807) {num : Int} (hi : I64 num) :
    Calls Tryz.prog 21 #[.pointer (some ⟨f, 0, none⟩), .string (byStr n), .int .i64 num] W fun e w' => ∃ J : Gr, e = .returned (.tuple #[.agg #[.int .i64 J.f, .int .i64 J.w, .slice J.wa J.ws.length J.wc, .slice J.ta J.ks.length J.tc], errV (M.gE S n num)]) ∧ J.m = M.gM S n num ∧ RdG w' J ∧ Below W.heap.size W w' := by
  obtain ⟨mm, ml, D, E, kb, mb, va, vc, G, h⟩ := h
  have no : (∀ k, M.verN S n num = some k → (vAt S k).stage = 4) → M.gE S n num = 5 → M.gM S n num = gr0.m → Calls Tryz.prog 21 #[.pointer (some ⟨f, 0, none⟩), .string (byStr n), .int .i64 num] W fun e w' => ∃ J : Gr, e = .returned (.tuple #[.agg #[.int .i64 J.f, .int .i64 J.w, .slice J.wa J.ws.length J.wc, .slice J.ta J.ks.length J.tc], errV (M.gE S n num)]) ∧ J.m = M.gM S n num ∧ RdG w' J ∧ Below W.heap.size W w' := fun hk e1 e2 => by
    refine (sh_Grove0 h hb hl hi hk).mono ?_
    rintro e w' ⟨rfl, b⟩
    rw [e1, e2]
    exact ⟨gr0, rfl, rfl, gr0_rd w', b⟩
  cases hv : M.verN S n num with
  | none => exact no (fun k hk => by rw [hv] at hk; cases hk) (by unfold M.gE; rw [hv]) (by unfold M.gM; rw [hv])
  | some k =>
    by_cases q : (vAt S k).stage = 4
    · exact no (fun j hj => by rw [hv] at hj; cases hj; exact q) (by unfold M.gE; rw [hv]; exact if_pos q) (by unfold M.gM; rw [hv]; exact if_pos q)
    · have e1 : M.gE S n num = 0 := by unfold M.gE; rw [hv]; exact if_neg q
      have e2 : M.gM S n num = (S.l.getD k M.vg0).2 := by unfold M.gM; rw [hv]; exact if_neg q
      refine (sh_Grove h hl hi hv q (gg k (M.ver_there h.inv.nu hv).2)).mono ?_
      rintro e w' ⟨J, rfl, jm, nh, b⟩
      rw [e1, e2, err_nil rfl]
      exact ⟨J, rfl, jm, nh w' (Nat.le_refl _) (fun _ _ _ => rfl), b⟩
theorem sa_pick {W : World} {f : Nat} {T : Nat → Nat} {S : M.Sh} (h : SA W f T S) {n : List Nat} (hb : isB n) (hl : n.length ≤ 9223372036854775807) (key : Int) :
    Calls Tryz.prog 17 #[.pointer (some ⟨f, 0, none⟩), .string (byStr n), .int .i64 key] W fun e w' => e = .returned (.tuple #[vnV (M.pickV S n key), errV (M.pickF S n key)]) ∧ Below W.heap.size W w' := by
  obtain ⟨mm, ml, D, E, kb, mb, va, vc, G, h⟩ := h
  exact sh_PickW h hb hl key
theorem sa_live {W : World} {f : Nat} {T : Nat → Nat} {S : M.Sh} (h : SA W f T S) {n : List Nat} (hb : isB n) (hl : n.length ≤ 9223372036854775807) :
    Calls Tryz.prog 19 #[.pointer (some ⟨f, 0, none⟩), .string (byStr n)] W fun e w' => e = .returned (.tuple #[vnV (M.told S (M.atN S n 3)), errV (M.toldF (M.atN S n 3))]) ∧ Below W.heap.size W w' := by
  obtain ⟨mm, ml, D, E, kb, mb, va, vc, G, h⟩ := h
  exact sh_LiveW h hb hl
theorem ra_all {W : World} {s : Nat} {T : Nat → Nat} {S : M.Sh} (h : RA W s T S) (hi : S.idx ≤ 900) :
    Calls Tryz.prog 14 #[.pointer (some ⟨s, 0, none⟩)] W fun e w' => ∃ a cap, e = .returned (.slice a (M.allS S).length cap) ∧ RdV w' a (M.allS S) ∧ Below W.heap.size W w' := by
  obtain ⟨la, lc, da, dc, G, h⟩ := h
  exact rall_any h hi
theorem ra_pick {W : World} {s : Nat} {T : Nat → Nat} {S : M.Sh} (h : RA W s T S) {n : List Nat} (hb : isB n) (key : Int) : Calls Tryz.prog 16 #[.pointer (some ⟨s, 0, none⟩), .string (byStr n), .int .i64 key] W fun e w' => e = .returned (.tuple #[.int .i64 (M.pickI S n key), .int .i64 (M.pickF S n key)]) ∧ w' = W := by
  obtain ⟨la, lc, da, dc, G, h⟩ := h
  exact rpick_any h hb key
theorem ra_at {W : World} {s : Nat} {T : Nat → Nat} {S : M.Sh} (h : RA W s T S) {n : List Nat} (hb : isB n) (x : Int) : Calls Tryz.prog 18 #[.pointer (some ⟨s, 0, none⟩), .string (byStr n), .int .i64 x] W fun e w' => e = .returned (.int .i64 (optI (M.atN S n x))) ∧ w' = W := by
  obtain ⟨la, lc, da, dc, G, h⟩ := h
  exact rsat_any h hb x
theorem ra_ver {W : World} {s : Nat} {T : Nat → Nat} {S : M.Sh} (h : RA W s T S) {n : List Nat} (hb : isB n) (x : Int) : Calls Tryz.prog 20 #[.pointer (some ⟨s, 0, none⟩), .string (byStr n), .int .i64 x] W fun e w' => e = .returned (.int .i64 (optI (M.verN S n x))) ∧ w' = W := by
  obtain ⟨la, lc, da, dc, G, h⟩ := h
  exact rsver_any h hb x
/-- an item where it lies -/
theorem RA.item {W : World} {s : Nat} {T : Nat → Nat} {S : M.Sh} (h : RA W s T S) {k : Nat} (hk : k < S.l.length) : ∃ (b lc : Nat) (O : Gr), W.cell? ⟨s, 1, none⟩ = some (.slice (some ⟨b, 0, none⟩) S.l.length lc) ∧ (W.cell? ⟨b, k * 8, none⟩ = some (.string (byStr (vAt S k).name)) ∧ W.cell? ⟨b, k * 8 + 1, none⟩ = some (.int .i64 (vAt S k).num) ∧ W.cell? ⟨b, k * 8 + 2, none⟩ = some (.int .i64 (vAt S k).stage) ∧ W.cell? ⟨b, k * 8 + 3, none⟩ = some (.int .i64 (vAt S k).share) ∧ W.cell? ⟨b, k * 8 + 4, none⟩ = some (.int .i64 O.f) ∧ W.cell? ⟨b, k * 8 + 5, none⟩ = some (.int .i64 O.w) ∧ W.cell? ⟨b, k * 8 + 6, none⟩ = some (.slice O.wa O.ws.length O.wc) ∧ W.cell? ⟨b, k * 8 + 7, none⟩ = some (.slice O.ta O.ks.length O.tc)) ∧ O.m = (S.l.getD k M.vg0).2 ∧ RdG W O ∧ S.l.length ≤ 9223372036854775807 ∧ b < W.heap.size := by
  obtain ⟨la, lc, da, dc, G, h⟩ := h
  obtain ⟨b, rfl, bl, hc⟩ := h.item hk
  obtain ⟨gm, gi⟩ := h.kg k hk
  have c0 := hc 0 _ (by omega) rfl
  rw [Nat.add_zero] at c0
  exact ⟨b, lc, G k, h.box.cell 1 _ rfl, ⟨c0, hc 1 _ (by omega) rfl, hc 2 _ (by omega) rfl, hc 3 _ (by omega) rfl, hc 4 _ (by omega) rfl, hc 5 _ (by omega) rfl, hc 6 _ (by omega) rfl, hc 7 _ (by omega) rfl⟩, gm, gi.rd, own_max h.lo, bl⟩
theorem RA.idx {W : World} {s : Nat} {T : Nat → Nat} {S : M.Sh} (h : RA W s T S) : W.cell? ⟨s, 0, none⟩ = some (.int .i64 S.idx) := by
  obtain ⟨la, lc, da, dc, G, h⟩ := h
  exact h.box.cell 0 _ rfl
theorem pick_ways (S : M.Sh) (n : List Nat) (key : Int) : (M.pickF S n key = 0 ∧ ∃ k, k < S.l.length ∧ M.pickI S n key = (k : Int) ∧ M.pickV S n key = vAt S k) ∨ (M.pickF S n key ≠ 0 ∧ M.pickV S n key = M.vn0) := by
  unfold M.pickF M.pickI M.pickV
  by_cases t : M.timeB key = false
  · simp only [if_pos t]; exact .inr ⟨by decide, trivial⟩
  · simp only [if_neg t]
    cases e : M.pickO S n key with
    | none => exact .inr ⟨by show (5 : Int) ≠ 0; decide, rfl⟩
    | some k => exact .inl ⟨rfl, k, (M.pick_is e).1, rfl, rfl⟩
end Go.Proofs.YtiggkjkjfnlfkaaGreatDoor
