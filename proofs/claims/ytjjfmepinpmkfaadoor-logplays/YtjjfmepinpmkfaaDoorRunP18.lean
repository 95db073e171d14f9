/-
  Several texts as one: RefLgG, RefLgH, LgBS, LgBo.
-/
import Derived.Test.YtjjfmepinpmkfaaDoorRunP17
import Derived.Test.YtjjfmepinpmkfaaDoorRunP15
namespace Go.Proofs.YtjjfmepinpmkfaaDoor
open Go.ChangeShapes Go.WideShapes Go.ChangeAt Go.RowKit Go.Lib
set_option linter.unusedVariables false
theorem rl_Append {w : World} {r : Nat} {ca : Option Addr} {cc : Nat} {al : List CaC} {ba : Option Addr} {bc : Nat} {L : M.Lg} {left : Int} (h : RL w r ca cc al ba bc L left) {c : M.Ca} {a : Option Addr} {cap : Nat} (hi : CaIn w c a cap) (hl : c.name.length + c.bys.length ≤ 140737488350000) :
    Calls Tryd.prog 7 #[.pointer (some ⟨r, 0, none⟩), caV c a cap] w fun e w' => e = .returned (.int .i64 (M.apF L c)) ∧ LeftR w r ca ba (if M.apF L c = 0 then al ++ [(c, a, cap)] else al) (M.apL L c) w' := by
  cases e : M.rngF c with
  | true => exact rl_Append_ok h hi e hl
  | false =>
    refine (rl_Append_one h e).mono ?_
    rintro x w' ⟨h1, h2⟩
    have z : M.apF L c = 1 := by unfold M.apF; rw [if_pos e]
    refine ⟨h1, ?_⟩
    rw [if_neg (by rw [z]; decide)]
    exact h2
/-- the reference's log between calls, its blocks all new since a world -/
structure HR (W w : World) (r : Nat) (ca ba : Option Addr) (al : List CaC) (L : M.Lg) : Prop where
  rl : ∃ cc bc left, RL w r ca cc al ba bc L left
  bl : Below W.heap.size W w
  tn : ∀ q, RBk r ca ba q → W.heap.size ≤ q
/-- what stays of all else -/
def KeptR (w : World) (r : Nat) (ca ba ca' ba' : Option Addr) (w' : World) : Prop := w.heap.size ≤ w'.heap.size ∧ ∀ q, q < w.heap.size → ¬ RBk r ca ba q → ¬ RBk r ca' ba' q ∧ w'.heap[q]? = w.heap[q]?
theorem HR.lt {W w : World} {r : Nat} {ca ba : Option Addr} {al : List CaC} {L : M.Lg} (h : HR W w r ca ba al L) {q : Nat} (hq : RBk r ca ba q) : q < w.heap.size := by
  obtain ⟨cc, bc, left, h1⟩ := h.rl
  exact h1.lt hq
theorem HR.up {W w w' : World} {r : Nat} {ca ba : Option Addr} {al : List CaC} {L : M.Lg} (h : HR W w r ca ba al L) (hb : Below w.heap.size w w') : HR W w' r ca ba al L := by
  obtain ⟨cc, bc, left, h1⟩ := h.rl
  exact ⟨⟨cc, bc, left, h1.below hb⟩, below_on h.bl hb, h.tn⟩
theorem HR.left {W w w' : World} {r : Nat} {ca ba : Option Addr} {al al' : List CaC} {L L' : M.Lg} (h : HR W w r ca ba al L) (hl : LeftR w r ca ba al' L' w') : ∃ ca' ba', HR W w' r ca' ba' al' L' ∧ KeptR w r ca ba ca' ba' w' := by
  obtain ⟨ca', cc', ba', bc', left', a, b, c⟩ := hl
  have z := h.bl.size
  refine ⟨ca', ba', ⟨⟨cc', bc', left', a⟩, ⟨b.os.trans h.bl.os, b.tape.trans h.bl.tape, b.output.trans h.bl.output, Nat.le_trans z b.size, fun q hq => ?_⟩, fun q hq => ?_⟩, b.size, fun q hq ht => ⟨fun y => ?_, b.block q hq ht⟩⟩
  · rw [b.block q (by omega) (fun y => by have := h.tn q y; omega)]
    exact h.bl.block q hq
  · rcases c q hq with y | y
    · exact h.tn q y
    · omega
  · rcases c q y with x | x
    · exact ht x
    · omega
/-- a log beside the reference's: their blocks apart; the same is in both -/
structure Both (W w : World) (f : Nat) (va : Option Addr) (r : Nat) (ca ba : Option Addr) (al : List CaC) (L : M.Lg) : Prop where
  hl : HL W w f va L
  hr : HR W w r ca ba al L
  ap : ∀ q, LB f va q → ¬ RBk r ca ba q
theorem Both.up {W w w' : World} {f : Nat} {va : Option Addr} {r : Nat} {ca ba : Option Addr} {al : List CaC} {L : M.Lg} (h : Both W w f va r ca ba al L) (hb : Below w.heap.size w w') : Both W w' f va r ca ba al L := ⟨h.hl.up hb, h.hr.up hb, h.ap⟩
theorem HR.kept {W w w' : World} {f : Nat} {va va' : Option Addr} {r : Nat} {ca ba : Option Addr} {al : List CaC} {L : M.Lg} (h : HR W w r ca ba al L) (hb : Below W.heap.size W w') (hk : KeptL w f va va' w') (ap : ∀ q, LB f va q → ¬ RBk r ca ba q) : HR W w' r ca ba al L ∧ ∀ q, LB f va' q → ¬ RBk r ca ba q := by
  obtain ⟨cc, bc, left, h1⟩ := h.rl
  have key : ∀ q, RBk r ca ba q → ¬ LB f va' q ∧ w'.heap[q]? = w.heap[q]? := fun q hq => hk.2 q (h1.lt hq) (fun z => ap q z hq)
  exact ⟨⟨⟨cc, bc, left, h1.up (fun q hq => (key q hq).2)⟩, hb, h.tn⟩, fun q z hq => (key q hq).1 z⟩
theorem HL.kept {W w w' : World} {f : Nat} {va : Option Addr} {r : Nat} {ca ba ca' ba' : Option Addr} {L : M.Lg} (h : HL W w f va L) (hb : Below W.heap.size W w') (hk : KeptR w r ca ba ca' ba' w') (ap : ∀ q, LB f va q → ¬ RBk r ca ba q) : HL W w' f va L ∧ ∀ q, LB f va q → ¬ RBk r ca' ba' q := by
  obtain ⟨vc, h1⟩ := h.la
  have key : ∀ q, LB f va q → ¬ RBk r ca' ba' q ∧ w'.heap[q]? = w.heap[q]? := fun q hq => hk.2 q (h1.lt hq) (ap q hq)
  exact ⟨⟨⟨vc, h1.up (fun q hq => (key q hq).2)⟩, hb, h.tn⟩, fun q hq => (key q hq).1⟩
theorem HR.append {W w : World} {r : Nat} {ca ba : Option Addr} {al : List CaC} {L : M.Lg} (h : HR W w r ca ba al L) {c : M.Ca} {a : Option Addr} {cap : Nat} (hi : CaIn w c a cap) (hl : c.name.length + c.bys.length ≤ 140737488350000) :
    Calls Tryd.prog 7 #[.pointer (some ⟨r, 0, none⟩), caV c a cap] w fun e w' => e = .returned (.int .i64 (M.apF L c)) ∧ ∃ ca' ba', HR W w' r ca' ba' (if M.apF L c = 0 then al ++ [(c, a, cap)] else al) (M.apL L c) ∧ KeptR w r ca ba ca' ba' w' := by
  obtain ⟨cc, bc, left, h1⟩ := h.rl
  refine (rl_Append h1 hi hl).mono ?_
  rintro e w' ⟨rfl, a1⟩
  exact ⟨rfl, h.left a1⟩
theorem HR.stay {W w w' : World} {r : Nat} {ca ba : Option Addr} {al al' : List CaC} {L L' : M.Lg} {cc bc : Nat} {left : Int} (h : HR W w r ca ba al L) (h1 : RL w' r ca cc al' ba bc L' left) (hs : StayBut (fun q => q = r) w w') : HR W w' r ca ba al' L' ∧ KeptR w r ca ba ca ba w' := by
  have up : StayBut (RBk r ca ba) w w' := hs.mono (fun q _ e => .inl e)
  obtain ⟨ca', ba', a, b⟩ := h.left (al' := al') (L' := L') ⟨ca, cc, ba, bc, left, h1, up, fun q hq => .inl hq⟩
  exact ⟨⟨⟨cc, bc, left, h1⟩, a.bl, h.tn⟩, hs.size, fun q hq hk => ⟨hk, up.block q hq hk⟩⟩
theorem HR.sync {W w : World} {r : Nat} {ca ba : Option Addr} {al : List CaC} {L : M.Lg} (h : HR W w r ca ba al L) :
    Calls Tryd.prog 9 #[.pointer (some ⟨r, 0, none⟩)] w fun e w' => e = .returned (.int .i64 (M.syF L)) ∧ HR W w' r ca ba al (M.syL L) ∧ KeptR w r ca ba ca ba w' := by
  obtain ⟨cc, bc, left, h1⟩ := h.rl
  refine (rl_Sync h1).mono ?_
  rintro e w' ⟨rfl, ⟨left', a1⟩, s1⟩
  exact ⟨rfl, h.stay a1 s1⟩
theorem HR.crash {W w : World} {r : Nat} {ca ba : Option Addr} {al : List CaC} {L : M.Lg} (h : HR W w r ca ba al L) (keep : Int) (hk : M.I64 keep) (hc : ∀ k ∈ al, CaIn W k.1 k.2.1 k.2.2) :
    Calls Tryd.prog 11 #[.pointer (some ⟨r, 0, none⟩), .int .i64 keep] w fun e w' => e = .returned (.tuple #[]) ∧ HR W w' r ca ba (al.take (M.crL L keep).calls.length) (M.crL L keep) ∧ KeptR w r ca ba ca ba w' := by
  obtain ⟨cc, bc, left, h1⟩ := h.rl
  have rw' : W.heap.size ≤ r := h.tn r (.inl rfl)
  refine (rl_Crash h1 keep hk (fun k hm => ⟨(hc k hm).below h.bl, fun hn p hp => ?_⟩)).mono ?_
  · obtain ⟨b, off, e, hl, _⟩ := (hc k hm).rd.2.2 hn
    rw [e] at hp
    cases hp
    have := h.bl.size
    exact ⟨by show b ≠ r; omega, by show b < w.heap.size; omega⟩
  · rintro e w' ⟨rfl, a1, s1⟩
    exact ⟨rfl, h.stay a1 s1⟩
/-- the reference's Left is written -/
theorem HR.fail {W w : World} {r : Nat} {ca ba : Option Addr} {al : List CaC} {L : M.Lg} (h : HR W w r ca ba al L) (n : Int) (hn : M.I64 n) : (∃ u, w.cell? ⟨r, 4, none⟩ = some u) ∧ w.frozen? ⟨r, 4, none⟩ = false ∧ HR W (w.setCell ⟨r, 4, none⟩ (.int .i64 (if n < -1 then -1 else n))) r ca ba al ⟨L.calls, L.tail, L.safe, n, L.stop⟩ ∧ KeptR w r ca ba ca ba (w.setCell ⟨r, 4, none⟩ (.int .i64 (if n < -1 then -1 else n))) := by
  obtain ⟨cc, bc, left, h1⟩ := h.rl
  have p := h1.put (L' := ⟨L.calls, L.tail, L.safe, n, L.stop⟩) (left' := if n < -1 then -1 else n) (j := 4) (v := .int .i64 (if n < -1 then -1 else n)) rfl rfl rfl ⟨h1.ok.ok, h1.ok.tl, h1.ok.wh, h1.ok.sf, hn⟩ ⟨by
    unfold M.I64 at *
    split <;> omega, fun _ => by
    show (n < 0 ∧ (if n < -1 then -1 else n) = -1) ∨ (0 ≤ n ∧ (if n < -1 then -1 else n) = n)
    split <;> omega⟩
  exact ⟨⟨_, h1.box.cell 4 _ rfl⟩, h1.box.free 4, h.stay p.1 p.2⟩
theorem lg_Safe {W : World} {f : Nat} {va : Option Addr} {vc : Nat} {L : M.Lg} (h : LA W f va vc L) :
    Calls Tryd.prog 16 #[.pointer (some ⟨f, 0, none⟩)] W fun e w' => e = .returned (.int .i64 (L.safe : Int)) ∧ w' = W := by
  have c2 := h.box.cell 2 _ rfl
  clear h
  go_enter Tryd.func16, Tryd.ntmps16
  go_wp2
  go_ret
  exact ⟨rfl, rfl⟩
set_option maxHeartbeats 4000000 in
theorem lg_Bytes {W : World} {f : Nat} {va : Option Addr} {vc : Nat} {L : M.Lg} (h : LA W f va vc L) :
    Calls Tryd.prog 15 #[.pointer (some ⟨f, 0, none⟩)] W fun e w' => ∃ a c, e = .returned (.slice a L.bytes.length c) ∧ w'.ownsRow W.heap.size 5 1 (.slice a L.bytes.length c) L.bytes.length (byCells L.bytes) ∧ Below W.heap.size W w' := by
  have c0 := h.box.cell 0 _ rfl
  have C := hide (lg_copyOf va L.bytes vc W h.rd.1 h.rd.2.1 (by have := h.ok.len; omega))
  clear h
  generalize L.bytes = bs at *
  go_enter Tryd.func15, Tryd.ntmps15
  go_wp2_with (go_at_call 28; refine C.out.mono ?_; rintro e w1 ⟨a, c, rfl, ho, hb⟩; have O1 := hide ho; have K1 := hide hb; clear ho hb)
  go_ret
  exact ⟨a, c, rfl, O1.out, K1.out⟩

theorem HL.safe {W w : World} {f : Nat} {va : Option Addr} {L : M.Lg} (h : HL W w f va L) :
    Calls Tryd.prog 16 #[.pointer (some ⟨f, 0, none⟩)] w fun e w' => e = .returned (.int .i64 (L.safe : Int)) ∧ w' = w := by
  obtain ⟨vc, h1⟩ := h.la
  exact lg_Safe h1
theorem HL.bytesG {W w : World} {f : Nat} {va : Option Addr} {L : M.Lg} (h : HL W w f va L) :
    Calls Tryd.prog 15 #[.pointer (some ⟨f, 0, none⟩)] w fun e w' => ∃ a c, e = .returned (.slice a L.bytes.length c) ∧ w'.ownsRow w.heap.size 5 1 (.slice a L.bytes.length c) L.bytes.length (byCells L.bytes) ∧ Below w.heap.size w w' := by
  obtain ⟨vc, h1⟩ := h.la
  exact lg_Bytes h1
theorem HR.new {W w : World} (hb : Below W.heap.size W w) (t : TypeId) : HR W (w.alloc (.cells #[.slice none 0 0, .slice none 0 0, .int .i64 0, .int .i64 0, .int .i64 (-1), .bool false] t)) w.heap.size none none [] M.lg0 := by
  refine ⟨⟨0, 0, -1, ⟨M.lg0_ok, ⟨by unfold M.I64; omega, fun _ => .inl ⟨by show (-1 : Int) < 0; omega, rfl⟩⟩, rfl, bx_new w _ t, World.ownsRow_nil _ _ _ _, World.ownsRow_nil _ _ _ _, (fun p hp => by cases hp), (fun p hp => by cases hp), (fun p q hp => by cases hp)⟩⟩, hb.alloc hb.size _, fun q hq => ?_⟩
  rcases hq with z | ⟨p, z, _⟩ | ⟨p, z, _⟩
  · rw [z]; exact hb.size
  · cases z
  · cases z
theorem Both.new {W w : World} {f : Nat} (h : HL W w f none M.lg0) (t : TypeId) : Both W (w.alloc (.cells #[.slice none 0 0, .slice none 0 0, .int .i64 0, .int .i64 0, .int .i64 (-1), .bool false] t)) f none w.heap.size none none [] M.lg0 := by
  refine ⟨h.up ((Below.refl _ _).alloc (Nat.le_refl _) _), HR.new h.bl t, fun q hq hr => ?_⟩
  have := h.lt hq
  rcases hr with z | ⟨p, z, _⟩ | ⟨p, z, _⟩
  · omega
  · cases z
  · cases z
/-- a block of neither -/
def Out (w : World) (f : Nat) (va : Option Addr) (r : Nat) (ca ba : Option Addr) (q : Nat) : Prop := q < w.heap.size ∧ ¬ LB f va q ∧ ¬ RBk r ca ba q
/-- our log has done something -/
theorem Both.ours {W w w' : World} {f : Nat} {va va' : Option Addr} {r : Nat} {ca ba : Option Addr} {al : List CaC} {L L' : M.Lg} (h : Both W w f va r ca ba al L) (hl : HL W w' f va' L') (hk : KeptL w f va va' w') : HR W w' r ca ba al L ∧ (∀ q, LB f va' q → ¬ RBk r ca ba q) ∧ ∀ q, Out w f va r ca ba q → Out w' f va' r ca ba q ∧ w'.heap[q]? = w.heap[q]? := by
  obtain ⟨a, b⟩ := h.hr.kept hl.bl hk h.ap
  exact ⟨a, b, fun q ⟨h1, h2, h3⟩ => ⟨⟨by have := hk.1; omega, (hk.2 q h1 h2).1, h3⟩, (hk.2 q h1 h2).2⟩⟩
/-- the reference's has -/
theorem HR.theirs {W w w' : World} {f : Nat} {va : Option Addr} {r : Nat} {ca ba ca' ba' : Option Addr} {al' : List CaC} {L'' : M.Lg} (hl : HL W w f va L'') (ap : ∀ q, LB f va q → ¬ RBk r ca ba q) (hr : HR W w' r ca' ba' al' L'') (hk : KeptR w r ca ba ca' ba' w') : Both W w' f va r ca' ba' al' L'' ∧ ∀ q, Out w f va r ca ba q → Out w' f va r ca' ba' q ∧ w'.heap[q]? = w.heap[q]? := by
  obtain ⟨a, b⟩ := hl.kept hr.bl hk ap
  exact ⟨⟨a, hr, b⟩, fun q ⟨h1, h2, h3⟩ => ⟨⟨by have := hk.1; omega, h2, (hk.2 q h1 h3).1⟩, (hk.2 q h1 h3).2⟩⟩
theorem Both.out {W w : World} {f : Nat} {va : Option Addr} {r : Nat} {ca ba : Option Addr} {al : List CaC} {L : M.Lg} (h : Both W w f va r ca ba al L) {w' : World} {q : Nat} (hz : w.heap.size ≤ q) (hq : q < w'.heap.size) : Out w' f va r ca ba q := ⟨hq, fun z => by have := h.hl.lt z; omega, fun z => by have := h.hr.lt z; omega⟩
/-- what is behind a crash that keeps more than a million bytes is what is behind one that keeps a million -/
theorem M.cr_more {L : M.Lg} (h : M.LgOk L) {n : Int} (hn : 1000000 < n) : M.crL L n = M.crL L 1000000 := by
  have e : M.crN L n = M.crN L 1000000 := by
    have := h.len.2
    unfold M.crN
    rw [Nat.min_eq_right (by omega), Nat.min_eq_right (by omega)]
  unfold M.crL
  rw [e]
/-- the reference's calls, where they lie -/
theorem HR.calls {W w : World} {r : Nat} {ca ba : Option Addr} {al : List CaC} {L : M.Lg} (h : HR W w r ca ba al L) (hc : ∀ k ∈ al, CaIn W k.1 k.2.1 k.2.2) : RdC w ca al ∧ al.map (·.1) = L.calls ∧ al.length = L.calls.length := by
  obtain ⟨cc, bc, left, h1⟩ := h.rl
  have el : al.length = L.calls.length := by rw [← h1.em, List.length_map]
  have := M.recs_more L.calls h1.ok.ok
  have wh := h1.ok.wh
  unfold M.Lg.whole at wh
  exact ⟨own_rdC rfl (by unfold maxLen; omega) (fun k hk => (hc k hk).below h.bl) h1.co, h1.em, el⟩
end Go.Proofs.YtjjfmepinpmkfaaDoor
