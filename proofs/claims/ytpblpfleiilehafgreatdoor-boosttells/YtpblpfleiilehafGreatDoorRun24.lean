/-
  Several texts as one: MathSg, GroBest, SortOwn.
-/
import Derived.Test.YtpblpfleiilehafGreatDoorRun6
import Derived.Test.YtpblpfleiilehafGreatDoorRun23
import Derived.Test.YtpblpfleiilehafGreatDoorRun19
import Derived.Test.YtpblpfleiilehafGreatDoorRun0
import Derived.Test.YtpblpfleiilehafGreatDoorShelf
import Derived.Sort.OwnSortedInts
namespace Go.Proofs.YtpblpfleiilehafGreatDoor.M
set_option linter.unusedVariables false

/-- the numbers of a feature -/
def colL (l : List Sa) (f : Nat) : List Int := l.map fun s => colA s f
theorem colL_len (l : List Sa) (f : Nat) : (colL l f).length = l.length := by simp [colL]
/-- rising, each once -/
def risL (l : List Sa) (f : Nat) : List Int := Lib.compact (sortI (colL l f))
/-- but the least -/
def cutP (l : List Sa) (f : Nat) : List Int := (risL l f).drop 1
theorem ris_pw (l : List Sa) (f : Nat) : (risL l f).Pairwise (fun a b => a < b) := uniq_pw _ (sort_pw _)
theorem ris_mem (l : List Sa) (f : Nat) (x : Int) : x ∈ risL l f ↔ x ∈ colL l f := by
  unfold risL
  rw [uniq_mem _ (sort_pw _)]
  exact (sort_perm _).mem_iff
theorem cutP_pw (l : List Sa) (f : Nat) : (cutP l f).Pairwise (fun a b => a < b) := (ris_pw l f).sublist (List.drop_sublist _ _)
theorem col_at (l : List Sa) (f : Nat) (x : Int) : x ∈ colL l f ↔ ∃ i, i < l.length ∧ colA (sAt l i) f = x := by
  unfold colL
  rw [List.mem_map]
  constructor
  · rintro ⟨s, hs, rfl⟩
    obtain ⟨i, hi, e⟩ := List.getElem_of_mem hs
    exact ⟨i, hi, by unfold sAt; rw [getD_at hi, e]⟩
  · rintro ⟨i, hi, rfl⟩
    exact ⟨l[i], List.getElem_mem hi, by unfold sAt; rw [getD_at hi]⟩
theorem cutP_mem {l : List Sa} {f : Nat} {x : Int} (h : x ∈ cutP l f) : ∃ i, i < l.length ∧ colA (sAt l i) f = x :=
  (col_at l f x).1 ((ris_mem l f x).1 (List.mem_of_mem_drop h))
/-- nothing is below the least -/
theorem part_least {l : List Sa} {f : Nat} {c : Int} (h : ∀ x ∈ colL l f, c ≤ x) : partS l f c true = [] := by
  unfold partS
  rw [List.filter_eq_nil_iff]
  intro s hs q
  have := h (colA s f) (List.mem_map.2 ⟨s, hs, rfl⟩)
  unfold sideB at q
  rw [show decide (colA s f < c) = false from decide_eq_false (by omega)] at q
  cases q
theorem cut_more {l : List Sa} {least : Int} {f : Nat} {c : Int} (hi : ∃ i, i < l.length ∧ colA (sAt l i) f = c) (ok : okC l least f c = true) : c ∈ cutP l f := by
  have hm : c ∈ risL l f := (ris_mem l f c).2 ((col_at l f c).2 hi)
  have pw := ris_pw l f
  unfold cutP
  rcases hr : risL l f with _ | ⟨v, t⟩
  · rw [hr] at hm; cases hm
  · rw [hr] at hm pw
    rcases List.mem_cons.1 hm with e | e
    · exfalso
      subst e
      have z : partS l f c true = [] := part_least fun x hx => by
        have h2 : x ∈ risL l f := (ris_mem l f x).2 hx
        rw [hr] at h2
        rcases List.mem_cons.1 h2 with e | e
        · omega
        · have := (List.pairwise_cons.1 pw).1 x e; omega
      unfold okC nB at ok
      rw [z] at ok
      simp at ok
    · exact e

/-! ### one by one -/
def bqN (l : List Sa) (least : Int) (st : SpS) (f : Nat) (c : Int) : SpS := if nB l f c true < least ∨ nB l f c false < least then st else if st.1 * spD l f c < spU l f c * st.2.1 then (spU l f c, spD l f c, f, c, true) else st
def bqI (l : List Sa) (least : Int) (f : Nat) (st : SpS) : List Int → SpS
  | [] => st
  | c :: cs => bqI l least f (bqN l least st f c) cs
def bqA (l : List Sa) (least : Int) : Nat → SpS
  | 0 => sp0 l
  | f + 1 => bqI l least f (bqA l least f) (cutP l f)
theorem bqI_snoc (l : List Sa) (least : Int) (f : Nat) (c : Int) : ∀ (cs : List Int) (st : SpS), bqI l least f st (cs ++ [c]) = bqN l least (bqI l least f st cs) f c
  | [], st => rfl
  | d :: cs, st => bqI_snoc l least f c cs _
theorem bqI_take (l : List Sa) (least : Int) (f : Nat) (st : SpS) (cs : List Int) {k : Nat} (hk : k < cs.length) : bqI l least f st (cs.take (k + 1)) = bqN l least (bqI l least f st (cs.take k)) f (cs.getD k 0) := by
  rw [List.take_succ_eq_append_getElem hk, bqI_snoc, getD_at hk]
theorem bqN_sp {l : List Sa} {least : Int} {st : SpS} {f : Nat} {c : Int} (h1 : 1 ≤ least) (h : st.2.2.2.2 = true → st.2.2.1 = f → st.2.2.2.1 < c) : bqN l least st f c = spN l least st f c := by
  unfold bqN spN
  have e1 : okC l least f c = !decide (nB l f c true < least ∨ nB l f c false < least) := by
    unfold okC
    by_cases a : nB l f c true < least
    · rw [decide_eq_true a, decide_eq_true (Or.inl a)]; rfl
    · have z : ¬ nB l f c true = 0 := by omega
      rw [decide_eq_false a, decide_eq_false z]
      by_cases b : nB l f c false < least
      · rw [decide_eq_true b, decide_eq_true (Or.inr b)]; rfl
      · rw [decide_eq_false b, decide_eq_false (by omega)]; rfl
  have e2 : spGt l st f c = decide (st.1 * spD l f c < spU l f c * st.2.1) := by
    unfold spGt
    cases q : st.2.2.2.2 with
    | false => simp
    | true =>
      by_cases ef : f = st.2.2.1
      · have := h q ef.symm
        rw [show decide (c < st.2.2.2.1) = false from decide_eq_false (by omega)]
        simp
      · rw [decide_eq_false ef]; simp
  rw [e1, e2]
  by_cases a : nB l f c true < least ∨ nB l f c false < least
  · rw [if_pos a, decide_eq_true a]; rfl
  · rw [if_neg a, decide_eq_false a]
    show _ = if true = true then _ else _
    rw [if_pos rfl]
    by_cases b : st.1 * spD l f c < spU l f c * st.2.1
    · rw [if_pos b, if_pos (decide_eq_true b)]
    · rw [if_neg b, if_neg (by rw [decide_eq_false b]; decide)]
theorem bqI_inv {l : List Sa} {least : Int} {F : Nat} (h1 : 1 ≤ least) (hl : 0 < l.length) : ∀ (cs : List Int) {P : Nat → Int → Prop} {st : SpS}, cs.Pairwise (fun a b => a < b) → (∀ c ∈ cs, st.2.2.2.2 = true → st.2.2.1 = F → st.2.2.2.1 < c) → SpInv l least F P st → SpInv l least F (fun f d => P f d ∨ (f = F ∧ d ∈ cs)) (bqI l least F st cs)
  | [], P, st, _, _, h => h.same fun f c => ⟨.inl, fun q => q.elim id (fun q => by cases q.2)⟩
  | c :: cs, P, st, pw, lo, h => by
    obtain ⟨p1, p2⟩ := List.pairwise_cons.1 pw
    have e := bqN_sp (l := l) (f := F) h1 (lo c (List.mem_cons_self ..))
    have m := h.more h1 hl c
    rw [← e] at m
    have lo' : ∀ d ∈ cs, (bqN l least st F c).2.2.2.2 = true → (bqN l least st F c).2.2.1 = F → (bqN l least st F c).2.2.2.1 < d := by
      intro d hd
      unfold bqN
      split
      · exact lo d (List.mem_cons_of_mem _ hd)
      · split
        · intro _ _; exact p1 d hd
        · exact lo d (List.mem_cons_of_mem _ hd)
    exact (bqI_inv h1 hl cs p2 lo' m).same fun f d => by
      rw [List.mem_cons]
      constructor
      · rintro ((q | ⟨rfl, rfl⟩) | ⟨rfl, q⟩)
        · exact .inl q
        · exact .inr ⟨rfl, .inl rfl⟩
        · exact .inr ⟨rfl, .inr q⟩
      · rintro (q | ⟨rfl, rfl | q⟩)
        · exact .inl (.inl q)
        · exact .inl (.inr ⟨rfl, rfl⟩)
        · exact .inr ⟨rfl, q⟩
theorem bqA_inv {l : List Sa} {least : Int} (h1 : 1 ≤ least) (hl : 0 < l.length) : ∀ m, SpInv l least m (fun f d => f < m ∧ d ∈ cutP l f) (bqA l least m)
  | 0 => ⟨fun _ => ⟨rfl, fun f c hp => by omega⟩, fun q => (by cases q), fun f c hp => by omega⟩
  | m + 1 => by
    have I := bqA_inv (l := l) h1 hl m
    have := bqI_inv (F := m) h1 hl (cutP l m) (cutP_pw l m) (fun c _ q e => by have := (I.yes q).1.1; omega) I
    exact (this.wide (Nat.le_succ m)).same fun f c => by
      constructor
      · rintro (⟨h, q⟩ | ⟨rfl, q⟩)
        · exact ⟨by omega, q⟩
        · exact ⟨by omega, q⟩
      · rintro ⟨h, q⟩
        by_cases e : f = m
        · subst e; exact .inr ⟨rfl, q⟩
        · exact .inl ⟨by omega, q⟩
/-- it is the one that the document tells -/
theorem bq_is {l : List Sa} {least : Int} (h1 : 1 ≤ least) (hl : 0 < l.length) (m : Nat) : (bqA l least m).2.2 = (spV l m least).2.2 := by
  have I := bqA_inv h1 hl m
  have cand : ∀ f c, Cand l m least f c → f < m ∧ c ∈ cutP l f := fun f c h => ⟨h.1, cut_more h.2.1 h.2.2⟩
  cases q : (bqA l least m).2.2.2.2 with
  | false =>
    obtain ⟨e, n⟩ := I.no q
    obtain ⟨s1, s2⟩ := split_spec (l := l) (m := m) h1 hl
    cases z : (spV l m least).2.2.2.2 with
    | true =>
      obtain ⟨t1, t2, _⟩ := s2 z
      exact absurd t2 (n _ _ (cand _ _ t1) t1.2.2)
    | false =>
      obtain ⟨a, b, _⟩ := s1 z
      rw [e]
      refine Prod.ext a.symm (Prod.ext b.symm z.symm)
  | true =>
    obtain ⟨y1, y2, y3, y4, y5, y6⟩ := I.yes q
    obtain ⟨a, b, c⟩ := split_only h1 hl (m := m) ⟨y1.1, cutP_mem y1.2, y2⟩ y5 (fun g d hc => y6 g d (cand g d hc) hc.2.2)
    refine Prod.ext b.symm (Prod.ext c.symm ?_)
    show (bqA l least m).2.2.2.2 = _
    rw [q, a]

/-! ### bounds -/
theorem bq_in {l : List Sa} {least : Int} (P : SpS → Prop) (h0 : P (sp0 l)) (hn : ∀ f c, least ≤ nB l f c true → least ≤ nB l f c false → ∀ b, P (spU l f c, spD l f c, f, c, b)) : ∀ (st : SpS) (f : Nat) (c : Int), P st → P (bqN l least st f c) := by
  intro st f c h
  unfold bqN
  split
  · exact h
  · split
    · exact hn f c (by omega) (by omega) true
    · exact h
theorem bqI_in {l : List Sa} {least : Int} (P : SpS → Prop) (h : ∀ st f c, P st → P (bqN l least st f c)) (f : Nat) : ∀ (cs : List Int) (st : SpS), P st → P (bqI l least f st cs)
  | [], _, q => q
  | _ :: cs, _, q => bqI_in P h f cs _ (h _ _ _ q)
theorem bqA_in {l : List Sa} {least : Int} (P : SpS → Prop) (h0 : P (sp0 l)) (h : ∀ st f c, P st → P (bqN l least st f c)) : ∀ m, P (bqA l least m)
  | 0 => h0
  | m + 1 => bqI_in P h m _ _ (bqA_in P h0 h m)

end Go.Proofs.YtpblpfleiilehafGreatDoor.M

namespace Go.Proofs.YtpblpfleiilehafGreatDoor
open Go.ChangeShapes Go.WideShapes Go.ChangeAt Go.RowKit Go.Lib
set_option linter.unusedVariables false

def GCutsGives : Prop := ∀ (a : Option Addr) (xs : List Sx) (ca m f : Nat) (w : World), RdL w a xs → Ask xs m → f < m → 0 < xs.length → Calls Tryz.prog 54 #[.slice a xs.length ca, .int .i64 (f : Nat)] w fun e w' => ∃ ag cg, e = .returned (.slice ag (M.cutP (sms xs) f).length cg) ∧ Rd w' ag (M.cutP (sms xs) f) ∧ Below w.heap.size w w' ∧ (∀ p, ag = some p → w.heap.size ≤ p.block)

/-- the best question so far, and what it puts right, in two blocks -/
structure Bq (w W : World) (b6 b8 : Nat) (st : M.SpS) : Prop where
  c0 : W.cell? ⟨b6, 0, none⟩ = some (.int .i64 (st.2.2.1 : Nat))
  c1 : W.cell? ⟨b6, 1, none⟩ = some (.int .i64 st.2.2.2.1)
  c2 : W.cell? ⟨b8, 0, none⟩ = some (.int .i64 st.1)
  c3 : W.cell? ⟨b8, 1, none⟩ = some (.int .i64 st.2.1)
  f6 : ∀ j, W.frozen? ⟨b6, j, none⟩ = false
  f8 : ∀ j, W.frozen? ⟨b8, j, none⟩ = false
  ne : b6 ≠ b8
  l6 : w.heap.size ≤ b6 ∧ b6 < W.heap.size
  l8 : w.heap.size ≤ b8 ∧ b8 < W.heap.size
  b : Below w.heap.size w W
theorem frozen_kept {W W' : World} {p : Nat} (hb : Below W.heap.size W W') (hp : p < W.heap.size) (j : Nat) : W'.frozen? ⟨p, j, none⟩ = W.frozen? ⟨p, j, none⟩ := by
  unfold World.frozen?
  rw [hb.block _ hp]
theorem Bq.up {w W W' : World} {b6 b8 : Nat} {st : M.SpS} (h : Bq w W b6 b8 st) (hb : Below W.heap.size W W') : Bq w W' b6 b8 st :=
  ⟨(hb.cell (p := ⟨b6, 0, none⟩) h.l6.2).trans h.c0, (hb.cell (p := ⟨b6, 1, none⟩) h.l6.2).trans h.c1, (hb.cell (p := ⟨b8, 0, none⟩) h.l8.2).trans h.c2, (hb.cell (p := ⟨b8, 1, none⟩) h.l8.2).trans h.c3, fun j => (frozen_kept hb h.l6.2 j).trans (h.f6 j), fun j => (frozen_kept hb h.l8.2 j).trans (h.f8 j), h.ne, ⟨h.l6.1, Nat.lt_of_lt_of_le h.l6.2 hb.size⟩, ⟨h.l8.1, Nat.lt_of_lt_of_le h.l8.2 hb.size⟩, below_on h.b hb⟩
theorem frozen_set (W : World) (p q o j : Nat) (x : Value) : (W.setCell ⟨p, o, none⟩ x).frozen? ⟨q, j, none⟩ = W.frozen? ⟨q, j, none⟩ := by
  simp [World.frozen?, World.setCell, Array.getElem?_modify]
  by_cases e : p = q
  · subst e
    cases h : W.heap[p]? with
    | none => simp
    | some o => cases o <;> simp
  · simp [e]
theorem Bq.put {w W : World} {b6 b8 : Nat} {st : M.SpS} (h : Bq w W b6 b8 st) (st' : M.SpS) : Bq w ((((W.setCell ⟨b6, 0, none⟩ (.int .i64 (st'.2.2.1 : Nat))).setCell ⟨b6, 1, none⟩ (.int .i64 st'.2.2.2.1)).setCell ⟨b8, 0, none⟩ (.int .i64 st'.1)).setCell ⟨b8, 1, none⟩ (.int .i64 st'.2.1)) b6 b8 st' := by
  have ne := h.ne
  have o : ∀ (V : World) (p q i j : Nat) (v : Value), p ≠ q ∨ i ≠ j → (V.setCell ⟨p, i, none⟩ v).cell? ⟨q, j, none⟩ = V.cell? ⟨q, j, none⟩ := fun V p q i j v hij => World.cell?_setCell_other _ _ _ _ (by intro e; cases e; rcases hij with x | x <;> exact x rfl)
  have s1 := set2 (x0 := .int .i64 (st'.2.2.1 : Nat)) (x1 := .int .i64 st'.2.2.2.1) h.c0 h.c1
  refine ⟨?_, ?_, ?_, ?_, fun j => ?_, fun j => ?_, ne, ⟨h.l6.1, by simpa using h.l6.2⟩, ⟨h.l8.1, by simpa using h.l8.2⟩, below2 (below2 h.b h.l6.1) h.l8.1⟩
  · rw [o _ _ _ _ _ _ (.inl ne.symm), o _ _ _ _ _ _ (.inl ne.symm), o _ _ _ _ _ _ (.inr (by decide))]; exact s1.1
  · rw [o _ _ _ _ _ _ (.inl ne.symm), o _ _ _ _ _ _ (.inl ne.symm)]; exact s1.2
  · rw [o _ _ _ _ _ _ (.inr (by decide))]
    exact World.cell?_setCell_same (u := .int .i64 st.1) _ _ _ (by rw [o _ _ _ _ _ _ (.inl ne), o _ _ _ _ _ _ (.inl ne)]; exact h.c2)
  · exact World.cell?_setCell_same (u := .int .i64 st.2.1) _ _ _ (by rw [o _ _ _ _ _ _ (.inr (by decide)), o _ _ _ _ _ _ (.inl ne), o _ _ _ _ _ _ (.inl ne)]; exact h.c3)
  · rw [frozen_set, frozen_set, frozen_set, frozen_set]; exact h.f6 j
  · rw [frozen_set, frozen_set, frozen_set, frozen_set]; exact h.f8 j
theorem Bq.is {w W : World} {b6 b8 : Nat} {st st' : M.SpS} (h : Bq w W b6 b8 st) (e : st = st') : Bq w W b6 b8 st' := e ▸ h

theorem compact_le (l : List Int) : (Lib.compact l).length ≤ l.length := by
  unfold Lib.compact Lib.compactUpTo
  rw [List.length_map]
  exact Nat.le_trans (List.length_filter_le _ _) (by simp)

/-- what may be: how great the best so far is -/
theorem Ask.bq {xs : List Sx} {m : Nat} (h : Ask xs m) (least : Int) (st : M.SpS) (f : Nat) (c : Int) (hs : StIn st) : StIn (M.bqN (sms xs) least st f c) := by
  unfold M.bqN
  split
  · exact hs
  · split
    · exact h.ud f c
    · exact hs
theorem Ask.bqI {xs : List Sx} {m : Nat} (h : Ask xs m) (least : Int) (F f : Nat) (cs : List Int) : StIn (M.bqI (sms xs) least f (M.bqA (sms xs) least F) cs) :=
  M.bqI_in StIn (fun st f c hs => h.bq least st f c hs) f cs _ (M.bqA_in StIn (h.st least) (fun st f c hs => h.bq least st f c hs) F)
theorem M.bqN_few {l : List M.Sa} {least : Int} {st : M.SpS} {f : Nat} {c : Int} (h : M.nB l f c true < least ∨ M.nB l f c false < least) : M.bqN l least st f c = st := by unfold M.bqN; rw [if_pos h]
theorem M.bqN_yes {l : List M.Sa} {least : Int} {st : M.SpS} {f : Nat} {c : Int} (h : ¬ (M.nB l f c true < least ∨ M.nB l f c false < least)) (h2 : st.1 * M.spD l f c < M.spU l f c * st.2.1) : M.bqN l least st f c = (M.spU l f c, M.spD l f c, f, c, true) := by unfold M.bqN; rw [if_neg h, if_pos h2]
theorem M.bqN_no {l : List M.Sa} {least : Int} {st : M.SpS} {f : Nat} {c : Int} (h : ¬ (M.nB l f c true < least ∨ M.nB l f c false < least)) (h2 : ¬ st.1 * M.spD l f c < M.spU l f c * st.2.1) : M.bqN l least st f c = st := by unfold M.bqN; rw [if_neg h, if_neg h2]

set_option maxHeartbeats 16000000 in
set_option maxRecDepth 10000 in
theorem best_any (GC : GCutsGives) (a : Option Addr) (xs : List Sx) (ca m : Nat) (least : Int) (w : World) (h : RdL w a xs) (A : Ask xs m) (m8 : m ≤ 8) (hp : 0 < xs.length) (h1 : 1 ≤ least) :
    Calls Tryz.prog 31 #[.slice a xs.length ca, .int .i64 (m : Nat), .int .i64 least] w fun e w' => e = .returned (.tuple #[.agg #[.int .i64 ((M.spV (sms xs) m least).2.2.1 : Nat), .int .i64 (M.spV (sms xs) m least).2.2.2.1], .bool (M.spV (sms xs) m least).2.2.2.2]) ∧ Below w.heap.size w w' := by
  have BI := M.bq_is (l := sms xs) h1 (by rw [sms_len]; exact hp) m
  rw [← BI]
  have HL := hide h
  have AA := hide A
  have l60 := A.le
  have GCC := hide (fun f (hf : f < m) W (hW : Below w.heap.size w W) => GC a xs ca m f W (h.below hW) A hf hp)
  have PPC := hide (fun f (hf : f < m) c W (hW : Below w.heap.size w W) => part_any a xs ca m f c W (h.below hW) A hf)
  have RR := hide (fun (pa : Option Addr) f c b (cap : Nat) W (hW : RdL W pa (partX xs f c b)) => putright_any pa (partX xs f c b) cap m W hW (A.part f c b))
  have R0 := hide (fun W (hW : Below w.heap.size w W) => putright_any a xs ca m W (h.below hW) A)
  obtain ⟨w1, hw1⟩ : ∃ W, W = w.alloc (.cells #[.int .i64 0, .int .i64 0] 67) := ⟨_, rfl⟩
  have s1 : w1.heap.size = w.heap.size + 1 := by rw [hw1]; simp
  have K1 : Hid (Below w.heap.size w w1) := by unfold Hid; rw [hw1]; exact (Below.refl _ w).alloc (Nat.le_refl _) _
  have N1 := hide (fun W (hW : Below w1.heap.size w1 W) => new_kept hw1 hW)
  have S1 := hide s1
  have HW := hide hw1
  have SL := hide (sms_len xs)
  have EV : Hid (∀ st, M.bqA (sms xs) least m = st → M.bqA (sms xs) least m = st) := fun _ e => e
  clear h A hw1 s1 BI GC
  obtain ⟨V, hV⟩ : ∃ V, V = M.bqA (sms xs) least m := ⟨_, rfl⟩
  rw [← hV]
  have HV := hide hV
  clear hV EV
  go_enter Tryz.func31, Tryz.ntmps31
  go_upto_region 1 with fail
  rw [← HW.out]
  go_upto_region 2 with (go_at_call 53; refine (R0.out _ K1.out).mono ?_; rintro e w2 ⟨rfl, hb2⟩; have K2 := hide hb2; clear hb2)
  obtain ⟨w3, hw3⟩ : ∃ W, W = w2.alloc (.cells #[.int .i64 (M.sumT (sms xs) * M.sumT (sms xs)), .int .i64 (xs.length : Nat)] 91) := ⟨_, rfl⟩
  rw [← hw3]
  have K3 : Hid (Below w2.heap.size w2 w3) := by unfold Hid; rw [hw3]; exact (Below.refl _ w2).alloc (Nat.le_refl _) _
  have Q3 : Hid (Bq w w3 w.heap.size w2.heap.size (M.bqA (sms xs) least 0)) := by
    have k13 := below_on K2.out K3.out
    have n1 := N1.out w3 k13
    have n3 := new_kept hw3 (Below.refl w3.heap.size w3)
    have z := K2.out.size
    have z1 := S1.out
    have z3 : w3.heap.size = w2.heap.size + 1 := by rw [hw3]; simp
    have e : M.bqA (sms xs) least 0 = (M.sumT (sms xs) * M.sumT (sms xs), (((sms xs).length : Nat) : Int), 0, 0, false) := rfl
    rw [e, SL.out]
    exact ⟨n1.1 0 _ rfl, n1.1 1 _ rfl, n3.1 0 _ rfl, n3.1 1 _ rfl, n1.2, n3.2, by omega, ⟨Nat.le_refl _, by omega⟩, ⟨by omega, by omega⟩, below_on K1.out k13⟩
  have Z0 : Hid (((M.bqA (sms xs) least 0).2.2.2.2 : Bool) = false) := rfl
  obtain ⟨b8, hb8⟩ : ∃ b, b = w2.heap.size := ⟨_, rfl⟩
  rw [← hb8] at Q3 ⊢
  obtain ⟨b6, hb6⟩ : ∃ b, b = w.heap.size := ⟨_, rfl⟩
  rw [← hb6] at Q3
  rw [← hb6]
  clear hw3 hb8 N1 HW S1 K1 K2 K3 R0 hb6
  go_wp2
  go_loopw [7, 19] (fun v i wr => ∃ f : Nat, f ≤ m ∧ i = .int .i64 f ∧ v = .bool (M.bqA (sms xs) least f).2.2.2.2 ∧ Hid (Bq w wr b6 b8 (M.bqA (sms xs) least f))) (fun _ i _ => m - (intOf i).toNat)
  case atStart => exact ⟨0, Nat.zero_le _, rfl, rfl, Q3⟩
  case round =>
    obtain ⟨f, hf, rfl, rfl, Q⟩ := hrel
    clear Q3 Z0
    by_cases hlt : f < m
    · have CC := hide (GCC.out f hlt wr Q.out.b)
      have PC := hide (PPC.out f hlt)
      have fz : (f : Int) < (m : Int) := by omega
      have BS : Hid (M.bqA (sms xs) least (f + 1) = M.bqI (sms xs) least f (M.bqA (sms xs) least f) (M.cutP (sms xs) f)) := rfl
      have SI : Hid (∀ cs, StIn (M.bqI (sms xs) least f (M.bqA (sms xs) least f) cs)) := fun cs => AA.out.bqI least f f cs
      have BT : Hid (∀ k, k < (M.cutP (sms xs) f).length → M.bqI (sms xs) least f (M.bqA (sms xs) least f) ((M.cutP (sms xs) f).take (k + 1)) = M.bqN (sms xs) least (M.bqI (sms xs) least f (M.bqA (sms xs) least f) ((M.cutP (sms xs) f).take k)) f ((M.cutP (sms xs) f).getD k 0)) := fun k hk => M.bqI_take _ _ _ _ _ hk
      have UD : Hid (∀ c, (0 ≤ M.spU (sms xs) f c ∧ M.spU (sms xs) f c ≤ 432000000000) ∧ (0 ≤ M.spD (sms xs) f c ∧ M.spD (sms xs) f c ≤ 3600)) := fun c => AA.out.ud f c
      have TB : Hid (∀ c b, -60000 ≤ M.tB (sms xs) f c b ∧ M.tB (sms xs) f c b ≤ 60000 ∧ 0 ≤ M.nB (sms xs) f c b ∧ M.nB (sms xs) f c b ≤ 60) := fun c b => AA.out.two f c b
      have cl60 : Hid ((M.cutP (sms xs) f).length ≤ 60) := by
        unfold Hid M.cutP M.risL
        have e1 := compact_le (M.sortI (M.colL (sms xs) f))
        rw [M.sort_length, M.colL_len, SL.out] at e1
        rw [List.length_drop]
        omega
      obtain ⟨S, hS⟩ : ∃ S, S = M.bqI (sms xs) least f (M.bqA (sms xs) least f) := ⟨_, rfl⟩
      have S0 : Hid (S [] = M.bqA (sms xs) least f) := by rw [hS]; rfl
      rw [← hS] at BS SI BT
      rw [← S0.out] at Q
      rw [← S0.out]
      have CL := hide (rfl : M.cutP (sms xs) f = M.cutP (sms xs) f)
      clear GCC PPC hS HV
      go_upto_region 5 with fail
      generalize M.cutP (sms xs) f = C at *
      go_wp2_with (go_at_call 54; refine CC.out.mono ?_; rintro e w4 ⟨ag, cg, rfl, hra, hb4, hfr⟩; have RA := hide hra; have Q4 := hide (Q.out.up hb4); have FR : Hid (∀ p, ag = some p → b6 < p.block ∧ b8 < p.block) := (fun p hp => ⟨Nat.lt_of_lt_of_le Q.out.l6.2 (hfr p hp), Nat.lt_of_lt_of_le Q.out.l8.2 (hfr p hp)⟩); clear hra hb4 hfr)
      have c60 := cl60.out
      clear CC Q cl60 CL
      go_loopw [7, 26] (fun v i wr => ∃ k : Nat, k ≤ C.length ∧ i = .int .i64 k ∧ v = .bool (S (C.take k)).2.2.2.2 ∧ Hid (Rd wr ag C) ∧ Hid (Bq w wr b6 b8 (S (C.take k)))) (fun _ i _ => C.length - (intOf i).toNat)
      case atStart => exact ⟨0, Nat.zero_le _, rfl, rfl, RA, Q4⟩
      case round =>
        obtain ⟨k, hk, rfl, rfl, R, Q⟩ := hrel
        clear RA Q4
        by_cases klt : k < C.length
        · have BK := hide (BT.out k klt)
          have SK := hide (SI.out (C.take k))
          obtain ⟨bc, oc, rfl, hbc, hcc⟩ := R.out.2 (by intro e; rw [e] at klt; simp at klt)
          have hck := hcc k klt
          have kz : (k : Int) < (C.length : Int) := by omega
          generalize C.getD k 0 = cu at *
          generalize S (C.take k) = st at *
          have ET : Hid (((partX xs f cu true).length : Int) = M.nB (sms xs) f cu true) := partX_len _ _ _ _
          have EF : Hid (((partX xs f cu false).length : Int) = M.nB (sms xs) f cu false) := partX_len _ _ _ _
          have ST : Hid (M.sumT (sms (partX xs f cu true)) = M.tB (sms xs) f cu true) := by unfold Hid M.tB; rw [partX_sms]
          have SF : Hid (M.sumT (sms (partX xs f cu false)) = M.tB (sms xs) f cu false) := by unfold Hid M.tB; rw [partX_sms]
          have PCK := hide (PC.out cu)
          have RT := hide (fun pa cap W hW => RR.out pa f cu true cap W hW)
          have RF := hide (fun pa cap W hW => RR.out pa f cu false cap W hW)
          rw [ST.out] at RT
          rw [SF.out] at RF
          obtain ⟨ud1, ud2⟩ := UD.out cu
          obtain ⟨t1, t2, n1, n2⟩ := TB.out cu true
          obtain ⟨t3, t4, n3, n4⟩ := TB.out cu false
          have EU : Hid (M.spU (sms xs) f cu = M.tB (sms xs) f cu true * M.tB (sms xs) f cu true * M.nB (sms xs) f cu false + M.tB (sms xs) f cu false * M.tB (sms xs) f cu false * M.nB (sms xs) f cu true) := rfl
          have ED : Hid (M.spD (sms xs) f cu = M.nB (sms xs) f cu true * M.nB (sms xs) f cu false) := rfl
          have FEW : Hid (M.nB (sms xs) f cu true < least ∨ M.nB (sms xs) f cu false < least → M.bqN (sms xs) least st f cu = st) := M.bqN_few
          have YES : Hid (¬ (M.nB (sms xs) f cu true < least ∨ M.nB (sms xs) f cu false < least) → st.1 * M.spD (sms xs) f cu < M.spU (sms xs) f cu * st.2.1 → M.bqN (sms xs) least st f cu = (M.spU (sms xs) f cu, M.spD (sms xs) f cu, f, cu, true)) := M.bqN_yes
          have NO : Hid (¬ (M.nB (sms xs) f cu true < least ∨ M.nB (sms xs) f cu false < least) → ¬ st.1 * M.spD (sms xs) f cu < M.spU (sms xs) f cu * st.2.1 → M.bqN (sms xs) least st f cu = st) := M.bqN_no
          rw [← ET.out, ← EF.out] at EU ED FEW YES NO
          rw [← ET.out] at n1 n2
          rw [← EF.out] at n3 n4
          have G0 : Hid (∀ W, Below wr.heap.size wr W → Rd W (some ⟨bc, oc, none⟩) C) := fun W hW => R.out.below hW
          clear UD TB PC RR ET EF ST SF SI BT BS S0 HL AA SL R hcc
          generalize M.spU (sms xs) f cu = U at *
          generalize M.spD (sms xs) f cu = D at *
          generalize M.bqN (sms xs) least st f cu = NW at *
          generalize M.tB (sms xs) f cu true = tT at *
          generalize M.tB (sms xs) f cu false = tF at *
          generalize partX xs f cu true = XT at *
          generalize partX xs f cu false = XF at *
          go_upto_region 9 with fail
          obtain ⟨w5, hw5⟩ : ∃ W, W = wr.alloc (.cells #[.int .i64 (f : Nat), .int .i64 cu] 67) := ⟨_, rfl⟩
          rw [← hw5]
          have K5 : Hid (Below wr.heap.size wr w5) := by unfold Hid; rw [hw5]; exact (Below.refl _ wr).alloc (Nat.le_refl _) _
          have N5 : Hid (∀ W, Below w5.heap.size w5 W → W.cell? ⟨wr.heap.size, 0, none⟩ = some (.int .i64 (f : Nat)) ∧ W.cell? ⟨wr.heap.size, 1, none⟩ = some (.int .i64 cu)) := fun W hW => ⟨(new_kept hw5 hW).1 0 _ rfl, (new_kept hw5 hW).1 1 _ rfl⟩
          obtain ⟨y0, y1⟩ := N5.out w5 (Below.refl _ _)
          have P5 := hide (PCK.out w5 (below_on Q.out.b K5.out))
          clear hw5 PCK hck
          go_upto_region 10 with (go_at_call 55; refine P5.out.mono ?_; rintro e w6 ⟨pa, pac, pb, pbc, rfl, hra, hrb, hk6, _, _⟩; have RA := hide hra; have RB := hide hrb; have K6 := hide hk6; clear hra hrb hk6)
          have KR6 := hide (below_on K5.out K6.out)
          clear P5 y0 y1
          by_cases few : (XT.length : Int) < least ∨ (XF.length : Int) < least
          · have EN : Hid (S (C.take (k + 1)) = st) := by unfold Hid; rw [BK.out]; exact FEW.out few
            have QN : Hid (Bq w w6 b6 b8 (S (C.take (k + 1)))) := by unfold Hid; rw [EN.out]; exact Q.out.up KR6.out
            have GN := hide (G0.out w6 KR6.out)
            by_cases fa : (XT.length : Int) < least
            · have q1 : decide ((XT.length : Int) < least) = true := decide_eq_true fa
              clear few fa FEW YES NO EU ED RT RF Q RA RB K5 K6 KR6 N5 G0 BK
              go_wp2
              go_roundw
              case rel => exact ⟨k + 1, by omega, by go_num, by rw [EN.out], GN, QN⟩
              case measure => simp [intOf]; omega
            · have q1 : decide ((XT.length : Int) < least) = false := decide_eq_false fa
              have q2 : decide ((XF.length : Int) < least) = true := decide_eq_true (by omega)
              clear few fa FEW YES NO EU ED RT RF Q RA RB K5 K6 KR6 N5 G0 BK
              go_wp2
              go_roundw
              case rel => exact ⟨k + 1, by omega, by go_num, by rw [EN.out], GN, QN⟩
              case measure => simp [intOf]; omega
          · have q1 : decide ((XT.length : Int) < least) = false := decide_eq_false (by omega)
            have q2 : decide ((XF.length : Int) < least) = false := decide_eq_false (by omega)
            have YES2 := hide (YES.out few)
            have NO2 := hide (NO.out few)
            clear few FEW YES NO
            have z1 := M.sqR_in t1 t2
            have z2 := M.sqR_in t3 t4
            have z3 := M.mulp_in z1.1 z1.2 n3 n4
            have z4 := M.mulp_in z2.1 z2.2 n1 n2
            have z5 := M.mulp_in n1 n2 n3 n4
            have PL := hide (fun W => plus_any (tT * tT) (XT.length : Int) (tF * tF) (XF.length : Int) W (wrap_in5 _ (by omega) (by omega)) (wrap_in5 _ (by omega) (by omega)) (wrap_in5 _ (by omega) (by omega)) (wrap_in5 _ (by omega) (by omega)))
            rw [← EU.out, ← ED.out] at PL
            obtain ⟨⟨st1, st2⟩, st3, st4⟩ := SK.out
            have v1 := M.mulp_in ud1.1 ud1.2 st3 st4
            have v2 := M.mulp_in st1 st2 ud2.1 ud2.2
            have MO := hide (fun W => more_any U D st.1 st.2.1 W (wrap_in5 _ (by omega) (by omega)) (wrap_in5 _ (by omega) (by omega)))
            have RT6 := hide (RT.out pa pac w6 RA.out)
            clear z1 z2 z3 z4 z5 v1 v2 st1 st2 st3 st4 EU ED RT SK t1 t2 t3 t4
            generalize tT * tT = tt at *
            generalize tF * tF = tf at *
            go_upto_region 12 with (first
              | (go_at_call 53; have lean := K7; refine (RF.out pb pbc _ (RB.out.below K7.out)).mono ?_; rintro e w8 ⟨rfl, hk8⟩; have K8 := hide (below_on K7.out hk8); clear hk8)
              | (go_at_call 53; refine RT6.out.mono ?_; rintro e w7 ⟨rfl, hk7⟩; have K7 := hide hk7; clear hk7)
              | (go_at_call 56; refine (PL.out _).mono ?_; rintro e w9 ⟨rfl, hk9⟩; have K9 := hide (below_on K8.out hk9); clear hk9))
            obtain ⟨w10, hw10⟩ : ∃ W, W = w9.alloc (.cells #[.int .i64 U, .int .i64 D] 91) := ⟨_, rfl⟩
            rw [← hw10]
            have K10 : Hid (Below w9.heap.size w9 w10) := by unfold Hid; rw [hw10]; exact (Below.refl _ w9).alloc (Nat.le_refl _) _
            have N10 : Hid (∀ W, Below w10.heap.size w10 W → W.cell? ⟨w9.heap.size, 0, none⟩ = some (.int .i64 U) ∧ W.cell? ⟨w9.heap.size, 1, none⟩ = some (.int .i64 D)) := fun W hW => ⟨(new_kept hw10 hW).1 0 _ rfl, (new_kept hw10 hW).1 1 _ rfl⟩
            have K5X := hide (below_on (below_on K6.out K9.out) K10.out)
            have Q10 := hide (Q.out.up (below_on K5.out K5X.out))
            obtain ⟨a0, a1⟩ := N10.out w10 (Below.refl _ _)
            have a2 := Q10.out.c2
            have a3 := Q10.out.c3
            have M10 := hide (MO.out w10)
            have LB : Hid (b6 < wr.heap.size ∧ b8 < wr.heap.size ∧ wr.heap.size ≤ w9.heap.size) := ⟨Q.out.l6.2, Q.out.l8.2, (below_on K5.out (below_on K6.out K9.out)).size⟩
            clear hw10 RT6 RF PL MO K7 K8 RA RB Q
            by_cases mo : st.1 * D < U * st.2.1
            · have EN : Hid (S (C.take (k + 1)) = (U, D, f, cu, true)) := by unfold Hid; rw [BK.out]; exact YES2.out mo
              rw [decide_eq_true mo] at M10
              clear mo YES2 NO2 BK
              go_upto_region 13 with (go_at_call 57; refine M10.out.mono ?_; rintro e w11 ⟨rfl, hk11⟩; have K11 := hide hk11; clear hk11)
              have Q11 := hide (Q10.out.up K11.out)
              have K5Y := hide (below_on K5X.out K11.out)
              obtain ⟨h0, h1'⟩ := N10.out w11 K11.out
              obtain ⟨g0, g1⟩ := N5.out w11 K5Y.out
              have d0 := Q11.out.c0
              have d1 := Q11.out.c1
              have d2 := Q11.out.c2
              have d3 := Q11.out.c3
              have p0 := Q11.out.f6 0
              have p1 := Q11.out.f6 1
              have p2 := Q11.out.f8 0
              have p3 := Q11.out.f8 1
              have GN := hide (G0.out w11 (below_on K5.out K5Y.out))
              clear M10 N10 N5 Q10 a0 a1 a2 a3 K5X K10 K9 K6 K11 KR6
              have ne1 : ¬ b6 = b8 := Q11.out.ne
              have ne2 : ¬ b8 = b6 := fun e => Q11.out.ne e.symm
              obtain ⟨m1, m2, m3⟩ := LB.out
              have o1 : ¬ b6 = w9.heap.size := by omega
              have o2 : ¬ w9.heap.size = b6 := by omega
              have o3 : ¬ b8 = w9.heap.size := by omega
              have o4 : ¬ w9.heap.size = b8 := by omega
              have o5 : ¬ b6 = wr.heap.size := by omega
              have o6 : ¬ wr.heap.size = b6 := by omega
              have o7 : ¬ b8 = wr.heap.size := by omega
              have o8 : ¬ wr.heap.size = b8 := by omega
              clear m1 m2 m3
              have fr := FR.out _ rfl
              have GS : Hid (Rd ((((w11.setCell ⟨b6, 0, none⟩ (.int .i64 (f : Nat))).setCell ⟨b6, 1, none⟩ (.int .i64 cu)).setCell ⟨b8, 0, none⟩ (.int .i64 U)).setCell ⟨b8, 1, none⟩ (.int .i64 D)).drew (some ⟨bc, oc, none⟩) C) := by
                have z6 : ∀ p, (some ⟨bc, oc, none⟩ : Option Addr) = some p → (some b6 : Option Nat) ≠ some p.block := fun p hp e => by cases hp; cases e; exact Nat.lt_irrefl _ fr.1
                have z8 : ∀ p, (some ⟨bc, oc, none⟩ : Option Addr) = some p → (some b8 : Option Nat) ≠ some p.block := fun p hp e => by cases hp; cases e; exact Nat.lt_irrefl _ fr.2
                exact ((((GN.out.grown z6 grown_set).grown z6 grown_set).grown z8 grown_set).grown z8 grown_set).below ((Below.refl _ _).drew)
              have QS : Hid (Bq w ((((w11.setCell ⟨b6, 0, none⟩ (.int .i64 (f : Nat))).setCell ⟨b6, 1, none⟩ (.int .i64 cu)).setCell ⟨b8, 0, none⟩ (.int .i64 U)).setCell ⟨b8, 1, none⟩ (.int .i64 D)).drew b6 b8 (S (C.take (k + 1)))) := by
                unfold Hid; rw [EN.out]; exact (Q11.out.put (U, D, f, cu, true)).up ((Below.refl _ _).drew)
              clear fr
              go_region
              go_wp2
              go_roundw
              case rel => exact ⟨k + 1, by omega, by go_num, by rw [EN.out], GS, QS⟩
              case measure => simp [intOf]; omega
            · have EN : Hid (S (C.take (k + 1)) = st) := by unfold Hid; rw [BK.out]; exact NO2.out (Int.not_lt.1 mo)
              rw [decide_eq_false mo] at M10
              clear mo YES2 NO2 BK
              go_wp2_with (go_at_call 57; refine M10.out.mono ?_; rintro e w11 ⟨rfl, hk11⟩; have QN : Hid (Bq w w11 b6 b8 (S (C.take (k + 1)))) := (by unfold Hid; rw [EN.out]; exact Q10.out.up hk11); have GN := hide (G0.out w11 (below_on K5.out (below_on K5X.out hk11))); clear hk11)
              go_roundw
              case rel => exact ⟨k + 1, by omega, by go_num, by rw [EN.out], GN, QN⟩
              case measure => simp [intOf]; omega
        · have ke : C.take k = C := List.take_of_length_le (by omega)
          have QE : Hid (Bq w wr b6 b8 (M.bqA (sms xs) least (f + 1))) := by unfold Hid; rw [BS.out, ← ke]; exact Q.out
          have VE : Hid ((S (C.take k)).2.2.2.2 = (M.bqA (sms xs) least (f + 1)).2.2.2.2) := by unfold Hid; rw [BS.out, ke]
          clear ke R Q BT SI BS UD TB PC RR
          generalize (S (C.take k)).2.2.2.2 = fo at *
          go_wp2
          go_roundw
          case rel => exact ⟨f + 1, by omega, by go_num, by rw [VE.out], QE⟩
          case measure => simp [intOf]; omega
    · have fe : f = m := by omega
      have q := Q.out
      rw [fe, ← HV.out] at q
      have E : Hid ((M.bqA (sms xs) least f).2.2.2.2 = V.2.2.2.2) := by unfold Hid; rw [fe, HV.out]
      have QV := hide q
      have x0 := q.c0
      have x1 := q.c1
      have f0 := q.f6 0
      have f1 := q.f6 1
      clear Q q fe HV GCC PPC RR HL AA
      generalize (M.bqA (sms xs) least f).2.2.2.2 = fo at *
      go_wp2
      obtain ⟨e0, e1⟩ := set2 (x0 := .int .i64 (V.2.2.1 : Nat)) (x1 := .int .i64 V.2.2.2.1) x0 x1
      refine bodyPost_ret (v := .tuple #[.agg #[.int .i64 (V.2.2.1 : Nat), .int .i64 V.2.2.2.1], .bool fo]) (by simp [results, Tryz.results31, go_sem, e0, e1]) rfl ?_
      exact ⟨by rw [E.out], below2 QV.out.b QV.out.l6.1⟩

end Go.Proofs.YtpblpfleiilehafGreatDoor

namespace Go.Proofs.YtpblpfleiilehafGreatDoor
open Go.ChangeShapes Go.WideShapes Go.ChangeAt Go.RowKit Go.Shelf Go.Lib Go.Sort
set_option linter.unusedVariables false

/-- the library's sort, of a row of our own -/
theorem sort_own (base : Nat) (v : Value) (F : List Int) (w : World) (hown : w.ownsRow base 3 1 v F.length (F.map (Value.int .i64))) (hsz : F.length < 4611686018427387904) (hbase : base ≤ w.heap.size) :
    Calls Tryz.prog 85 #[v] w fun e w' => e = .returned (.tuple #[]) ∧ w'.ownsRow base 3 1 v F.length ((M.sortI F).map (Value.int .i64)) ∧ Below base w w' := by
  rcases hown.2 with ⟨rfl, h0⟩ | ⟨g, cap, cur, rfl, hb0, hb, h1, h2, h3, h4⟩
  · have e : F = [] := List.length_eq_zero_iff.1 h0
    subst e
    refine (Tryz.slices_Sort_int_none none 0 w).mono ?_
    rintro e w' ⟨rfl, rfl⟩
    exact ⟨rfl, by rw [show M.sortI [] = [] from by simp [M.sortI]]; exact hown, Below.refl _ _⟩
  · have hg : g < w.heap.size := (Array.getElem?_eq_some_iff.1 hb).1
    refine (Tryz.slices_Sort_int g 0 cap F w (holds_of_blockI hb (by simpa using h4)) hg hsz).mono ?_
    rintro e w' ⟨rfl, n, os, rfl⟩
    refine ⟨rfl, ownsRow_sortedI (by simp) hb0 hb h1 h2 h3, ?_⟩
    exact (Below.refl _ w).grown (grownBy_sortedI _) hbase (fun k hk => by cases hk; exact hb0)

theorem own_cut {w : World} {base g n cap m : Nat} {L K : List Int} (h : w.ownsRow base 3 1 (.slice (some ⟨g, 0, none⟩) n cap) n ((L ++ K).map (Value.int .i64))) (hm : m = L.length) :
    w.ownsRow base 3 1 (.slice (some ⟨g, 0, none⟩) m cap) m (L.map (Value.int .i64)) := by
  subst hm
  have hl : (L ++ K).length = n := by have := h.1; simpa using this
  rcases h.2 with ⟨h0, _⟩ | ⟨g', cap', cur, hv, hbase, hb, h1, h2, h3, h4⟩
  · cases h0
  cases hv
  rw [List.length_append] at hl
  refine ⟨by simp, .inr ⟨g, cap, cur, rfl, hbase, hb, by omega, h2, h3, ?_⟩⟩
  have : cur.toList.take (L.length * 1) = (cur.toList.take (n * 1)).take (L.length * 1) := by rw [List.take_take, Nat.min_eq_left (by omega)]
  rw [this, h4, List.map_append, Nat.mul_one]
  exact List.take_left' (by simp)

theorem compact_len (l : List Int) : (Lib.compact l).length ≤ l.length := by
  unfold Lib.compact Lib.compactUpTo
  rw [List.length_map]
  exact Nat.le_trans (List.length_filter_le _ _) (by simp)

/-- the library's Compact, of a row of our own -/
theorem compact_own (base : Nat) (v : Value) (F : List Int) (w : World) (hown : w.ownsRow base 3 1 v F.length (F.map (Value.int .i64))) (hsz : F.length ≤ 1000000) (hbase : base ≤ w.heap.size) :
    Calls Tryz.prog 86 #[v] w fun e w' => ∃ v', e = .returned v' ∧ w'.ownsRow base 3 1 v' (Lib.compact F).length ((Lib.compact F).map (Value.int .i64)) ∧ Below base w w' := by
  rcases hown.2 with ⟨rfl, h0⟩ | ⟨g, cap, cur, rfl, hb0, hb, h1, h2, h3, h4⟩
  · have e : F = [] := List.length_eq_zero_iff.1 h0
    subst e
    refine (Tryz.slices_Compact_int_empty none 0 w).mono ?_
    rintro e w' ⟨rfl, rfl⟩
    exact ⟨_, rfl, hown, Below.refl _ _⟩
  · have hg : g < w.heap.size := (Array.getElem?_eq_some_iff.1 hb).1
    refine (Tryz.slices_Compact_int g 0 cap F w (holds_of_blockI hb (by simpa using h4)) (by omega) h1).mono ?_
    rintro e w' ⟨rfl, q, rfl⟩
    have hle := compact_len F
    have hlen : (Lib.compact F ++ List.replicate (F.length - (Lib.compact F).length) 0).length = F.length := by rw [List.length_append, List.length_replicate]; omega
    have := ownsRow_sortedI (w := w) (base := base) (g := g) (cap := cap) (n := q) (e := 3) (os := #[]) (cur := cur) (ss := F) (ts := Lib.compact F ++ List.replicate (F.length - (Lib.compact F).length) 0) hlen hb0 hb h1 h2 h3
    have hb2 : Below base w (grow (putRow (Value.int .i64) (Sort.ahead w q) g 0 (Lib.compact F ++ List.replicate (F.length - (Lib.compact F).length) 0).toArray) #[]) := (Below.refl _ w).grown (grownBy_sortedI _) hbase (fun k hk => by cases hk; exact hb0)
    rw [grow_empty] at this hb2
    exact ⟨_, rfl, own_cut this rfl, hb2⟩

end Go.Proofs.YtpblpfleiilehafGreatDoor
