/-
  A grove as numbers and as bytes, and read again number by number; no condition beyond those named.
-/
import Derived.Test.YtnnhpbnnombpmaaDoorMathCa
import Derived.Test.YtnnhpbnnombpmaaDoorMathG
namespace Go.Proofs.YtnnhpbnnombpmaaDoor.M
set_option linter.unusedVariables false

/-! ### written -/
def ndL (n : Nd) : List Int := if nf n = -1 then [nf n, nv n] else [nf n, nc n, nl n, nr n, if ns n = true then 1 else 0]
def trL (x : Int × List Nd) : List Int := x.1 :: (x.2.length : Int) :: x.2.flatMap ndL
def grL (g : Gv) : List Int := gf g :: gw g :: ((gt g).length : Int) :: ((gs g).zip (gt g)).flatMap trL
def encB (g : Gv) : List Nat := bysL (grL g)
def encF (g : Gv) : Int := if groveF g ≠ 0 then groveF g else if 6000 < (encB g).length then 4 else 0
def encV (g : Gv) : List Nat := if encF g = 0 then encB g else []

/-! ### read: where the last number begins, where it ends, what is wrong -/
structure In where
  at' : Nat
  fin : Nat
  bad : Int
def rNum (b : List Nat) (s : In) : Int × In := if s.bad ≠ 0 then (0, s) else ((getL (b.drop s.fin)).1, ⟨s.fin, s.fin + (getL (b.drop s.fin)).2.1, (getL (b.drop s.fin)).2.2⟩)
def rMany (b : List Nat) (most : Int) (s : In) : Int × In :=
  if (rNum b s).2.bad = 0 ∧ ((rNum b s).1 < 1 ∨ most < (rNum b s).1) then (0, { (rNum b s).2 with bad := 1 })
  else if (rNum b s).2.bad ≠ 0 then (0, (rNum b s).2) else rNum b s
def rAsk (b : List Nat) (f : Int) (s : In) : Nd × In :=
  let c := rNum b s
  let l := rNum b c.2
  let r := rNum b l.2
  let x := rNum b r.2
  ((f, c.1, l.1, r.1, decide (x.1 = 1), 0), if x.2.bad = 0 ∧ x.1 ≠ 0 ∧ x.1 ≠ 1 then { x.2 with bad := 2 } else x.2)
def rNode (b : List Nat) (s : In) : Nd × In :=
  if (rNum b s).2.bad = 0 ∧ (rNum b s).1 = -1 then (((rNum b s).1, 0, 0, 0, false, (rNum b (rNum b s).2).1), (rNum b (rNum b s).2).2)
  else rAsk b (rNum b s).1 (rNum b s).2
/-- so many nodes, as long as nothing is wrong -/
def rNodes (b : List Nat) : Nat → In → List Nd × In
  | 0, s => ([], s)
  | k + 1, s => if s.bad ≠ 0 then ([], s) else ((rNode b s).1 :: (rNodes b k (rNode b s).2).1, (rNodes b k (rNode b s).2).2)
def rTree (b : List Nat) (s : In) : (Int × List Nd) × In :=
  (((rNum b s).1, (rNodes b (rMany b 63 (rNum b s).2).1.toNat (rMany b 63 (rNum b s).2).2).1), (rNodes b (rMany b 63 (rNum b s).2).1.toNat (rMany b 63 (rNum b s).2).2).2)
def rTrees (b : List Nat) : Nat → In → List (Int × List Nd) × In
  | 0, s => ([], s)
  | k + 1, s => if s.bad ≠ 0 then ([], s) else ((rTree b s).1 :: (rTrees b k (rTree b s).2).1, (rTrees b k (rTree b s).2).2)
def in0 : In := ⟨0, 0, 0⟩
/-- features, way, and how many trees -/
def rHead (b : List Nat) : (Int × Int × Int) × In := (((rNum b in0).1, (rNum b (rNum b in0).2).1, (rMany b 12 (rNum b (rNum b in0).2).2).1), (rMany b 12 (rNum b (rNum b in0).2).2).2)
def rAll (b : List Nat) : List (Int × List Nd) × In := rTrees b (rHead b).1.2.2.toNat (rHead b).2
def rGrove (b : List Nat) : Gv := ((rHead b).1.1, (rHead b).1.2.1, (rAll b).1.map (·.1), (rAll b).1.map (·.2))
/-- the grove of bytes; where what is wrong begins; how -/
def decF (b : List Nat) : Nat × Int :=
  if 6000 < b.length then (0, 4)
  else if (rAll b).2.bad ≠ 0 then ((rAll b).2.at', (rAll b).2.bad)
  else if (rAll b).2.fin ≠ b.length then ((rAll b).2.fin, 2)
  else if groveF (rGrove b) ≠ 0 then ((rAll b).2.fin, groveF (rGrove b))
  else (0, 0)
def decV (b : List Nat) : Gv := if (decF b).2 = 0 then rGrove b else (0, 0, [], [])

/-! ### number by number along what was written -/
/-- from where the last number ends, bytes are the first m of those of these numbers -/
def Aln (b : List Nat) (s : In) (l : List Int) (m : Nat) : Prop := s.bad = 0 ∧ s.fin ≤ b.length ∧ b.drop s.fin = (bysL l).take m
/-- cut off: what is wrong begins within -/
def Cut8 (b : List Nat) (s : In) : Prop := s.bad = 8 ∧ s.at' ≤ b.length
theorem rNum_bad {b : List Nat} {s : In} (h : s.bad ≠ 0) : rNum b s = (0, s) := by unfold rNum; rw [if_pos h]
theorem rNum_go {b : List Nat} {s : In} (h : s.bad = 0) : rNum b s = ((getL (b.drop s.fin)).1, ⟨s.fin, s.fin + (getL (b.drop s.fin)).2.1, (getL (b.drop s.fin)).2.2⟩) := by unfold rNum; rw [if_neg (by simp [h])]
/-- whole: the number is read, and the rest lies behind it; cut off: it is told -/
theorem rNum_aln {b : List Nat} {s : In} {n : Int} {l : List Int} {m : Nat} (hn : I64 n) (h : Aln b s (n :: l) m) :
    ((numL n).length ≤ m ∧ (rNum b s).1 = n ∧ Aln b (rNum b s).2 l (m - (numL n).length) ∧ (rNum b s).2.fin = s.fin + (numL n).length) ∨ (m < (numL n).length ∧ Cut8 b (rNum b s).2) := by
  obtain ⟨h1, h2, h3⟩ := h
  rw [bys_cons] at h3
  rw [rNum_go h1]
  by_cases q : (numL n).length ≤ m
  · left
    rw [List.take_append, List.take_of_length_le q] at h3
    have e := get_num hn.1 hn.2 ((bysL l).take (m - (numL n).length))
    rw [h3, e]
    have hlen : b.length - s.fin = (numL n).length + ((bysL l).take (m - (numL n).length)).length := by
      have := congrArg List.length h3
      rw [List.length_drop, List.length_append] at this
      exact this
    refine ⟨q, rfl, ⟨rfl, ?_, ?_⟩, rfl⟩
    · show s.fin + (numL n).length ≤ b.length
      omega
    · show b.drop (s.fin + (numL n).length) = _
      rw [← List.drop_drop, h3, List.drop_left]
  · right
    have q' : m < (numL n).length := by omega
    rw [List.take_append_of_le_length (by omega)] at h3
    rw [h3, get_cut hn.1 hn.2 q']
    exact ⟨q', rfl, h2⟩
theorem rMany_aln {b : List Nat} {s : In} {n most : Int} {l : List Int} {m : Nat} (hn : I64 n) (h1 : 1 ≤ n) (h2 : n ≤ most) (h : Aln b s (n :: l) m) :
    ((numL n).length ≤ m ∧ (rMany b most s).1 = n ∧ Aln b (rMany b most s).2 l (m - (numL n).length) ∧ (rMany b most s).2.fin = s.fin + (numL n).length) ∨ (m < (numL n).length ∧ Cut8 b (rMany b most s).2) := by
  rcases rNum_aln hn h with ⟨a1, a2, a3, a4⟩ | ⟨a1, a2⟩
  · left
    unfold rMany
    rw [if_neg (by rw [a2]; omega), if_neg (by simp [a3.1])]
    exact ⟨a1, a2, a3, a4⟩
  · right
    unfold rMany
    rw [if_neg (by rw [a2.1]; omega), if_pos (by rw [a2.1]; decide)]
    exact ⟨a1, a2⟩
theorem cut_num {b : List Nat} {s : In} (h : Cut8 b s) : Cut8 b (rNum b s).2 := by rw [rNum_bad (by rw [h.1]; decide)]; exact h
theorem cut_many {b : List Nat} {s : In} {most : Int} (h : Cut8 b s) : Cut8 b (rMany b most s).2 := by
  have h' := cut_num h
  unfold rMany
  rw [if_neg (by rw [h'.1]; omega), if_pos (by rw [h'.1]; decide)]
  exact h'
theorem cut_ask {b : List Nat} {s : In} {f : Int} (h : Cut8 b s) : Cut8 b (rAsk b f s).2 := by
  have h' := cut_num (cut_num (cut_num (cut_num h)))
  unfold rAsk
  simp only
  rw [if_neg (by rw [h'.1]; omega)]
  exact h'
theorem cut_nodes {b : List Nat} {s : In} (h : Cut8 b s) (k : Nat) : rNodes b k s = ([], s) := by
  cases k with
  | zero => rfl
  | succ k => show (if _ then _ else _) = _; rw [if_pos (by rw [h.1]; decide)]
theorem cut_trees {b : List Nat} {s : In} (h : Cut8 b s) (k : Nat) : rTrees b k s = ([], s) := by
  cases k with
  | zero => rfl
  | succ k => show (if _ then _ else _) = _; rw [if_pos (by rw [h.1]; decide)]
/-- a node that may be written -/
def NdOk (n : Nd) : Prop := I64 (nf n) ∧ I64 (nc n) ∧ I64 (nl n) ∧ I64 (nr n) ∧ I64 (nv n) ∧ (nf n = -1 → n = (-1, 0, 0, 0, false, nv n)) ∧ (nf n ≠ -1 → nv n = 0)
theorem i64_01 (b : Bool) : I64 (if b = true then 1 else 0) := by unfold I64; split <;> omega
theorem rNode_aln {b : List Nat} {s : In} {n : Nd} {l : List Int} {m : Nat} (hn : NdOk n) (h : Aln b s (ndL n ++ l) m) :
    ((bysL (ndL n)).length ≤ m ∧ (rNode b s).1 = n ∧ Aln b (rNode b s).2 l (m - (bysL (ndL n)).length)) ∨ (m < (bysL (ndL n)).length ∧ Cut8 b (rNode b s).2) := by
  obtain ⟨i0, i1, i2, i3, i4, hl, ha⟩ := hn
  by_cases q : nf n = -1
  · have e : ndL n = [nf n, nv n] := by unfold ndL; rw [if_pos q]
    have el : (bysL (ndL n)).length = (numL (nf n)).length + (numL (nv n)).length := by rw [e, bys_cons, bys_cons, List.length_append, List.length_append]; rfl
    rw [e] at h
    rw [el]
    have h' : Aln b s (nf n :: (nv n :: l)) m := h
    rcases rNum_aln i0 h' with ⟨a1, a2, a3, a4⟩ | ⟨a1, a2⟩
    · have en : rNode b s = (((rNum b s).1, 0, 0, 0, false, (rNum b (rNum b s).2).1), (rNum b (rNum b s).2).2) := by unfold rNode; rw [if_pos ⟨a3.1, by rw [a2]; exact q⟩]
      rw [en]
      rcases rNum_aln i4 a3 with ⟨b1, b2, b3, b4⟩ | ⟨b1, b2⟩
      · left
        refine ⟨by omega, ?_, ?_⟩
        · show ((rNum b s).1, 0, 0, 0, false, (rNum b (rNum b s).2).1) = n
          rw [a2, b2, hl q]
          rfl
        · rw [show m - ((numL (nf n)).length + (numL (nv n)).length) = m - (numL (nf n)).length - (numL (nv n)).length by omega]
          exact b3
      · right
        exact ⟨by omega, b2⟩
    · right
      have en : rNode b s = rAsk b (rNum b s).1 (rNum b s).2 := by unfold rNode; rw [if_neg (by rw [a2.1]; omega)]
      rw [en]
      exact ⟨by omega, cut_ask a2⟩
  · have e : ndL n = [nf n, nc n, nl n, nr n, if ns n = true then 1 else 0] := by unfold ndL; rw [if_neg q]
    obtain ⟨x, hx⟩ : ∃ x : Int, x = if ns n = true then 1 else 0 := ⟨_, rfl⟩
    rw [← hx] at e
    have ix : I64 x := by rw [hx]; exact i64_01 _
    have el : (bysL (ndL n)).length = (numL (nf n)).length + (numL (nc n)).length + (numL (nl n)).length + (numL (nr n)).length + (numL x).length := by
      rw [e]
      simp only [bys_cons, List.length_append]
      show _ + (_ + (_ + (_ + (_ + 0)))) = _
      omega
    rw [e] at h
    rw [el]
    have h' : Aln b s (nf n :: (nc n :: (nl n :: (nr n :: (x :: l))))) m := h
    rcases rNum_aln i0 h' with ⟨a1, a2, a3, a4⟩ | ⟨a1, a2⟩
    · have en : rNode b s = rAsk b (rNum b s).1 (rNum b s).2 := by unfold rNode; rw [if_neg (by rw [a2]; exact fun z => q z.2)]
      rw [en]
      rcases rNum_aln i1 a3 with ⟨b1, b2, b3, b4⟩ | ⟨b1, b2⟩
      · rcases rNum_aln i2 b3 with ⟨c1, c2, c3, c4⟩ | ⟨c1, c2⟩
        · rcases rNum_aln i3 c3 with ⟨d1, d2, d3, d4⟩ | ⟨d1, d2⟩
          · rcases rNum_aln ix d3 with ⟨e1, e2, e3, e4⟩ | ⟨e1, e2⟩
            · left
              have x01 : ¬ (x ≠ 0 ∧ x ≠ 1) := by rw [hx]; split <;> omega
              refine ⟨by omega, ?_, ?_⟩
              · unfold rAsk
                simp only
                rw [a2, b2, c2, d2, e2]
                have es : decide (x = 1) = ns n := by rw [hx]; cases ns n <;> rfl
                rw [es]
                have ev := ha q
                show (nf n, nc n, nl n, nr n, ns n, (0 : Int)) = n
                rw [← ev]
                rfl
              · unfold rAsk
                simp only
                rw [if_neg (by rw [e2]; exact fun z => x01 z.2)]
                rw [show m - ((numL (nf n)).length + (numL (nc n)).length + (numL (nl n)).length + (numL (nr n)).length + (numL x).length) = m - (numL (nf n)).length - (numL (nc n)).length - (numL (nl n)).length - (numL (nr n)).length - (numL x).length by omega]
                exact e3
            · right
              refine ⟨by omega, ?_⟩
              unfold rAsk
              simp only
              rw [if_neg (by rw [e2.1]; omega)]
              exact e2
          · right
            refine ⟨by omega, ?_⟩
            have z := cut_num d2
            unfold rAsk
            simp only
            rw [if_neg (by rw [z.1]; omega)]
            exact z
        · right
          refine ⟨by omega, ?_⟩
          have z := cut_num (cut_num c2)
          unfold rAsk
          simp only
          rw [if_neg (by rw [z.1]; omega)]
          exact z
      · right
        refine ⟨by omega, ?_⟩
        have z := cut_num (cut_num (cut_num b2))
        unfold rAsk
        simp only
        rw [if_neg (by rw [z.1]; omega)]
        exact z
    · right
      have en : rNode b s = rAsk b (rNum b s).1 (rNum b s).2 := by unfold rNode; rw [if_neg (by rw [a2.1]; omega)]
      rw [en]
      exact ⟨by omega, cut_ask a2⟩
theorem rNodes_aln {b : List Nat} {l : List Int} : ∀ (t : List Nd) (s : In) (m : Nat), (∀ n ∈ t, NdOk n) → Aln b s (t.flatMap ndL ++ l) m →
    ((bysL (t.flatMap ndL)).length ≤ m ∧ (rNodes b t.length s).1 = t ∧ Aln b (rNodes b t.length s).2 l (m - (bysL (t.flatMap ndL)).length)) ∨ (m < (bysL (t.flatMap ndL)).length ∧ Cut8 b (rNodes b t.length s).2)
  | [], s, m, _, h => .inl ⟨Nat.zero_le _, rfl, h⟩
  | n :: t, s, m, ht, h => by
    have hb : s.bad = 0 := h.1
    have e : rNodes b (n :: t).length s = ((rNode b s).1 :: (rNodes b t.length (rNode b s).2).1, (rNodes b t.length (rNode b s).2).2) := by
      show (if _ then _ else _) = _
      rw [if_neg (by simp [hb])]
    have h' : Aln b s (ndL n ++ (t.flatMap ndL ++ l)) m := by rw [← List.append_assoc]; exact h
    have el : (bysL ((n :: t).flatMap ndL)).length = (bysL (ndL n)).length + (bysL (t.flatMap ndL)).length := by rw [List.flatMap_cons, bys_app, List.length_append]
    rw [e, el]
    rcases rNode_aln (ht n (List.mem_cons_self ..)) h' with ⟨a1, a2, a3⟩ | ⟨a1, a2⟩
    · rcases rNodes_aln t (rNode b s).2 _ (fun x hx => ht x (List.mem_cons_of_mem _ hx)) a3 with ⟨b1, b2, b3⟩ | ⟨b1, b2⟩
      · left
        refine ⟨by omega, by rw [a2, b2], ?_⟩
        rw [show m - ((bysL (ndL n)).length + (bysL (t.flatMap ndL)).length) = m - (bysL (ndL n)).length - (bysL (t.flatMap ndL)).length by omega]
        exact b3
      · right
        exact ⟨by omega, b2⟩
    · right
      rw [cut_nodes a2]
      exact ⟨by omega, a2⟩
/-- a tree and its weight that may be written -/
def TrOk (x : Int × List Nd) : Prop := I64 x.1 ∧ 1 ≤ x.2.length ∧ x.2.length ≤ 63 ∧ ∀ n ∈ x.2, NdOk n
theorem rTree_aln {b : List Nat} {s : In} {x : Int × List Nd} {l : List Int} {m : Nat} (hx : TrOk x) (h : Aln b s (trL x ++ l) m) :
    ((bysL (trL x)).length ≤ m ∧ (rTree b s).1 = x ∧ Aln b (rTree b s).2 l (m - (bysL (trL x)).length)) ∨ (m < (bysL (trL x)).length ∧ Cut8 b (rTree b s).2) := by
  obtain ⟨i0, h1, h2, hn⟩ := hx
  have el : (bysL (trL x)).length = (numL x.1).length + (numL (x.2.length : Int)).length + (bysL (x.2.flatMap ndL)).length := by
    unfold trL
    rw [bys_cons, bys_cons, List.length_append, List.length_append]
    omega
  have h' : Aln b s (x.1 :: ((x.2.length : Int) :: (x.2.flatMap ndL ++ l))) m := h
  rw [el]
  unfold rTree
  rcases rNum_aln i0 h' with ⟨a1, a2, a3, a4⟩ | ⟨a1, a2⟩
  · rcases rMany_aln (most := 63) (show I64 (x.2.length : Int) by unfold I64; omega) (by omega) (by omega) a3 with ⟨b1, b2, b3, b4⟩ | ⟨b1, b2⟩
    · rw [b2, Int.toNat_natCast]
      rcases rNodes_aln x.2 _ _ hn b3 with ⟨c1, c2, c3⟩ | ⟨c1, c2⟩
      · left
        refine ⟨by omega, by rw [a2, c2], ?_⟩
        rw [show m - ((numL x.1).length + (numL (x.2.length : Int)).length + (bysL (x.2.flatMap ndL)).length) = m - (numL x.1).length - (numL (x.2.length : Int)).length - (bysL (x.2.flatMap ndL)).length by omega]
        exact c3
      · right
        exact ⟨by omega, c2⟩
    · right
      rw [cut_nodes b2]
      exact ⟨by omega, b2⟩
  · right
    have z := cut_many (most := 63) a2
    rw [cut_nodes z]
    exact ⟨by omega, z⟩
theorem rTrees_aln {b : List Nat} {l : List Int} : ∀ (t : List (Int × List Nd)) (s : In) (m : Nat), (∀ x ∈ t, TrOk x) → Aln b s (t.flatMap trL ++ l) m →
    ((bysL (t.flatMap trL)).length ≤ m ∧ (rTrees b t.length s).1 = t ∧ Aln b (rTrees b t.length s).2 l (m - (bysL (t.flatMap trL)).length)) ∨ (m < (bysL (t.flatMap trL)).length ∧ Cut8 b (rTrees b t.length s).2)
  | [], s, m, _, h => .inl ⟨Nat.zero_le _, rfl, h⟩
  | n :: t, s, m, ht, h => by
    have hb : s.bad = 0 := h.1
    have e : rTrees b (n :: t).length s = ((rTree b s).1 :: (rTrees b t.length (rTree b s).2).1, (rTrees b t.length (rTree b s).2).2) := by
      show (if _ then _ else _) = _
      rw [if_neg (by simp [hb])]
    have h' : Aln b s (trL n ++ (t.flatMap trL ++ l)) m := by rw [← List.append_assoc]; exact h
    have el : (bysL ((n :: t).flatMap trL)).length = (bysL (trL n)).length + (bysL (t.flatMap trL)).length := by rw [List.flatMap_cons, bys_app, List.length_append]
    rw [e, el]
    rcases rTree_aln (ht n (List.mem_cons_self ..)) h' with ⟨a1, a2, a3⟩ | ⟨a1, a2⟩
    · rcases rTrees_aln t (rTree b s).2 _ (fun x hx => ht x (List.mem_cons_of_mem _ hx)) a3 with ⟨b1, b2, b3⟩ | ⟨b1, b2⟩
      · left
        refine ⟨by omega, by rw [a2, b2], ?_⟩
        rw [show m - ((bysL (trL n)).length + (bysL (t.flatMap trL)).length) = m - (bysL (trL n)).length - (bysL (t.flatMap trL)).length by omega]
        exact b3
      · right
        exact ⟨by omega, b2⟩
    · right
      rw [cut_trees a2]
      exact ⟨by omega, a2⟩

end Go.Proofs.YtnnhpbnnombpmaaDoor.M
