/-
  Several texts as one: MathCc, TNode, TStray, TDepth.
-/
import Derived.Test.YtdadjppdonephagDoorRunT5
import Derived.RegionTactic
import Derived.Deep.RegionWith
import Derived.Deep.Cut
import Derived.Deep.CutRange
import Derived.Deep.QuietTactic
import Derived.ChangeAlike
namespace Go.Proofs.YtdadjppdonephagDoor.M
set_option linter.unusedVariables false

theorem nd_ok {n : Nd} {i len : Nat} {m : Int} (hl : len ≤ 63) (hm : m ≤ 8) (h : nodeF n i len m = 0) : NdOk n := by
  by_cases q : nf n = -1
  · unfold nodeF at h
    rw [if_pos q] at h
    unfold lfF at h
    split at h
    · cases h
    · rename_i h1
      split at h
      · cases h
      · rename_i h2
        have o := out_false (x := nv n) (by cases e : outI (nv n) with | false => rfl | true => exact absurd e h1)
        obtain ⟨f, c, l, r, s, v⟩ := n
        have z1 : c = 0 := by by_cases e : c = 0; exact e; exact absurd (.inl e) h2
        have z2 : l = 0 := by by_cases e : l = 0; exact e; exact absurd (.inr (.inl e)) h2
        have z3 : r = 0 := by by_cases e : r = 0; exact e; exact absurd (.inr (.inr (.inl e))) h2
        have z4 : s = false := by cases s with | false => rfl | true => exact absurd (.inr (.inr (.inr rfl))) h2
        have q' : f = -1 := q
        have o' : -1000000 ≤ v ∧ v ≤ 1000000 := o
        subst z1 z2 z3 z4 q'
        refine ⟨?_, ?_, ?_, ?_, ?_, fun _ => rfl, fun z => absurd rfl z⟩
        · show I64 (-1); unfold I64; omega
        · show I64 0; unfold I64; omega
        · show I64 0; unfold I64; omega
        · show I64 0; unfold I64; omega
        · show I64 v; unfold I64; omega
  · obtain ⟨a1, a2, a3, a4, a5, a6, a7, a8, a9⟩ := node_ask h q
    have o := out_false a3
    refine ⟨?_, ?_, ?_, ?_, ?_, fun z => absurd z q, fun _ => a8⟩
    · unfold I64; omega
    · unfold I64; omega
    · unfold I64; omega
    · unfold I64; omega
    · rw [a8]; unfold I64; omega
theorem tr_ok {t : List Nd} {m w : Int} (hw : 1 ≤ w ∧ w ≤ 1000) (h : (treeF t m).2 = 0) : TrOk (w, t) := by
  have F := (tree_ok h).1
  refine ⟨?_, F.2.1, F.1, fun n hn => ?_⟩
  · show I64 w; unfold I64; omega
  · obtain ⟨i, hi, rfl⟩ := List.getElem_of_mem hn
    have := F.2.2.2.2.1 i hi
    have e : nAt t i = t[i] := by unfold nAt; rw [getD_at hi]
    rw [e] at this
    exact nd_ok F.1 F.2.2.2.1 this
theorem zip_ok {g : Gv} (h : Good g) : ∀ x ∈ (gs g).zip (gt g), TrOk x := fun x hx => by
  obtain ⟨w, t⟩ := x
  have h1 := List.of_mem_zip hx
  exact tr_ok (h.wts w h1.1) (h.trees t h1.2)
theorem zip_len {g : Gv} (h : Good g) : ((gs g).zip (gt g)).length = (gt g).length := by rw [List.length_zip, h.len, Nat.min_self]
/-- along a grove that is right, as many bytes as there are -/
theorem dec_along {g : Gv} (h : Good g) {m : Nat} (hm : m ≤ (encB g).length) :
    (m = (encB g).length ∧ (rAll ((encB g).take m)).2.bad = 0 ∧ (rAll ((encB g).take m)).2.fin = m ∧ rGrove ((encB g).take m) = g) ∨ (m < (encB g).length ∧ Cut8 ((encB g).take m) (rAll ((encB g).take m)).2) := by
  obtain ⟨b, hb⟩ : ∃ b, b = (encB g).take m := ⟨_, rfl⟩
  rw [← hb]
  have bl : b.length = m := by rw [hb, List.length_take, Nat.min_eq_left hm]
  have i1 : I64 (gf g) := by have := h.f0; have := h.f8; unfold I64; omega
  have i2 : I64 (gw g) := by have := h.w1; have := h.w3; unfold I64; omega
  have i3 : I64 ((gt g).length : Int) := by have := h.t12; unfold I64; omega
  have el : (encB g).length = (numL (gf g)).length + (numL (gw g)).length + (numL ((gt g).length : Int)).length + (bysL (((gs g).zip (gt g)).flatMap trL)).length := by
    unfold encB grL
    rw [bys_cons, bys_cons, bys_cons, List.length_append, List.length_append, List.length_append]
    omega
  have A0 : Aln b in0 (gf g :: (gw g :: (((gt g).length : Int) :: (((gs g).zip (gt g)).flatMap trL ++ [])))) m := by
    refine ⟨rfl, Nat.zero_le _, ?_⟩
    show b.drop 0 = _
    rw [List.drop_zero, hb, List.append_nil]
    rfl
  have cutAll : ∀ s, Cut8 b s → (rHead b).2 = s → Cut8 b (rAll b).2 := fun s hs e => by
    unfold rAll
    rw [e, cut_trees hs]
    exact hs
  have t0 := h.t0
  have t12 := h.t12
  rcases rNum_aln i1 A0 with ⟨a1, a2, a3, a4⟩ | ⟨a1, a2⟩
  · rcases rNum_aln i2 a3 with ⟨b1, b2, b3, b4⟩ | ⟨b1, b2⟩
    · rcases rMany_aln (most := 12) i3 (by omega) (by omega) b3 with ⟨c1, c2, c3, c4⟩ | ⟨c1, c2⟩
      · have hd : (rHead b).1 = (gf g, gw g, ((gt g).length : Int)) := by unfold rHead; rw [a2, b2, c2]
        have hs : (rHead b).2 = (rMany b 12 (rNum b (rNum b in0).2).2).2 := rfl
        have ra : rAll b = rTrees b ((gs g).zip (gt g)).length (rMany b 12 (rNum b (rNum b in0).2).2).2 := by
          unfold rAll
          rw [hd, hs, zip_len h]
          rfl
        rcases rTrees_aln ((gs g).zip (gt g)) _ _ (zip_ok h) c3 with ⟨d1, d2, d3⟩ | ⟨d1, d2⟩
        · left
          have em : m = (encB g).length := by omega
          rw [← ra] at d2 d3
          refine ⟨em, d3.1, ?_, ?_⟩
          · have z := d3.2.2
            have z2 : b.drop (rAll b).2.fin = [] := by rw [z]; simp [bysL]
            have z3 := congrArg List.length z2
            rw [List.length_drop] at z3
            have := d3.2.1
            simp at z3
            omega
          · unfold rGrove
            rw [hd, d2]
            have e1 : ((gs g).zip (gt g)).map (·.1) = gs g := by
              rw [List.map_fst_zip]
              have := h.len
              omega
            have e2 : ((gs g).zip (gt g)).map (·.2) = gt g := by
              rw [List.map_snd_zip]
              have := h.len
              omega
            rw [e1, e2]
        · right
          rw [ra]
          exact ⟨by omega, d2⟩
      · right
        exact ⟨by omega, cutAll _ c2 rfl⟩
    · right
      exact ⟨by omega, cutAll _ (cut_many b2) rfl⟩
  · right
    exact ⟨by omega, cutAll _ (cut_many (cut_num a2)) rfl⟩
/-- what is written is read as it was -/
theorem dec_enc {g : Gv} (h : encF g = 0) : decF (encV g) = (0, 0) ∧ decV (encV g) = g := by
  have ev : encV g = encB g := by unfold encV; rw [if_pos h]
  unfold encF at h
  split at h
  · rename_i h1; exact absurd h h1
  · rename_i h1
    have h0 : groveF g = 0 := by omega
    have G := (good_iff g).1 h0
    split at h
    · cases h
    · rename_i h2
      rw [ev]
      rcases dec_along G (Nat.le_refl (encB g).length) with ⟨_, a2, a3, a4⟩ | ⟨a1, _⟩
      · rw [List.take_length] at a2 a3 a4
        have d : decF (encB g) = (0, 0) := by
          unfold decF
          rw [if_neg h2, if_neg (by simp [a2]), if_neg (by simp [a3]), if_neg (by rw [a4]; simp [h0])]
        refine ⟨d, ?_⟩
        unfold decV
        rw [d, if_pos rfl, a4]
      · omega
/-- cut off it is not whole -/
theorem dec_cut {g : Gv} (h : encF g = 0) {c : Nat} (hc : c < (encV g).length) : (decF ((encV g).take c)).2 = 8 ∧ (decF ((encV g).take c)).1 ≤ c := by
  have ev : encV g = encB g := by unfold encV; rw [if_pos h]
  rw [ev] at hc ⊢
  unfold encF at h
  split at h
  · rename_i h1; exact absurd h h1
  · rename_i h1
    have h0 : groveF g = 0 := by omega
    have G := (good_iff g).1 h0
    split at h
    · cases h
    · rename_i h2
      rcases dec_along G (m := c) (by omega) with ⟨a1, _⟩ | ⟨_, a2⟩
      · omega
      · have l : ((encB g).take c).length = c := by rw [List.length_take]; omega
        have d : decF ((encB g).take c) = ((rAll ((encB g).take c)).2.at', (rAll ((encB g).take c)).2.bad) := by
          unfold decF
          rw [if_neg (by omega), if_pos (by rw [a2.1]; decide)]
        rw [d]
        refine ⟨a2.1, ?_⟩
        have := a2.2
        rw [l] at this
        exact this

/-! ### what is read is written as it was -/
/-- so far, bytes are those of these numbers -/
def Was (b : List Nat) (s : In) (l : List Int) : Prop := s.fin ≤ b.length ∧ b.take s.fin = bysL l
theorem bad_num {b : List Nat} {s : In} (h : (rNum b s).2.bad = 0) : s.bad = 0 := by
  by_cases q : s.bad = 0
  · exact q
  · rw [rNum_bad q] at h; exact absurd h q
theorem bad_many {b : List Nat} {s : In} {most : Int} (h : (rMany b most s).2.bad = 0) : (rNum b s).2.bad = 0 ∧ rMany b most s = rNum b s ∧ 1 ≤ (rNum b s).1 ∧ (rNum b s).1 ≤ most := by
  unfold rMany at h ⊢
  by_cases q : (rNum b s).2.bad = 0 ∧ ((rNum b s).1 < 1 ∨ most < (rNum b s).1)
  · rw [if_pos q] at h
    have : (1 : Int) = 0 := h
    omega
  · rw [if_neg q] at h ⊢
    by_cases r : (rNum b s).2.bad ≠ 0
    · rw [if_pos r] at h; exact absurd h r
    · rw [if_neg r] at h ⊢
      exact ⟨h, rfl, by omega, by omega⟩
theorem was_num {b : List Nat} {s : In} {l : List Int} (hb : ∀ c ∈ b, c < 256) (h : Was b s l) (h0 : (rNum b s).2.bad = 0) : Was b (rNum b s).2 (l ++ [(rNum b s).1]) := by
  have s0 := bad_num h0
  rw [rNum_go s0] at h0 ⊢
  obtain ⟨h1, h2⟩ := h
  obtain ⟨n, k, e⟩ : ∃ n k, getL (b.drop s.fin) = (n, k, 0) := by
    have z : (getL (b.drop s.fin)).2.2 = 0 := h0
    refine ⟨(getL (b.drop s.fin)).1, (getL (b.drop s.fin)).2.1, ?_⟩
    refine Prod.ext rfl (Prod.ext rfl z)
  rw [e]
  obtain ⟨_, _, g3, g4⟩ := get_back (fun c hc => hb c (List.mem_of_mem_drop hc)) e
  have kl : k ≤ (b.drop s.fin).length := by
    have := congrArg List.length g4
    rw [List.length_take] at this
    omega
  rw [List.length_drop] at kl
  refine ⟨?_, ?_⟩
  · show s.fin + k ≤ b.length
    omega
  · show b.take (s.fin + k) = bysL (l ++ [n])
    rw [bys_app, ← h2, List.take_add, g4]
    congr 1
    show numL n = numL n ++ []
    rw [List.append_nil]
theorem bad_ask {b : List Nat} {s : In} {f : Int} (h : (rAsk b f s).2.bad = 0) : (rNum b (rNum b (rNum b (rNum b s).2).2).2).2.bad = 0 ∧ (rAsk b f s).2 = (rNum b (rNum b (rNum b (rNum b s).2).2).2).2 ∧ ((rNum b (rNum b (rNum b (rNum b s).2).2).2).1 = 0 ∨ (rNum b (rNum b (rNum b (rNum b s).2).2).2).1 = 1) := by
  unfold rAsk at h ⊢
  simp only at h ⊢
  by_cases q : (rNum b (rNum b (rNum b (rNum b s).2).2).2).2.bad = 0 ∧ (rNum b (rNum b (rNum b (rNum b s).2).2).2).1 ≠ 0 ∧ (rNum b (rNum b (rNum b (rNum b s).2).2).2).1 ≠ 1
  · rw [if_pos q] at h
    have : (2 : Int) = 0 := h
    omega
  · rw [if_neg q] at h ⊢
    refine ⟨h, rfl, ?_⟩
    by_cases z : (rNum b (rNum b (rNum b (rNum b s).2).2).2).1 = 0
    · exact .inl z
    · right
      by_cases z1 : (rNum b (rNum b (rNum b (rNum b s).2).2).2).1 = 1
      · exact z1
      · exact absurd ⟨h, z, z1⟩ q
theorem bad_node {b : List Nat} {s : In} (h : (rNode b s).2.bad = 0) : s.bad = 0 := by
  unfold rNode at h
  split at h
  · exact bad_num (bad_num h)
  · exact bad_num (bad_num (bad_num (bad_num (bad_num (bad_ask h).1))))
theorem was_node {b : List Nat} {s : In} {l : List Int} (hb : ∀ c ∈ b, c < 256) (h : Was b s l) (h0 : (rNode b s).2.bad = 0) : Was b (rNode b s).2 (l ++ ndL (rNode b s).1) := by
  unfold rNode at h0 ⊢
  by_cases q : (rNum b s).2.bad = 0 ∧ (rNum b s).1 = -1
  · rw [if_pos q] at h0 ⊢
    have a := was_num hb h q.1
    have c := was_num hb a h0
    have e : ndL ((rNum b s).1, 0, 0, 0, false, (rNum b (rNum b s).2).1) = [(rNum b s).1, (rNum b (rNum b s).2).1] := by
      unfold ndL
      rw [if_pos (by exact q.2)]
      rfl
    rw [e]
    rw [List.append_assoc] at c
    exact c
  · rw [if_neg q] at h0 ⊢
    obtain ⟨p4, pe, px⟩ := bad_ask h0
    have p3 := bad_num p4
    have p2 := bad_num p3
    have p1 := bad_num p2
    have p0 := bad_num p1
    have a0 := was_num hb h p0
    have a1 := was_num hb a0 p1
    have a2 := was_num hb a1 p2
    have a3 := was_num hb a2 p3
    have a4 := was_num hb a3 p4
    rw [pe]
    have nf1 : ¬ (rNum b s).1 = -1 := fun z => q ⟨p0, z⟩
    have e : ndL (rAsk b (rNum b s).1 (rNum b s).2).1 = [(rNum b s).1, (rNum b (rNum b s).2).1, (rNum b (rNum b (rNum b s).2).2).1, (rNum b (rNum b (rNum b (rNum b s).2).2).2).1, (rNum b (rNum b (rNum b (rNum b (rNum b s).2).2).2).2).1] := by
      have e1 : (rAsk b (rNum b s).1 (rNum b s).2).1 = ((rNum b s).1, (rNum b (rNum b s).2).1, (rNum b (rNum b (rNum b s).2).2).1, (rNum b (rNum b (rNum b (rNum b s).2).2).2).1, decide ((rNum b (rNum b (rNum b (rNum b (rNum b s).2).2).2).2).1 = 1), 0) := rfl
      rw [e1]
      unfold ndL
      rw [if_neg (by exact nf1)]
      have e2 : (if decide ((rNum b (rNum b (rNum b (rNum b (rNum b s).2).2).2).2).1 = 1) = true then (1 : Int) else 0) = (rNum b (rNum b (rNum b (rNum b (rNum b s).2).2).2).2).1 := by
        rcases px with z | z <;> rw [z] <;> rfl
      show [_, _, _, _, (if decide ((rNum b (rNum b (rNum b (rNum b (rNum b s).2).2).2).2).1 = 1) = true then (1 : Int) else 0)] = _
      rw [e2]
      rfl
    rw [e]
    simp only [List.append_assoc, List.cons_append, List.nil_append] at a4
    exact a4
theorem was_nodes {b : List Nat} (hb : ∀ c ∈ b, c < 256) : ∀ (k : Nat) (s : In) (l : List Int), Was b s l → (rNodes b k s).2.bad = 0 → (rNodes b k s).1.length = k ∧ Was b (rNodes b k s).2 (l ++ (rNodes b k s).1.flatMap ndL) ∧ s.bad = 0
  | 0, s, l, h, h0 => ⟨rfl, by show Was b s (l ++ []); rw [List.append_nil]; exact h, h0⟩
  | k + 1, s, l, h, h0 => by
    have sb : s.bad = 0 := by
      by_cases q : s.bad = 0
      · exact q
      · have e : rNodes b (k + 1) s = ([], s) := by show (if _ then _ else _) = _; rw [if_pos q]
        rw [e] at h0
        exact absurd h0 q
    have e : rNodes b (k + 1) s = ((rNode b s).1 :: (rNodes b k (rNode b s).2).1, (rNodes b k (rNode b s).2).2) := by
      show (if _ then _ else _) = _
      rw [if_neg (by simp [sb])]
    rw [e] at h0 ⊢
    have nb : (rNode b s).2.bad = 0 := by
      by_cases q : (rNode b s).2.bad = 0
      · exact q
      · have z : (rNodes b k (rNode b s).2).2 = (rNode b s).2 := by
          cases k with
          | zero => rfl
          | succ k =>
            have e2 : rNodes b (k + 1) (rNode b s).2 = ([], (rNode b s).2) := by show (if _ then _ else _) = _; rw [if_pos q]
            rw [e2]
        have h0' : (rNodes b k (rNode b s).2).2.bad = 0 := h0
        rw [z] at h0'
        exact h0'
    have a := was_node hb h nb
    obtain ⟨r1, r2, _⟩ := was_nodes hb k (rNode b s).2 _ a h0
    refine ⟨by simp [r1], ?_, sb⟩
    rw [List.flatMap_cons, ← List.append_assoc]
    exact r2
theorem was_tree {b : List Nat} {s : In} {l : List Int} (hb : ∀ c ∈ b, c < 256) (h : Was b s l) (h0 : (rTree b s).2.bad = 0) : Was b (rTree b s).2 (l ++ trL (rTree b s).1) ∧ s.bad = 0 := by
  unfold rTree at h0 ⊢
  simp only at h0 ⊢
  -- what lies ahead of the nodes was right
  have mb : (rMany b 63 (rNum b s).2).2.bad = 0 := by
    by_cases q : (rMany b 63 (rNum b s).2).2.bad = 0
    · exact q
    · cases hk : (rMany b 63 (rNum b s).2).1.toNat with
      | zero => rw [hk] at h0; exact h0
      | succ k =>
        rw [hk] at h0
        have e2 : rNodes b (k + 1) (rMany b 63 (rNum b s).2).2 = ([], (rMany b 63 (rNum b s).2).2) := by show (if _ then _ else _) = _; rw [if_pos q]
        rw [e2] at h0
        exact h0
  obtain ⟨m1, m2, m3, m4⟩ := bad_many mb
  have n0 := bad_num m1
  have a := was_num hb h n0
  have c := was_num hb a m1
  rw [m2] at h0 ⊢
  obtain ⟨r1, r2, _⟩ := was_nodes hb _ _ _ c h0
  refine ⟨?_, bad_num n0⟩
  have e : trL ((rNum b s).1, (rNodes b (rNum b (rNum b s).2).1.toNat (rNum b (rNum b s).2).2).1) = (rNum b s).1 :: (rNum b (rNum b s).2).1 :: (rNodes b (rNum b (rNum b s).2).1.toNat (rNum b (rNum b s).2).2).1.flatMap ndL := by
    unfold trL
    simp only
    rw [r1]
    congr 2
    omega
  rw [e]
  simp only [List.append_assoc, List.cons_append, List.nil_append] at r2
  exact r2
theorem was_trees {b : List Nat} (hb : ∀ c ∈ b, c < 256) : ∀ (k : Nat) (s : In) (l : List Int), Was b s l → (rTrees b k s).2.bad = 0 → (rTrees b k s).1.length = k ∧ Was b (rTrees b k s).2 (l ++ (rTrees b k s).1.flatMap trL) ∧ s.bad = 0
  | 0, s, l, h, h0 => ⟨rfl, by show Was b s (l ++ []); rw [List.append_nil]; exact h, h0⟩
  | k + 1, s, l, h, h0 => by
    have sb : s.bad = 0 := by
      by_cases q : s.bad = 0
      · exact q
      · have e : rTrees b (k + 1) s = ([], s) := by show (if _ then _ else _) = _; rw [if_pos q]
        rw [e] at h0
        exact absurd h0 q
    have e : rTrees b (k + 1) s = ((rTree b s).1 :: (rTrees b k (rTree b s).2).1, (rTrees b k (rTree b s).2).2) := by
      show (if _ then _ else _) = _
      rw [if_neg (by simp [sb])]
    rw [e] at h0 ⊢
    have nb : (rTree b s).2.bad = 0 := by
      by_cases q : (rTree b s).2.bad = 0
      · exact q
      · have z : (rTrees b k (rTree b s).2).2 = (rTree b s).2 := by
          cases k with
          | zero => rfl
          | succ k =>
            have e2 : rTrees b (k + 1) (rTree b s).2 = ([], (rTree b s).2) := by show (if _ then _ else _) = _; rw [if_pos q]
            rw [e2]
        have h0' : (rTrees b k (rTree b s).2).2.bad = 0 := h0
        rw [z] at h0'
        exact h0'
    have a := (was_tree hb h nb).1
    obtain ⟨r1, r2, _⟩ := was_trees hb k (rTree b s).2 _ a h0
    refine ⟨by simp [r1], ?_, sb⟩
    rw [List.flatMap_cons, ← List.append_assoc]
    exact r2
theorem zip_maps {α β : Type} : ∀ l : List (α × β), (l.map (·.1)).zip (l.map (·.2)) = l
  | [] => rfl
  | x :: l => by rw [List.map_cons, List.map_cons, List.zip_cons_cons, zip_maps l]
/-- what is read is written as it was -/
theorem enc_dec {b : List Nat} (hb : ∀ c ∈ b, c < 256) (h : (decF b).2 = 0) : encF (decV b) = 0 ∧ encV (decV b) = b := by
  have dv : decV b = rGrove b := by unfold decV; rw [if_pos h]
  rw [dv]
  unfold decF at h
  split at h
  · cases h
  · rename_i h1
    split at h
    · rename_i h2; exact absurd h h2
    · rename_i h2
      have h2' : (rAll b).2.bad = 0 := by omega
      split at h
      · cases h
      · rename_i h3
        have h3' : (rAll b).2.fin = b.length := by omega
        split at h
        · rename_i h4; exact absurd h h4
        · rename_i h4
          have h4' : groveF (rGrove b) = 0 := by omega
          -- ahead of the trees all was right
          have mb : (rHead b).2.bad = 0 := by
            by_cases q : (rHead b).2.bad = 0
            · exact q
            · unfold rAll at h2'
              cases hk : (rHead b).1.2.2.toNat with
              | zero => rw [hk] at h2'; exact h2'
              | succ k =>
                rw [hk] at h2'
                have e2 : rTrees b (k + 1) (rHead b).2 = ([], (rHead b).2) := by show (if _ then _ else _) = _; rw [if_pos q]
                rw [e2] at h2'
                exact h2'
          obtain ⟨m1, m2, m3, m4⟩ := bad_many (b := b) (s := (rNum b (rNum b in0).2).2) (most := 12) mb
          have n1 := bad_num m1
          have n0 := bad_num n1
          have w0 : Was b in0 [] := ⟨Nat.zero_le _, rfl⟩
          have w1 := was_num hb w0 n0
          have w2 := was_num hb w1 n1
          have w3 := was_num hb w2 m1
          have hd : (rHead b).1 = ((rNum b in0).1, (rNum b (rNum b in0).2).1, (rNum b (rNum b (rNum b in0).2).2).1) := by unfold rHead; rw [m2]
          have hs : (rHead b).2 = (rNum b (rNum b (rNum b in0).2).2).2 := by show (rMany b 12 _).2 = _; rw [m2]
          have ra : rAll b = rTrees b (rNum b (rNum b (rNum b in0).2).2).1.toNat (rNum b (rNum b (rNum b in0).2).2).2 := by unfold rAll; rw [hd, hs]
          rw [ra] at h2'
          obtain ⟨r1, r2, _⟩ := was_trees hb _ _ _ w3 h2'
          rw [← ra] at r1 r2
          have eb : encB (rGrove b) = b := by
            have z := r2.2
            rw [h3', List.take_length] at z
            conv => rhs; rw [z]
            unfold encB grL
            congr 1
            have g1 : gf (rGrove b) = (rNum b in0).1 := by show (rHead b).1.1 = _; rw [hd]
            have g2 : gw (rGrove b) = (rNum b (rNum b in0).2).1 := by show (rHead b).1.2.1 = _; rw [hd]
            have g3 : gt (rGrove b) = (rAll b).1.map (·.2) := rfl
            have g4 : gs (rGrove b) = (rAll b).1.map (·.1) := rfl
            rw [g1, g2, g3, g4, zip_maps, List.length_map, r1]
            simp only [List.nil_append, List.cons_append]
            congr 3
            omega
          have ef : encF (rGrove b) = 0 := by
            unfold encF
            rw [if_neg (by simp [h4']), eb, if_neg h1]
          refine ⟨ef, ?_⟩
          unfold encV
          rw [if_pos ef, eb]

end Go.Proofs.YtdadjppdonephagDoor.M

namespace Go.Proofs.YtdadjppdonephagDoor
open Go.ChangeShapes Go.WideShapes Go.ChangeAt Go.RowKit Go.Lib
set_option linter.unusedVariables false

theorem isleaf_any (n : M.Nd) (w : World) : Calls Tryd.prog 47 #[ndV n] w fun e w' => e = .returned (.bool (M.leafB n)) ∧ Below w.heap.size w w' := by
  have E : Hid ((M.nf n == -1) = M.leafB n) := by
    unfold Hid M.leafB
    by_cases h : M.nf n = -1
    · rw [decide_eq_true h, beq_iff_eq]; exact h
    · rw [decide_eq_false h, beq_eq_false_iff_ne]; exact h
  unfold ndV
  generalize M.leafB n = o at *
  generalize M.nf n = f at *
  generalize M.nc n = c at *
  generalize M.nl n = l at *
  generalize M.nr n = r at *
  generalize M.ns n = s at *
  generalize M.nv n = v at *
  go_enter Tryd.func47, Tryd.ntmps47
  go_wp2
  go_ret
  exact ⟨ret_bool E.out, (Below.refl _ _).alloc (Nat.le_refl _) _⟩

theorem iscell_any (x : Int) (w : World) : Calls Tryd.prog 54 #[.int .i64 x] w fun e w' => e = .returned (.bool (!M.outI x)) ∧ w' = w := by
  by_cases h1 : -1000000 ≤ x
  · have E : Hid (decide (x ≤ 1000000) = !M.outI x) := by
      unfold Hid M.outI
      rw [show decide (x < -1000000) = false from decide_eq_false (by omega), Bool.false_or]
      by_cases h2 : x ≤ 1000000
      · simp [h2]
      · simp [h2]; omega
    have h1' : decide (-1000000 ≤ x) = true := decide_eq_true h1
    clear h1
    go_enter Tryd.func54, Tryd.ntmps54
    go_wp2
    go_ret
    exact ⟨ret_bool E.out, rfl⟩
  · have E : Hid (false = !M.outI x) := by
      unfold Hid M.outI
      rw [show decide (x < -1000000) = true from decide_eq_true (by omega)]; rfl
    have h1' : decide (-1000000 ≤ x) = false := decide_eq_false h1
    clear h1
    go_enter Tryd.func54, Tryd.ntmps54
    go_wp2
    go_ret
    exact ⟨ret_bool E.out, rfl⟩

theorem ret_err {c d : Int} (h : c = d) : Ending.returned (errV c) = .returned (errV d) := by rw [h]

theorem checkleaf_any (n : M.Nd) (w : World) : Calls Tryd.prog 48 #[ndV n] w fun e w' => e = .returned (errV (M.lfF n)) ∧ Below w.heap.size w w' := by
  have C := hide (iscell_any (M.nv n))
  have D : Hid (M.lfF n = if M.outI (M.nv n) = true then 1 else if M.nc n ≠ 0 ∨ M.nl n ≠ 0 ∨ M.nr n ≠ 0 ∨ M.ns n = true then 3 else 0) := rfl
  unfold ndV
  generalize M.lfF n = o at *
  generalize M.outI (M.nv n) = z at *
  generalize M.nf n = f at *
  generalize M.nc n = c at *
  generalize M.nl n = l at *
  generalize M.nr n = r at *
  generalize M.ns n = s at *
  generalize M.nv n = v at *
  cases z with
  | true =>
    have E : Hid (o = 1) := D.out.trans (by simp)
    clear D
    go_enter Tryd.func48, Tryd.ntmps48
    go_wp2_with (go_at_call 54; refine (C.out _).mono ?_; rintro e w1 ⟨rfl, rfl⟩)
    go_ret
    exact ⟨by rw [E.out]; rfl, (Below.refl _ _).alloc (Nat.le_refl _) _⟩
  | false =>
    by_cases hc : c = 0
    · have qc : (c != 0) = false := by rw [bne_eq_false_iff_eq]; exact hc
      by_cases hl : l = 0
      · have ql : (l != 0) = false := by rw [bne_eq_false_iff_eq]; exact hl
        by_cases hr : r = 0
        · have qr : (r != 0) = false := by rw [bne_eq_false_iff_eq]; exact hr
          cases s with
          | true =>
            have E : Hid (o = 3) := D.out.trans (by simp [hc, hl, hr])
            clear D hc hl hr
            go_enter Tryd.func48, Tryd.ntmps48
            go_wp2_with (go_at_call 54; refine (C.out _).mono ?_; rintro e w1 ⟨rfl, rfl⟩)
            go_ret
            exact ⟨by rw [E.out]; rfl, (Below.refl _ _).alloc (Nat.le_refl _) _⟩
          | false =>
            have E : Hid (o = 0) := D.out.trans (by simp [hc, hl, hr])
            clear D hc hl hr
            go_enter Tryd.func48, Tryd.ntmps48
            go_wp2_with (go_at_call 54; refine (C.out _).mono ?_; rintro e w1 ⟨rfl, rfl⟩)
            go_ret
            exact ⟨by rw [E.out]; rfl, (Below.refl _ _).alloc (Nat.le_refl _) _⟩
        · have qr : (r != 0) = true := by rw [bne_iff_ne]; exact hr
          have E : Hid (o = 3) := D.out.trans (by simp [hc, hl, hr])
          clear D hc hl hr
          go_enter Tryd.func48, Tryd.ntmps48
          go_wp2_with (go_at_call 54; refine (C.out _).mono ?_; rintro e w1 ⟨rfl, rfl⟩)
          go_ret
          exact ⟨by rw [E.out]; rfl, (Below.refl _ _).alloc (Nat.le_refl _) _⟩
      · have ql : (l != 0) = true := by rw [bne_iff_ne]; exact hl
        have E : Hid (o = 3) := D.out.trans (by simp [hc, hl])
        clear D hc hl
        go_enter Tryd.func48, Tryd.ntmps48
        go_wp2_with (go_at_call 54; refine (C.out _).mono ?_; rintro e w1 ⟨rfl, rfl⟩)
        go_ret
        exact ⟨by rw [E.out]; rfl, (Below.refl _ _).alloc (Nat.le_refl _) _⟩
    · have qc : (c != 0) = true := by rw [bne_iff_ne]; exact hc
      have E : Hid (o = 3) := D.out.trans (by simp [hc])
      clear D hc
      go_enter Tryd.func48, Tryd.ntmps48
      go_wp2_with (go_at_call 54; refine (C.out _).mono ?_; rintro e w1 ⟨rfl, rfl⟩)
      go_ret
      exact ⟨by rw [E.out]; rfl, (Below.refl _ _).alloc (Nat.le_refl _) _⟩

theorem behind_any (bp bl : Nat) (p q x : Int) (w : World) (hp : w.cell? ⟨bp, 0, none⟩ = some (.int .i64 p)) (hq : w.cell? ⟨bl, 0, none⟩ = some (.int .i64 q)) :
    Calls Tryd.prog 55 (#[.int .i64 x] ++ #[.pointer (some ⟨bp, 0, none⟩), .pointer (some ⟨bl, 0, none⟩)]) w fun e w' => e = .returned (.bool (decide (p < x) && decide (x ≤ q))) ∧ w' = w := by
  by_cases h : p < x
  · have E : Hid (decide (x ≤ q) = (decide (p < x) && decide (x ≤ q))) := by unfold Hid; simp [h]
    have h1 : decide (p < x) = true := decide_eq_true h
    clear h
    generalize (decide (p < x) && decide (x ≤ q)) = o at *
    go_enter Tryd.func55, Tryd.ntmps55
    go_wp2
    go_ret
    exact ⟨ret_bool E.out, rfl⟩
  · have E : Hid (false = (decide (p < x) && decide (x ≤ q))) := by unfold Hid; simp [h]
    have h1 : decide (p < x) = false := decide_eq_false h
    clear h
    generalize (decide (p < x) && decide (x ≤ q)) = o at *
    go_enter Tryd.func55, Tryd.ntmps55
    go_wp2
    go_ret
    exact ⟨ret_bool E.out, rfl⟩

theorem behind_is {p q x : Int} {i len : Nat} (hp : p = i) (hq : q = (len : Int) - 1) : (decide (p < x) && decide (x ≤ q)) = M.inB x i len := by
  subst hp; subst hq
  unfold M.inB
  congr 1
  exact decide_eq_decide.2 ⟨fun h => by omega, fun h => by omega⟩

set_option maxHeartbeats 8000000 in
theorem checkask_any (n : M.Nd) (i len : Nat) (p q m : Int) (w : World) (hp : p = i) (hq : q = (len : Int) - 1) :
    Calls Tryd.prog 49 #[ndV n, .int .i64 p, .int .i64 q, .int .i64 m] w fun e w' => e = .returned (errV (M.asF n i len m)) ∧ Below w.heap.size w w' := by
  have C := hide (iscell_any (M.nc n))
  have CB : Hid (∀ x bp bl W, W.cell? ⟨bp, 0, none⟩ = some (.int .i64 p) → W.cell? ⟨bl, 0, none⟩ = some (.int .i64 q) → Calls Tryd.prog 55 (#[.int .i64 x] ++ #[.pointer (some ⟨bp, 0, none⟩), .pointer (some ⟨bl, 0, none⟩)]) W fun e w' => e = .returned (.bool (M.inB x i len)) ∧ w' = W) :=
    fun x bp bl W h1 h2 => by rw [← behind_is hp hq]; exact behind_any bp bl p q _ W h1 h2
  have QP : Hid (∀ o : Obj, (((w.alloc o).alloc (.cells #[.int .i64 p] 3)).alloc (.cells #[.int .i64 q] 3)).cell? ⟨w.heap.size + 1, 0, none⟩ = some (.int .i64 p)) := fun o => by
    rw [World.cell?_alloc_past _ _ _ (by simp), World.cell?_alloc_at _ _ _ _ (by simp)]; rfl
  have QQ : Hid (∀ o : Obj, (((w.alloc o).alloc (.cells #[.int .i64 p] 3)).alloc (.cells #[.int .i64 q] 3)).cell? ⟨w.heap.size + 1 + 1, 0, none⟩ = some (.int .i64 q)) := fun o => by
    rw [World.cell?_alloc_at _ _ _ _ (by simp)]; rfl
  have D : Hid (M.asF n i len m = if M.nf n < 0 ∨ m ≤ M.nf n ∨ M.outI (M.nc n) = true ∨ M.inB (M.nl n) i len = false ∨ M.inB (M.nr n) i len = false then 1 else if M.nv n ≠ 0 ∨ M.nl n = M.nr n then 3 else 0) := rfl
  clear hp hq
  unfold ndV
  generalize M.asF n i len m = o at *
  generalize M.outI (M.nc n) = zc at *
  generalize M.nf n = f at *
  generalize M.nc n = c at *
  generalize M.nl n = l at *
  generalize M.nr n = r at *
  generalize M.ns n = s at *
  generalize M.nv n = v at *
  by_cases h1 : f < 0
  · have q1 : decide (f < 0) = true := decide_eq_true h1
    have E : Hid (o = 1) := D.out.trans (by simp [h1])
    clear D h1
    go_enter Tryd.func49, Tryd.ntmps49
    go_wp2_with (first
      | (go_at_call 54; refine (C.out _).mono ?_; rintro e w1 ⟨rfl, rfl⟩)
      | (go_at_call 55; refine (CB.out _ _ _ _ (QP.out _) (QQ.out _)).mono ?_; rintro e w1 ⟨rfl, rfl⟩))
    go_ret
    exact ⟨by rw [E.out]; rfl, (((Below.refl _ w).alloc (Nat.le_refl _) _).alloc (by simp) _).alloc (by simp; omega) _⟩
  · have q1 : decide (f < 0) = false := decide_eq_false h1
    by_cases h2 : m ≤ f
    · have q2 : decide (m ≤ f) = true := decide_eq_true h2
      have E : Hid (o = 1) := D.out.trans (by simp [h1, h2])
      clear D h1 h2
      go_enter Tryd.func49, Tryd.ntmps49
      go_wp2_with (first
        | (go_at_call 54; refine (C.out _).mono ?_; rintro e w1 ⟨rfl, rfl⟩)
        | (go_at_call 55; refine (CB.out _ _ _ _ (QP.out _) (QQ.out _)).mono ?_; rintro e w1 ⟨rfl, rfl⟩))
      go_ret
      exact ⟨by rw [E.out]; rfl, (((Below.refl _ w).alloc (Nat.le_refl _) _).alloc (by simp) _).alloc (by simp; omega) _⟩
    · have q2 : decide (m ≤ f) = false := decide_eq_false h2
      cases zc with
      | true =>
        have E : Hid (o = 1) := D.out.trans (by simp [h1, h2])
        clear D h1 h2
        go_enter Tryd.func49, Tryd.ntmps49
        go_wp2_with (first
          | (go_at_call 54; refine (C.out _).mono ?_; rintro e w1 ⟨rfl, rfl⟩)
          | (go_at_call 55; refine (CB.out _ _ _ _ (QP.out _) (QQ.out _)).mono ?_; rintro e w1 ⟨rfl, rfl⟩))
        go_ret
        exact ⟨by rw [E.out]; rfl, (((Below.refl _ w).alloc (Nat.le_refl _) _).alloc (by simp) _).alloc (by simp; omega) _⟩
      | false =>
        cases zl : M.inB l i len with
        | false =>
          have E : Hid (o = 1) := D.out.trans (by simp [h1, h2, zl])
          clear D h1 h2
          go_enter Tryd.func49, Tryd.ntmps49
          go_wp2_with (first
            | (go_at_call 54; refine (C.out _).mono ?_; rintro e w1 ⟨rfl, rfl⟩)
            | (go_at_call 55; refine (CB.out _ _ _ _ (QP.out _) (QQ.out _)).mono ?_; rintro e w1 ⟨rfl, rfl⟩))
          go_ret
          exact ⟨by rw [E.out]; rfl, (((Below.refl _ w).alloc (Nat.le_refl _) _).alloc (by simp) _).alloc (by simp; omega) _⟩
        | true =>
          cases zr : M.inB r i len with
          | false =>
            have E : Hid (o = 1) := D.out.trans (by simp [h1, h2, zl, zr])
            clear D h1 h2
            go_enter Tryd.func49, Tryd.ntmps49
            go_wp2_with (first
              | (go_at_call 54; refine (C.out _).mono ?_; rintro e w1 ⟨rfl, rfl⟩)
              | (go_at_call 55; refine (CB.out _ _ _ _ (QP.out _) (QQ.out _)).mono ?_; rintro e w1 ⟨rfl, rfl⟩))
            go_ret
            exact ⟨by rw [E.out]; rfl, (((Below.refl _ w).alloc (Nat.le_refl _) _).alloc (by simp) _).alloc (by simp; omega) _⟩
          | true =>
            by_cases h3 : v = 0
            · have q3 : (v != 0) = false := by rw [bne_eq_false_iff_eq]; exact h3
              by_cases h4 : l = r
              · have q4 : (l == r) = true := by rw [beq_iff_eq]; exact h4
                have E : Hid (o = 3) := D.out.trans (by simp [h1, h2, h3, h4, zr])
                clear D h1 h2 h3 h4
                go_enter Tryd.func49, Tryd.ntmps49
                go_wp2_with (first
                  | (go_at_call 54; refine (C.out _).mono ?_; rintro e w1 ⟨rfl, rfl⟩)
                  | (go_at_call 55; refine (CB.out _ _ _ _ (QP.out _) (QQ.out _)).mono ?_; rintro e w1 ⟨rfl, rfl⟩))
                go_ret
                exact ⟨by rw [E.out]; rfl, (((Below.refl _ w).alloc (Nat.le_refl _) _).alloc (by simp) _).alloc (by simp; omega) _⟩
              · have q4 : (l == r) = false := by rw [beq_eq_false_iff_ne]; exact h4
                have E : Hid (o = 0) := D.out.trans (by simp [h1, h2, h3, h4, zl, zr])
                clear D h1 h2 h3 h4
                go_enter Tryd.func49, Tryd.ntmps49
                go_wp2_with (first
                  | (go_at_call 54; refine (C.out _).mono ?_; rintro e w1 ⟨rfl, rfl⟩)
                  | (go_at_call 55; refine (CB.out _ _ _ _ (QP.out _) (QQ.out _)).mono ?_; rintro e w1 ⟨rfl, rfl⟩))
                go_ret
                exact ⟨by rw [E.out]; rfl, (((Below.refl _ w).alloc (Nat.le_refl _) _).alloc (by simp) _).alloc (by simp; omega) _⟩
            · have q3 : (v != 0) = true := by rw [bne_iff_ne]; exact h3
              have E : Hid (o = 3) := D.out.trans (by simp [h1, h2, h3, zl, zr])
              clear D h1 h2 h3
              go_enter Tryd.func49, Tryd.ntmps49
              go_wp2_with (first
                | (go_at_call 54; refine (C.out _).mono ?_; rintro e w1 ⟨rfl, rfl⟩)
                | (go_at_call 55; refine (CB.out _ _ _ _ (QP.out _) (QQ.out _)).mono ?_; rintro e w1 ⟨rfl, rfl⟩))
              go_ret
              exact ⟨by rw [E.out]; rfl, (((Below.refl _ w).alloc (Nat.le_refl _) _).alloc (by simp) _).alloc (by simp; omega) _⟩

theorem checknode_any (n : M.Nd) (i len : Nat) (p q m : Int) (w : World) (hp : p = i) (hq : q = (len : Int) - 1) :
    Calls Tryd.prog 38 #[ndV n, .int .i64 p, .int .i64 q, .int .i64 m] w fun e w' => e = .returned (errV (M.nodeF n i len m)) ∧ Below w.heap.size w w' := by
  have C1 := hide (isleaf_any n)
  have C2 := hide (checkleaf_any n)
  have C3 := hide (fun W => checkask_any n i len p q m W hp hq)
  clear hp hq
  by_cases h : M.nf n = -1
  · have E : Hid (M.lfF n = M.nodeF n i len m) := by unfold Hid M.nodeF; rw [if_pos h]
    have hl : M.leafB n = true := by unfold M.leafB; exact decide_eq_true h
    rw [hl] at C1
    clear h hl C3
    unfold ndV at *
    generalize M.nodeF n i len m = o at *
    generalize M.lfF n = u at *
    generalize M.nf n = f at *
    generalize M.nc n = c at *
    generalize M.nl n = l at *
    generalize M.nr n = r at *
    generalize M.ns n = s at *
    generalize M.nv n = v at *
    go_enter Tryd.func38, Tryd.ntmps38
    go_wp2_with (first
      | (go_at_call 47; refine (C1.out _).mono ?_; rintro e w1 ⟨rfl, hb1⟩; have hcell : ∀ k, w1.cell? ⟨w.heap.size, k, none⟩ = _ := fun k => hb1.cell (p := ⟨w.heap.size, k, none⟩) (by simp))
      | (go_at_call 48; refine (C2.out _).mono ?_; rintro e w2 ⟨rfl, hb2⟩))
    go_ret
    exact ⟨ret_err E.out, below_on (below_on ((Below.refl _ w).alloc (Nat.le_refl _) _) hb1) hb2⟩
  · have E : Hid (M.asF n i len m = M.nodeF n i len m) := by unfold Hid M.nodeF; rw [if_neg h]
    have hl : M.leafB n = false := by unfold M.leafB; exact decide_eq_false h
    rw [hl] at C1
    clear h hl C2
    unfold ndV at *
    generalize M.nodeF n i len m = o at *
    generalize M.asF n i len m = u at *
    generalize M.nf n = f at *
    generalize M.nc n = c at *
    generalize M.nl n = l at *
    generalize M.nr n = r at *
    generalize M.ns n = s at *
    generalize M.nv n = v at *
    go_enter Tryd.func38, Tryd.ntmps38
    go_wp2_with (first
      | (go_at_call 47; refine (C1.out _).mono ?_; rintro e w1 ⟨rfl, hb1⟩; have hcell : ∀ k, w1.cell? ⟨w.heap.size, k, none⟩ = _ := fun k => hb1.cell (p := ⟨w.heap.size, k, none⟩) (by simp))
      | (go_at_call 49; refine (C3.out _).mono ?_; rintro e w2 ⟨rfl, hb2⟩))
    go_ret
    exact ⟨ret_err E.out, below_on (below_on ((Below.refl _ w).alloc (Nat.le_refl _) _) hb1) hb2⟩

end Go.Proofs.YtdadjppdonephagDoor

namespace Go.Proofs.YtdadjppdonephagDoor
open Go.ChangeShapes Go.WideShapes Go.ChangeAt Go.RowKit Go.Lib
set_option linter.unusedVariables false

/-- an array of 63 numbers of our own -/
def Arr (w : World) (B g : Nat) (F : List Int) : Prop := F.length = 63 ∧ w.ownsRow B 99 1 (.slice (some ⟨g, 0, none⟩) 63 63) 63 (F.map (Value.int .i64))
theorem Arr.cell {w : World} {B g : Nat} {F : List Int} (h : Arr w B g F) {i : Nat} (hi : i < 63) : w.cell? ⟨g, i, none⟩ = some (.int .i64 (F.getD i 0)) := by
  rw [h.2.cellAt i (by omega)]
  have := h.1
  simp [List.getD, show i < F.length by omega]
theorem Arr.frozen {w : World} {B g : Nat} {F : List Int} (h : Arr w B g F) (i : Nat) : w.frozen? ⟨g, i, none⟩ = false := h.2.frozenAt i
theorem Arr.set {w : World} {B g : Nat} {F : List Int} (h : Arr w B g F) (i : Nat) (x : Int) : Arr (w.setCell ⟨g, i, none⟩ (.int .i64 x)) B g (F.set i x) := by
  refine ⟨by rw [List.length_set]; exact h.1, ?_⟩
  rw [List.map_set]
  exact (h.2.stored i (.int .i64 x)).1
theorem Arr.up {w w' : World} {B g : Nat} {F : List Int} (h : Arr w B g F) (hb : Below w.heap.size w w') : Arr w' B g F := ⟨h.1, own_up h.2 hb⟩
theorem Arr.lt {w : World} {B g : Nat} {F : List Int} (h : Arr w B g F) : B ≤ g ∧ g < w.heap.size := h.2.lt g rfl
theorem Arr.new (w : World) (B : Nat) (hB : B ≤ w.heap.size) : Arr (w.alloc (.cells ((List.replicate 63 (Value.int .i64 0)).toArray) 99)) B w.heap.size (List.replicate 63 0) := by
  refine ⟨by simp, ?_⟩
  have := World.ownsRow_lit (base := B) (e := 99) (size := 1) w ((List.replicate 63 (Value.int .i64 0)).toArray) 63 hB (by unfold maxLen; omega) (by simp)
  rw [List.map_replicate]
  exact this
theorem cell_other {w : World} {g h a k : Nat} {v : Value} (hn : h ≠ g) : (w.setCell ⟨g, a, none⟩ v).cell? ⟨h, k, none⟩ = w.cell? ⟨h, k, none⟩ := by
  unfold World.cell? World.setCell
  simp [Array.getElem?_modify, hn.symm]

/-- a round's facts -/
theorem two_cells {wr W : World} {B g : Nat} {F : List Int} {o : Obj} {a b : Nat} (hA : Arr wr B g F) (hW : Below (wr.alloc o).heap.size (wr.alloc o) W) (ha : a < 63) (hb : b < 63) (hab : a ≠ b) (x y : Int) :
    W.cell? ⟨g, a, none⟩ = some (.int .i64 (F.getD a 0)) ∧ W.frozen? ⟨g, a, none⟩ = false ∧
    (∀ k, (W.setCell ⟨g, a, none⟩ (.int .i64 x)).cell? ⟨wr.heap.size, k, none⟩ = W.cell? ⟨wr.heap.size, k, none⟩) ∧
    (W.setCell ⟨g, a, none⟩ (.int .i64 x)).cell? ⟨g, b, none⟩ = some (.int .i64 (F.getD b 0)) ∧ (W.setCell ⟨g, a, none⟩ (.int .i64 x)).frozen? ⟨g, b, none⟩ = false ∧
    Arr ((W.setCell ⟨g, a, none⟩ (.int .i64 x)).setCell ⟨g, b, none⟩ (.int .i64 y)) B g ((F.set a x).set b y) := by
  have h1 : Arr (wr.alloc o) B g F := hA.up ((Below.refl _ _).alloc (Nat.le_refl _) _)
  have h2 : Arr W B g F := h1.up hW
  have h3 := h2.set a x
  refine ⟨h2.cell ha, h2.frozen a, fun k => cell_other (by have := hA.lt; omega), ?_, h3.frozen b, h3.set b y⟩
  rw [h3.cell hb]
  simp [List.getD, List.getElem?_set_ne hab]

set_option maxHeartbeats 4000000 in
set_option maxRecDepth 10000 in
theorem stray_any (a0 : Option Addr) (ts : List M.Nd) (cap : Nat) (m : Int) (w : World) (h : RdN w a0 ts) (hl : ts.length ≤ 63) (hf : ∀ j, j < ts.length → M.nodeF (M.nAt ts j) j ts.length m = 0) :
    Calls Tryd.prog 39 #[.slice a0 ts.length cap] w fun e w' => e = .returned (.int .i64 (M.strayV ts : Nat)) ∧ Below w.heap.size w w' := by
  have hm : ts.length ≤ 9223372036854775807 := h.1
  have HR := hide h.2
  have HF := hide hf
  clear h hf
  have SH : Hid (∀ i, i < ts.length → 0 < i → M.ups ts i ≠ 1 → (∀ j, 0 < j → j < i → M.ups ts j = 1) → M.strayV ts = i) := fun i h1 h2 h3 h4 => M.stray_hit h1 h2 h3 h4
  have SM : Hid ((∀ j, 0 < j → j < ts.length → M.ups ts j = 1) → M.strayV ts = 0) := fun h => M.stray_miss h
  generalize M.strayV ts = sv at *
  go_enter Tryd.func39, Tryd.ntmps39
  go_wp2
  go_loopw [9] (fun i wr => ∃ k : Nat, k ≤ ts.length ∧ i = .int .i64 k ∧ Arr wr w.heap.size w.heap.size (M.upsL ts k) ∧ Below w.heap.size w wr) (fun i _ => ts.length - (intOf i).toNat)
  case atStart =>
    refine ⟨0, Nat.zero_le _, rfl, ?_, (Below.refl _ w).alloc (Nat.le_refl _) _⟩
    rw [M.upsL_zero]
    exact Arr.new w w.heap.size (Nat.le_refl _)
  case round =>
    obtain ⟨k, hk, rfl, hown, hbl⟩ := hrel
    by_cases hlt : k < ts.length
    · obtain ⟨b0, off, rfl, hb0, hc⟩ := HR.out (by intro e; subst e; simp at hlt)
      obtain ⟨s0, s1, s2, s3, s4, s5⟩ := (hc k hlt).below hbl hb0
      have C1 := hide (isleaf_any (M.nAt ts k))
      unfold ndV at C1
      have NB : Hid (∀ o W, Below (wr.alloc o).heap.size (wr.alloc o) W → Below w.heap.size w W) := fun o W hW => below_on (below_on hbl ((Below.refl _ wr).alloc (Nat.le_refl _) o)) hW
      by_cases hf : M.nf (M.nAt ts k) = -1
      · have e1 : M.leafB (M.nAt ts k) = true := decide_eq_true hf
        rw [e1] at C1
        have NA : Hid (∀ o W, Below (wr.alloc o).heap.size (wr.alloc o) W → Arr W w.heap.size w.heap.size (M.upsL ts (k + 1))) := fun o W hW => by
          rw [M.upsL_leaf hlt hf]; exact (hown.up ((Below.refl _ wr).alloc (Nat.le_refl _) o)).up hW
        clear hc e1 hf hown hbl
        generalize M.nf (M.nAt ts k) = f at *
        generalize M.nc (M.nAt ts k) = c at *
        generalize M.nl (M.nAt ts k) = l at *
        generalize M.nr (M.nAt ts k) = r at *
        generalize M.ns (M.nAt ts k) = sl at *
        generalize M.nv (M.nAt ts k) = v at *
        go_wp2_with (go_at_call 47; refine (C1.out _).mono ?_; rintro e w1 ⟨rfl, hb1⟩)
        go_roundw
        case rel => exact ⟨k + 1, by omega, by go_num, NA.out _ w1 hb1, NB.out _ w1 hb1⟩
        case measure => simp [intOf]; omega
      · have e1 : M.leafB (M.nAt ts k) = false := decide_eq_false hf
        rw [e1] at C1
        obtain ⟨a, b, ea, eb, h1, h2, h3, h4, hab⟩ := M.ask_at HF.out hlt hf
        rw [ea] at s2 C1
        rw [eb] at s3 C1
        have ha : a < 63 := by omega
        have hb : b < 63 := by omega
        have TW := hide (fun o W (hW : Below (wr.alloc o).heap.size (wr.alloc o) W) => two_cells (x := (M.upsL ts k).getD a 0 + 1) (y := (M.upsL ts k).getD b 0 + 1) hown hW ha hb hab)
        have NE := hide (M.upsL_ask hlt hf ea eb ha hb hab)
        have za : 0 ≤ (M.upsL ts k).getD a 0 ∧ (M.upsL ts k).getD a 0 ≤ 126 := by
          rw [M.upsL_at ts k ha]
          have := M.ups_le (ts.take k) (a : Int)
          rw [List.length_take] at this
          omega
        have zb : 0 ≤ (M.upsL ts k).getD b 0 ∧ (M.upsL ts k).getD b 0 ≤ 126 := by
          rw [M.upsL_at ts k hb]
          have := M.ups_le (ts.take k) (b : Int)
          rw [List.length_take] at this
          omega
        obtain ⟨za0, za1⟩ := za
        obtain ⟨zb0, zb1⟩ := zb
        clear hc e1 hf hown hbl ea eb
        generalize (M.upsL ts k).getD a 0 = xa at *
        generalize (M.upsL ts k).getD b 0 = xb at *
        generalize M.nf (M.nAt ts k) = f at *
        generalize M.nc (M.nAt ts k) = c at *
        generalize M.ns (M.nAt ts k) = sl at *
        generalize M.nv (M.nAt ts k) = v at *
        go_wp2_with (go_at_call 47; refine (C1.out _).mono ?_; rintro e w1 ⟨rfl, hb1⟩; obtain ⟨t1, t2, t3, t4, t5, t6⟩ := TW.out _ w1 hb1; have hcell : ∀ k, w1.cell? ⟨wr.heap.size, k, none⟩ = _ := fun k => hb1.cell (p := ⟨wr.heap.size, k, none⟩) (by simp))
        go_roundw
        case rel =>
          refine ⟨k + 1, by omega, by go_num, ?_, ((NB.out _ w1 hb1).setCell (Nat.le_refl _) _).setCell (Nat.le_refl _) _⟩
          rw [← NE.out]; exact t6
        case measure => simp [intOf]; omega
    · have hke : k = ts.length := by omega
      rw [hke] at hown
      have CE : Hid (∀ i, i < 63 → wr.cell? ⟨w.heap.size, i, none⟩ = some (.int .i64 ((M.ups ts (i : Int) : Nat) : Int))) := fun i hi => by
        rw [hown.cell hi, M.upsL_at ts _ hi, List.take_length]
      have UL : Hid (∀ i : Nat, M.ups ts i ≤ 126) := fun i => by have := M.ups_le ts (i : Int); omega
      clear hown hke
      go_wp2
      go_loop [6] (fun i => ∃ j : Nat, 0 < j ∧ j ≤ ts.length + 1 ∧ i = .int .i64 j ∧ Hid (∀ p, 0 < p → p < j → M.ups ts p = 1)) (fun i => ts.length + 1 - (intOf i).toNat)
      case atStart => exact ⟨1, by omega, by omega, rfl, fun p h1 h2 => by omega⟩
      case round =>
        obtain ⟨j, hj0, hj, rfl, I⟩ := hrel
        by_cases hlt2 : j < ts.length
        · have hc := CE.out j (by omega)
          by_cases hu : M.ups ts (j : Int) = 1
          · have N : Hid (∀ p, 0 < p → p < j + 1 → M.ups ts p = 1) := fun p h1 h2 => by
              by_cases e : p = j
              · subst e; exact hu
              · exact I.out p h1 (by omega)
            have q : (((M.ups ts (j : Int) : Nat) : Int) != 1) = false := by rw [bne_eq_false_iff_eq]; omega
            clear hu
            generalize ((M.ups ts (j : Int) : Nat) : Int) = u at *
            go_wp2
            go_round
            case rel => exact ⟨j + 1, by omega, by omega, by go_num, N⟩
            case measure => simp [intOf]; omega
          · have E := hide (SH.out j hlt2 hj0 hu I.out)
            have q : (((M.ups ts (j : Int) : Nat) : Int) != 1) = true := by rw [bne_iff_ne]; omega
            clear hu
            generalize ((M.ups ts (j : Int) : Nat) : Int) = u at *
            go_wp2
            go_ret
            exact ⟨ret_int (by rw [E.out]), hbl⟩
        · have E := hide (SM.out fun p h1 h2 => I.out p h1 (by omega))
          go_wp2
          go_ret
          exact ⟨ret_int (by rw [E.out]; rfl), hbl⟩

end Go.Proofs.YtdadjppdonephagDoor

namespace Go.Proofs.YtdadjppdonephagDoor
open Go.ChangeShapes Go.WideShapes Go.ChangeAt Go.RowKit Go.Lib
set_option linter.unusedVariables false

/-- a round's facts -/
theorem lev_cells {wr W : World} {B g : Nat} {F : List Int} {o : Obj} {a b k : Nat} (hA : Arr wr B g F) (hW : Below (wr.alloc o).heap.size (wr.alloc o) W) (hk : k < 63) (hak : a ≠ k) (ha : a < 63) (hb : b < 63) (x y : Int) :
    (∃ z, W.cell? ⟨g, a, none⟩ = some (.int .i64 z)) ∧ (∃ z, (W.setCell ⟨g, a, none⟩ (.int .i64 x)).cell? ⟨g, b, none⟩ = some (.int .i64 z)) ∧
    W.cell? ⟨g, k, none⟩ = some (.int .i64 (F.getD k 0)) ∧ W.frozen? ⟨g, a, none⟩ = false ∧
    (∀ j, (W.setCell ⟨g, a, none⟩ (.int .i64 x)).cell? ⟨wr.heap.size, j, none⟩ = W.cell? ⟨wr.heap.size, j, none⟩) ∧
    (W.setCell ⟨g, a, none⟩ (.int .i64 x)).cell? ⟨g, k, none⟩ = some (.int .i64 (F.getD k 0)) ∧ (W.setCell ⟨g, a, none⟩ (.int .i64 x)).frozen? ⟨g, b, none⟩ = false ∧
    Arr ((W.setCell ⟨g, a, none⟩ (.int .i64 x)).setCell ⟨g, b, none⟩ (.int .i64 y)) B g ((F.set a x).set b y) := by
  have h1 : Arr (wr.alloc o) B g F := hA.up ((Below.refl _ _).alloc (Nat.le_refl _) _)
  have h2 : Arr W B g F := h1.up hW
  have h3 := h2.set a x
  refine ⟨⟨_, h2.cell ha⟩, ⟨_, h3.cell hb⟩, h2.cell hk, h2.frozen a, fun k => cell_other (by have := hA.lt; omega), ?_, h3.frozen b, h3.set b y⟩
  rw [h3.cell hk]
  simp [List.getD, List.getElem?_set_ne hak]
theorem max_val {dk lv n : Nat} (h : n = max dk lv) : Value.int .i64 (if dk < lv then (lv : Int) else (dk : Int)) = .int .i64 (n : Nat) := by
  rw [h]; congr 1; split <;> omega

set_option maxHeartbeats 4000000 in
set_option maxRecDepth 10000 in
theorem depth_any (a0 : Option Addr) (ts : List M.Nd) (cap : Nat) (m : Int) (w : World) (h : RdN w a0 ts) (hl : ts.length ≤ 63) (hf : ∀ j, j < ts.length → M.nodeF (M.nAt ts j) j ts.length m = 0) :
    Calls Tryd.prog 40 #[.slice a0 ts.length cap] w fun e w' => e = .returned (.int .i64 (M.deepest ts ts.length : Nat)) ∧ Below w.heap.size w w' := by
  have hm : ts.length ≤ 9223372036854775807 := h.1
  have HR := hide h.2
  have HF := hide hf
  clear h hf
  have DE : Hid (∀ k, k = ts.length → M.deepest ts k = M.deepest ts ts.length) := fun k e => by rw [e]
  generalize M.deepest ts ts.length = dv at *
  go_enter Tryd.func40, Tryd.ntmps40
  go_wp2
  go_loopw [4, 9] (fun d i wr => ∃ k : Nat, k ≤ ts.length ∧ i = .int .i64 k ∧ d = .int .i64 (M.deepest ts k : Nat) ∧ Arr wr w.heap.size w.heap.size (M.levL ts k) ∧ Below w.heap.size w wr) (fun _ i _ => ts.length - (intOf i).toNat)
  case atStart =>
    refine ⟨0, Nat.zero_le _, rfl, rfl, ?_, (Below.refl _ w).alloc (Nat.le_refl _) _⟩
    rw [M.levL_zero]
    exact Arr.new w w.heap.size (Nat.le_refl _)
  case round =>
    obtain ⟨k, hk, rfl, rfl, hown, hbl⟩ := hrel
    by_cases hlt : k < ts.length
    · obtain ⟨b0, off, rfl, hb0, hc⟩ := HR.out (by intro e; subst e; simp at hlt)
      obtain ⟨s0, s1, s2, s3, s4, s5⟩ := (hc k hlt).below hbl hb0
      have C1 := hide (isleaf_any (M.nAt ts k))
      unfold ndV at C1
      have k63 : k < 63 := by omega
      have NB : Hid (∀ o W, Below (wr.alloc o).heap.size (wr.alloc o) W → Below w.heap.size w W) := fun o W hW => below_on (below_on hbl ((Below.refl _ wr).alloc (Nat.le_refl _) o)) hW
      have ck : wr.cell? ⟨w.heap.size, k, none⟩ = some (.int .i64 ((M.levL ts k).getD k 0)) := hown.cell k63
      have glt : w.heap.size < wr.heap.size := hown.lt.2
      have DN : Hid (M.deepest ts (k + 1) = max (M.deepest ts k) (M.lev ts k k)) := rfl
      have LV : Hid ((M.levL ts k).getD k 0 = ((M.lev ts k k : Nat) : Int)) := M.levL_at ts k k63
      have DB := M.deep_le ts k
      have LB := M.lev_le ts k k
      by_cases hf : M.nf (M.nAt ts k) = -1
      · have e1 : M.leafB (M.nAt ts k) = true := decide_eq_true hf
        rw [e1] at C1
        have NA : Hid (∀ o W, Below (wr.alloc o).heap.size (wr.alloc o) W → Arr W w.heap.size w.heap.size (M.levL ts (k + 1))) := fun o W hW => by
          rw [M.levL_leaf hf]; exact (hown.up ((Below.refl _ wr).alloc (Nat.le_refl _) o)).up hW
        rw [LV.out] at ck
        clear hc e1 hf hown hbl LV
        generalize M.lev ts k k = lv at *
        generalize M.deepest ts k = dk at *
        generalize M.nf (M.nAt ts k) = f at *
        generalize M.nc (M.nAt ts k) = c at *
        generalize M.nl (M.nAt ts k) = l at *
        generalize M.nr (M.nAt ts k) = r at *
        generalize M.ns (M.nAt ts k) = sl at *
        generalize M.nv (M.nAt ts k) = v at *
        go_wp2_with (go_at_call 47; refine (C1.out _).mono ?_; rintro e w1 ⟨rfl, hb1⟩)
        go_roundw
        case rel => exact ⟨k + 1, by omega, by go_num, max_val DN.out, NA.out _ w1 hb1, NB.out _ w1 hb1⟩
        case measure => simp [intOf]; omega
      · have e1 : M.leafB (M.nAt ts k) = false := decide_eq_false hf
        rw [e1] at C1
        obtain ⟨a, b, ea, eb, h1, h2, h3, h4, hab⟩ := M.ask_at HF.out hlt hf
        rw [ea] at s2 C1
        rw [eb] at s3 C1
        have ha : a < 63 := by omega
        have hb : b < 63 := by omega
        have TW := hide (fun o W (hW : Below (wr.alloc o).heap.size (wr.alloc o) W) => lev_cells (a := a) (b := b) (x := (M.levL ts k).getD k 0 + 1) (y := (M.levL ts k).getD k 0 + 1) hown hW k63 (by omega) ha hb)
        have NE := hide (M.levL_ask hf ea eb k63)
        rw [LV.out] at ck TW NE
        clear hc e1 hf hown hbl LV ea eb
        generalize M.lev ts k k = lv at *
        generalize M.deepest ts k = dk at *
        generalize M.nf (M.nAt ts k) = f at *
        generalize M.nc (M.nAt ts k) = c at *
        generalize M.ns (M.nAt ts k) = sl at *
        generalize M.nv (M.nAt ts k) = v at *
        go_wp2_with (go_at_call 47; refine (C1.out _).mono ?_; rintro e w1 ⟨rfl, hb1⟩; have hcell : ∀ k, w1.cell? ⟨wr.heap.size, k, none⟩ = _ := fun k => hb1.cell (p := ⟨wr.heap.size, k, none⟩) (by simp); have TT := TW.out _ w1 hb1; obtain ⟨q1, q2, t1, t2, t3, t4, t5, t6⟩ := TT; obtain ⟨za, c1⟩ := q1; obtain ⟨zb, c2⟩ := q2; generalize hmx : (if dk < lv then (lv : Int) else (dk : Int)) = mx; have HM := hide hmx; clear hmx)
        go_region
        all_goals go_wp2_with fail
        all_goals go_region
        all_goals go_wp2_with fail
        go_roundw
        case rel =>
          refine ⟨k + 1, by omega, by go_num, by rw [← HM.out]; exact max_val DN.out, ?_, (((NB.out _ w1 hb1).setCell (Nat.le_refl _) _).setCell (Nat.le_refl _) _).drew.drew⟩
          rw [← NE.out]; exact (t6.up (Below.refl _ _).drew).up (Below.refl _ _).drew
        case measure => simp [intOf]; omega
    · have E := hide (DE.out k (by omega))
      go_wp2
      go_ret
      exact ⟨ret_int (by rw [E.out]), hbl⟩

end Go.Proofs.YtdadjppdonephagDoor
