/-
  Several texts as one: MathCc, InBox, CdIn, CdRdr, CdNode, CdTree, NdSame.
-/
import Derived.Test.YtelncekgjfpogahGreatDoorRunT11
import Derived.Test.YtelncekgjfpogahGreatDoorRunT1
import Derived.Deep.Cut
import Derived.Deep.CutRange
import Derived.BigQuiet
import Derived.Deep.QuietTactic
import Derived.Test.YtelncekgjfpogahGreatDoorRunT4
import Derived.Test.YtelncekgjfpogahGreatDoorRunT6
import Derived.Deep.RegionWith
import Derived.RegionTactic
namespace Go.Proofs.YtelncekgjfpogahGreatDoor.M
set_option linter.unusedVariables false
theorem nd_ok {n : Nd} {i len : Nat} {m : Int} (hl : len ≤ 63) (hm : m ≤ 8) (h : nodeF n i len m = 0) : NdOk n := by
 by_cases q : nf n = -1
 · unfold nodeF at h
   rw [if_pos q] at h
   unfold lfF at h
   split at h
   · cases h
   · rename_i h1
     split at h
     · cases h
     · rename_i h2
       have o := out_false (x := nv n) (by cases e : outI (nv n) with | false => rfl | true => exact absurd e h1)
       obtain ⟨f, c, l, r, s, v⟩ := n
       have z1 : c = 0 := by by_cases e : c = 0; exact e; exact absurd (.inl e) h2
       have z2 : l = 0 := by by_cases e : l = 0; exact e; exact absurd (.inr (.inl e)) h2
       have z3 : r = 0 := by by_cases e : r = 0; exact e; exact absurd (.inr (.inr (.inl e))) h2
       have z4 : s = false := by cases s with | false => rfl | true => exact absurd (.inr (.inr (.inr rfl))) h2
       have q' : f = -1 := q
       have o' : -1000000 ≤ v ∧ v ≤ 1000000 := o
       subst z1 z2 z3 z4 q'
       refine ⟨?_, ?_, ?_, ?_, ?_, fun _ => rfl, fun z => absurd rfl z⟩
       · show I64 (-1); unfold I64; omega
       · show I64 0; unfold I64; omega
       · show I64 0; unfold I64; omega
       · show I64 0; unfold I64; omega
       · show I64 v; unfold I64; omega
 · obtain ⟨a1, a2, a3, a4, a5, a6, a7, a8, a9⟩ := node_ask h q
   have o := out_false a3
   refine ⟨?_, ?_, ?_, ?_, ?_, fun z => absurd z q, fun _ => a8⟩
   · unfold I64; omega
   · unfold I64; omega
   · unfold I64; omega
   · unfold I64; omega
   · rw [a8]; unfold I64; omega
theorem tr_ok {t : List Nd} {m w : Int} (hw : 1 ≤ w ∧ w ≤ 1000) (h : (treeF t m).2 = 0) : TrOk (w, t) := by
 have F := (tree_ok h).1
 refine ⟨?_, F.2.1, F.1, fun n hn => ?_⟩
 · show I64 w; unfold I64; omega
 · obtain ⟨i, hi, rfl⟩ := List.getElem_of_mem hn
   have := F.2.2.2.2.1 i hi
   have e : nAt t i = t[i] := by unfold nAt; rw [getD_at hi]
   rw [e] at this
   exact nd_ok F.1 F.2.2.2.1 this
theorem zip_ok {g : Gv} (h : Good g) : ∀ x ∈ (gs g).zip (gt g), TrOk x := fun x hx => by
 obtain ⟨w, t⟩ := x
 have h1 := List.of_mem_zip hx
 exact tr_ok (h.wts w h1.1) (h.trees t h1.2)
theorem zip_len {g : Gv} (h : Good g) : ((gs g).zip (gt g)).length = (gt g).length := by rw [List.length_zip, h.len, Nat.min_self]
theorem dec_along {g : Gv} (h : Good g) {m : Nat} (hm : m ≤ (encB g).length) :
 (m = (encB g).length ∧ (rAll ((encB g).take m)).2.bad = 0 ∧ (rAll ((encB g).take m)).2.fin = m ∧ rGrove ((encB g).take m) = g) ∨ (m < (encB g).length ∧ Cut8 ((encB g).take m) (rAll ((encB g).take m)).2) := by
 obtain ⟨b, hb⟩ : ∃ b, b = (encB g).take m := ⟨_, rfl⟩
 rw [← hb]
 have bl : b.length = m := by rw [hb, List.length_take, Nat.min_eq_left hm]
 have i1 : I64 (gf g) := by have := h.f0; have := h.f8; unfold I64; omega
 have i2 : I64 (gw g) := by have := h.w1; have := h.w3; unfold I64; omega
 have i3 : I64 ((gt g).length : Int) := by have := h.t12; unfold I64; omega
 have el : (encB g).length = (numL (gf g)).length + (numL (gw g)).length + (numL ((gt g).length : Int)).length + (bysL (((gs g).zip (gt g)).flatMap trL)).length := by
  unfold encB grL
  rw [bys_cons, bys_cons, bys_cons, List.length_append, List.length_append, List.length_append]
  omega
 have A0 : Aln b in0 (gf g :: (gw g :: (((gt g).length : Int) :: (((gs g).zip (gt g)).flatMap trL ++ [])))) m := by
  refine ⟨rfl, Nat.zero_le _, ?_⟩
  show b.drop 0 = _
  rw [List.drop_zero, hb, List.append_nil]
  rfl
 have cutAll : ∀ s, Cut8 b s → (rHead b).2 = s → Cut8 b (rAll b).2 := fun s hs e => by
  unfold rAll
  rw [e, cut_trees hs]
  exact hs
 have t0 := h.t0
 have t12 := h.t12
 rcases rNum_aln i1 A0 with ⟨a1, a2, a3, a4⟩ | ⟨a1, a2⟩
 · rcases rNum_aln i2 a3 with ⟨b1, b2, b3, b4⟩ | ⟨b1, b2⟩
   · rcases rMany_aln (most := 12) i3 (by omega) (by omega) b3 with ⟨c1, c2, c3, c4⟩ | ⟨c1, c2⟩
     · have hd : (rHead b).1 = (gf g, gw g, ((gt g).length : Int)) := by unfold rHead; rw [a2, b2, c2]
       have hs : (rHead b).2 = (rMany b 12 (rNum b (rNum b in0).2).2).2 := rfl
       have ra : rAll b = rTrees b ((gs g).zip (gt g)).length (rMany b 12 (rNum b (rNum b in0).2).2).2 := by
        unfold rAll
        rw [hd, hs, zip_len h]
        rfl
       rcases rTrees_aln ((gs g).zip (gt g)) _ _ (zip_ok h) c3 with ⟨d1, d2, d3⟩ | ⟨d1, d2⟩
       · left
         have em : m = (encB g).length := by omega
         rw [← ra] at d2 d3
         refine ⟨em, d3.1, ?_, ?_⟩
         · have z := d3.2.2
           have z2 : b.drop (rAll b).2.fin = [] := by rw [z]; simp [bysL]
           have z3 := congrArg List.length z2
           rw [List.length_drop] at z3
           have := d3.2.1
           simp at z3
           omega
         · unfold rGrove
           rw [hd, d2]
           have e1 : ((gs g).zip (gt g)).map (·.1) = gs g := by
            rw [List.map_fst_zip]
            have := h.len
            omega
           have e2 : ((gs g).zip (gt g)).map (·.2) = gt g := by
            rw [List.map_snd_zip]
            have := h.len
            omega
           rw [e1, e2]
       · right
         rw [ra]
         exact ⟨by omega, d2⟩
     · right
       exact ⟨by omega, cutAll _ c2 rfl⟩
   · right
     exact ⟨by omega, cutAll _ (cut_many b2) rfl⟩
 · right
   exact ⟨by omega, cutAll _ (cut_many (cut_num a2)) rfl⟩
theorem dec_enc {g : Gv} (h : encF g = 0) : decF (encV g) = (0, 0) ∧ decV (encV g) = g := by
 have ev : encV g = encB g := by unfold encV; rw [if_pos h]
 unfold encF at h
 split at h
 · rename_i h1; exact absurd h h1
 · rename_i h1
   have h0 : groveF g = 0 := by omega
   have G := (good_iff g).1 h0
   split at h
   · cases h
   · rename_i h2
     rw [ev]
     rcases dec_along G (Nat.le_refl (encB g).length) with ⟨_, a2, a3, a4⟩ | ⟨a1, _⟩
     · rw [List.take_length] at a2 a3 a4
       have d : decF (encB g) = (0, 0) := by
        unfold decF
        rw [if_neg h2, if_neg (by simp [a2]), if_neg (by simp [a3]), if_neg (by rw [a4]; simp [h0])]
       refine ⟨d, ?_⟩
       unfold decV
       rw [d, if_pos rfl, a4]
     · omega
end Go.Proofs.YtelncekgjfpogahGreatDoor.M
namespace Go.Proofs.YtelncekgjfpogahGreatDoor
open Go.ChangeShapes Go.WideShapes Go.ChangeAt Go.RowKit Go.Lib
set_option linter.unusedVariables false
theorem M.gt_le : ∀ (b : List Nat) (i x : Nat), (M.gtK b i x).2.1 ≤ i + b.length
 | [], i, x => by show 0 ≤ i + 0; omega
 | c :: r, i, x => by
   have ih := M.gt_le r (i + 1) (x + c % 128 * 128 ^ i)
   show (if (i = 9 ∧ 1 < c) ∨ (0 < i ∧ c = 0) then ((0 : Int), (0 : Nat), (2 : Int)) else if c < 128 then (M.unz (x + c % 128 * 128 ^ i), i + 1, 0) else M.gtK r (i + 1) (x + c % 128 * 128 ^ i)).2.1 ≤ i + (r.length + 1)
   split
   · exact Nat.zero_le _
   · split
     · show i + 1 ≤ _; omega
     · omega
theorem M.get_le (b : List Nat) : (M.getL b).2.1 ≤ b.length := by
 have := M.gt_le b 0 0
 rw [Nat.zero_add] at this
 exact this
theorem M.rNum_fin {b : List Nat} {s : M.In} (h : s.fin ≤ b.length) : (M.rNum b s).2.fin ≤ b.length := by
 by_cases q : s.bad = 0
 · rw [M.rNum_go q]
   have := M.get_le (b.drop s.fin)
   rw [List.length_drop] at this
   show s.fin + _ ≤ _
   omega
 · rw [M.rNum_bad q]; exact h
theorem M.rMany_fin {b : List Nat} {s : M.In} {most : Int} (h : s.fin ≤ b.length) : (M.rMany b most s).2.fin ≤ b.length := by
 have := M.rNum_fin h
 unfold M.rMany
 split
 · exact this
 · split
   · exact this
   · exact this
theorem cell_set_same {W : World} {g o : Nat} {u v : Value} (h : W.cell? ⟨g, o, none⟩ = some u) : (W.setCell ⟨g, o, none⟩ v).cell? ⟨g, o, none⟩ = some v := World.cell?_setCell_same _ _ _ h
theorem cell_set_other {W : World} {g o j : Nat} {u v : Value} (h : W.cell? ⟨g, j, none⟩ = some u) (hj : o ≠ j) : (W.setCell ⟨g, o, none⟩ v).cell? ⟨g, j, none⟩ = some u := (World.cell?_setCell_other _ _ _ _ (by intro e; cases e; exact hj rfl)).trans h
theorem frozen_set {W : World} {g o j : Nat} {v : Value} (h : W.frozen? ⟨g, j, none⟩ = false) : (W.setCell ⟨g, o, none⟩ v).frozen? ⟨g, j, none⟩ = false := by rw [World.frozen?_setCell]; exact h
theorem rdB_keep {W W' : World} {a : Option Addr} {xs : List Nat} (h : RdB W a xs) (hk : xs ≠ [] → ∀ p, a = some p → W'.heap[p.block]? = W.heap[p.block]?) (hz : W.heap.size ≤ W'.heap.size) : RdB W' a xs :=
 ⟨h.1, h.2.1, fun hn => by
  obtain ⟨b, off, e, hl, hc⟩ := h.2.2 hn
  have hb : W'.heap[b]? = W.heap[b]? := hk hn _ e
  exact ⟨b, off, e, Nat.lt_of_lt_of_le hl hz, fun i hi => (World.cell?_of_block (a := ⟨b, _, none⟩) hb).trans (hc i hi)⟩⟩
def M.lat (s : M.In) : Nat := if s.bad = 0 then s.fin else s.at'
def M.rWith (b : List Nat) (lo hi e : Int) (s : M.In) : Int × M.In :=
 if s.bad ≠ 0 then (0, s)
 else if (M.getL (b.drop s.fin)).2.2 ≠ 0 then (0, ⟨s.fin, s.fin + (M.getL (b.drop s.fin)).2.1, (M.getL (b.drop s.fin)).2.2⟩)
 else if (M.getL (b.drop s.fin)).1 < lo ∨ hi < (M.getL (b.drop s.fin)).1 then (0, ⟨s.fin, s.fin + (M.getL (b.drop s.fin)).2.1, e⟩)
 else ((M.getL (b.drop s.fin)).1, ⟨s.fin, s.fin + (M.getL (b.drop s.fin)).2.1, 0⟩)
theorem M.gt_zero : ∀ (b : List Nat) (i x : Nat), (M.gtK b i x).2.2 ≠ 0 → (M.gtK b i x).1 = 0
 | [], i, x, _ => rfl
 | c :: r, i, x, h => by
   have ih := M.gt_zero r (i + 1) (x + c % 128 * 128 ^ i)
   have e : M.gtK (c :: r) i x = if (i = 9 ∧ 1 < c) ∨ (0 < i ∧ c = 0) then ((0 : Int), (0 : Nat), (2 : Int)) else if c < 128 then (M.unz (x + c % 128 * 128 ^ i), i + 1, 0) else M.gtK r (i + 1) (x + c % 128 * 128 ^ i) := rfl
   rw [e] at h ⊢
   split
   · rfl
   · next q =>
     rw [if_neg q] at h
     split
     · next q2 => rw [if_pos q2] at h; exact absurd rfl h
     · next q2 => rw [if_neg q2] at h; exact ih h
theorem M.rWith_num {b : List Nat} (h8 : ∀ x ∈ b, x < 256) (s : M.In) : M.rWith b (-9223372036854775808) 9223372036854775807 1 s = M.rNum b s := by
 unfold M.rWith
 by_cases q : s.bad = 0
 · rw [if_neg (by simp [q]), M.rNum_go q]
   by_cases r : (M.getL (b.drop s.fin)).2.2 = 0
   · rw [if_neg (by simp [r])]
     obtain ⟨⟨n, k, e⟩, hR⟩ : ∃ R, M.getL (b.drop s.fin) = R := ⟨_, rfl⟩
     rw [hR] at r ⊢
     have r' : e = 0 := r
     subst r'
     have g := M.get_back (fun x hx => h8 x (List.mem_of_mem_drop hx)) hR
     rw [if_neg (by show ¬ (n < _ ∨ _ < n); omega)]
   · rw [if_pos r]
     have := M.gt_zero (b.drop s.fin) 0 0 r
     show (0, _) = ((M.gtK (b.drop s.fin) 0 0).1, _)
     rw [this]
 · rw [if_pos q, M.rNum_bad q]
theorem M.rWith_many (b : List Nat) (most : Int) (s : M.In) : M.rWith b 1 most 1 s = M.rMany b most s := by
 unfold M.rWith M.rMany
 by_cases q : s.bad = 0
 · rw [if_neg (by simp [q]), M.rNum_go q]
   by_cases r : (M.getL (b.drop s.fin)).2.2 = 0
   · rw [if_neg (by simp [r])]
     by_cases z : (M.getL (b.drop s.fin)).1 < 1 ∨ most < (M.getL (b.drop s.fin)).1
     · rw [if_pos z, if_pos ⟨r, z⟩]
     · rw [if_neg z, if_neg (fun y => z y.2), if_neg (by simp [r]), r]
   · rw [if_pos r, if_neg (fun y => r y.1), if_pos r]
 · rw [if_pos q, M.rNum_bad q, if_neg (fun y => q y.1), if_pos q]
theorem M.rWith_tru {b : List Nat} (h8 : ∀ x ∈ b, x < 256) (s : M.In) : (M.rWith b 0 1 2 s).2 = (if (M.rNum b s).2.bad = 0 ∧ (M.rNum b s).1 ≠ 0 ∧ (M.rNum b s).1 ≠ 1 then { (M.rNum b s).2 with bad := 2 } else (M.rNum b s).2) ∧ ((M.rWith b 0 1 2 s).1 == 1) = decide ((M.rNum b s).1 = 1) := by
 unfold M.rWith
 by_cases q : s.bad = 0
 · rw [if_neg (by simp [q]), M.rNum_go q]
   by_cases r : (M.getL (b.drop s.fin)).2.2 = 0
   · rw [if_neg (by simp [r])]
     by_cases z : (M.getL (b.drop s.fin)).1 < 0 ∨ 1 < (M.getL (b.drop s.fin)).1
     · rw [if_pos z, if_pos ⟨r, by show (M.getL (b.drop s.fin)).1 ≠ 0; omega, by show (M.getL (b.drop s.fin)).1 ≠ 1; omega⟩]
       exact ⟨rfl, by rw [decide_eq_false (by show ¬ (M.getL (b.drop s.fin)).1 = 1; omega)]; rfl⟩
     · rw [if_neg z, if_neg (by rintro ⟨_, y1, y2⟩; exact z (by have y1 : (M.getL (b.drop s.fin)).1 ≠ 0 := y1; have y2 : (M.getL (b.drop s.fin)).1 ≠ 1 := y2; omega))]
       exact ⟨by rw [r], rfl⟩
   · rw [if_pos r, if_neg (fun y => r y.1)]
     refine ⟨rfl, ?_⟩
     have e : (M.getL (b.drop s.fin)).1 = 0 := M.gt_zero (b.drop s.fin) 0 0 r
     show ((0 : Int) == 1) = decide ((M.getL (b.drop s.fin)).1 = 1)
     rw [e]
     rfl
 · rw [if_pos q, M.rNum_bad q, if_neg (fun y => q y.1)]
   exact ⟨rfl, rfl⟩
structure RdA (W : World) (g : Nat) (v : Value) (s : M.In) : Prop where
 c0 : W.cell? ⟨g, 0, none⟩ = some v
 c1 : W.cell? ⟨g, 1, none⟩ = some (.int .i64 (M.lat s : Nat))
 c2 : W.cell? ⟨g, 2, none⟩ = some (errV s.bad)
 fr : ∀ j, W.frozen? ⟨g, j, none⟩ = false
theorem RdA.lt {W : World} {g : Nat} {v : Value} {s : M.In} (h : RdA W g v s) : g < W.heap.size := block_lt_of_cell h.c0
theorem RdA.same {W W' : World} {g : Nat} {v : Value} {s : M.In} (h : RdA W g v s) (e : W'.heap[g]? = W.heap[g]?) : RdA W' g v s :=
 ⟨(World.cell?_of_block (a := ⟨g, 0, none⟩) e).trans h.c0, (World.cell?_of_block (a := ⟨g, 1, none⟩) e).trans h.c1, (World.cell?_of_block (a := ⟨g, 2, none⟩) e).trans h.c2, fun j => (World.frozen?_of_block (a := ⟨g, j, none⟩) e).trans (h.fr j)⟩
theorem RdA.up {W W' : World} {g : Nat} {v : Value} {s : M.In} (h : RdA W g v s) (hb : Below W.heap.size W W') : RdA W' g v s := h.same (hb.block g h.lt)
theorem RdA.go {W : World} {g : Nat} {v : Value} {s : M.In} (h : RdA W g v s) (hs : s.bad = 0) (n : Nat) (z : Int) (hz : z = (n : Int)) : RdA (W.setCell ⟨g, 1, none⟩ (.int .i64 z)) g v ⟨s.fin, n, 0⟩ := by
 subst hz
 refine ⟨cell_set_other h.c0 (by decide), ?_, ?_, fun j => frozen_set (h.fr j)⟩
 · have e : M.lat ⟨s.fin, n, 0⟩ = n := if_pos rfl
   rw [e]; exact cell_set_same h.c1
 · have := h.c2
   rw [hs] at this
   exact cell_set_other this (by decide)
theorem RdA.stop {W : World} {g : Nat} {v : Value} {s : M.In} (h : RdA W g v s) (hs : s.bad = 0) (n : Nat) (e : Int) (he : e ≠ 0) : RdA (W.setCell ⟨g, 2, none⟩ (.iface 74 (.int .i64 e))) g v ⟨s.fin, n, e⟩ := by
 refine ⟨cell_set_other h.c0 (by decide), ?_, ?_, fun j => frozen_set (h.fr j)⟩
 · have e1 : M.lat ⟨s.fin, n, e⟩ = M.lat s := by unfold M.lat; rw [if_neg he, if_pos hs]
   rw [e1]; exact cell_set_other h.c1 (by decide)
 · show _ = some (errV e)
   rw [err_some he]; exact cell_set_same h.c2
set_option maxHeartbeats 8000000 in
set_option maxRecDepth 10000 in
theorem within_any (g : Nat) (a : Option Addr) (bs : List Nat) (c : Nat) (lo hi told : Int) (s : M.In) (w : World) (h : RdA w g (.slice a bs.length c) s) (hb : RdB w a bs) (hc : bs.length ≤ c) (h63 : c ≤ 9223372036854775807) (hf : s.fin ≤ bs.length) (ht : told ≠ 0) :
 Calls Tryz.prog 112 #[.pointer (some ⟨g, 0, none⟩), .int .i64 lo, .int .i64 hi, .int .i64 told] w fun e w' => e = .returned (.int .i64 (M.rWith bs lo hi told s).1) ∧ RdA w' g (.slice a bs.length c) (M.rWith bs lo hi told s).2 ∧ w.grownBy w' (some g) := by
 have y2 := h.c2
 have HT := hide ht
 clear ht
 by_cases q : s.bad = 0
 · have EW : Hid (M.rWith bs lo hi told s = if (M.getL (bs.drop s.fin)).2.2 ≠ 0 then (0, ⟨s.fin, s.fin + (M.getL (bs.drop s.fin)).2.1, (M.getL (bs.drop s.fin)).2.2⟩) else if (M.getL (bs.drop s.fin)).1 < lo ∨ hi < (M.getL (bs.drop s.fin)).1 then (0, ⟨s.fin, s.fin + (M.getL (bs.drop s.fin)).2.1, told⟩) else ((M.getL (bs.drop s.fin)).1, ⟨s.fin, s.fin + (M.getL (bs.drop s.fin)).2.1, 0⟩)) := by
    unfold Hid M.rWith; rw [if_neg (by simp [q])]
   rw [err_nil q] at y2
   have y0 := h.c0
   have y1 := h.c1
   rw [show M.lat s = s.fin from if_pos q] at y1
   have Q := hide q
   obtain ⟨R, hR⟩ : ∃ R, R = M.getL (bs.drop s.fin) := ⟨_, rfl⟩
   have rl : s.fin + R.2.1 ≤ bs.length := by
    have := M.get_le (bs.drop s.fin)
    rw [← hR, List.length_drop] at this
    omega
   have GT : Hid (∀ (W : World) a' n' c', n' = bs.length - s.fin → RdB W a' (bs.drop s.fin) → Calls Tryz.prog 137 #[.slice a' n' c'] W fun e w' => e = .returned (.tuple #[.int .i64 R.1, .int .i64 (R.2.1 : Nat), errV R.2.2]) ∧ w' = W) := fun W a' n' c' hn h' => by
    have := cdget_same a' (bs.drop s.fin) c' W h'
    rw [List.length_drop, ← hn, ← hR] at this
    exact this
   rw [← hR] at EW
   have RS : Hid (∀ n, RdB (w.drewN n) (if c = s.fin then a else Option.map (fun x => x.add s.fin) a) (bs.drop s.fin)) := fun n => rdB_slice (hb.below (below_drew (Below.refl _ _) n (Nat.le_refl _))) hc
   have z0 : (0 : Int) ≤ (s.fin : Int) := by omega
   have z1 : (s.fin : Int) ≤ (bs.length : Int) := by omega
   have z2 : (s.fin : Int) ≤ (c : Int) := by omega
   have HH := hide h
   generalize M.rWith bs lo hi told s = Z at *
   clear h hb hR q
   obtain ⟨n, k, er⟩ := R
   have rl : s.fin + k ≤ bs.length := rl
   have rl2 : s.fin + k ≤ 9223372036854775807 := by omega
   simp only at GT EW
   by_cases r : er = 0
   · subst r
     have zn : errV 0 = .nilIface := if_pos rfl
     rw [zn] at GT
     rw [if_neg (by simp)] at EW
     clear zn
     by_cases l1 : n < lo
     · have EZ : Hid (Z = (0, ⟨s.fin, s.fin + k, told⟩)) := by unfold Hid; rw [EW.out, if_pos (.inl l1)]
       have t1 : decide (n < lo) = true := decide_eq_true l1
       clear EW l1
       go_enter Tryz.func112, Tryz.ntmps112
       go_upto_region 3 with (fail)
       go_quiet ((go_at_call 137; exact Calls.quiet_of_same (GT.out _ _ _ _ rfl (RS.out _))))
       generalize (if c = s.fin then a else Option.map (fun x => x.add s.fin) a) = ad
       obtain ⟨w2, hw2⟩ : ∃ X, X = w.drewN nq := ⟨_, rfl⟩
       rw [← hw2]
       have H2 : Hid (RdA w2 g (.slice a bs.length c) s) := by rw [hw2]; exact HH.out.up (below_drew (Below.refl _ _) nq (Nat.le_refl _))
       have G2 : Hid (w.grownBy w2 (some g)) := by rw [hw2]; exact grown_of (below_drew (Below.refl _ _) nq (Nat.le_refl _)) (some g)
       clear hw2 y0 y1 y2 GT RS HH
       have v2 : w2.cell? ⟨g, 2, none⟩ = some (.nilIface) := by have := H2.out.c2; rwa [err_nil Q.out] at this
       have f2 := H2.out.fr 2
       have S3 := hide (H2.out.stop Q.out (s.fin + k) told HT.out)
       go_wp2
       go_ret
       exact ⟨by rw [EZ.out]; rfl, by rw [EZ.out]; exact S3.out, grown_trans G2.out grown_set (.inl rfl)⟩
     · by_cases l2 : hi < n
       · have EZ : Hid (Z = (0, ⟨s.fin, s.fin + k, told⟩)) := by unfold Hid; rw [EW.out, if_pos (.inr l2)]
         have t1 : decide (n < lo) = false := decide_eq_false l1
         have t2 : decide (hi < n) = true := decide_eq_true l2
         clear EW l1 l2
         go_enter Tryz.func112, Tryz.ntmps112
         go_upto_region 3 with (fail)
         go_quiet ((go_at_call 137; exact Calls.quiet_of_same (GT.out _ _ _ _ rfl (RS.out _))))
         generalize (if c = s.fin then a else Option.map (fun x => x.add s.fin) a) = ad
         obtain ⟨w2, hw2⟩ : ∃ X, X = w.drewN nq := ⟨_, rfl⟩
         rw [← hw2]
         have H2 : Hid (RdA w2 g (.slice a bs.length c) s) := by rw [hw2]; exact HH.out.up (below_drew (Below.refl _ _) nq (Nat.le_refl _))
         have G2 : Hid (w.grownBy w2 (some g)) := by rw [hw2]; exact grown_of (below_drew (Below.refl _ _) nq (Nat.le_refl _)) (some g)
         clear hw2 y0 y1 y2 GT RS HH
         have v2 : w2.cell? ⟨g, 2, none⟩ = some (.nilIface) := by have := H2.out.c2; rwa [err_nil Q.out] at this
         have f2 := H2.out.fr 2
         have S3 := hide (H2.out.stop Q.out (s.fin + k) told HT.out)
         go_wp2
         go_ret
         exact ⟨by rw [EZ.out]; rfl, by rw [EZ.out]; exact S3.out, grown_trans G2.out grown_set (.inl rfl)⟩
       · have EZ : Hid (Z = (n, ⟨s.fin, s.fin + k, 0⟩)) := by unfold Hid; rw [EW.out, if_neg (by rintro (y | y); exact l1 y; exact l2 y)]
         have t1 : decide (n < lo) = false := decide_eq_false l1
         have t2 : decide (hi < n) = false := decide_eq_false l2
         clear EW l1 l2
         go_enter Tryz.func112, Tryz.ntmps112
         go_upto_region 3 with (fail)
         go_quiet ((go_at_call 137; exact Calls.quiet_of_same (GT.out _ _ _ _ rfl (RS.out _))))
         generalize (if c = s.fin then a else Option.map (fun x => x.add s.fin) a) = ad
         obtain ⟨w2, hw2⟩ : ∃ X, X = w.drewN nq := ⟨_, rfl⟩
         rw [← hw2]
         have H2 : Hid (RdA w2 g (.slice a bs.length c) s) := by rw [hw2]; exact HH.out.up (below_drew (Below.refl _ _) nq (Nat.le_refl _))
         have G2 : Hid (w.grownBy w2 (some g)) := by rw [hw2]; exact grown_of (below_drew (Below.refl _ _) nq (Nat.le_refl _)) (some g)
         clear hw2 y0 y1 y2 GT RS HH
         have v1 : w2.cell? ⟨g, 1, none⟩ = some (.int .i64 (s.fin : Nat)) := by have := H2.out.c1; rwa [show M.lat s = s.fin from if_pos Q.out] at this
         have f1 := H2.out.fr 1
         have S3 := hide (H2.out.go Q.out (s.fin + k) ((s.fin : Int) + (k : Int)) (by omega))
         go_wp2
         go_ret
         exact ⟨by rw [EZ.out]; rfl, by rw [EZ.out]; exact S3.out, grown_trans G2.out grown_set (.inl rfl)⟩
   · have EZ : Hid (Z = (0, ⟨s.fin, s.fin + k, er⟩)) := by unfold Hid; rw [EW.out, if_pos r]
     rw [err_some r] at GT
     have RR := hide r
     clear EW r
     go_enter Tryz.func112, Tryz.ntmps112
     go_upto_region 3 with (fail)
     go_quiet ((go_at_call 137; exact Calls.quiet_of_same (GT.out _ _ _ _ rfl (RS.out _))))
     generalize (if c = s.fin then a else Option.map (fun x => x.add s.fin) a) = ad
     obtain ⟨w2, hw2⟩ : ∃ X, X = w.drewN nq := ⟨_, rfl⟩
     rw [← hw2]
     have H2 : Hid (RdA w2 g (.slice a bs.length c) s) := by rw [hw2]; exact HH.out.up (below_drew (Below.refl _ _) nq (Nat.le_refl _))
     have G2 : Hid (w.grownBy w2 (some g)) := by rw [hw2]; exact grown_of (below_drew (Below.refl _ _) nq (Nat.le_refl _)) (some g)
     clear hw2 y0 y1 y2 GT RS HH
     have v2 : w2.cell? ⟨g, 2, none⟩ = some (.nilIface) := by have := H2.out.c2; rwa [err_nil Q.out] at this
     have f2 := H2.out.fr 2
     have S3 := hide (H2.out.stop Q.out (s.fin + k) er RR.out)
     go_wp2
     go_ret
     exact ⟨by rw [EZ.out]; rfl, by rw [EZ.out]; exact S3.out, grown_trans G2.out grown_set (.inl rfl)⟩
 · have EZ : Hid (M.rWith bs lo hi told s = (0, s)) := by unfold Hid M.rWith; rw [if_pos q]
   rw [err_some q] at y2
   have HI := hide h
   clear h hb q
   go_enter Tryz.func112, Tryz.ntmps112
   go_wp2
   go_ret
   exact ⟨by rw [EZ.out]; rfl, by rw [EZ.out]; exact HI.out, World.grownBy.refl _ _⟩
theorem number_any (g : Nat) (a : Option Addr) (bs : List Nat) (c : Nat) (s : M.In) (w : World) (h : RdA w g (.slice a bs.length c) s) (hb : RdB w a bs) (hc : bs.length ≤ c) (h63 : c ≤ 9223372036854775807) (hf : s.fin ≤ bs.length) :
 Calls Tryz.prog 76 #[.pointer (some ⟨g, 0, none⟩)] w fun e w' => e = .returned (.int .i64 (M.rNum bs s).1) ∧ RdA w' g (.slice a bs.length c) (M.rNum bs s).2 ∧ w.grownBy w' (some g) := by
 have F := hide (within_any g a bs c (-9223372036854775808) 9223372036854775807 1 s w h hb hc h63 hf (by decide))
 rw [M.rWith_num hb.2.1] at F
 generalize M.rNum bs s = R at *
 clear h hb hc hf
 go_enter Tryz.func76, Tryz.ntmps76
 go_wp2_with (go_at_call 112; refine F.out.mono ?_; rintro e w1 ⟨rfl, i1, g1⟩; have I1 := hide i1; have G1 := hide g1; clear i1 g1)
 go_ret
 exact ⟨rfl, I1.out, G1.out⟩
theorem count_any (g : Nat) (a : Option Addr) (bs : List Nat) (c : Nat) (most : Int) (s : M.In) (w : World) (h : RdA w g (.slice a bs.length c) s) (hb : RdB w a bs) (hc : bs.length ≤ c) (h63 : c ≤ 9223372036854775807) (hf : s.fin ≤ bs.length) :
 Calls Tryz.prog 77 #[.pointer (some ⟨g, 0, none⟩), .int .i64 most] w fun e w' => e = .returned (.int .i64 (M.rMany bs most s).1) ∧ RdA w' g (.slice a bs.length c) (M.rMany bs most s).2 ∧ w.grownBy w' (some g) := by
 have F := hide (within_any g a bs c 1 most 1 s w h hb hc h63 hf (by decide))
 rw [M.rWith_many] at F
 generalize M.rMany bs most s = R at *
 clear h hb hc hf
 go_enter Tryz.func77, Tryz.ntmps77
 go_wp2_with (go_at_call 112; refine F.out.mono ?_; rintro e w1 ⟨rfl, i1, g1⟩; have I1 := hide i1; have G1 := hide g1; clear i1 g1)
 go_ret
 exact ⟨rfl, I1.out, G1.out⟩
theorem truth_any (g : Nat) (a : Option Addr) (bs : List Nat) (c : Nat) (s : M.In) (w : World) (h : RdA w g (.slice a bs.length c) s) (hb : RdB w a bs) (hc : bs.length ≤ c) (h63 : c ≤ 9223372036854775807) (hf : s.fin ≤ bs.length) :
 Calls Tryz.prog 138 #[.pointer (some ⟨g, 0, none⟩)] w fun e w' => e = .returned (.bool (decide ((M.rNum bs s).1 = 1))) ∧ RdA w' g (.slice a bs.length c) (if (M.rNum bs s).2.bad = 0 ∧ (M.rNum bs s).1 ≠ 0 ∧ (M.rNum bs s).1 ≠ 1 then { (M.rNum bs s).2 with bad := 2 } else (M.rNum bs s).2) ∧ w.grownBy w' (some g) := by
 have F := hide (within_any g a bs c 0 1 2 s w h hb hc h63 hf (by decide))
 have e := M.rWith_tru hb.2.1 s
 rw [e.1] at F
 have E2 := hide e.2
 generalize (if (M.rNum bs s).2.bad = 0 ∧ (M.rNum bs s).1 ≠ 0 ∧ (M.rNum bs s).1 ≠ 1 then { (M.rNum bs s).2 with bad := 2 } else (M.rNum bs s).2) = T at *
 rw [← e.2]
 generalize (M.rWith bs 0 1 2 s).1 = R at *
 clear h hb hc hf e
 go_enter Tryz.func138, Tryz.ntmps138
 go_wp2_with (go_at_call 112; refine F.out.mono ?_; rintro e w1 ⟨rfl, i1, g1⟩; have I1 := hide i1; have G1 := hide g1; clear i1 g1)
 go_ret
 exact ⟨rfl, I1.out, G1.out⟩
structure Rdr (W : World) (g : Nat) (a : Option Addr) (bs : List Nat) (c : Nat) (s : M.In) : Prop where
 box : RdA W g (.slice a bs.length c) s
 rd : RdB W a bs
 hc : bs.length ≤ c
 h63 : c ≤ 9223372036854775807
 fin : s.fin ≤ bs.length
 ne : bs ≠ [] → ∀ p, a = some p → p.block ≠ g
theorem Rdr.lt {W : World} {g : Nat} {a : Option Addr} {bs : List Nat} {c : Nat} {s : M.In} (h : Rdr W g a bs c s) : g < W.heap.size := h.box.lt
theorem Rdr.up {W W' : World} {g : Nat} {a : Option Addr} {bs : List Nat} {c : Nat} {s : M.In} (h : Rdr W g a bs c s) (hb : Below W.heap.size W W') : Rdr W' g a bs c s := ⟨h.box.up hb, h.rd.below hb, h.hc, h.h63, h.fin, h.ne⟩
theorem Rdr.alloc {W : World} {g : Nat} {a : Option Addr} {bs : List Nat} {c : Nat} {s : M.In} (h : Rdr W g a bs c s) (o : Obj) : Rdr (W.alloc o) g a bs c s := h.up ((Below.refl _ W).alloc (Nat.le_refl _) o)
theorem Rdr.step {W W' : World} {g : Nat} {a : Option Addr} {bs : List Nat} {c : Nat} {s s' : M.In} (h : Rdr W g a bs c s) (hb : RdA W' g (.slice a bs.length c) s') (hg : W.grownBy W' (some g)) (hf : s'.fin ≤ bs.length) : Rdr W' g a bs c s' :=
 ⟨hb, rdB_keep h.rd (fun hn p hp => hg.block p.block (by
  obtain ⟨b, off, e, hl, _⟩ := h.rd.2.2 hn
  rw [hp] at e
  cases e
  exact hl) (fun e => h.ne hn p hp (by cases e; rfl))) hg.size, h.hc, h.h63, hf, h.ne⟩
theorem Rdr.far {w W W' : World} {g : Nat} {a : Option Addr} {bs : List Nat} {c : Nat} {s0 s : M.In} {r : Option Nat} (h0 : Rdr w g a bs c s0) (h : Rdr W g a bs c s) (hg : W.grownBy W' r) (hr : ∀ q, r = some q → w.heap.size ≤ q) : Rdr W' g a bs c s := by
 have l0 := h0.lt
 refine ⟨h.box.same (hg.block g h.lt (fun e => by have := hr g e.symm; omega)), rdB_keep h.rd (fun hn p hp => ?_) hg.size, h.hc, h.h63, h.fin, h.ne⟩
 obtain ⟨b, off, e, hl, _⟩ := h0.rd.2.2 hn
 rw [hp] at e
 cases e
 obtain ⟨b, off, e, hl2, _⟩ := h.rd.2.2 hn
 rw [hp] at e
 cases e
 exact hg.block _ hl2 (fun e => by have := hr _ e.symm; simp at this; omega)
theorem M.ask_fin {b : List Nat} {s : M.In} {f : Int} (h : s.fin ≤ b.length) : (M.rAsk b f s).2.fin ≤ b.length := by
 have := M.rNum_fin (M.rNum_fin (M.rNum_fin (M.rNum_fin h)))
 unfold M.rAsk
 simp only
 split
 · exact this
 · exact this
theorem M.rNode_fin {b : List Nat} {s : M.In} (h : s.fin ≤ b.length) : (M.rNode b s).2.fin ≤ b.length := by
 unfold M.rNode
 split
 · exact M.rNum_fin (M.rNum_fin h)
 · exact M.ask_fin (M.rNum_fin h)
theorem M.rNum_zero {b : List Nat} {s : M.In} (h : (M.rNum b s).2.bad ≠ 0) : (M.rNum b s).1 = 0 := by
 by_cases q : s.bad = 0
 · rw [M.rNum_go q] at h ⊢
   exact M.gt_zero _ 0 0 h
 · rw [M.rNum_bad q]
theorem numR {W : World} {g : Nat} {a : Option Addr} {bs : List Nat} {c : Nat} {s : M.In} (h : Rdr W g a bs c s) : Calls Tryz.prog 76 #[.pointer (some ⟨g, 0, none⟩)] W fun e w' => e = .returned (.int .i64 (M.rNum bs s).1) ∧ Rdr w' g a bs c (M.rNum bs s).2 ∧ W.grownBy w' (some g) :=
 (number_any g a bs c s W h.box h.rd h.hc h.h63 h.fin).mono fun e w' hh => ⟨hh.1, h.step hh.2.1 hh.2.2 (M.rNum_fin h.fin), hh.2.2⟩
theorem cntR {W : World} {g : Nat} {a : Option Addr} {bs : List Nat} {c : Nat} {s : M.In} (most : Int) (h : Rdr W g a bs c s) : Calls Tryz.prog 77 #[.pointer (some ⟨g, 0, none⟩), .int .i64 most] W fun e w' => e = .returned (.int .i64 (M.rMany bs most s).1) ∧ Rdr w' g a bs c (M.rMany bs most s).2 ∧ W.grownBy w' (some g) :=
 (count_any g a bs c most s W h.box h.rd h.hc h.h63 h.fin).mono fun e w' hh => ⟨hh.1, h.step hh.2.1 hh.2.2 (M.rMany_fin h.fin), hh.2.2⟩
theorem truR {W : World} {g : Nat} {a : Option Addr} {bs : List Nat} {c : Nat} {s : M.In} (h : Rdr W g a bs c s) : Calls Tryz.prog 138 #[.pointer (some ⟨g, 0, none⟩)] W fun e w' => e = .returned (.bool (decide ((M.rNum bs s).1 = 1))) ∧ Rdr w' g a bs c (if (M.rNum bs s).2.bad = 0 ∧ (M.rNum bs s).1 ≠ 0 ∧ (M.rNum bs s).1 ≠ 1 then { (M.rNum bs s).2 with bad := 2 } else (M.rNum bs s).2) ∧ W.grownBy w' (some g) :=
 (truth_any g a bs c s W h.box h.rd h.hc h.h63 h.fin).mono fun e w' hh => ⟨hh.1, h.step hh.2.1 hh.2.2 (by have := M.rNum_fin h.fin; split; exact this; exact this), hh.2.2⟩
theorem new_grown {w W : World} {cs : Array Value} {t : TypeId} {g : Nat} (hg : (w.alloc (.cells cs t)).grownBy W (some g)) (hl : g < w.heap.size) : (∀ j v, cs[j]? = some v → W.cell? ⟨w.heap.size, j, none⟩ = some v) ∧ ∀ j, W.frozen? ⟨w.heap.size, j, none⟩ = false := by
 have lt : w.heap.size < (w.alloc (.cells cs t)).heap.size := by simp
 have e := hg.block w.heap.size lt (fun e => by cases e; omega)
 refine ⟨fun j v hv => (World.cell?_of_block (a := ⟨w.heap.size, j, none⟩) e).trans (by rw [World.cell?_alloc_new]; exact hv), fun j => (World.frozen?_of_block (a := ⟨w.heap.size, j, none⟩) e).trans (frozen_new2 w cs t j)⟩
theorem grown_new {w W : World} {o : Obj} {r : Option Nat} (h : (w.alloc o).grownBy W r) : w.grownBy W r := grown_trans (World.grownBy_alloc w o r) h (.inl rfl)
theorem grown6 {w W : World} {p : Nat} {r : Option Nat} {x0 x1 x2 x3 x4 x5 : Value} (h : w.grownBy W r) (hp : w.heap.size ≤ p) : w.grownBy ((((((W.setCell ⟨p, 0, none⟩ x0).setCell ⟨p, 1, none⟩ x1).setCell ⟨p, 2, none⟩ x2).setCell ⟨p, 3, none⟩ x3).setCell ⟨p, 4, none⟩ x4).setCell ⟨p, 5, none⟩ x5) r :=
 have f : ∀ q, some p = some q → w.heap.size ≤ q := fun q e => by cases e; exact hp
 grown_trans (grown_trans (grown_trans (grown_trans (grown_trans (grown_trans h grown_set (.inr f)) grown_set (.inr f)) grown_set (.inr f)) grown_set (.inr f)) grown_set (.inr f)) grown_set (.inr f)
theorem grown6_at {W : World} {p : Nat} {x0 x1 x2 x3 x4 x5 : Value} : W.grownBy ((((((W.setCell ⟨p, 0, none⟩ x0).setCell ⟨p, 1, none⟩ x1).setCell ⟨p, 2, none⟩ x2).setCell ⟨p, 3, none⟩ x3).setCell ⟨p, 4, none⟩ x4).setCell ⟨p, 5, none⟩ x5) (some p) :=
 grown_trans (grown_trans (grown_trans (grown_trans (grown_trans grown_set grown_set (.inl rfl)) grown_set (.inl rfl)) grown_set (.inl rfl)) grown_set (.inl rfl)) grown_set (.inl rfl)
set_option maxHeartbeats 8000000 in
set_option maxRecDepth 10000 in
theorem nodeR {w : World} {g : Nat} {a : Option Addr} {bs : List Nat} {c : Nat} {s : M.In} (h : Rdr w g a bs c s) : Calls Tryz.prog 113 #[.pointer (some ⟨g, 0, none⟩)] w fun e w' => e = .returned (ndV (M.rNode bs s).1) ∧ Rdr w' g a bs c (M.rNode bs s).2 ∧ w.grownBy w' (some g) := by
 have gl := h.lt
 obtain ⟨n1, s1, h1⟩ : ∃ n1 s1, M.rNum bs s = (n1, s1) := ⟨_, _, rfl⟩
 have N1 := hide (fun (W : World) (h : Rdr W g a bs c s) => numR h)
 rw [h1] at N1
 have NF : Hid (∀ W, (w.alloc (.cells #[.int .i64 0, .int .i64 0, .int .i64 0, .int .i64 0, .bool false, .int .i64 0] 86)).grownBy W (some g) → (∀ j v, #[Value.int .i64 0, .int .i64 0, .int .i64 0, .int .i64 0, .bool false, .int .i64 0][j]? = some v → W.cell? ⟨w.heap.size, j, none⟩ = some v) ∧ ∀ j, W.frozen? ⟨w.heap.size, j, none⟩ = false) := fun W hW => new_grown hW gl
 have I0 := hide h
 have IA := hide (h.alloc (.cells #[.int .i64 0, .int .i64 0, .int .i64 0, .int .i64 0, .bool false, .int .i64 0] 86))
 have sz : w.heap.size ≤ w.heap.size := Nat.le_refl _
 by_cases q : n1 = -1
 · obtain ⟨n2, s2, h2⟩ : ∃ n2 s2, M.rNum bs s1 = (n2, s2) := ⟨_, _, rfl⟩
   have N2 := hide (fun (W : World) (h : Rdr W g a bs c s1) => numR h)
   rw [h2] at N2
   have EN : Hid (M.rNode bs s = ((n1, 0, 0, 0, false, n2), s2)) := by
    have zb : s1.bad = 0 := by
     by_cases z : s1.bad = 0
     · exact z
     · have := M.rNum_zero (b := bs) (s := s) (by rw [h1]; exact z)
       rw [h1] at this
       have this : n1 = 0 := this
       omega
    unfold Hid M.rNode
    rw [h1, if_pos ⟨zb, q⟩]
    show ((n1, 0, 0, 0, false, (M.rNum bs s1).1), (M.rNum bs s1).2) = _
    rw [h2]
   generalize M.rNode bs s = Z at *
   have t1 : (n1 == -1) = true := by rw [beq_iff_eq]; exact q
   clear h h1 h2 q
   simp only at N1 N2
   go_enter Tryz.func113, Tryz.ntmps113
   go_wp2_with (first
    | (go_at_call 76; refine (N2.out _ I1.out).mono ?_; rintro e w2 ⟨rfl, i2, g2⟩; have I2 := hide i2; have G2 := hide (grown_trans G1.out g2 (.inl rfl)); have y0 := (NF.out w2 G2.out).1 0 _ rfl; have y1 := (NF.out w2 G2.out).1 1 _ rfl; have y2 := (NF.out w2 G2.out).1 2 _ rfl; have y3 := (NF.out w2 G2.out).1 3 _ rfl; have y4 := (NF.out w2 G2.out).1 4 _ rfl; have y5 := (NF.out w2 G2.out).1 5 _ rfl; have f0 := (NF.out w2 G2.out).2 0; have f1 := (NF.out w2 G2.out).2 1; have f2 := (NF.out w2 G2.out).2 2; have f3 := (NF.out w2 G2.out).2 3; have f4 := (NF.out w2 G2.out).2 4; have f5 := (NF.out w2 G2.out).2 5; clear i2 g2)
    | (go_at_call 76; refine (N1.out _ IA.out).mono ?_; rintro e w1 ⟨rfl, i1, g1⟩; have I1 := hide i1; have G1 := hide g1; clear i1 g1))
   obtain ⟨e0, e1, e2, e3, e4, e5⟩ := set6 (x0 := .int .i64 n1) (x1 := .int .i64 0) (x2 := .int .i64 0) (x3 := .int .i64 0) (x4 := .bool false) (x5 := .int .i64 n2) y0 y1 y2 y3 y4 y5
   refine bodyPost_ret (v := .agg #[.int .i64 n1, .int .i64 0, .int .i64 0, .int .i64 0, .bool false, .int .i64 n2]) (by simp [results, Tryz.results113, go_sem, e0, e1, e2, e3, e4, e5]) rfl ?_
   exact ⟨by rw [EN.out]; rfl, by rw [EN.out]; exact I0.out.far I2.out grown6_at (fun q e => by cases e; exact sz), grown6 (grown_new G2.out) sz⟩
 · obtain ⟨n2, s2, h2⟩ : ∃ n2 s2, M.rNum bs s1 = (n2, s2) := ⟨_, _, rfl⟩
   obtain ⟨n3, s3, h3⟩ : ∃ n3 s3, M.rNum bs s2 = (n3, s3) := ⟨_, _, rfl⟩
   obtain ⟨n4, s4, h4⟩ : ∃ n4 s4, M.rNum bs s3 = (n4, s4) := ⟨_, _, rfl⟩
   obtain ⟨s5, h5⟩ : ∃ s5, (if (M.rNum bs s4).2.bad = 0 ∧ (M.rNum bs s4).1 ≠ 0 ∧ (M.rNum bs s4).1 ≠ 1 then { (M.rNum bs s4).2 with bad := 2 } else (M.rNum bs s4).2) = s5 := ⟨_, rfl⟩
   obtain ⟨bb, hbb⟩ : ∃ bb, decide ((M.rNum bs s4).1 = 1) = bb := ⟨_, rfl⟩
   have N2 := hide (fun (W : World) (h : Rdr W g a bs c s1) => numR h)
   have N3 := hide (fun (W : World) (h : Rdr W g a bs c s2) => numR h)
   have N4 := hide (fun (W : World) (h : Rdr W g a bs c s3) => numR h)
   have T5 := hide (fun (W : World) (h : Rdr W g a bs c s4) => truR h)
   rw [h2] at N2
   rw [h3] at N3
   rw [h4] at N4
   rw [h5, hbb] at T5
   have EN : Hid (M.rNode bs s = ((n1, n2, n3, n4, bb, 0), s5)) := by
    unfold Hid M.rNode
    rw [h1, if_neg (fun z => q z.2)]
    show M.rAsk bs n1 s1 = _
    unfold M.rAsk
    simp only
    rw [h2]
    simp only
    rw [h3]
    simp only
    rw [h4]
    simp only
    rw [h5, hbb]
   generalize M.rNode bs s = Z at *
   have t1 : (n1 == -1) = false := by rw [beq_eq_false_iff_ne]; exact q
   clear h h1 h2 h3 h4 h5 hbb q
   simp only at N1 N2 N3 N4
   go_enter Tryz.func113, Tryz.ntmps113
   go_wp2_with (first
    | (go_at_call 138; refine (T5.out _ I4.out).mono ?_; rintro e w5 ⟨rfl, i5, g5⟩; have I5 := hide i5; have G5 := hide (grown_trans G4.out g5 (.inl rfl)); have y0 := (NF.out w5 G5.out).1 0 _ rfl; have y1 := (NF.out w5 G5.out).1 1 _ rfl; have y2 := (NF.out w5 G5.out).1 2 _ rfl; have y3 := (NF.out w5 G5.out).1 3 _ rfl; have y4 := (NF.out w5 G5.out).1 4 _ rfl; have y5 := (NF.out w5 G5.out).1 5 _ rfl; have f0 := (NF.out w5 G5.out).2 0; have f1 := (NF.out w5 G5.out).2 1; have f2 := (NF.out w5 G5.out).2 2; have f3 := (NF.out w5 G5.out).2 3; have f4 := (NF.out w5 G5.out).2 4; have f5 := (NF.out w5 G5.out).2 5; clear i5 g5)
    | (go_at_call 76; refine (N4.out _ I3.out).mono ?_; rintro e w4 ⟨rfl, i4, g4⟩; have I4 := hide i4; have G4 := hide (grown_trans G3.out g4 (.inl rfl)); clear i4 g4)
    | (go_at_call 76; refine (N3.out _ I2.out).mono ?_; rintro e w3 ⟨rfl, i3, g3⟩; have I3 := hide i3; have G3 := hide (grown_trans G2.out g3 (.inl rfl)); clear i3 g3)
    | (go_at_call 76; refine (N2.out _ I1.out).mono ?_; rintro e w2 ⟨rfl, i2, g2⟩; have I2 := hide i2; have G2 := hide (grown_trans G1.out g2 (.inl rfl)); clear i2 g2)
    | (go_at_call 76; refine (N1.out _ IA.out).mono ?_; rintro e w1 ⟨rfl, i1, g1⟩; have I1 := hide i1; have G1 := hide g1; clear i1 g1))
   obtain ⟨e0, e1, e2, e3, e4, e5⟩ := set6 (x0 := .int .i64 n1) (x1 := .int .i64 n2) (x2 := .int .i64 n3) (x3 := .int .i64 n4) (x4 := .bool bb) (x5 := .int .i64 0) y0 y1 y2 y3 y4 y5
   refine bodyPost_ret (v := .agg #[.int .i64 n1, .int .i64 n2, .int .i64 n3, .int .i64 n4, .bool bb, .int .i64 0]) (by simp [results, Tryz.results113, go_sem, e0, e1, e2, e3, e4, e5]) rfl ?_
   exact ⟨by rw [EN.out]; rfl, by rw [EN.out]; exact I0.out.far I5.out grown6_at (fun q e => by cases e; exact sz), grown6 (grown_new G5.out) sz⟩
def M.lNodes (b : List Nat) : Nat → M.In → List M.Nd × M.In
 | 0, s => ([], s)
 | k + 1, s => ((M.rNode b s).1 :: (M.lNodes b k (M.rNode b s).2).1, (M.lNodes b k (M.rNode b s).2).2)
theorem M.rNode_bad {b : List Nat} {s : M.In} (h : s.bad ≠ 0) : (M.rNode b s).2 = s := by
 unfold M.rNode
 rw [M.rNum_bad h, if_neg (fun z => h z.1)]
 unfold M.rAsk
 simp only [M.rNum_bad h]
 rw [if_neg (fun z => h z.1)]
theorem M.lNodes_bad {b : List Nat} : ∀ (k : Nat) {s : M.In}, s.bad ≠ 0 → (M.lNodes b k s).2 = s
 | 0, s, h => rfl
 | k + 1, s, h => by
   show (M.lNodes b k (M.rNode b s).2).2 = s
   rw [M.rNode_bad h]
   exact M.lNodes_bad k h
theorem M.lNodes_is {b : List Nat} : ∀ (k : Nat) (s : M.In), (M.lNodes b k s).2 = (M.rNodes b k s).2 ∧ ((M.rNodes b k s).2.bad = 0 → (M.lNodes b k s).1 = (M.rNodes b k s).1)
 | 0, s => ⟨rfl, fun _ => rfl⟩
 | k + 1, s => by
   have e : M.rNodes b (k + 1) s = if s.bad ≠ 0 then ([], s) else ((M.rNode b s).1 :: (M.rNodes b k (M.rNode b s).2).1, (M.rNodes b k (M.rNode b s).2).2) := rfl
   by_cases q : s.bad = 0
   · rw [e, if_neg (by simp [q])]
     have ih := M.lNodes_is (b := b) k (M.rNode b s).2
     refine ⟨ih.1, fun h => ?_⟩
     show _ :: _ = _ :: _
     rw [ih.2 h]
   · rw [e, if_pos q]
     exact ⟨M.lNodes_bad (k + 1) q, fun h => absurd h q⟩
theorem M.lNodes_len {b : List Nat} : ∀ (k : Nat) (s : M.In), (M.lNodes b k s).1.length = k
 | 0, s => rfl
 | k + 1, s => by show (M.lNodes b k (M.rNode b s).2).1.length + 1 = k + 1; rw [M.lNodes_len k]
theorem M.lNodes_fin {b : List Nat} : ∀ (k : Nat) {s : M.In}, s.fin ≤ b.length → (M.lNodes b k s).2.fin ≤ b.length
 | 0, s, h => h
 | k + 1, s, h => M.lNodes_fin k (M.rNode_fin h)
theorem M.rMany_in {b : List Nat} {most : Int} {s : M.In} (h : 0 ≤ most) : 0 ≤ (M.rMany b most s).1 ∧ (M.rMany b most s).1 ≤ most := by
 unfold M.rMany
 split
 · exact ⟨Int.le_refl _, h⟩
 · next q =>
   split
   · exact ⟨Int.le_refl _, h⟩
   · next q2 =>
     have z : (M.rNum b s).2.bad = 0 := by by_cases y : (M.rNum b s).2.bad = 0; exact y; exact absurd y q2
     have : ¬ ((M.rNum b s).1 < 1 ∨ most < (M.rNum b s).1) := fun y => q ⟨z, y⟩
     omega
def M.lTree (b : List Nat) (s : M.In) : List M.Nd × M.In := M.lNodes b (M.rMany b 63 s).1.toNat (M.rMany b 63 s).2
theorem own_rdr {w W W' : World} {e size n : Nat} {v : Value} {l : List Value} {g : Nat} (ho : W.ownsRow w.heap.size e size v n l) (hg : W.grownBy W' (some g)) (gl : g < w.heap.size) : W'.ownsRow w.heap.size e size v n l := by
 refine ho.kept hg ?_
 cases hv : v.ownBlock with
 | none => exact .inl rfl
 | some q => exact .inr fun e => by cases e; have := (ho.lt _ hv).1; omega
set_option maxHeartbeats 8000000 in
set_option maxRecDepth 10000 in
theorem treeR {w : World} {g : Nat} {a : Option Addr} {bs : List Nat} {c : Nat} {s : M.In} (h : Rdr w g a bs c s) : Calls Tryz.prog 78 #[.pointer (some ⟨g, 0, none⟩)] w fun e w' => ∃ va vc, e = .returned (.slice va (M.lTree bs s).1.length vc) ∧ w'.ownsRow w.heap.size 86 6 (.slice va (M.lTree bs s).1.length vc) (M.lTree bs s).1.length (ndCells (M.lTree bs s).1) ∧ Rdr w' g a bs c (M.lTree bs s).2 ∧ w.grownBy w' (some g) := by
 have GL := hide h.lt
 have H0 := hide h
 have C1 := hide (cntR 63 h)
 have mi := M.rMany_in (b := bs) (s := s) (most := 63) (by decide)
 have ET : Hid (M.lTree bs s = M.lNodes bs (M.rMany bs 63 s).1.toNat (M.rMany bs 63 s).2) := rfl
 obtain ⟨⟨m, s0⟩, hm⟩ : ∃ R, M.rMany bs 63 s = R := ⟨_, rfl⟩
 rw [hm] at C1 mi ET
 simp only at C1 mi ET
 obtain ⟨n, rfl⟩ : ∃ n : Nat, m = (n : Int) := ⟨m.toNat, by omega⟩
 rw [Int.toNat_natCast] at ET
 have n63 : n ≤ 63 := by omega
 have LN : Hid ((M.lTree bs s).1.length = n) := by unfold Hid; rw [ET.out]; exact M.lNodes_len n s0
 rw [LN.out]
 generalize M.lTree bs s = Z at *
 have NN := hide (fun (W : World) (s : M.In) (h : Rdr W g a bs c s) => nodeR h)
 have NA : Hid (∀ k s, M.lNodes bs (k + 1) s = ((M.rNode bs s).1 :: (M.lNodes bs k (M.rNode bs s).2).1, (M.lNodes bs k (M.rNode bs s).2).2)) := fun _ _ => rfl
 obtain ⟨j0, hj0, hy0, hy1, hy2⟩ := info_parts infoN
 have J0 := hide hj0
 clear h hm mi hj0
 go_enter Tryz.func78, Tryz.ntmps78
 go_wp2_with (go_at_call 77; refine C1.out.mono ?_; rintro e w1 ⟨rfl, i1, g1⟩; have I1 := hide i1; have G1 := hide g1; clear i1 g1)
 clear C1
 go_loopw [3, 6] (fun v i wr => ∃ (k : Nat) (L : List M.Nd) (va : Option Addr) (vc : Nat) (s' : M.In), k ≤ n ∧ i = .int .i64 k ∧ v = .slice va k vc ∧ Hid (L.length = k) ∧ Hid (Z = (L ++ (M.lNodes bs (n - k) s').1, (M.lNodes bs (n - k) s').2)) ∧ Hid (Rdr wr g a bs c s') ∧ Hid (wr.ownsRow w.heap.size 86 6 (.slice va k vc) k (ndCells L)) ∧ Hid (w.grownBy wr (some g))) (fun _ i _ => n - (intOf i).toNat)
 case atStart => exact ⟨0, [], none, 0, s0, Nat.zero_le _, rfl, rfl, rfl, by rw [Nat.sub_zero]; exact ET, I1, World.ownsRow_nil _ _ _ _, G1⟩
 case round =>
  obtain ⟨k, L, va, vc, s', hk, rfl, rfl, LK, EZ, RR, OO, GG⟩ := hrel
  by_cases hlt : k < n
  · have kz : (k : Int) < (n : Int) := by omega
    have N1 := hide (NN.out wr s' RR.out)
    have na := NA.out (n - (k + 1)) s'
    rw [show n - (k + 1) + 1 = n - k by omega] at na
    have ez := EZ.out
    rw [na] at ez
    obtain ⟨⟨⟨f, cc, l, r, b, v⟩, s2⟩, h2⟩ : ∃ R, M.rNode bs s' = R := ⟨_, rfl⟩
    rw [h2] at N1 ez
    have nv : ndV (f, cc, l, r, b, v) = .agg #[.int .i64 f, .int .i64 cc, .int .i64 l, .int .i64 r, .bool b, .int .i64 v] := rfl
    simp only [nv] at N1
    have E2 : Hid (Z = ((L ++ [(f, cc, l, r, b, v)]) ++ (M.lNodes bs (n - (k + 1)) s2).1, (M.lNodes bs (n - (k + 1)) s2).2)) := by
     unfold Hid; rw [ez, List.append_assoc]; rfl
    have NC : Hid (ndCells (L ++ [(f, cc, l, r, b, v)]) = ndCells L ++ [.int .i64 f, .int .i64 cc, .int .i64 l, .int .i64 r, .bool b, .int .i64 v]) := by unfold Hid; rw [ndCells_app]; rfl
    have LK2 : Hid ((L ++ [(f, cc, l, r, b, v)]).length = k + 1) := by unfold Hid; rw [List.length_append, LK.out]; rfl
    clear ez na nv h2 NN NA EZ LN ET
    go_wp2_with (first
     | (go_at_call 113; refine N1.out.mono ?_; rintro e w2 ⟨rfl, i2, g2⟩; have I2 := hide i2; have G2 := hide (grown_trans GG.out g2 (.inl rfl)); have O2 := hide (own_rdr OO.out g2 GL.out); have z2 := G2.out.size; clear i2 g2)
     | (at_builtin; refine wpList_append_lies _ rfl (.tmp 8) (.tmp 11) 66 rfl w.heap.size 86 j0 (.agg #[.int .i64 0, .int .i64 0, .int .i64 0, .int .i64 0, .bool false, .int .i64 0]) 6 48 Tryz.underlying66 J0.out hy0 hy1 hy2 rfl (by omega) (.slice va k vc) k (ndCells L) rfl (O2.out.alloc _) ⟨w2.heap.size, 0, none⟩ 1 1 [.int .i64 f, .int .i64 cc, .int .i64 l, .int .i64 r, .bool b, .int .i64 v] rfl rfl (World.news_of_block (heap_alloc_new _ _)) (by simp [Value.oneCell']) (by omega) (by unfold maxLen; omega) (by omega) (by simp; omega) (w2.heap.size + 1) (by simp) ?_; intro g3 cap3 w3 ho3 hg3 _ _; have O3 := hide ho3; have R3 := hide (H0.out.far (I2.out.alloc _) hg3 (fun q hq => (OO.out.lt q hq).1)); have G3 := hide (grown_trans (grown_trans G2.out (World.grownBy_alloc w2 _ (some g)) (.inl rfl)) hg3 (.inr (fun q hq => (OO.out.lt q hq).1))); clear ho3 hg3))
    go_roundw
    case rel => exact ⟨k + 1, L ++ [(f, cc, l, r, b, v)], _, _, s2, by omega, by go_num, rfl, LK2, E2, R3, by unfold Hid; rw [NC.out]; exact O3.out, G3⟩
    case measure => simp [intOf]; omega
  · have ek : k = n := by omega
    have kz : ¬ ((k : Int) < (n : Int)) := by omega
    have EZ2 : Hid (Z = (L, s')) := by
     have := EZ.out
     rw [ek, Nat.sub_self] at this
     unfold Hid
     rw [this]
     show (L ++ [], _) = _
     rw [List.append_nil]
     rfl
    have ek2 := hide ek
    clear EZ NN NA ek ET LN
    go_wp2
    go_ret
    have ek := ek2.out
    subst ek
    exact ⟨va, vc, rfl, by rw [EZ2.out]; exact OO.out, by rw [EZ2.out]; exact RR.out, GG.out⟩
set_option maxHeartbeats 8000000 in
set_option maxRecDepth 10000 in
theorem nodesame_any (a b : Option Addr) (ts : List M.Nd) (ca cb : Nat) (w : World) (ha : RdN w a ts) (hb : RdN w b ts) :
 Calls Tryz.prog 38 #[.slice a ts.length ca, .slice b ts.length cb] w fun e w' => e = .returned (.bool true) ∧ Below w.heap.size w w' := by
 have hm : ts.length ≤ 9223372036854775807 := ha.1
 have HA := hide ha
 have HB := hide hb
 clear ha hb
 go_enter Tryz.func38, Tryz.ntmps38
 go_wp2
 go_loopw [5] (fun i wr => ∃ k : Nat, k ≤ ts.length ∧ i = .int .i64 k ∧ Hid (Below w.heap.size w wr)) (fun i _ => ts.length - (intOf i).toNat)
 case atStart => exact ⟨0, Nat.zero_le _, rfl, Below.refl _ _⟩
 case round =>
  obtain ⟨k, hk, rfl, K⟩ := hrel
  by_cases hlt : k < ts.length
  · have kz : (k : Int) < (ts.length : Int) := by omega
    obtain ⟨b1, o1, rfl, h1, hc1⟩ := (HA.out.below K.out).2 (by intro e; subst e; simp at hlt)
    obtain ⟨b2, o2, rfl, h2, hc2⟩ := (HB.out.below K.out).2 (by intro e; subst e; simp at hlt)
    obtain ⟨s0, s1, s2, s3, s4, s5⟩ := hc1 k hlt
    obtain ⟨u0, u1, u2, u3, u4, u5⟩ := hc2 k hlt
    clear hc1 hc2 HA HB
    generalize M.nf (M.nAt ts k) = f at *
    generalize M.nc (M.nAt ts k) = c at *
    generalize M.nl (M.nAt ts k) = l at *
    generalize M.nr (M.nAt ts k) = r at *
    generalize M.ns (M.nAt ts k) = sl at *
    generalize M.nv (M.nAt ts k) = v at *
    go_upto_region 6 with fail
    go_cut [25] from 17 to 24 (fun t wx => t = .bool false ∧ Hid (Below wr.heap.size wr wx))
    case first =>
     go_region
     all_goals go_wp2
     all_goals go_meet
     all_goals (case rel => exact ⟨by simp, (Below.refl wr.heap.size wr).drew⟩)
    case rest =>
     obtain ⟨rfl, K6⟩ := hcut
     have K7 := hide (below_on K.out K6.out)
     go_wp2
     go_roundw
     case rel => exact ⟨k + 1, by omega, by go_num, K7⟩
     case measure => simp [intOf]; omega
  · go_wp2
    go_ret
    exact ⟨rfl, K.out⟩
end Go.Proofs.YtelncekgjfpogahGreatDoor
