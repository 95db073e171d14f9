/-
  Several texts as one: DifPG, GrTwo, DifGroves, GEnds, LimPG, FirstBox, BxFour, MathTs.
-/
import Derived.Test.YtelncekgjfpogahGreatDoorRunT23
import Derived.Test.YtelncekgjfpogahGreatDoorRunT13
import Derived.Test.YtelncekgjfpogahGreatDoorRunT24
import Derived.Deep.Cut
import Derived.Deep.CutRange
import Derived.Deep.RegionWith
import Derived.Deep.RegionHeld3
import Derived.RegionTactic
import Derived.BigQuiet
import Derived.Deep.QuietTactic
import Derived.Test.YtelncekgjfpogahGreatDoorRunT14
import Derived.Test.YtelncekgjfpogahGreatDoorRunT6
import Derived.Test.YtelncekgjfpogahGreatDoorRunT5
namespace Go.Proofs.YtelncekgjfpogahGreatDoor
open Go.ChangeShapes Go.WideShapes Go.ChangeAt Go.RowKit Go.Lib
set_option linter.unusedVariables false
def DifGrovesGives : Prop := ∀ (G O : Gr) (W : World), RdG W G → RdG W O → Calls Tryz.prog 16 #[G.v, O.v] W fun e w' => e = .returned (.tuple #[.int .i64 (M.difGV G.m O.m : Nat), errV (M.difGF G.m O.m)]) ∧ Below W.heap.size W w'
theorem kept_pair {w W : World} {a0 a1 a2 a3 : Value} {t : TypeId} (h : Below (w.alloc (.cells #[a0, a1, a2, a3] t)).heap.size (w.alloc (.cells #[a0, a1, a2, a3] t)) W) :
 W.cell? ⟨w.heap.size, 0, none⟩ = some a0 ∧ W.cell? ⟨w.heap.size, 1, none⟩ = some a1 ∧ W.cell? ⟨w.heap.size, 2, none⟩ = some a2 ∧ W.cell? ⟨w.heap.size, 3, none⟩ = some a3 := by
 have hs : w.heap.size < (w.alloc (.cells #[a0, a1, a2, a3] t)).heap.size := by simp
 exact ⟨(h.cell (p := ⟨w.heap.size, 0, none⟩) hs).trans (World.cell?_alloc_at _ _ _ 0 rfl), (h.cell (p := ⟨w.heap.size, 1, none⟩) hs).trans (World.cell?_alloc_at _ _ _ 1 rfl), (h.cell (p := ⟨w.heap.size, 2, none⟩) hs).trans (World.cell?_alloc_at _ _ _ 2 rfl), (h.cell (p := ⟨w.heap.size, 3, none⟩) hs).trans (World.cell?_alloc_at _ _ _ 3 rfl)⟩
abbrev dgB (G : Gr) : Obj := .cells #[.int .i64 G.f, .int .i64 G.w, .slice G.wa G.ws.length G.wc, .slice G.ta G.ks.length G.tc] 27
structure Cx (w : World) (G O : Gr) (W : World) : Prop where
 k : Below w.heap.size w W
 x0 : W.cell? ⟨w.heap.size, 0, none⟩ = some (.int .i64 G.f)
 x1 : W.cell? ⟨w.heap.size, 1, none⟩ = some (.int .i64 G.w)
 x2 : W.cell? ⟨w.heap.size, 2, none⟩ = some (.slice G.wa G.ws.length G.wc)
 x3 : W.cell? ⟨w.heap.size, 3, none⟩ = some (.slice G.ta G.ks.length G.tc)
 y0 : W.cell? ⟨w.heap.size + 1, 0, none⟩ = some (.int .i64 O.f)
 y1 : W.cell? ⟨w.heap.size + 1, 1, none⟩ = some (.int .i64 O.w)
 y2 : W.cell? ⟨w.heap.size + 1, 2, none⟩ = some (.slice O.wa O.ws.length O.wc)
 y3 : W.cell? ⟨w.heap.size + 1, 3, none⟩ = some (.slice O.ta O.ks.length O.tc)
 s : w.heap.size + 1 < W.heap.size
theorem Cx.new (w : World) (G O : Gr) : Cx w G O ((w.alloc (dgB G)).alloc (dgB O)) := by
 have e : (w.alloc (dgB G)).heap.size = w.heap.size + 1 := by simp
 have b : Below (w.alloc (dgB G)).heap.size (w.alloc (dgB G)) ((w.alloc (dgB G)).alloc (dgB O)) := (Below.refl _ _).alloc (Nat.le_refl _) _
 have c := kept_pair b
 have d := kept_pair (Below.refl ((w.alloc (dgB G)).alloc (dgB O)).heap.size ((w.alloc (dgB G)).alloc (dgB O)))
 rw [e] at d
 exact ⟨below_on ((Below.refl _ w).alloc (Nat.le_refl _) _) b, c.1, c.2.1, c.2.2.1, c.2.2.2, d.1, d.2.1, d.2.2.1, d.2.2.2, by simp⟩
theorem Cx.up {w W W' : World} {G O : Gr} (h : Cx w G O W) (hb : Below W.heap.size W W') : Cx w G O W' := by
 have s := h.s
 have c0 : ∀ j, W'.cell? ⟨w.heap.size, j, none⟩ = W.cell? ⟨w.heap.size, j, none⟩ := fun j => hb.cell (p := ⟨w.heap.size, j, none⟩) (by show w.heap.size < _; omega)
 have c1 : ∀ j, W'.cell? ⟨w.heap.size + 1, j, none⟩ = W.cell? ⟨w.heap.size + 1, j, none⟩ := fun j => hb.cell (p := ⟨w.heap.size + 1, j, none⟩) s
 exact ⟨below_on h.k hb, (c0 _).trans h.x0, (c0 _).trans h.x1, (c0 _).trans h.x2, (c0 _).trans h.x3, (c1 _).trans h.y0, (c1 _).trans h.y1, (c1 _).trans h.y2, (c1 _).trans h.y3, Nat.lt_of_lt_of_le s hb.size⟩
set_option maxHeartbeats 16000000 in
set_option maxRecDepth 10000 in
theorem difgroves_bad (G O : Gr) (w : World) (hg : RdG w G) (ho : RdG w O) (hbad : M.gdF G.m O.m ≠ 0) : Calls Tryz.prog 16 #[G.v, O.v] w fun e w' => e = .returned (.tuple #[.int .i64 (M.difGV G.m O.m : Nat), errV (M.difGF G.m O.m)]) ∧ Below w.heap.size w w' := by
 have hmg : G.ks.length ≤ 9223372036854775807 := hg.2.1
 have hmo : O.ks.length ≤ 9223372036854775807 := ho.2.1
 have GG := hide (fun W (hW : Below w.heap.size w W) => gcheck_any G W (hg.below hW))
 have GO := hide (fun W (hW : Below w.heap.size w W) => gcheck_any O W (ho.below hW))
 have C0 := hide (Cx.new w G O)
 obtain ⟨q1, q2⟩ := M.gd_bad hbad
 rw [q1, q2]
 clear q1 q2
 by_cases h0 : M.groveF G.m = 0
 · by_cases h1 : M.groveF O.m = 0
   · have he : G.f ≠ O.f ∨ G.w ≠ O.w ∨ G.ks.length ≠ O.ks.length := by
      unfold M.gdF at hbad
      rw [if_neg (by simp [h0]), if_neg (by simp [h1])] at hbad
      have : M.gf G.m ≠ M.gf O.m ∨ M.gw G.m ≠ M.gw O.m ∨ (M.gt G.m).length ≠ (M.gt O.m).length := Decidable.not_not.1 (fun q => hbad (if_neg q))
      rw [show (M.gt G.m).length = G.ks.length from tl_len G.ks, show (M.gt O.m).length = O.ks.length from tl_len O.ks] at this
      exact this
     have ed : M.gdF G.m O.m = 3 := by
      unfold M.gdF
      rw [if_neg (by simp [h0]), if_neg (by simp [h1]), if_pos]
      rcases he with h | h | h
      · exact .inl h
      · exact .inr (.inl h)
      · refine .inr (.inr ?_)
        show (tl G.ks).length ≠ (tl O.ks).length
        rw [tl_len, tl_len]
        exact h
     rw [ed, err_some (show (3 : Int) ≠ 0 by decide)]
     rw [err_nil h0] at GG
     rw [err_nil h1] at GO
     clear hg ho ed h0 h1 hbad
     unfold Gr.v at GG GO ⊢
     by_cases d1 : G.f = O.f
     · have t1 : (G.f != O.f) = false := by rw [bne_eq_false_iff_eq]; exact d1
       by_cases d2 : G.w = O.w
       · have t2 : (G.w != O.w) = false := by rw [bne_eq_false_iff_eq]; exact d2
         have d3 : G.ks.length ≠ O.ks.length := he.elim (fun q => absurd d1 q) (fun q => q.elim (fun q => absurd d2 q) id)
         have t3 : ((G.ks.length : Int) != (O.ks.length : Int)) = true := by rw [bne_iff_ne]; omega
         clear he d1 d2 d3
         go_enter Tryz.func16, Tryz.ntmps16
         go_wp2_with (first
          | (go_at_call 28; have lean := c1; refine (GO.out _ c1.out.k).mono ?_; rintro e w2 ⟨rfl, h⟩; have c2 := hide (c1.out.up h); obtain ⟨_, x0, x1, x2, x3, y0, y1, y2, y3, _⟩ := c2.out; clear h)
          | (go_at_call 28; refine (GG.out _ C0.out.k).mono ?_; rintro e w1 ⟨rfl, h⟩; have c1 := hide (C0.out.up h); obtain ⟨_, x0, x1, x2, x3, y0, y1, y2, y3, _⟩ := c1.out; clear h))
         go_ret2
         exact ⟨rfl, c2.out.k⟩
       · have t2 : (G.w != O.w) = true := by rw [bne_iff_ne]; exact d2
         clear he d1 d2
         go_enter Tryz.func16, Tryz.ntmps16
         go_wp2_with (first
          | (go_at_call 28; have lean := c1; refine (GO.out _ c1.out.k).mono ?_; rintro e w2 ⟨rfl, h⟩; have c2 := hide (c1.out.up h); obtain ⟨_, x0, x1, x2, x3, y0, y1, y2, y3, _⟩ := c2.out; clear h)
          | (go_at_call 28; refine (GG.out _ C0.out.k).mono ?_; rintro e w1 ⟨rfl, h⟩; have c1 := hide (C0.out.up h); obtain ⟨_, x0, x1, x2, x3, y0, y1, y2, y3, _⟩ := c1.out; clear h))
         go_ret2
         exact ⟨rfl, c2.out.k⟩
     · have t1 : (G.f != O.f) = true := by rw [bne_iff_ne]; exact d1
       clear he d1
       go_enter Tryz.func16, Tryz.ntmps16
       go_wp2_with (first
        | (go_at_call 28; have lean := c1; refine (GO.out _ c1.out.k).mono ?_; rintro e w2 ⟨rfl, h⟩; have c2 := hide (c1.out.up h); obtain ⟨_, x0, x1, x2, x3, y0, y1, y2, y3, _⟩ := c2.out; clear h)
        | (go_at_call 28; refine (GG.out _ C0.out.k).mono ?_; rintro e w1 ⟨rfl, h⟩; have c1 := hide (C0.out.up h); obtain ⟨_, x0, x1, x2, x3, y0, y1, y2, y3, _⟩ := c1.out; clear h))
       go_ret2
       exact ⟨rfl, c2.out.k⟩
   · have ed : M.gdF G.m O.m = M.groveF O.m := by
      unfold M.gdF
      rw [if_neg (by simp [h0]), if_pos h1]
     rw [ed, err_some h1]
     rw [err_nil h0] at GG
     rw [err_some h1] at GO
     clear hg ho ed h0 h1 hbad
     generalize M.groveF O.m = gf at *
     unfold Gr.v at GG GO ⊢
     go_enter Tryz.func16, Tryz.ntmps16
     go_wp2_with (first
      | (go_at_call 28; have lean := c1; refine (GO.out _ c1.out.k).mono ?_; rintro e w2 ⟨rfl, h⟩; have c2 := hide (c1.out.up h); clear h)
      | (go_at_call 28; refine (GG.out _ C0.out.k).mono ?_; rintro e w1 ⟨rfl, h⟩; have c1 := hide (C0.out.up h); obtain ⟨_, x0, x1, x2, x3, y0, y1, y2, y3, _⟩ := c1.out; clear h))
     go_ret2
     exact ⟨rfl, c2.out.k⟩
 · have ed : M.gdF G.m O.m = M.groveF G.m := by
    unfold M.gdF
    rw [if_pos h0]
   rw [ed, err_some h0]
   rw [err_some h0] at GG
   clear hg ho ed h0 hbad GO
   generalize M.groveF G.m = gf at *
   unfold Gr.v at GG ⊢
   go_enter Tryz.func16, Tryz.ntmps16
   go_wp2_with (go_at_call 28; refine (GG.out _ C0.out.k).mono ?_; rintro e w1 ⟨rfl, h⟩; have c1 := hide (C0.out.up h); clear h)
   go_ret2
   exact ⟨rfl, c1.out.k⟩
set_option maxHeartbeats 32000000 in
set_option maxRecDepth 10000 in
theorem difgroves_ok (hT : DifTreesGives) (G O : Gr) (w : World) (hg : RdG w G) (ho : RdG w O) (gd0 : M.gdF G.m O.m = 0) : Calls Tryz.prog 16 #[G.v, O.v] w fun e w' => e = .returned (.tuple #[.int .i64 (M.difGV G.m O.m : Nat), errV (M.difGF G.m O.m)]) ∧ Below w.heap.size w w' := by
 have hmg : G.ks.length ≤ 9223372036854775807 := hg.2.1
 have hmo : O.ks.length ≤ 9223372036854775807 := ho.2.1
 obtain ⟨KG, KO, e1, e2, e3⟩ := M.gd_ok gd0
 have d1 : G.f = O.f := e1
 have d2 : G.w = O.w := e2
 have d3 : G.ks.length = O.ks.length := by rw [← tl_len G.ks, ← tl_len O.ks]; exact e3
 have h0 := (M.good_iff G.m).2 KG
 have h1 := (M.good_iff O.m).2 KO
 have GG := hide (fun W (hW : Below w.heap.size w W) => gcheck_any G W (hg.below hW))
 have GO := hide (fun W (hW : Below w.heap.size w W) => gcheck_any O W (ho.below hW))
 have C0 := hide (Cx.new w G O)
 have gl : G.ws.length = G.ks.length := KG.len.trans (tl_len G.ks)
 have ol : O.ws.length = O.ks.length := KO.len.trans (tl_len O.ks)
 have g0 : 0 < G.ks.length := by have := KG.t0; rw [show (M.gt G.m).length = G.ks.length from tl_len G.ks] at this; exact this
 have tG : ∀ k (hk : k < G.ks.length), (M.treeF G.ks[k].2.1 G.f).2 = 0 := fun k hk => KG.trees G.ks[k].2.1 (List.mem_map.2 ⟨_, List.getElem_mem hk, rfl⟩)
 have tO : ∀ k (hk : k < O.ks.length), (M.treeF O.ks[k].2.1 G.f).2 = 0 := fun k hk => by rw [d1]; exact KO.trees O.ks[k].2.1 (List.mem_map.2 ⟨_, List.getElem_mem hk, rfl⟩)
 have TRK : Hid (∀ k (hk : k < G.ks.length) (hk2 : k < O.ks.length) W, Below w.heap.size w W → Calls Tryz.prog 46 #[.slice G.ks[k].1 G.ks[k].2.1.length G.ks[k].2.2, .slice O.ks[k].1 O.ks[k].2.1.length O.ks[k].2.2, .int .i64 G.f] W fun e w' => ∃ (n : Nat) (wa : Option Addr) (wc : Nat), e = .returned (.tuple #[.slice wa n wc, errV (if M.movedV G.ks[k].2.1 O.ks[k].2.1 G.f = 0 then 5 else 0)]) ∧ Below W.heap.size W w') := fun k hk hk2 W hW => by
  refine (hT _ _ _ _ G.ks[k].2.2 O.ks[k].2.2 G.f W ((hg.below hW).2.2.1 _ (List.getElem_mem hk)) ((ho.below hW).2.2.1 _ (List.getElem_mem hk2))).mono ?_
  rintro e w' ⟨L, wa, wc, rfl, _, _, hb⟩
  refine ⟨L.length, wa, wc, ?_, hb⟩
  unfold M.difTF
  rw [if_neg (by rw [M.dif_of (tG k hk) (tO k hk2)]; simp)]
 have PD : Hid (∀ k (hk : k < G.ks.length) (hk2 : k < O.ks.length), M.gdP G.m O.m k = (decide (0 < M.movedV G.ks[k].2.1 O.ks[k].2.1 G.f) || !decide (G.ws.getD k 0 = O.ws.getD k 0))) := fun k hk hk2 => by
  unfold M.gdP
  rw [show (M.gt G.m).getD k [] = G.ks[k].2.1 from tl_at G.ks hk, show (M.gt O.m).getD k [] = O.ks[k].2.1 from tl_at O.ks hk2]
  rfl
 have HIT : Hid (∀ p, p < G.ks.length → M.gdP G.m O.m p = true → (∀ j, j < p → M.gdP G.m O.m j = false) → M.difGF G.m O.m = 0 ∧ M.difGV G.m O.m = p) := fun p hp h2 h3 => M.gd_hit gd0 (by show p < (tl G.ks).length; rw [tl_len]; exact hp) h2 h3
 have MISS : Hid ((∀ j, j < G.ks.length → M.gdP G.m O.m j = false) → M.difGF G.m O.m = 5 ∧ M.difGV G.m O.m = 0) := fun h => M.gd_miss gd0 (fun j hj => h j (by rw [← tl_len G.ks]; exact hj))
 obtain ⟨gb, gq, gta, hgb, hgc⟩ := hg.2.2.2 (by intro e; rw [e] at g0; simp at g0)
 obtain ⟨ob, oq, ota, hob, hoc⟩ := ho.2.2.2 (by intro e; rw [e] at d3; rw [d3] at g0; simp at g0)
 obtain ⟨xb, xq, gwa, hxb, hxc⟩ := hg.1.2 (by intro e; rw [e] at gl; simp at gl; omega)
 obtain ⟨yb, yq, owa, hyb, hyc⟩ := ho.1.2 (by intro e; rw [e] at ol; simp at ol; omega)
 have HT : Hid (∀ W, Below w.heap.size w W → ∀ k (hk : k < G.ks.length) (hk2 : k < O.ks.length), W.cell? ⟨gb, gq + k, none⟩ = some (.slice G.ks[k].1 G.ks[k].2.1.length G.ks[k].2.2) ∧ W.cell? ⟨ob, oq + k, none⟩ = some (.slice O.ks[k].1 O.ks[k].2.1.length O.ks[k].2.2) ∧ W.cell? ⟨xb, xq + k, none⟩ = some (.int .i64 (G.ws.getD k 0)) ∧ W.cell? ⟨yb, yq + k, none⟩ = some (.int .i64 (O.ws.getD k 0))) := fun W hW k hk hk2 =>
  ⟨(hW.cell (p := ⟨gb, gq + k, none⟩) hgb).trans (hgc k hk), (hW.cell (p := ⟨ob, oq + k, none⟩) hob).trans (hoc k hk2), (hW.cell (p := ⟨xb, xq + k, none⟩) hxb).trans (hxc k (by omega)), (hW.cell (p := ⟨yb, yq + k, none⟩) hyb).trans (hyc k (by omega))⟩
 have GTA := hide gta
 have OTA := hide ota
 have GWA := hide gwa
 have OWA := hide owa
 rw [err_nil h0] at GG
 rw [err_nil h1] at GO
 have t1 : (G.f != O.f) = false := by rw [bne_eq_false_iff_eq]; exact d1
 have t2 : (G.w != O.w) = false := by rw [bne_eq_false_iff_eq]; exact d2
 have t3 : ((G.ks.length : Int) != (O.ks.length : Int)) = false := by rw [bne_eq_false_iff_eq]; omega
 clear hg ho hT h0 h1 KG KO gd0 tG tO hgc hoc hxc hyc gta ota gwa owa hgb hob hxb hyb d1 d2 e1 e2 e3
 have D3 := hide d3
 have GL := hide gl
 have OL := hide ol
 clear d3 gl ol
 have FIN : Hid (∀ (p : Nat) (c : Int), M.difGF G.m O.m = c ∧ M.difGV G.m O.m = p → ∀ v, v = errV c → Ending.returned (.tuple #[.int .i64 (p : Nat), v]) = .returned (.tuple #[.int .i64 (M.difGV G.m O.m : Nat), errV (M.difGF G.m O.m)])) := fun p c h v hv => by rw [h.1, h.2, hv]
 generalize M.difGF G.m O.m = gF at *
 generalize M.difGV G.m O.m = gV at *
 generalize M.gdP G.m O.m = gP at *
 generalize errV gF = eF at *
 unfold Gr.v at GG GO ⊢
 go_enter Tryz.func16, Tryz.ntmps16
 go_wp2_with (first
  | (go_at_call 28; have lean := c1; refine (GO.out _ c1.out.k).mono ?_; rintro e w2 ⟨rfl, h⟩; have c2 := hide (c1.out.up h); obtain ⟨_, x0, x1, x2, x3, y0, y1, y2, y3, _⟩ := c2.out; clear h)
  | (go_at_call 28; refine (GG.out _ C0.out.k).mono ?_; rintro e w1 ⟨rfl, h⟩; have c1 := hide (C0.out.up h); obtain ⟨_, x0, x1, x2, x3, y0, y1, y2, y3, _⟩ := c1.out; clear h))
 clear x0 x1 x2 x3 y0 y1 y2 y3 t1 t2
 go_loopw [46] (fun i wr => ∃ k : Nat, k ≤ G.ks.length ∧ i = .int .i64 k ∧ Hid (∀ j, j < k → gP j = false) ∧ Hid (Cx w G O wr)) (fun i _ => G.ks.length - (intOf i).toNat)
 case atStart => exact ⟨0, Nat.zero_le _, rfl, fun j hj => absurd hj (Nat.not_lt_zero _), c2⟩
 case round =>
  obtain ⟨k, hk, rfl, HJ, K⟩ := hrel
  clear c1 c2 C0 GG GO
  by_cases hlt : k < G.ks.length
  · have hlt2 : k < O.ks.length := by have := D3.out; omega
    have kz : (k : Int) < (G.ks.length : Int) := by omega
    have kz2 : (k : Int) < (O.ks.length : Int) := by omega
    have kz3 : (k : Int) < (G.ws.length : Int) := by have := GL.out; omega
    have kz4 : (k : Int) < (O.ws.length : Int) := by have := OL.out; omega
    obtain ⟨_, x0, x1, x2, x3, y0, y1, y2, y3, _⟩ := K.out
    obtain ⟨r1, r2, r3, r4⟩ := HT.out _ K.out.k k hlt hlt2
    rw [GTA.out] at x3
    rw [OTA.out] at y3
    rw [GWA.out] at x2
    rw [OWA.out] at y2
    have TK := hide (TRK.out k hlt hlt2)
    have pd := PD.out k hlt hlt2
    have HK := hide (HIT.out k hlt)
    have CB : Hid (∀ W, Cx w G O W → W.cell? ⟨w.heap.size, 3, none⟩ = some (.slice (some ⟨gb, gq, none⟩) G.ks.length G.tc) ∧ W.cell? ⟨w.heap.size + 1, 3, none⟩ = some (.slice (some ⟨ob, oq, none⟩) O.ks.length O.tc) ∧ W.cell? ⟨w.heap.size, 0, none⟩ = some (.int .i64 G.f) ∧ W.cell? ⟨gb, gq + k, none⟩ = some (.slice G.ks[k].1 G.ks[k].2.1.length G.ks[k].2.2) ∧ W.cell? ⟨ob, oq + k, none⟩ = some (.slice O.ks[k].1 O.ks[k].2.1.length O.ks[k].2.2)) := fun W hW => by
     have z3 := hW.x3
     have v3 := hW.y3
     rw [GTA.out] at z3
     rw [OTA.out] at v3
     exact ⟨z3, v3, hW.x0, (HT.out W hW.k k hlt hlt2).1, (HT.out W hW.k k hlt hlt2).2.1⟩
    clear TRK PD HT HIT MISS
    generalize hmv : M.movedV G.ks[k].2.1 O.ks[k].2.1 G.f = mv at *
    clear hmv
    generalize G.ws.getD k 0 = wg at *
    generalize O.ws.getD k 0 = wo at *
    generalize G.ks[k].2.1.length = gtn at *
    generalize G.ks[k].2.2 = gtc at *
    generalize G.ks[k].1 = gta1 at *
    generalize O.ks[k].2.1.length = otn at *
    generalize O.ks[k].2.2 = otc at *
    generalize O.ks[k].1 = ota1 at *
    have k0 : (0 : Int) ≤ (k : Int) := by omega
    by_cases hw : wg = wo
    · have s2 : (wg != wo) = false := by rw [bne_eq_false_iff_eq]; exact hw
      rw [decide_eq_true hw] at pd
      have PDH := hide pd
      clear pd hw
      go_upto_region 12 with fail
      go_quiet (fail)
      go_upto_region 14 with fail
      obtain ⟨wd, hwd⟩ : ∃ V, V = wr.drewN nq := ⟨_, rfl⟩
      have K2 : Hid (Cx w G O wd) := by rw [hwd]; exact K.out.up (below_drew (Below.refl _ _) _ (Nat.le_refl _))
      rw [← hwd]
      clear hwd x0 x1 x2 x3 y0 y1 y2 y3 r1 r2 r3 r4 K
      obtain ⟨s1, s3, s4, s5, s6⟩ := CB.out wd K2.out
      go_cut [9, 10] from 61 to 76 (fun _ v wx => v = errV (if mv = 0 then 5 else 0) ∧ Hid (Cx w G O wx))
      case first =>
       have KD := hide (K2.out.up ((Below.refl _ _).drew))
       generalize errV (if mv = 0 then 5 else 0) = ev at *
       go_region_held3 (fun V => V.cell? ⟨w.heap.size, 3, none⟩ = some (.slice (some ⟨gb, gq, none⟩) G.ks.length G.tc) ∧ V.cell? ⟨w.heap.size + 1, 3, none⟩ = some (.slice (some ⟨ob, oq, none⟩) O.ks.length O.tc) ∧ V.cell? ⟨w.heap.size, 0, none⟩ = some (.int .i64 G.f) ∧ V.cell? ⟨gb, gq + k, none⟩ = some (.slice gta1 gtn gtc) ∧ V.cell? ⟨ob, oq + k, none⟩ = some (.slice ota1 otn otc)) (go_keep) ((go_at_call 46; refine (TK.out _ KD.out.k).mono ?_; rintro e w5 ⟨ln, la, lc, rfl, h5⟩; have H5 := hide (KD.out.up h5); obtain ⟨s1, s3, s4, s5, s6⟩ := CB.out w5 H5.out; clear h5))
       all_goals (
        go_wp2
        go_meet
        case rel => exact ⟨rfl, H5⟩)
      case rest =>
       obtain ⟨rfl, K3⟩ := hcut
       clear s1 s3 s4 s5 s6 TK CB K2
       by_cases hm : mv = 0
       · have P := hide (show gP k = false by rw [PDH.out, hm]; rfl)
         rw [if_pos hm, err_some (show (5 : Int) ≠ 0 by decide)]
         clear PDH hm
         go_wp2
         go_roundw
         case rel => exact ⟨k + 1, by omega, by go_num, fun j q => (Nat.lt_succ_iff_lt_or_eq.1 q).elim (HJ.out j) (fun z => by rw [z]; exact P.out), K3⟩
         case measure => simp [intOf]; omega
       · have P := hide (show gP k = true by rw [PDH.out, decide_eq_true (show 0 < mv by omega)]; rfl)
         rw [if_neg hm, err_nil rfl]
         clear PDH hm
         go_wp2
         go_ret2
         exact ⟨FIN.out k 0 (HK.out P.out HJ.out) _ (err_nil rfl).symm, K3.out.k⟩
    · have s2 : (wg != wo) = true := by rw [bne_iff_ne]; exact hw
      rw [decide_eq_false hw] at pd
      have P := hide (show gP k = true by rw [pd]; simp)
      clear pd hw
      go_upto_region 12 with fail
      go_quiet (fail)
      go_wp2
      go_ret2
      exact ⟨FIN.out k 0 (HK.out P.out HJ.out) _ (err_nil rfl).symm, (K.out.up (below_drew (Below.refl _ _) _ (Nat.le_refl _))).k⟩
  · have ek : k = G.ks.length := by omega
    have MI := MISS.out (by rw [← ek]; exact HJ.out)
    clear ek
    go_wp2
    go_ret2
    exact ⟨FIN.out 0 5 MI _ (err_some (by decide)).symm, K.out.k⟩
theorem difgroves_any (hT : DifTreesGives) : DifGrovesGives := by
 intro G O W hg ho
 by_cases h : M.gdF G.m O.m = 0
 · exact difgroves_ok hT G O W hg ho h
 · exact difgroves_bad G O W hg ho h
def M.loK (t : List M.Nd) : Nat → Int
 | 0 => 1000000
 | k + 1 => if M.leafB (M.nAt t k) = true ∧ M.nv (M.nAt t k) < M.loK t k then M.nv (M.nAt t k) else M.loK t k
def M.hiK (t : List M.Nd) : Nat → Int
 | 0 => -1000000
 | k + 1 => if M.leafB (M.nAt t k) = true ∧ M.hiK t k < M.nv (M.nAt t k) then M.nv (M.nAt t k) else M.hiK t k
theorem M.lo_spec (t : List M.Nd) : ∀ k, M.loK t k ≤ 1000000 ∧ (∀ x ∈ M.lvK t k, M.loK t k ≤ x) ∧ (M.loK t k = 1000000 ∨ M.loK t k ∈ M.lvK t k)
 | 0 => ⟨Int.le_refl _, (fun x hx => by cases hx), .inl rfl⟩
 | k + 1 => by
   obtain ⟨h1, h2, h3⟩ := M.lo_spec t k
   unfold M.loK M.lvK
   by_cases hl : M.leafB (M.nAt t k) = true
   · rw [if_pos hl]
     by_cases hv : M.nv (M.nAt t k) < M.loK t k
     · rw [if_pos ⟨hl, hv⟩]
       refine ⟨by omega, fun x hx => ?_, .inr (by simp)⟩
       rcases List.mem_append.1 hx with q | q
       · have := h2 x q; omega
       · rw [List.mem_singleton.1 q]; exact Int.le_refl _
     · rw [if_neg (fun c => hv c.2)]
       refine ⟨h1, fun x hx => ?_, h3.imp id (fun q => List.mem_append.2 (.inl q))⟩
       rcases List.mem_append.1 hx with q | q
       · exact h2 x q
       · rw [List.mem_singleton.1 q]; omega
   · rw [if_neg hl, if_neg (fun c => hl c.1)]
     exact ⟨h1, h2, h3⟩
theorem M.hi_spec (t : List M.Nd) : ∀ k, -1000000 ≤ M.hiK t k ∧ (∀ x ∈ M.lvK t k, x ≤ M.hiK t k) ∧ (M.hiK t k = -1000000 ∨ M.hiK t k ∈ M.lvK t k)
 | 0 => ⟨Int.le_refl _, (fun x hx => by cases hx), .inl rfl⟩
 | k + 1 => by
   obtain ⟨h1, h2, h3⟩ := M.hi_spec t k
   unfold M.hiK M.lvK
   by_cases hl : M.leafB (M.nAt t k) = true
   · rw [if_pos hl]
     by_cases hv : M.hiK t k < M.nv (M.nAt t k)
     · rw [if_pos ⟨hl, hv⟩]
       refine ⟨by omega, fun x hx => ?_, .inr (by simp)⟩
       rcases List.mem_append.1 hx with q | q
       · have := h2 x q; omega
       · rw [List.mem_singleton.1 q]; exact Int.le_refl _
     · rw [if_neg (fun c => hv c.2)]
       refine ⟨h1, fun x hx => ?_, h3.imp id (fun q => List.mem_append.2 (.inl q))⟩
       rcases List.mem_append.1 hx with q | q
       · exact h2 x q
       · rw [List.mem_singleton.1 q]; omega
   · rw [if_neg hl, if_neg (fun c => hl c.1)]
     exact ⟨h1, h2, h3⟩
theorem M.lo_low {t : List M.Nd} {m : Int} (F : M.Fair t m) : M.lowT t = M.loK t t.length := by
 obtain ⟨h1, h2, h3⟩ := M.lo_spec t t.length
 have hp := M.lv_some F
 refine M.low_unique ?_ h2
 rcases h3 with h3 | h3
 · have hx := List.getElem_mem hp
   have a := h2 _ hx
   have b := (M.lv_in F _ hx).2
   rw [show M.loK t t.length = (M.lvK t t.length)[0] by omega]
   exact hx
 · exact h3
theorem M.hi_high {t : List M.Nd} {m : Int} (F : M.Fair t m) : M.highT t = M.hiK t t.length := by
 obtain ⟨h1, h2, h3⟩ := M.hi_spec t t.length
 have hp := M.lv_some F
 refine M.high_unique ?_ h2
 rcases h3 with h3 | h3
 · have hx := List.getElem_mem hp
   have a := h2 _ hx
   have b := (M.lv_in F _ hx).1
   rw [show M.hiK t t.length = (M.lvK t t.length)[0] by omega]
   exact hx
 · exact h3
theorem two_ret {a b c d : Int} (h1 : a = b) (h2 : c = d) : Ending.returned (.tuple #[.int .i64 a, .int .i64 c]) = .returned (.tuple #[.int .i64 b, .int .i64 d]) := by rw [h1, h2]
set_option maxHeartbeats 4000000 in
theorem ends_in (a0 : Option Addr) (ts : List M.Nd) (ca : Nat) (m : Int) (w : World) (ht : RdN w a0 ts) (F : M.Fair ts m) :
 Calls Tryz.prog 54 #[.slice a0 ts.length ca] w fun e w' => e = .returned (.tuple #[.int .i64 (M.lowT ts), .int .i64 (M.highT ts)]) ∧ Below w.heap.size w w' := by
 have hm : ts.length ≤ 9223372036854775807 := ht.1
 have EL := hide (M.lo_low F)
 have EH := hide (M.hi_high F)
 have n0 : 0 < ts.length := F.2.1
 obtain ⟨b1, off, rfl, hb, hc⟩ := ht.2 (by intro e; subst e; simp at n0)
 have NS : Hid (∀ W, Below w.heap.size w W → ∀ k, k < ts.length → SixAt W b1 (off + k * 6) (M.nAt ts k)) := fun W hW k hk => (hc k hk).below hW hb
 have SP : Hid (∀ k, M.loK ts k ≤ 1000000 ∧ -1000000 ≤ M.hiK ts k) := fun k => ⟨(M.lo_spec ts k).1, (M.hi_spec ts k).1⟩
 clear ht hc F
 generalize M.lowT ts = LT at *
 generalize M.highT ts = HT at *
 go_enter Tryz.func54, Tryz.ntmps54
 go_wp2
 go_loopw [2, 3, 8] (fun lo hi i wr => ∃ k : Nat, k ≤ ts.length ∧ lo = .int .i64 (M.loK ts k) ∧ hi = .int .i64 (M.hiK ts k) ∧ i = .int .i64 k ∧ Below w.heap.size w wr) (fun _ _ i _ => ts.length - (intOf i).toNat)
 case atStart => exact ⟨0, Nat.zero_le _, rfl, rfl, rfl, Below.refl _ _⟩
 case round =>
  obtain ⟨k, hk, rfl, rfl, rfl, hbl⟩ := hrel
  by_cases hlt : k < ts.length
  · obtain ⟨c0, c1, c2, c3, c4, c5⟩ := NS.out wr hbl k hlt
    have kz : (k : Int) < (ts.length : Int) := by omega
    have B2 : Hid (∀ o, Below w.heap.size w (wr.alloc o)) := fun o => hbl.alloc hbl.size o
    have B3 : Hid (∀ o, Below w.heap.size w (wr.alloc o).drew) := fun o => (hbl.alloc hbl.size o).drew
    have lE : M.leafB (M.nAt ts k) = decide (M.nf (M.nAt ts k) = -1) := rfl
    have SL : Hid (M.loK ts (k + 1) = if M.leafB (M.nAt ts k) = true ∧ M.nv (M.nAt ts k) < M.loK ts k then M.nv (M.nAt ts k) else M.loK ts k) := rfl
    have SH : Hid (M.hiK ts (k + 1) = if M.leafB (M.nAt ts k) = true ∧ M.hiK ts k < M.nv (M.nAt ts k) then M.nv (M.nAt ts k) else M.hiK ts k) := rfl
    clear NS SP EL EH
    generalize hlo : M.loK ts k = lo at *
    generalize hhi : M.hiK ts k = hi at *
    clear hlo hhi
    by_cases hf : M.nf (M.nAt ts k) = -1
    · have qf : (M.nf (M.nAt ts k) == -1) = true := by rw [beq_iff_eq]; exact hf
      have lT : Hid (M.leafB (M.nAt ts k) = true) := by unfold Hid; rw [lE, decide_eq_true hf]
      clear hf lE
      generalize M.nv (M.nAt ts k) = v at *
      generalize M.nf (M.nAt ts k) = ff at *
      generalize M.nc (M.nAt ts k) = fc at *
      generalize M.nl (M.nAt ts k) = fl at *
      generalize M.nr (M.nAt ts k) = fr at *
      generalize M.ns (M.nAt ts k) = fs at *
      by_cases h1 : v < lo
      · have E1 : Hid (M.loK ts (k + 1) = v) := by unfold Hid; rw [SL.out, if_pos ⟨lT.out, h1⟩]
        by_cases h2 : hi < v
        · have E2 : Hid (M.hiK ts (k + 1) = v) := by unfold Hid; rw [SH.out, if_pos ⟨lT.out, h2⟩]
          go_upto_region 6 with fail
          go_region
          all_goals (
           go_wp2
           go_roundw
           case rel => exact ⟨k + 1, by omega, by rw [E1.out], by rw [E2.out], by go_num, B3.out _⟩
           case measure => simp [intOf]; omega)
        · have E2 : Hid (M.hiK ts (k + 1) = hi) := by unfold Hid; rw [SH.out, if_neg (fun c => h2 c.2)]
          go_upto_region 6 with fail
          go_region
          all_goals (
           go_wp2
           go_roundw
           case rel => exact ⟨k + 1, by omega, by rw [E1.out], by rw [E2.out], by go_num, B3.out _⟩
           case measure => simp [intOf]; omega)
      · have E1 : Hid (M.loK ts (k + 1) = lo) := by unfold Hid; rw [SL.out, if_neg (fun c => h1 c.2)]
        by_cases h2 : hi < v
        · have E2 : Hid (M.hiK ts (k + 1) = v) := by unfold Hid; rw [SH.out, if_pos ⟨lT.out, h2⟩]
          go_upto_region 6 with fail
          go_region
          all_goals (
           go_wp2
           go_roundw
           case rel => exact ⟨k + 1, by omega, by rw [E1.out], by rw [E2.out], by go_num, B3.out _⟩
           case measure => simp [intOf]; omega)
        · have E2 : Hid (M.hiK ts (k + 1) = hi) := by unfold Hid; rw [SH.out, if_neg (fun c => h2 c.2)]
          go_upto_region 6 with fail
          go_region
          all_goals (
           go_wp2
           go_roundw
           case rel => exact ⟨k + 1, by omega, by rw [E1.out], by rw [E2.out], by go_num, B3.out _⟩
           case measure => simp [intOf]; omega)
    · have qf : (M.nf (M.nAt ts k) == -1) = false := by rw [beq_eq_false_iff_ne]; exact hf
      have lT : Hid (¬ M.leafB (M.nAt ts k) = true) := by unfold Hid; rw [lE, decide_eq_false hf]; decide
      have E1 : Hid (M.loK ts (k + 1) = lo) := by unfold Hid; rw [SL.out, if_neg (fun c => lT.out c.1)]
      have E2 : Hid (M.hiK ts (k + 1) = hi) := by unfold Hid; rw [SH.out, if_neg (fun c => lT.out c.1)]
      clear hf lE SL SH
      generalize M.nv (M.nAt ts k) = v at *
      generalize M.nf (M.nAt ts k) = ff at *
      generalize M.nc (M.nAt ts k) = fc at *
      generalize M.nl (M.nAt ts k) = fl at *
      generalize M.nr (M.nAt ts k) = fr at *
      generalize M.ns (M.nAt ts k) = fs at *
      go_wp2
      go_roundw
      case rel => exact ⟨k + 1, by omega, by rw [E1.out], by rw [E2.out], by go_num, B2.out _⟩
      case measure => simp [intOf]; omega
  · have ek : k = ts.length := by omega
    have L1 : Hid (M.loK ts k = LT) := by unfold Hid; rw [ek, EL.out]
    have L2 : Hid (M.hiK ts k = HT) := by unfold Hid; rw [ek, EH.out]
    clear NS SP EL EH ek
    go_wp2
    go_ret2
    exact ⟨two_ret L1.out L2.out, hbl⟩
def LimGroveGives : Prop := ∀ (G : Gr) (bl : Option Addr) (ss : List M.Sp) (cl : Nat) (W : World), RdG W G → RdS W bl ss → Calls Tryz.prog 21 #[G.v, .slice bl ss.length cl] W fun e w' => e = .returned (.tuple #[.int .i64 (M.limGV G.m ss).1, .int .i64 (M.limGV G.m ss).2, errV (M.limGF G.m ss)]) ∧ Below W.heap.size W w'
abbrev grB (G : Gr) : Obj := .cells #[.int .i64 G.f, .int .i64 G.w, .slice G.wa G.ws.length G.wc, .slice G.ta G.ks.length G.tc] 27
theorem gr_box (W : World) (G : Gr) : Below W.heap.size W (W.alloc (grB G)) ∧ (W.alloc (grB G)).cell? ⟨W.heap.size, 0, none⟩ = some (.int .i64 G.f) ∧ (W.alloc (grB G)).cell? ⟨W.heap.size, 1, none⟩ = some (.int .i64 G.w) ∧ (W.alloc (grB G)).cell? ⟨W.heap.size, 2, none⟩ = some (.slice G.wa G.ws.length G.wc) ∧ (W.alloc (grB G)).cell? ⟨W.heap.size, 3, none⟩ = some (.slice G.ta G.ks.length G.tc) ∧ W.heap.size < (W.alloc (grB G)).heap.size :=
 ⟨(Below.refl W.heap.size W).alloc (Nat.le_refl _) _, World.cell?_alloc_at _ _ _ 0 rfl, World.cell?_alloc_at _ _ _ 1 rfl, World.cell?_alloc_at _ _ _ 2 rfl, World.cell?_alloc_at _ _ _ 3 rfl, by simp⟩
structure Bx4 (W : World) (b : Nat) (G : Gr) : Prop where
 c0 : W.cell? ⟨b, 0, none⟩ = some (.int .i64 G.f)
 c1 : W.cell? ⟨b, 1, none⟩ = some (.int .i64 G.w)
 c2 : W.cell? ⟨b, 2, none⟩ = some (.slice G.wa G.ws.length G.wc)
 c3 : W.cell? ⟨b, 3, none⟩ = some (.slice G.ta G.ks.length G.tc)
 lt : b < W.heap.size
 rd : RdG W G
theorem Bx4.up {W W' : World} {b : Nat} {G : Gr} (h : Bx4 W b G) (hb : Below W.heap.size W W') : Bx4 W' b G :=
 ⟨(hb.cell (p := ⟨b, 0, none⟩) h.lt).trans h.c0, (hb.cell (p := ⟨b, 1, none⟩) h.lt).trans h.c1, (hb.cell (p := ⟨b, 2, none⟩) h.lt).trans h.c2, (hb.cell (p := ⟨b, 3, none⟩) h.lt).trans h.c3, Nat.lt_of_lt_of_le h.lt hb.size, h.rd.below hb⟩
theorem Bx4.new (W : World) (G : Gr) (h : RdG W G) : Bx4 (W.alloc (grB G)) W.heap.size G ∧ Below W.heap.size W (W.alloc (grB G)) := by
 obtain ⟨b, c0, c1, c2, c3, l⟩ := gr_box W G
 exact ⟨⟨c0, c1, c2, c3, l, h.below b⟩, b⟩
end Go.Proofs.YtelncekgjfpogahGreatDoor
namespace Go.Proofs.YtelncekgjfpogahGreatDoor.M
set_option linter.unusedVariables false
theorem boo_top {l : List Sa} {m r d s : Int} (h : booF l m r d s = 0) : groveF (booG l m r d s) = 0 ∧ gf (booG l m r d s) = m ∧ gw (booG l m r d s) = 2 := by
 refine ⟨(boo_rest h).2.2.2, ?_, ?_⟩
 · unfold booG; rw [if_pos h]; rfl
 · unfold booG; rw [if_pos h]; rfl
theorem prunG_is {g : Gv} (h : groveF g = 0) : prunG g = (gf g, gw g, gs g, (gt g).map fun t => prunV t (gf g)) := by unfold prunG; rw [if_pos h]
theorem prunG_ok {g : Gv} (h : Good g) : Good (gf g, gw g, gs g, (gt g).map fun t => prunV t (gf g)) := by
 refine ⟨h.f0, h.f8, h.w1, h.w3, ?_, ?_, ?_, h.wts, ?_⟩
 · show 0 < ((gt g).map _).length; rw [List.length_map]; exact h.t0
 · show ((gt g).map _).length ≤ 12; rw [List.length_map]; exact h.t12
 · show (gs g).length = ((gt g).map _).length; rw [List.length_map]; exact h.len
 · intro t ht
   obtain ⟨u, hu, rfl⟩ := List.mem_map.1 (show t ∈ (gt g).map (fun t => prunV t (gf g)) from ht)
   exact (prun_tree (h.trees u hu)).1
theorem prunG_none {g : Gv} (h : groveF g = 0) : groveF (prunG g) = 0 ∧ difGF g (prunG g) = 5 := by
 have G := (good_iff g).1 h
 have P := prunG_ok G
 rw [prunG_is h]
 refine ⟨(good_iff _).2 P, ?_⟩
 have hl : (gt g).length = (gt (gf g, gw g, gs g, (gt g).map fun t => prunV t (gf g))).length := by show _ = ((gt g).map _).length; rw [List.length_map]
 refine (gd_miss (gd_of G P rfl rfl hl) (fun j hj => ?_)).1
 have e : (gt (gf g, gw g, gs g, (gt g).map fun t => prunV t (gf g))).getD j [] = prunV (gt g)[j] (gf g) := by
  show ((gt g).map fun t => prunV t (gf g)).getD j [] = _
  rw [getD_at (by simpa using hj)]
  simp
 have ht := G.trees _ (List.getElem_mem hj)
 unfold gdP
 rw [e, getD_at hj, moved_zero (dif_of ht (prun_tree ht).1) (fun x h1 h2 => by
  have := (prun_eval (t := (gt g)[j]) (r := x) (by rw [ready_tree h1, h2]; exact ht)).2
  rw [h2] at this
  exact this.symm)]
 rw [show decide ((gs g).getD j 0 = (gs (gf g, gw g, gs g, (gt g).map fun t => prunV t (gf g))).getD j 0) = true from decide_eq_true rfl]
 rfl
theorem prunG_eval {g : Gv} (h : groveF g = 0) {r : List Int} (hs : standF g r = 0) : standF (prunG g) r = 0 ∧ evalG (prunG g) r = evalG g r := by
 obtain ⟨G, h1, h2⟩ := stand_ok hs
 have P := prunG_ok G
 rw [prunG_is h]
 have hs' : standF (gf g, gw g, gs g, (gt g).map fun t => prunV t (gf g)) r = 0 := stand_of P h1 h2
 refine ⟨hs', ?_⟩
 have e : eachL (gf g, gw g, gs g, (gt g).map fun t => prunV t (gf g)) r = eachL g r := by
  unfold eachL
  show ((gt g).map fun t => prunV t (gf g)).map (fun t => evalV t r) = _
  rw [List.map_map]
  refine List.map_congr_left fun t ht => ?_
  have := (prun_eval (t := t) (r := r) (by rw [ready_tree h1, h2]; exact G.trees t ht)).2
  rw [h2] at this
  exact this
 unfold evalG
 rw [if_pos hs', if_pos hs, e]
def ptS (c : Int) : Sp := if c = nilI then (1, 0, true) else (c, c, false)
def ptL (r : List Int) : List Sp := r.map ptS
theorem ptL_len (r : List Int) : (ptL r).length = r.length := by simp [ptL]
theorem ptL_at {r : List Int} {i : Nat} (h : i < r.length) : (ptL r).getD i (0, 0, false) = ptS (r.getD i 0) := by simp [ptL, List.getD, h]
theorem in_pt (c x : Int) : inS x (ptS c) = true ↔ x = c := by
 unfold ptS inS
 by_cases q : c = nilI
 · rw [if_pos q]
   by_cases p : x = nilI
   · rw [if_pos p, p, q]; simp
   · rw [if_neg p]
     constructor
     · intro h; simp at h; omega
     · intro h; exact absurd (h.trans q) p
 · rw [if_neg q]
   by_cases p : x = nilI
   · rw [if_pos p]
     constructor
     · intro h; cases h
     · intro h; exact absurd (h.symm.trans p) q
   · rw [if_neg p]
     simp
     omega
theorem pt_right {c : Int} (h : badCell c = false) : sp1F (ptS c) = 0 := by
 unfold ptS
 by_cases q : c = nilI
 · rw [if_pos q]; decide
 · rw [if_neg q]
   have ho : outI c = false := by
    unfold badCell at h
    rw [decide_eq_false q] at h
    simpa using h
   unfold sp1F
   rw [if_neg (by show ¬ (outI c = true ∨ outI c = true); rw [ho]; simp)]
   have : hasS (c, c, false) = true := by unfold hasS; simp
   rw [this]
   rfl
theorem ptL_right {r : List Int} (h : rowF r = 0) : spF (ptL r) = 0 := by
 obtain ⟨h1, h2⟩ := (row_ok r).1 h
 refine sp_ok (by rw [ptL_len]; exact h1) fun s hs => ?_
 obtain ⟨c, hc, rfl⟩ := List.mem_map.1 (show s ∈ r.map ptS from hs)
 exact pt_right (h2 c hc)
theorem pt_only {r x : List Int} (hl : x.length = r.length) (h : within x (ptL r)) : x = r := by
 refine List.ext_getElem hl fun i h1 h2 => ?_
 have := h i (by rw [ptL_len]; exact h2)
 rw [ptL_at h2, in_pt, getD_at h1, getD_at h2] at this
 exact this
theorem pt_lim {t : List Nd} {r : List Int} (hr : rowF r = 0) (ht : (treeF t (r.length : Int)).2 = 0) : limLo t (ptL r) = evalV t r ∧ limHi t (ptL r) = evalV t r := by
 have h0 : limF t (ptL r) = 0 := lim_of (ptL_right hr) (by rw [ptL_len]; exact ht)
 obtain ⟨_, a2, a3, a4⟩ := lim_least h0
 obtain ⟨_, b2, b3, b4⟩ := lim_most h0
 obtain ⟨_, a5, a6⟩ := fit_parts a3 a4
 obtain ⟨_, b5, b6⟩ := fit_parts b3 b4
 rw [ptL_len] at a5 b5
 rw [← a2, ← b2, pt_only a5 a6, pt_only b5 b6]
 exact ⟨rfl, rfl⟩
theorem lim_pt {g : Gv} {r : List Int} (hs : standF g r = 0) (hw : gw g ≠ 3) : limGF g (ptL r) = 0 ∧ limGV g (ptL r) = (evalG g r, evalG g r) := by
 obtain ⟨G, h1, h2⟩ := stand_ok hs
 have e0 : limGF g (ptL r) = 0 := by
  unfold limGF
  rw [if_neg (by rw [(good_iff g).2 G]; simp), if_neg (by rw [ptL_len, h2]; simp)]
  exact ptL_right h1
 refine ⟨e0, ?_⟩
 have e1 : lowsL g (ptL r) = eachL g r := by
  unfold lowsL eachL
  exact List.map_congr_left fun t ht => (pt_lim h1 (by rw [h2]; exact G.trees t ht)).1
 have e2 : highsL g (ptL r) = eachL g r := by
  unfold highsL eachL
  exact List.map_congr_left fun t ht => (pt_lim h1 (by rw [h2]; exact G.trees t ht)).2
 unfold limGV
 rw [if_pos e0, e1, e2]
 unfold between evalG
 rw [if_pos hw, if_pos hs]
end Go.Proofs.YtelncekgjfpogahGreatDoor.M
