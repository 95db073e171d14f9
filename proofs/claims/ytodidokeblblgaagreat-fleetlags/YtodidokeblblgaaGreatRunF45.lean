/-
  Several texts as one: ScKp, ScL.
-/
import Derived.Test.YtodidokeblblgaaGreatRunF44
import Derived.Test.YtodidokeblblgaaGreatRunF41
import Derived.Test.YtodidokeblblgaaGreatRunF26
namespace Go.Proofs.YtodidokeblblgaaGreat
open Go.ChangeShapes Go.WideShapes Go.ChangeAt Go.RowKit Go.Lib Go.Maps
set_option linter.unusedVariables false
set_option maxHeartbeats 16000000 in
set_option maxRecDepth 10000 in
theorem sc_keep {W w : World} {s f i : Nat} {T : Nat → Nat} {S : M.Sh} {ka : Option Addr} {kc : Nat} {K : List Ld} {F E : Nat → Prop} (h : SC W w s f T S i ka kc K F) (v : M.Vn) (p : Nat) (hx : isB v.name ∧ ∃ k, k < S.l.length ∧ (vAt S k).name = v.name ∧ (vAt S k).num = v.num ∧ FoIn E w p (S.l.getD k M.vg0).2) (hFE : ∀ q, F q → E q)
    (hE : ∀ q, E q → W.heap.size ≤ q ∧ q < w.heap.size ∧ T q = 0 ∧ q ≠ s ∧ ∀ p, ka = some p → q ≠ p.block) :
    Calls Tryz.prog 33 #[.pointer (some ⟨s, 0, none⟩), vnV v, .pointer (some ⟨p, 0, none⟩)] w fun e w' => e = .returned (.tuple #[]) ∧ ∃ g kd L, SC W w' s f T S i (some ⟨g, 0, none⟩) kd L E ∧ StayBut (fun q => q = s ∨ ∃ p, ka = some p ∧ p.block = q) w w' ∧ ((∃ p, ka = some p ∧ p.block = g) ∨ w.heap.size ≤ g) := by
  obtain ⟨w0, hw0⟩ : ∃ X, X = w.alloc (.cells #[.string (byStr v.name), .int .i64 v.num, .int .i64 v.stage, .int .i64 v.share] 81) := ⟨_, rfl⟩
  obtain ⟨vb, hvb⟩ : ∃ x, x = w.heap.size := ⟨_, rfl⟩
  have ba : Below w.heap.size w w0 := by rw [hw0]; exact (Below.refl _ _).alloc (Nat.le_refl _) _
  have bv : Bx w0 vb (vn4 v) := by rw [hw0, hvb]; exact bx_new w _ _
  have sl := h.box.lt
  have vs : vb ≠ s := by omega
  have va : ∀ p, ka = some p → p.block ≠ vb := fun p hp => by have := sp_in h.ko p hp; omega
  have kr0 : KR W w w0 s f i ka kc K vb (vn4 v) K.length K := ⟨h.box.keep (ba.block _ sl), own_up h.ko ba, (fun x hx => hx), rfl, bv, stay_of ba (Nat.le_refl _)⟩
  have kl := h.kl
  have IO := hide (isOf_any (byStr v.name) v.num v.stage v.share w0.drew)
  have DL : Hid (∀ wB vq, Below w0.drew.heap.size w0.drew wB → VB wB vq (byStr v.name) v.num → w0.heap.size ≤ vq → Calls Tryz.prog 54 #[.slice ka K.length kc, .func (.func 65) #[] #[.pointer (some ⟨vq, 0, none⟩)]] wB fun e wC => ∃ m : Nat, e = .returned (.slice ka m kc) ∧ (wC.cell? ⟨s, 2, none⟩ = some (.slice ka K.length kc) ∧ wC.frozen? ⟨s, 2, none⟩ = false) ∧ m ≤ 4 ∧ ∃ r, KR W w (wC.setCell ⟨s, 2, none⟩ (.slice ka m kc)) s f i ka kc K vb (vn4 v) m r) := fun wB vq hb hv hq => by
    have hb0 : Below w0.heap.size w0 wB := ((Below.refl _ w0).drew).trans hb
    refine (del_ld rfl (by omega) (own_up kr0.own hb0) hv (fun p hp => ?_)).mono ?_
    · have := sp_in h.ko p hp
      have := ba.size
      omega
    · rintro e wC ⟨m, rfl, r, dl⟩
      obtain ⟨c, k⟩ := kr0.struck hb0 dl h.sn.2.2 va vs
      exact ⟨m, rfl, c, by have := dl.le; omega, r, k⟩
  have D1 : Hid (∀ wx r, KR W w wx s f i ka kc K vb (vn4 v) 4 r → Calls Tryz.prog 55 #[.slice ka 4 kc, .int .i64 0, .int .i64 1] wx fun e wC => e = .returned (.slice ka 3 kc) ∧ (wC.cell? ⟨s, 2, none⟩ = some (.slice ka 4 kc) ∧ wC.frozen? ⟨s, 2, none⟩ = false) ∧ ∃ r', KR W w (wC.setCell ⟨s, 2, none⟩ (.slice ka 3 kc)) s f i ka kc K vb (vn4 v) 3 r') := fun wx r kr => by
    obtain ⟨g, e, _, _⟩ := own_form kr.own (by omega)
    have own' := kr.own
    rw [e] at own'
    rw [e]
    refine (del_one kr.len own').mono ?_
    rintro e' wC ⟨rfl, r', dl⟩
    rw [← e] at dl ⊢
    obtain ⟨c, k⟩ := kr.struck (Below.refl _ _) dl h.sn.2.2 va vs
    exact ⟨rfl, c, r', k⟩
  have PU : Hid (∀ wx m r, KR W w wx s f i ka kc K vb (vn4 v) m r → m ≤ 3 → ∀ (o : Obj) w7 g7 c7, w7.ownsRow W.heap.size 116 3 (.slice (some ⟨g7, 0, none⟩) (m + 1) c7) (m + 1) (ldCs r ++ ld3 (v.name, v.num, p)) → (wx.alloc o).grownBy w7 (Value.slice ka m kc).ownBlock → ((Value.slice ka m kc).ownBlock = some g7 ∨ g7 = wx.heap.size + 1) → (w7.cell? ⟨s, 2, none⟩ = some (.slice ka m kc) ∧ w7.frozen? ⟨s, 2, none⟩ = false) ∧ Hid (SC W (w7.setCell ⟨s, 2, none⟩ (.slice (some ⟨g7, 0, none⟩) (m + 1) c7)) s f T S i (some ⟨g7, 0, none⟩) c7 (r ++ [(v.name, v.num, p)]) E ∧ StayBut (fun q => q = s ∨ ∃ p, ka = some p ∧ p.block = q) w (w7.setCell ⟨s, 2, none⟩ (.slice (some ⟨g7, 0, none⟩) (m + 1) c7)) ∧ ((∃ p, ka = some p ∧ p.block = g7) ∨ w.heap.size ≤ g7))) := fun wx m r kr hm o w7 g7 c7 h1 h2 h3 => KR.push h kr hm (x := (v.name, v.num, p)) hx hFE hE h1 h2 h3
  have KR0 := hide kr0
  have BS := hide (fun wx m r (kr : KR W w wx s f i ka kc K vb (vn4 v) m r) => And.intro kr.box (And.intro kr.vbx kr.own))
  have BZ : Hid (∀ wx m r, KR W w wx s f i ka kc K vb (vn4 v) m r → W.heap.size ≤ wx.heap.size ∧ s < wx.heap.size ∧ vb < wx.heap.size) := fun wx m r kr => ⟨by have := kr.stay.size; have := h.has.bl.size; omega, kr.box.lt, kr.vbx.lt⟩
  obtain ⟨j0, hj0, hz0, hz1, hz2⟩ := info_parts infoLd
  have J0 := hide hj0
  unfold vnV
  unfold vn4 at BS KR0 IO
  clear h hx hFE hE kr0 bv ba sl va hj0
  unfold ld3 at PU
  simp only at PU
  unfold vn4 at DL D1 PU BZ
  generalize byStr v.name = x0 at *
  generalize v.num = x1 at *
  generalize v.stage = x2 at *
  generalize v.share = x3 at *
  generalize K.length = n at *
  go_enter Tryz.func33, Tryz.ntmps33
  go_upto_region 1 with fail
  rw [← hw0]
  simp only [← hvb]
  clear hw0 hvb
  go_cut [] from 6 to 15 (fun wx => ∃ (m : Nat) (r : List Ld), m ≤ 4 ∧ Hid (KR W w wx s f i ka kc K vb [.string x0, .int .i64 x1, .int .i64 x2, .int .i64 x3] m r))
  case first =>
    obtain ⟨b1, b2, _⟩ := BS.out _ _ _ KR0.out
    have c2 := b1.cell 2 _ rfl
    have v0 := b2.cell 0 _ rfl
    have v1 := b2.cell 1 _ rfl
    have v2 := b2.cell 2 _ rfl
    have v3 := b2.cell 3 _ rfl
    have C2 : Hid (∀ wB, Below w0.drew.heap.size w0.drew wB → wB.cell? ⟨s, 2, none⟩ = some (.slice ka n kc)) := fun wB hb => (hb.cell (p := ⟨s, 2, none⟩) b1.lt).trans c2
    clear b1 b2 D1 PU BS BZ J0
    go_region_with (first
      | (go_at_call 54; refine (DL.out wB vq KB.out VQ.out LQ.out).mono ?_; rintro e wC ⟨m, rfl, ⟨cc, cf⟩, m4, r, kr⟩; have KR1 := hide kr; have M4 := hide m4; clear kr m4)
      | (go_at_call 48; refine IO.out.mono ?_; rintro e wB ⟨vq, rfl, vb2, kb, lq⟩; have VQ := hide vb2; have KB := hide kb; have LQ : Hid (w0.heap.size ≤ vq) := lq; have c2b := C2.out wB kb; clear vb2 kb lq))
    all_goals (
      go_wp2
      go_meet
      case rel => exact ⟨m, r, M4.out, KR1⟩)
  case rest =>
    obtain ⟨m, r, m4, KR1⟩ := hcut
    obtain ⟨wx, hwx⟩ : ∃ X, X = wc := ⟨_, rfl⟩
    subst hwx
    clear DL IO KR0
    obtain ⟨b1, b2, _⟩ := BS.out _ _ _ KR1.out
    have c2 := b1.cell 2 _ rfl
    clear b1 b2
    go_upto_if 21 with fail
    go_cut [] from 22 to 29 (fun wx => ∃ (m : Nat) (r : List Ld), m ≤ 3 ∧ Hid (KR W w wx s f i ka kc K vb [.string x0, .int .i64 x1, .int .i64 x2, .int .i64 x3] m r))
    case first =>
      by_cases q : m = 4
      · subst q
        have D2 := hide (D1.out wx r KR1.out)
        clear D1 PU BS BZ
        go_wp2_with (go_at_call 55; refine D2.out.mono ?_; rintro e wC ⟨rfl, ⟨cc, cf⟩, r', kr⟩; have KR2 := hide kr; clear kr)
        go_meet
        case rel => exact ⟨3, r', by omega, KR2⟩
      · have t1 : ((m : Int) == 4) = false := by rw [beq_eq_false_iff_ne]; omega
        have t2 : (m == 4) = false := by rw [beq_eq_false_iff_ne]; exact q
        have M3 : Hid (m ≤ 3) := by unfold Hid; omega
        clear D1 PU BS BZ q
        go_wp2
        go_meet
        case rel => exact ⟨m, r, M3.out, KR1⟩
    case rest =>
      obtain ⟨m2, r2, m3, KR2⟩ := hcut
      obtain ⟨wy, hwy⟩ : ∃ X, X = wc := ⟨_, rfl⟩
      subst hwy
      clear D1 KR1 c2
      obtain ⟨b1, b2, ow⟩ := BS.out _ _ _ KR2.out
      obtain ⟨bz1, bz2, bz3⟩ := BZ.out _ _ _ KR2.out
      have c2 := b1.cell 2 _ rfl
      have v0 := b2.cell 0 _ rfl
      have v1 := b2.cell 1 _ rfl
      have c2a : ∀ o, (wy.alloc o).cell? ⟨s, 2, none⟩ = some (.slice ka m2 kc) := fun o => (World.cell?_of_block (a := ⟨s, 2, none⟩) (Below.heap_alloc _ _ _ bz2)).trans c2
      have v0a : ∀ o, (wy.alloc o).cell? ⟨vb, 0, none⟩ = some (.string x0) := fun o => (World.cell?_of_block (a := ⟨vb, 0, none⟩) (Below.heap_alloc _ _ _ bz3)).trans v0
      have v1a : ∀ o, (wy.alloc o).cell? ⟨vb, 1, none⟩ = some (.int .i64 x1) := fun o => (World.cell?_of_block (a := ⟨vb, 1, none⟩) (Below.heap_alloc _ _ _ bz3)).trans v1
      have OW := hide ow
      have P2 := hide (PU.out wy m2 r2 KR2.out m3)
      clear PU BS BZ b1 b2 ow
      go_upto_region 4 with fail
      go_region_law (refine step_append_lies _ rfl (.tmp 34) (.tmp 41) 69 rfl W.heap.size 116 j0 (.agg #[.string ⟨#[]⟩, .int .i64 0, .pointer none]) 3 32 Tryz.underlying69 J0.out hz0 hz1 hz2 rfl (by omega) (.slice ka m2 kc) m2 (ldCs r2) rfl (by first | exact OW.out.alloc _ | exact (OW.out.alloc _).drew) ⟨wy.heap.size, 0, none⟩ 1 1 [.string x0, .int .i64 x1, .pointer (some ⟨p, 0, none⟩)] rfl rfl (World.news_of_block (by first | exact heap_alloc_new _ _ | (simp; done))) (by simp [Value.oneCell']) (by omega) (by unfold maxLen; omega) (by omega) (by simp; omega) (wy.heap.size + 1) (by simp) ?_; intro g7 c7 w7 hov7 hgrow7 hat7 hlt7; obtain ⟨⟨z2, zf⟩, N7⟩ := P2.out _ w7 g7 c7 hov7 (grown_undrew hgrow7) hat7; clear hov7 hgrow7 hat7 hlt7)
      all_goals (
        clear P2 OW
        go_wp2
        refine bodyPost_end (results_none rfl _ _ _) rfl ?_
        exact ⟨rfl, g7, c7, _, N7.out⟩)
theorem byStr_injL {a b : List Nat} (ha : isB a) (hb : isB b) (h : byStr a = byStr b) : a = b := by
  refine ofs_inj a b ha hb ?_
  rw [← byStr_list, ← byStr_list, h]
/-- names and numbers tell versions -/
theorem M.one_ver {S : M.Sh} (h : M.numY (M.kyL S.l)) {j k : Nat} (hj : j < S.l.length) (hk : k < S.l.length) (h1 : (vAt S j).name = (vAt S k).name) (h2 : (vAt S j).num = (vAt S k).num) : j = k := by
  have pw := M.key_num h
  have el : (M.kyL S.l).length = S.l.length := by unfold M.kyL; rw [List.length_map]
  have ea : ∀ i (hi : i < S.l.length), (M.kyL S.l)[i]'(by omega) = ((vAt S i).name, (vAt S i).num) := fun i hi => by
    unfold M.kyL
    rw [List.getElem_map]
    show (S.l[i].1.name, S.l[i].1.num) = ((S.l.getD i M.vg0).1.name, (S.l.getD i M.vg0).1.num)
    rw [show S.l.getD i M.vg0 = S.l[i] from by rw [List.getD, List.getElem?_eq_getElem hi]; rfl]
  have no : ∀ i l (hi : i < l) (hl : l < S.l.length), ¬ ((vAt S i).name = (vAt S l).name ∧ (vAt S i).num = (vAt S l).num) := fun i l hi hl => by
    have := List.pairwise_iff_getElem.1 pw i l (by omega) (by omega) hi
    rw [ea i (by omega), ea l hl] at this
    exact this
  rcases Nat.lt_trichotomy j k with z | z | z
  · exact absurd ⟨h1, h2⟩ (no j k z hk)
  · exact z
  · exact absurd ⟨h1.symm, h2.symm⟩ (no k j z hj)
/-- a version that is there is found by its name and its number -/
theorem M.ver_at {S : M.Sh} (h : M.numY (M.kyL S.l)) {k : Nat} (hk : k < S.l.length) : M.verN S (vAt S k).name (vAt S k).num = some k := by
  cases e : M.verN S (vAt S k).name (vAt S k).num with
  | none =>
    have := M.find_none _ _ _ e (S.l.getD k M.vg0) (by rw [List.getD, List.getElem?_eq_getElem hk]; exact List.getElem_mem hk)
    simp at this
    exact absurd rfl (this rfl)
  | some j =>
    obtain ⟨h1, h2, h3⟩ := M.find_more _ _ _ _ e
    have hj := h3 M.vg0
    rw [Nat.sub_zero] at hj h2
    have hq : (vAt S j).name = (vAt S k).name ∧ (vAt S j).num = (vAt S k).num := of_decide_eq_true hj
    rw [M.one_ver h h2 hk hq.1 hq.2]

set_option maxHeartbeats 16000000 in
set_option maxRecDepth 10000 in
theorem sc_lay {W w : World} {s f i : Nat} {T : Nat → Nat} {S : M.Sh} {ka : Option Addr} {kc : Nat} {K : List Ld} {F : Nat → Prop} (h : SC W w s f T S i ka kc K F) {k : Nat} (hk : k < S.l.length) (hs : (vAt S k).stage ≠ 4) (hl : (vAt S k).name.length ≤ 9223372036854775807) (hi : I64 (vAt S k).num) :
    Calls Tryz.prog 31 #[.pointer (some ⟨s, 0, none⟩), vnV (vAt S k)] w fun e w' => ∃ p, e = .returned (.tuple #[.pointer (some ⟨p, 0, none⟩), .nilIface]) ∧ Below w.heap.size w w' ∧ ∃ E : Nat → Prop, FoIn E w' p (S.l.getD k M.vg0).2 ∧ (∀ q, F q → E q) ∧ ∀ q, E q → F q ∨ (w.heap.size ≤ q ∧ q < w'.heap.size) := by
  obtain ⟨mm, ml, D, E0, kb, mb, va, vc, G, sv⟩ := h.has.sa
  have nu := sv.inv.nu
  have nb := sv.inv.nb k hk
  obtain ⟨w0, hw0⟩ : ∃ X, X = w.alloc (.cells #[.string (byStr (vAt S k).name), .int .i64 (vAt S k).num, .int .i64 (vAt S k).stage, .int .i64 (vAt S k).share] 81) := ⟨_, rfl⟩
  obtain ⟨vb, hvb⟩ : ∃ x, x = w.heap.size := ⟨_, rfl⟩
  have ba : Below w.heap.size w w0 := by rw [hw0]; exact (Below.refl _ _).alloc (Nat.le_refl _) _
  have bv : Bx w0 vb (vn4 (vAt S k)) := by rw [hw0, hvb]; exact bx_new w _ _
  have IO := hide (isOf_any (byStr (vAt S k).name) (vAt S k).num (vAt S k).stage (vAt S k).share w0.drew)
  have kl := h.kl
  have IX : Hid (∀ wB vq, Below w0.drew.heap.size w0.drew wB → VB wB vq (byStr (vAt S k).name) (vAt S k).num → Calls Tryz.prog 47 #[.slice ka K.length kc, .func (.func 65) #[] #[.pointer (some ⟨vq, 0, none⟩)]] wB fun e w' => ∃ j : Int, e = .returned (.int .i64 j) ∧ Below w0.drew.heap.size w0.drew w' ∧ (j = -1 ∨ ∃ x : Nat, j = (x : Int) ∧ x < K.length ∧ Hid (FoIn F w (K.getD x ld0).2.2 (S.l.getD k M.vg0).2))) := fun wB vq hb hv => by
    have hb0 : Below w0.heap.size w0 wB := ((Below.refl _ w0).drew).trans hb
    refine (idx_ld rfl (by omega) (own_up (own_up h.ko ba) hb0) hv).mono ?_
    rintro e w' ⟨j, rfl, ways, b⟩
    refine ⟨j, rfl, below_on hb b, ?_⟩
    rcases ways with z | ⟨x, e1, e2, e3⟩
    · exact .inl z
    · refine .inr ⟨x, e1, e2, ?_⟩
      obtain ⟨i1, i2⟩ := isLd_is e3
      have mem : K.getD x ld0 ∈ K := by rw [List.getD, List.getElem?_eq_getElem e2]; exact List.getElem_mem e2
      obtain ⟨a, k2, b2, c2, d2, fo⟩ := h.kv _ mem
      have en := byStr_injL a nb i1
      have ek := M.one_ver nu b2 hk (c2.trans en) (d2.trans i2)
      rw [ek] at fo
      exact fo
  have KO : Hid (∀ w', Below w0.heap.size w0 w' → ∀ x, x < K.length → ∃ g, ka = some ⟨g, 0, none⟩ ∧ w'.cell? ⟨g, x * 3 + 2, none⟩ = some (.pointer (some ⟨(K.getD x ld0).2.2, 0, none⟩)) ∧ K.length ≤ kc) := fun w' hb x hx => by
    obtain ⟨g, e, _, _⟩ := own_form h.ko (by omega)
    have o := own_up (own_up h.ko ba) hb
    rw [e] at o
    refine ⟨g, e, (own_ld rfl o hx).2.2, ?_⟩
    rcases h.ko.2 with ⟨hq, z⟩ | ⟨g', cap, cur, hq, _, _, h1, _⟩
    · omega
    · cases hq; exact h1
  have GR : Hid (∀ w1, Below w0.heap.size w0 w1 → Calls Tryz.prog 49 #[.pointer (some ⟨f, 0, none⟩), .string (byStr (vAt S k).name), .int .i64 (vAt S k).num] w1 fun e w' => ∃ J : Gr, e = .returned (.tuple #[J.v, .nilIface]) ∧ J.m = (S.l.getD k M.vg0).2 ∧ NewH w1 w' J ∧ Below w1.heap.size w1 w') := fun w1 hb => by
    refine (sh_Grove ((sv.below ba).below hb) hl hi (M.ver_at nu hk) hs (h.gg k hk)).mono ?_
    rintro e w' ⟨J, rfl, a, b, c⟩
    exact ⟨J, rfl, a, b, c⟩
  have FN : Hid (∀ w2 (J : Gr), RdG w2 J → J.m = (S.l.getD k M.vg0).2 → Below w0.heap.size w0 w2 → Calls Tryz.prog 50 #[J.v] w2 fun e w' => ∃ p, e = .returned (.tuple #[.pointer (some ⟨p, 0, none⟩), .nilIface]) ∧ Hid (Below w.heap.size w w' ∧ ∃ E : Nat → Prop, FoIn E w' p (S.l.getD k M.vg0).2 ∧ (∀ q, F q → E q) ∧ ∀ q, E q → F q ∨ (w.heap.size ≤ q ∧ q < w'.heap.size))) := fun w2 J hr hm hb => by
    refine (fnew_new J w2 hr (by rw [hm]; exact h.gg k hk)).mono ?_
    rintro e w' ⟨p, rfl, fo, b⟩
    have bz := (below_on ba hb).size
    rw [hm] at fo
    refine ⟨p, rfl, below_on (below_on ba hb) b, fun q => F q ∨ (w2.heap.size ≤ q ∧ q < w'.heap.size), fun W' h1 h2 => fo W' h1 (fun q q1 q2 => h2 q (.inr ⟨q1, q2⟩)), (fun q hq => .inl hq), fun q hq => ?_⟩
    rcases hq with z | z
    · exact .inl z
    · exact .inr ⟨by omega, z.2⟩
  have SX : Hid (∀ w', Below w0.heap.size w0 w' → Bx w' s (scL f i ka K.length kc) ∧ Bx w' vb (vn4 (vAt S k))) := fun w' hb => ⟨(h.box.keep (ba.block _ h.box.lt)).keep (hb.block _ (Nat.lt_of_lt_of_le h.box.lt ba.size)), bv.keep (hb.block _ bv.lt)⟩
  have OLD : Hid (∀ w' p, Below w0.heap.size w0 w' → FoIn F w p (S.l.getD k M.vg0).2 → Below w.heap.size w w' ∧ ∃ E : Nat → Prop, FoIn E w' p (S.l.getD k M.vg0).2 ∧ (∀ q, F q → E q) ∧ ∀ q, E q → F q ∨ (w.heap.size ≤ q ∧ q < w'.heap.size)) := fun w' p hb fo => by
    have b := below_on ba hb
    exact ⟨b, F, fo.up b.size (fun q hq => b.block q (h.fn q hq).2.1) (fun q hq => hq), (fun q hq => hq), fun q hq => .inl hq⟩
  unfold vnV
  unfold vn4 at SX
  clear h hk hs hl hi sv nu nb bv ba
  generalize (S.l.getD k M.vg0).2 = gv at *
  generalize byStr (vAt S k).name = x0 at *
  generalize (vAt S k).num = x1 at *
  generalize (vAt S k).stage = x2 at *
  generalize (vAt S k).share = x3 at *
  go_enter Tryz.func31, Tryz.ntmps31
  go_upto_region 1 with fail
  rw [← hw0]
  simp only [← hvb]
  clear hw0 hvb
  go_cut [6] from 9 to 15 (fun v wx => ∃ j : Int, v = .int .i64 j ∧ Hid (Below w0.heap.size w0 wx) ∧ Hid (j = -1 ∨ ∃ x : Nat, j = (x : Int) ∧ x < K.length ∧ Hid (FoIn F w (K.getD x ld0).2.2 gv)))
  case first =>
    obtain ⟨b1, b2⟩ := SX.out w0 (Below.refl _ _)
    have c2 := b1.cell 2 _ rfl
    have v0 := b2.cell 0 _ rfl
    have v1 := b2.cell 1 _ rfl
    have v2 := b2.cell 2 _ rfl
    have v3 := b2.cell 3 _ rfl
    have C2 : Hid (∀ wB, Below w0.drew.heap.size w0.drew wB → wB.cell? ⟨s, 2, none⟩ = some (.slice ka K.length kc)) := fun wB hb => (hb.cell (p := ⟨s, 2, none⟩) b1.lt).trans c2
    clear b1 b2 SX KO GR FN OLD
    generalize K.length = n at *
    go_region_with (first
      | (go_at_call 47; refine (IX.out wB vq KB.out VQ.out).mono ?_; rintro e wC ⟨j, rfl, bj, ways⟩; have WY := hide ways; have KC : Hid (Below w0.heap.size w0 wC) := ((Below.refl _ w0).drew).trans bj; clear ways bj)
      | (go_at_call 48; refine IO.out.mono ?_; rintro e wB ⟨vq, rfl, vb2, kb, lq⟩; have VQ := hide vb2; have KB := hide kb; have c2b := C2.out wB kb; clear vb2 kb lq))
    all_goals (
      go_wp2
      go_meet
      case rel => exact ⟨j, rfl, KC, WY⟩)
  case rest =>
    obtain ⟨j, rfl, KX, WY⟩ := hcut
    obtain ⟨wx, hwx⟩ : ∃ X, X = wc := ⟨_, rfl⟩
    subst hwx
    clear IO IX
    rcases WY.out with rfl | ⟨x, rfl, hx, fo⟩
    · have bd : Below w0.heap.size w0 wx.drew := KX.out.drew
      obtain ⟨b1, b2⟩ := SX.out wx KX.out
      have c0 := b1.cell 0 _ rfl
      have v0 := b2.cell 0 _ rfl
      have v1 := b2.cell 1 _ rfl
      have SL : Hid (s < wx.heap.size ∧ vb < wx.heap.size) := ⟨b1.lt, b2.lt⟩
      have KC : Hid (∀ wB, Below w0.heap.size w0 wB → wB.cell? ⟨s, 0, none⟩ = some (.pointer (some ⟨f, 0, none⟩)) ∧ wB.cell? ⟨vb, 0, none⟩ = some (.string x0) ∧ wB.cell? ⟨vb, 1, none⟩ = some (.int .i64 x1)) := fun wB hb => by
        obtain ⟨b1, b2⟩ := SX.out wB hb
        exact ⟨b1.cell 0 _ rfl, b2.cell 0 _ rfl, b2.cell 1 _ rfl⟩
      have B1 : Hid (Below w0.heap.size w0 wx.drew) := bd
      have B2 : Hid (Below w0.heap.size w0 (wx.alloc nilG).drew) := (below_on KX.out ((Below.refl _ wx).alloc (Nat.le_refl _) _)).drew
      have PN : Hid (∀ wB, Below w0.heap.size w0 wB → wx.heap.size ≤ wB.heap.size → ¬ wB.heap.size = s ∧ ¬ wB.heap.size = vb) := fun wB hb hz => by have := SL.out; exact ⟨by omega, by omega⟩
      have FA : Hid (∀ w2 (J : Gr), NewH (wx.alloc nilG).drew w2 J → Below (wx.alloc nilG).drew.heap.size (wx.alloc nilG).drew w2 → Zf w2 wx.heap.size ∧ Hid (Below w0.heap.size w0 (put4 w2 wx.heap.size (.int .i64 J.f) (.int .i64 J.w) (.slice J.wa J.ws.length J.wc) (.slice J.ta J.ks.length J.tc)) ∧ RdG (put4 w2 wx.heap.size (.int .i64 J.f) (.int .i64 J.w) (.slice J.wa J.ws.length J.wc) (.slice J.ta J.ks.length J.tc)) J ∧ (((put4 w2 wx.heap.size (.int .i64 J.f) (.int .i64 J.w) (.slice J.wa J.ws.length J.wc) (.slice J.ta J.ks.length J.tc)).cell? ⟨wx.heap.size, 0, none⟩ = some (.int .i64 J.f) ∧ (put4 w2 wx.heap.size (.int .i64 J.f) (.int .i64 J.w) (.slice J.wa J.ws.length J.wc) (.slice J.ta J.ks.length J.tc)).cell? ⟨wx.heap.size, 1, none⟩ = some (.int .i64 J.w) ∧ (put4 w2 wx.heap.size (.int .i64 J.f) (.int .i64 J.w) (.slice J.wa J.ws.length J.wc) (.slice J.ta J.ks.length J.tc)).cell? ⟨wx.heap.size, 2, none⟩ = some (.slice J.wa J.ws.length J.wc) ∧ (put4 w2 wx.heap.size (.int .i64 J.f) (.int .i64 J.w) (.slice J.wa J.ws.length J.wc) (.slice J.ta J.ks.length J.tc)).cell? ⟨wx.heap.size, 3, none⟩ = some (.slice J.ta J.ks.length J.tc)))) ∧ Below w0.heap.size w0 w2 ∧ wx.heap.size ≤ w2.heap.size) := fun w2 J hn hb => by
        have z : Zf w2 wx.heap.size := ((zf_made wx).up (Below.refl _ _).drew).up hb
        have e1 : (wx.alloc nilG).drew.heap.size = wx.heap.size + 1 := by
          show (wx.alloc nilG).heap.size = _
          simp
        have hz := hb.size
        rw [e1] at hz
        have b2 := below_on B2.out hb
        have pc := put4_cells (x0 := .int .i64 J.f) (x1 := .int .i64 J.w) (x2 := .slice J.wa J.ws.length J.wc) (x3 := .slice J.ta J.ks.length J.tc) z
        refine ⟨z, ⟨put4_below b2 KX.out.size, hn _ (by rw [put4_size]; exact Nat.le_refl _) (fun b q1 q2 => put4_far (by rw [e1] at q1; omega)), pc.1, pc.2.1, pc.2.2.1, pc.2.2.2.1⟩, b2, by omega⟩
      have FB : Hid (∀ w2 (J : Gr), NewH wx.drew w2 J → Below wx.drew.heap.size wx.drew w2 → Hid (Below w0.heap.size w0 (w2.alloc (.cells #[.int .i64 J.f, .int .i64 J.w, .slice J.wa J.ws.length J.wc, .slice J.ta J.ks.length J.tc] 110)) ∧ RdG (w2.alloc (.cells #[.int .i64 J.f, .int .i64 J.w, .slice J.wa J.ws.length J.wc, .slice J.ta J.ks.length J.tc] 110)) J ∧ (((w2.alloc (.cells #[.int .i64 J.f, .int .i64 J.w, .slice J.wa J.ws.length J.wc, .slice J.ta J.ks.length J.tc] 110)).cell? ⟨w2.heap.size, 0, none⟩ = some (.int .i64 J.f) ∧ (w2.alloc (.cells #[.int .i64 J.f, .int .i64 J.w, .slice J.wa J.ws.length J.wc, .slice J.ta J.ks.length J.tc] 110)).cell? ⟨w2.heap.size, 1, none⟩ = some (.int .i64 J.w) ∧ (w2.alloc (.cells #[.int .i64 J.f, .int .i64 J.w, .slice J.wa J.ws.length J.wc, .slice J.ta J.ks.length J.tc] 110)).cell? ⟨w2.heap.size, 2, none⟩ = some (.slice J.wa J.ws.length J.wc) ∧ (w2.alloc (.cells #[.int .i64 J.f, .int .i64 J.w, .slice J.wa J.ws.length J.wc, .slice J.ta J.ks.length J.tc] 110)).cell? ⟨w2.heap.size, 3, none⟩ = some (.slice J.ta J.ks.length J.tc)))) ∧ Below w0.heap.size w0 w2 ∧ wx.heap.size ≤ w2.heap.size) := fun w2 J hn hb => by
        have b2 := below_on B1.out hb
        have ba := (Below.refl _ w2).alloc (Nat.le_refl _) (.cells #[.int .i64 J.f, .int .i64 J.w, .slice J.wa J.ws.length J.wc, .slice J.ta J.ks.length J.tc] 110)
        have bn := bx_new w2 [.int .i64 J.f, .int .i64 J.w, .slice J.wa J.ws.length J.wc, .slice J.ta J.ks.length J.tc] 110
        exact ⟨⟨below_on b2 ba, (hn w2 (Nat.le_refl _) (fun _ _ _ => rfl)).below ba, bn.cell 0 _ rfl, bn.cell 1 _ rfl, bn.cell 2 _ rfl, bn.cell 3 _ rfl⟩, b2, hb.size⟩
      clear b1 b2 bd SX KO OLD WY v0 v1 c0
      generalize K.length = n at *
      go_upto_region 4 with fail
      go_cut [7, 8] from 26 to 37 (fun g e wz => ∃ (gb : Nat) (J : Gr), g = .pointer (some ⟨gb, 0, none⟩) ∧ e = .nilIface ∧ Hid (Below w0.heap.size w0 wz ∧ RdG wz J ∧ (wz.cell? ⟨gb, 0, none⟩ = some (.int .i64 J.f) ∧ wz.cell? ⟨gb, 1, none⟩ = some (.int .i64 J.w) ∧ wz.cell? ⟨gb, 2, none⟩ = some (.slice J.wa J.ws.length J.wc) ∧ wz.cell? ⟨gb, 3, none⟩ = some (.slice J.ta J.ks.length J.tc))) ∧ Hid (J.m = gv))
      case first =>
        obtain ⟨a0, a1, a2⟩ := KC.out _ B1.out
        obtain ⟨y0, y1, y2⟩ := KC.out _ B2.out
        obtain ⟨c0, c1, c2⟩ := KC.out _ KX.out
        have q0 : ∀ o, (wx.alloc o).cell? ⟨s, 0, none⟩ = some (.pointer (some ⟨f, 0, none⟩)) := fun o => (KC.out _ (below_on KX.out ((Below.refl _ wx).alloc (Nat.le_refl _) o))).1
        have q1 : ∀ o, (wx.alloc o).cell? ⟨vb, 0, none⟩ = some (.string x0) := fun o => (KC.out _ (below_on KX.out ((Below.refl _ wx).alloc (Nat.le_refl _) o))).2.1
        have q2 : ∀ o, (wx.alloc o).cell? ⟨vb, 1, none⟩ = some (.int .i64 x1) := fun o => (KC.out _ (below_on KX.out ((Below.refl _ wx).alloc (Nat.le_refl _) o))).2.2
        have pn0 : ¬ wx.heap.size = s := by have := SL.out; omega
        have pn1 : ¬ wx.heap.size = vb := by have := SL.out; omega
        unfold Gr.v at GR
        clear FN
        go_region_held3 (fun W => W.cell? ⟨s, 0, none⟩ = some (.pointer (some ⟨f, 0, none⟩)) ∧ W.cell? ⟨vb, 0, none⟩ = some (.string x0) ∧ W.cell? ⟨vb, 1, none⟩ = some (.int .i64 x1)) (go_keep) (first
          | (go_at_call 49; refine (GR.out _ ?qw).mono ?_; (case qw => exact B2.out); rintro e w3 ⟨J, rfl, jm, nj, b3⟩; obtain ⟨Z3, hg, bw3, sz3⟩ := FA.out w3 J nj b3; have JM := hide jm; have HG := hide hg; have z0 := Z3.c0; have z1 := Z3.c1; have z2 := Z3.c2; have z3 := Z3.c3; have zf := Z3.fr; obtain ⟨d0, d1, d2⟩ := KC.out w3 bw3; obtain ⟨pn3, pn4⟩ := PN.out w3 bw3 sz3; clear jm nj b3 hg)
          | (go_at_call 49; refine (GR.out _ ?qw).mono ?_; (case qw => exact B1.out); rintro e w3 ⟨J, rfl, jm, nj, b3⟩; obtain ⟨hg, bw3, sz3⟩ := FB.out w3 J nj b3; have JM := hide jm; have HG := hide hg; obtain ⟨d0, d1, d2⟩ := KC.out w3 bw3; obtain ⟨pn3, pn4⟩ := PN.out w3 bw3 sz3; clear jm nj b3 hg))
        all_goals go_wp2
        all_goals go_meet
        all_goals (case rel => exact ⟨_, J, rfl, rfl, HG.out, JM⟩)
      case rest =>
        obtain ⟨gb, J, rfl, rfl, HG, JM⟩ := hcut
        obtain ⟨bz, rz, e0, e1, e2, e3⟩ := HG.out
        have F2 := hide (FN.out wc J rz JM.out bz)
        unfold Gr.v at F2
        clear FN GR FA FB KC bz rz HG
        go_wp2_with (go_at_call 50; refine F2.out.mono ?_; rintro e w5 ⟨p, rfl, fin⟩; have FIN := hide fin.out; clear fin)
        go_ret2
        exact ⟨p, rfl, FIN.out⟩
    · obtain ⟨b1, b2⟩ := SX.out wx KX.out
      have c2 := b1.cell 2 _ rfl
      obtain ⟨g, rfl, cp, hc⟩ := KO.out wx KX.out x hx
      have FINO := hide (OLD.out wx _ KX.out fo.out)
      have t1 : decide (0 ≤ (x : Int)) = true := decide_eq_true (by omega)
      have xz : (x : Int) < (K.length : Int) := by omega
      clear b1 b2 SX KO GR FN OLD WY fo
      generalize (K.getD x ld0).2.2 = pp at *
      generalize K.length = n at *
      go_wp2
      go_ret2
      exact ⟨pp, rfl, FINO.out⟩
end Go.Proofs.YtodidokeblblgaaGreat
