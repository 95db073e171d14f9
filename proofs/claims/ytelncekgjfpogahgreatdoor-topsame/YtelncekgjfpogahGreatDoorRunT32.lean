/-
  Several texts as one: FetA, FetHas, FetByt.
-/
import Derived.Test.YtelncekgjfpogahGreatDoorRunT22
import Derived.Test.YtelncekgjfpogahGreatDoorRunT0
import Derived.Test.YtelncekgjfpogahGreatDoorRunT2
import Derived.Maps.OwnOps
import Derived.Maps.OwnSet
import Derived.Maps.Views
import Derived.Test.YtelncekgjfpogahGreatDoorRunT1
import Derived.RegionTactic
import Derived.BigQuiet
import Derived.Deep.QuietTactic
import Derived.Deep.RegionHeld3
namespace Go.Proofs.YtelncekgjfpogahGreatDoor
open Go.ChangeShapes Go.WideShapes Go.ChangeAt Go.RowKit Go.Lib Go.Maps
set_option linter.unusedVariables false
def selfE (v : Value) : Option (DataW Value × List MemPlace) := some (.held v, [])
theorem keyF : Keyed Tryz.prog 3 := int_keyed Tryz.underlying3
theorem zeroF (w : World) : (zeroValue 36).run Tryz.prog w = .ok (.slice none 0 0) w := by kernel_rfl
theorem wfF {i : Nat} (h : i ≤ 100) : (Lit.int .i64 (i : Int)).wf = true := WalkArith.wf_i64 (by omega)
theorem keyOfF {i : Nat} (h : i ≤ 100) : keyOf Tryz.prog 3 (.int .i64 (i : Int)) = some (.int .i64 (i : Int)) := keyOf_int_mk Tryz.underlying3 (wfF h)
def hasC (h : M.Has) : Nat := (h.filter (·.isSome)).length
structure FB (W : World) (f : Nat) (K : Nat → Prop) (l : List M.Pt) (h : M.Has) (a : Option Addr) (c m : Nat) (D : DataW Value) : Prop where
 right : M.partsF l = 0
 len : h.length = l.length
 c0 : W.cell? ⟨f, 0, none⟩ = some (.slice a l.length c)
 c1 : W.cell? ⟨f, 1, none⟩ = some (.map (some m))
 rd : RdP W a l
 own : W.ownsMap Tryz.prog 3 selfE m (hasC h) D
 many : Maps.size D = hasC h
 kf : K f
 km : K m
 ka : ∀ p, a = some p → K p.block
 fm : f ≠ m
 am : ∀ p, a = some p → p.block ≠ m
 lt : ∀ q, K q → q < W.heap.size
 here : ∀ i bs, h.getD i none = some bs → M.ptIs l i bs = true ∧ ∃ pa pc, (∀ z, D.atKey (.int .i64 (i : Int)) z = .held (.slice pa bs.length pc)) ∧ RdB W pa bs ∧ (pa = none → pc = 0) ∧ ∀ p, pa = some p → K p.block ∧ p.block ≠ m
 away : ∀ i, h.getD i none = none → Maps.has D (.int .i64 (i : Int)) = false
def FA (W : World) (f : Nat) (K : Nat → Prop) (l : List M.Pt) (h : M.Has) : Prop := ∃ a c m D, FB W f K l h a c m D
theorem rdP_keep {W W' : World} {a : Option Addr} {l : List M.Pt} (h : RdP W a l) (hk : ∀ p, a = some p → W'.heap[p.block]? = W.heap[p.block]?) (hz : W.heap.size ≤ W'.heap.size) : RdP W' a l :=
 ⟨h.1, fun hn => by
  obtain ⟨b, off, e, hl, hc⟩ := h.2 hn
  have hb : W'.heap[b]? = W.heap[b]? := hk _ e
  exact ⟨b, off, e, Nat.lt_of_lt_of_le hl hz, fun i hi => ⟨(World.cell?_of_block (a := ⟨b, _, none⟩) hb).trans (hc i hi).1, (World.cell?_of_block (a := ⟨b, _, none⟩) hb).trans (hc i hi).2⟩⟩⟩
theorem rdB_stay {W W' : World} {a : Option Addr} {xs : List Nat} (h : RdB W a xs) (hk : ∀ p, a = some p → W'.heap[p.block]? = W.heap[p.block]?) (hz : W.heap.size ≤ W'.heap.size) : RdB W' a xs :=
 ⟨h.1, h.2.1, fun hn => by
  obtain ⟨b, off, e, hl, hc⟩ := h.2.2 hn
  have hb : W'.heap[b]? = W.heap[b]? := hk _ e
  exact ⟨b, off, e, Nat.lt_of_lt_of_le hl hz, fun i hi => (World.cell?_of_block (a := ⟨b, _, none⟩) hb).trans (hc i hi)⟩⟩
theorem ownsMap_keep {W W' : World} {P : Program} {k : TypeId} {R : Value → Option (DataW Value × List MemPlace)} {b n : Nat} {D : DataW Value} (h : W.ownsMap P k R b n D) (hk : W'.heap[b]? = W.heap[b]?) : W'.ownsMap P k R b n D := by
 obtain ⟨es, clock, hb, r⟩ := h
 exact ⟨es, clock, hk.trans hb, r⟩
theorem FB.up {W W' : World} {f : Nat} {K : Nat → Prop} {l : List M.Pt} {h : M.Has} {a : Option Addr} {c m : Nat} {D : DataW Value} (F : FB W f K l h a c m D) (hk : ∀ q, K q → W'.heap[q]? = W.heap[q]?) (hz : W.heap.size ≤ W'.heap.size) : FB W' f K l h a c m D where
 right := F.right
 len := F.len
 c0 := (World.cell?_of_block (a := ⟨f, 0, none⟩) (hk f F.kf)).trans F.c0
 c1 := (World.cell?_of_block (a := ⟨f, 1, none⟩) (hk f F.kf)).trans F.c1
 rd := rdP_keep F.rd (fun p hp => hk _ (F.ka p hp)) hz
 own := ownsMap_keep F.own (hk m F.km)
 many := F.many
 kf := F.kf
 km := F.km
 ka := F.ka
 fm := F.fm
 am := F.am
 lt := fun q hq => Nat.lt_of_lt_of_le (F.lt q hq) hz
 here := fun i bs e => by
  obtain ⟨g1, pa, pc, g2, g3, g4, g5⟩ := F.here i bs e
  exact ⟨g1, pa, pc, g2, rdB_stay g3 (fun p hp => hk _ (g5 p hp).1) hz, g4, g5⟩
 away := F.away
theorem FB.below {W W' : World} {f : Nat} {K : Nat → Prop} {l : List M.Pt} {h : M.Has} {a : Option Addr} {c m : Nat} {D : DataW Value} (F : FB W f K l h a c m D) (hb : Below W.heap.size W W') : FB W' f K l h a c m D := F.up (fun q hq => hb.block q (F.lt q hq)) hb.size
theorem M.parts_le {l : List M.Pt} (h : M.partsF l = 0) : l.length ≤ 100 := by
 unfold M.partsF at h
 by_cases q : 100 < l.length
 · rw [if_pos q] at h; cases h
 · omega
theorem M.parts_one {l : List M.Pt} (h : M.partsF l = 0) {i : Nat} (hi : i < l.length) : 1 ≤ (l.getD i (0, 0)).1 ∧ (l.getD i (0, 0)).1 ≤ 6000 := by
 have hl := M.parts_le h
 unfold M.partsF at h
 rw [if_neg (by omega)] at h
 have hb : l.any M.ptBad = false := by
  cases q : l.any M.ptBad with
  | false => rfl
  | true => rw [q] at h; cases h
 have hm : l.getD i (0, 0) ∈ l := by
  rw [show l.getD i (0, 0) = l[i] by simp [List.getD, hi]]
  exact List.getElem_mem hi
 have := List.any_eq_false.1 hb _ hm
 have b : ¬ ((l.getD i (0, 0)).1 < 1 ∨ 6000 < (l.getD i (0, 0)).1 ∨ (l.getD i (0, 0)).2 < 0 ∨ 1000002 < (l.getD i (0, 0)).2) := of_decide_eq_false (show M.ptBad (l.getD i (0, 0)) = false from Bool.eq_false_iff.2 this)
 constructor <;> omega
theorem FB.look {W : World} {f : Nat} {K : Nat → Prop} {l : List M.Pt} {h : M.Has} {a : Option Addr} {c m : Nat} {D : DataW Value} (F : FB W f K l h a c m D) {i : Nat} (hi : i ≤ 100) : ∃ v, (Instr.lookup 98 (.map (some m)) (.int .i64 (i : Int)) true).run Tryz.prog W = .ok (.tuple #[v, .bool (h.getD i none).isSome]) W := by
 obtain ⟨v, ps, hrun, _⟩ := F.own.look_ok keyF Tryz.underlying98 (zeroF W) (zd := .held (.slice none 0 0)) rfl (keyOfF hi)
 refine ⟨v, ?_⟩
 rw [hrun]
 cases q : h.getD i none with
 | none => rw [F.away i q]; rfl
 | some bs =>
   obtain ⟨_, pa, pc, hat, _⟩ := F.here i bs q
   rw [has_true_of_atKey hat]
   rfl
set_option maxHeartbeats 2000000 in
theorem fet_has {W : World} {f : Nat} {K : Nat → Prop} {l : List M.Pt} {h : M.Has} {a : Option Addr} {c m : Nat} {D : DataW Value} (F : FB W f K l h a c m D) {i : Nat} (hi : i ≤ 100) : Calls Tryz.prog 44 #[.pointer (some ⟨f, 0, none⟩), .int .i64 (i : Int)] W fun e w' => e = .returned (.bool (h.getD i none).isSome) ∧ w' = W := by
 obtain ⟨v, hrun⟩ := F.look hi
 have c1 := F.c1
 clear F
 generalize (h.getD i none).isSome = b at *
 go_enter Tryz.func44, Tryz.ntmps44
 go_wp2
 go_ret
 exact ⟨rfl, rfl⟩
theorem hasC_le' (h : M.Has) : hasC h ≤ h.length := List.length_filter_le _ _
theorem count_lt : ∀ (h : M.Has), hasC h < h.length ↔ h.any (·.isNone) = true
 | [] => by simp [hasC]
 | x :: h => by
   have ih := count_lt h
   have le : hasC h ≤ h.length := List.length_filter_le _ _
   cases x with
   | none =>
     have e : hasC (none :: h) = hasC h := rfl
     rw [e, List.length_cons]
     simp
     omega
   | some y =>
     have e : hasC (some y :: h) = hasC h + 1 := rfl
     rw [e, List.length_cons, List.any_cons]
     simpa using ih
theorem all_here {h : M.Has} (hc : ¬ hasC h < h.length) {i : Nat} (hi : i < h.length) : ∃ bs, h.getD i none = some bs := by
 rw [count_lt] at hc
 cases q : h.getD i none with
 | some bs => exact ⟨bs, rfl⟩
 | none =>
   refine absurd ?_ hc
   rw [List.any_eq_true]
   refine ⟨none, ?_, rfl⟩
   rw [← q, show h.getD i none = h[i] by simp [List.getD, hi]]
   exact List.getElem_mem hi
def bytK (h : M.Has) (k : Nat) : List Nat := (h.take k).flatMap fun x => x.getD []
theorem bytK_go {h : M.Has} {k : Nat} {bs : List Nat} (e : h.getD k none = some bs) : bytK h (k + 1) = bytK h k ++ bs := by
 have hk : k < h.length := by
  by_cases q : k < h.length
  · exact q
  · simp [List.getD, show h.length ≤ k by omega] at e
 have e2 : h[k] = some bs := by
  rw [← e]
  simp [List.getD, hk]
 unfold bytK
 rw [List.take_succ_eq_append_getElem hk, List.flatMap_append, e2]
 simp
theorem FB.at {W : World} {f : Nat} {K : Nat → Prop} {l : List M.Pt} {h : M.Has} {a : Option Addr} {c m : Nat} {D : DataW Value} (F : FB W f K l h a c m D) {i : Nat} (hi : i ≤ 100) {bs : List Nat} (hb : h.getD i none = some bs) : ∃ pa pc, (Instr.lookup 98 (.map (some m)) (.int .i64 (i : Int)) false).run Tryz.prog W = .ok (.slice pa bs.length pc) W ∧ RdB W pa bs ∧ (pa = none → pc = 0) := by
 obtain ⟨v, ps, hrun, hv⟩ := F.own.lookup keyF Tryz.underlying98 (zeroF W) (zd := .held (.slice none 0 0)) rfl (keyOfF hi)
 obtain ⟨_, pa, pc, hat, hr, hn, _⟩ := F.here i bs hb
 rw [hat] at hv
 have e : v = .slice pa bs.length pc := by
  unfold selfE at hv
  cases hv
  rfl
 rw [e] at hrun
 exact ⟨pa, pc, hrun, hr, hn⟩
set_option maxHeartbeats 4000000 in
set_option maxRecDepth 20000 in
theorem fet_bytes {W : World} {f : Nat} {K : Nat → Prop} {l : List M.Pt} {h : M.Has} (F0 : FA W f K l h) : Calls Tryz.prog 15 #[.pointer (some ⟨f, 0, none⟩)] W fun e w' => ∃ va vc, e = .returned (.tuple #[.slice va (M.bytV h).length vc, errV (M.bytF h)]) ∧ RdB w' va (M.bytV h) ∧ Below W.heap.size W w' := by
 obtain ⟨a, c, m, D, F⟩ := F0
 have l100 := M.parts_le F.right
 have c0 := F.c0
 have c1 := F.c1
 have LM : ∀ (ty : TypeId) (n : Nat), (Builtin.len_ #[98] ty #[.map (some m)]).run Tryz.prog (W.drewN n) = .ok (.int .i64 (hasC h : Nat)) (W.drewN n) := fun ty n => by
  have := (ownsMap_keep (W' := W.drewN n) F.own rfl).len Tryz.underlying98 ty
  rw [F.many] at this
  exact this
 have FF := hide F
 have hh := hasC_le' h
 rw [F.len] at hh
 by_cases q : hasC h < h.length
 · have E1 : Hid (M.bytF h = 5) := by unfold Hid M.bytF; rw [if_pos ((count_lt h).1 q)]
   have E2 : Hid (M.bytV h = []) := by unfold Hid M.bytV; rw [E1.out]; rfl
   have e1 : errV 5 = .iface 74 (.int .i64 5) := err_some (by decide)
   rw [E1.out, E2.out, e1]
   have g1 : decide ((hasC h : Int) < (l.length : Int)) = true := decide_eq_true (by rw [F.len] at q; omega)
   have g1' : decide (hasC h < l.length) = true := decide_eq_true (by rw [F.len] at q; omega)
   clear q F E1 E2
   generalize hasC h = hc at *
   go_enter Tryz.func15, Tryz.ntmps15
   go_wp2
   go_quiet (fail)
   go_wp2
   go_ret2
   exact ⟨none, 0, rfl, ⟨Nat.zero_le _, (fun x hx => by cases hx), fun hn => absurd rfl hn⟩, below_drew (Below.refl _ _) _ (Nat.le_refl _)⟩
 · have E1 : Hid (M.bytF h = 0) := by unfold Hid M.bytF; rw [if_neg (fun e => q ((count_lt h).2 e))]
   have E2 : Hid (bytK h l.length = M.bytV h) := by unfold Hid M.bytV bytK; rw [E1.out, ← F.len, List.take_length]; rfl
   have z0 : errV 0 = .nilIface := if_pos rfl
   rw [E1.out, z0]
   have AL : Hid (∀ i, i < l.length → ∃ bs, h.getD i none = some bs ∧ bs.length ≤ 6000 ∧ ∀ x ∈ bs, x < 256) := fun i hi => by
    obtain ⟨bs, e⟩ := all_here q (i := i) (by rw [FF.out.len]; exact hi)
    obtain ⟨g1, _, _, _, g3, _⟩ := FF.out.here i bs e
    have g1 : (bs.length : Int) = (l.getD i (0, 0)).1 ∧ (M.sumF bs : Int) = (l.getD i (0, 0)).2 := of_decide_eq_true g1
    have := (M.parts_one FF.out.right hi).2
    exact ⟨bs, e, by omega, g3.2.1⟩
   have g1 : decide ((hasC h : Int) < (l.length : Int)) = false := decide_eq_false (by rw [F.len] at q; omega)
   have g1' : decide (hasC h < l.length) = false := decide_eq_false (by rw [F.len] at q; omega)
   clear q F E1 z0
   generalize hasC h = hc at *
   go_enter Tryz.func15, Tryz.ntmps15
   go_wp2
   go_quiet (fail)
   have KQ : Hid (Below W.heap.size W (W.drewN nq)) := below_drew (Below.refl _ _) nq (Nat.le_refl _)
   have d0 := (FF.out.below KQ.out).c0
   clear LM c0 c1
   generalize W.drewN nq = w1 at *
   go_wp2
   go_loopw [4, 23] (fun v i wr => ∃ (k n : Nat) (va : Option Addr) (vc : Nat), k ≤ l.length ∧ i = .int .i64 k ∧ n ≤ 6000 * k ∧ v = .slice va n vc ∧ Hid ((bytK h k).length = n) ∧ Hid (∀ x ∈ bytK h k, x < 256) ∧ Hid (wr.ownsRow W.heap.size 5 1 (.slice va n vc) n (byCells (bytK h k))) ∧ Hid (Below W.heap.size W wr)) (fun _ i _ => l.length - (intOf i).toNat)
   case atStart => exact ⟨0, 0, none, 0, Nat.zero_le _, rfl, Nat.zero_le _, rfl, rfl, (fun x hx => by cases hx), World.ownsRow_nil _ _ _ _, KQ⟩
   case round =>
    obtain ⟨k, n, va, vc, hk, rfl, nk, rfl, LN, B8, OO, KK⟩ := hrel
    have KZ := KK.out.size
    clear d0
    by_cases hlt : k < l.length
    · have kz : (k : Int) < (l.length : Int) := by omega
      obtain ⟨bs, ebs, b6, b8⟩ := AL.out k hlt
      have Fr := FF.out.below KK.out
      obtain ⟨pa, pc, hrun, hr, hn⟩ := Fr.at (by omega) ebs
      have c1 := Fr.c1
      have BG := hide (bytK_go ebs)
      have R1 := hide hr
      have HN := hide hn
      have H8 : Hid (∀ x ∈ bytK h (k + 1), x < 256) := fun x hx => by
       rw [BG.out, List.mem_append] at hx
       rcases hx with hx | hx
       · exact B8.out x hx
       · exact b8 x hx
      clear ebs b8 Fr hr hn AL E2
      go_wp2_with (at_builtin; refine wpList_append_by rfl (.tmp 26) (.tmp 32) rfl W.heap.size (.slice va n vc) n (bytK h k) rfl OO.out pa bs bs.length pc rfl rfl R1.out HN.out (by omega) KZ ?_; intro va' vc' w3 ho3 hb3 hg3; have O3 := hide ho3; have K3 := hide (KK.out.trans hb3); clear ho3 hb3 hg3)
      exact ⟨⟨k + 1, n + bs.length, va', vc', by omega, by go_num, by omega, rfl, by unfold Hid; rw [BG.out, List.length_append, LN.out], H8, by unfold Hid; rw [BG.out]; exact O3.out, K3⟩, by show l.length - ((k : Int) + 1).toNat < l.length - ((k : Int)).toNat; omega⟩
    · have kz : ¬ ((k : Int) < (l.length : Int)) := by omega
      have ek : Hid (bytK h k = M.bytV h) := by unfold Hid; rw [show k = l.length by omega]; exact E2.out
      clear E2 AL
      go_wp2
      go_ret2
      have o := OO.out
      have ln := LN.out
      have o8 := B8.out
      rw [ek.out] at o ln o8
      subst ln
      obtain ⟨va', vc', e, hr, _⟩ := own_rdB0 rfl (by unfold maxLen; omega) o8 o
      cases e
      exact ⟨va, ⟨vc, rfl⟩, hr, KK.out⟩
end Go.Proofs.YtelncekgjfpogahGreatDoor
