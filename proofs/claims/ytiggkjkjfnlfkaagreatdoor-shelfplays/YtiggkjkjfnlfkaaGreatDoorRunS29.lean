/-
  Several texts as one: ShSort.
-/
import Derived.Test.YtiggkjkjfnlfkaaGreatDoorRunS28
import Derived.Test.YtiggkjkjfnlfkaaGreatDoorShelfH
import Derived.Shelf.SlSortCmp.WholeK
import Derived.Lib.OwnBridge
namespace Go.Proofs.YtiggkjkjfnlfkaaGreatDoor
open Go.ChangeShapes Go.WideShapes Go.ChangeAt Go.RowKit Go.Shelf Go.Lib Go.Sort
set_option linter.unusedVariables false
def vnA (v : M.Vn) : Value := .agg #[.string (byStr v.name), .int .i64 v.num, .int .i64 v.stage, .int .i64 v.share]
theorem byStr_bytes (n : List Nat) : (byStr n).toList = n.map UInt8.ofNat := by rw [ByteArray.toList_eq, byStr_list]
set_option maxHeartbeats 8000000 in
set_option maxRecDepth 10000 in
theorem cmpV_any (a b : M.Vn) (W : World) : Calls Tryz.prog 38 #[vnA a, vnA b] W fun e w' => e = .returned (.int .i64 (M.cmpV a b)) ∧ Gro W w' := by
  have HC := hide Tryz.cmp_Compare
  have HS := hide cmpS_any
  have HO := hide cor_any
  have EU : Hid (M.cmpV a b = M.orI (M.cmpB (byStr a.name).toList (byStr b.name).toList) (Lib.compareInt a.num b.num)) := by unfold Hid M.cmpV; rw [byStr_bytes, byStr_bytes]
  unfold vnA
  obtain ⟨W2, hW2⟩ : ∃ X, X = (W.alloc (.cells #[.string (byStr a.name), .int .i64 a.num, .int .i64 a.stage, .int .i64 a.share] 49)).alloc (.cells #[.string (byStr b.name), .int .i64 b.num, .int .i64 b.stage, .int .i64 b.share] 49) := ⟨_, rfl⟩
  have S2 : Hid (W2.heap.size = W.heap.size + 1 + 1) := by rw [hW2]; simp [Hid]
  have G2 : Hid (Gro W W2) := by rw [hW2]; exact (Gro.alloc _ _).trans (Gro.alloc _ _)
  have b0 : ∀ j v, (#[Value.string (byStr a.name), .int .i64 a.num, .int .i64 a.stage, .int .i64 a.share] : Array Value)[j]? = some v → W2.cell? ⟨W.heap.size, j, none⟩ = some v := fun j v hv => by
    rw [hW2]
    exact (cell_of_row _ _ _ _ _ _ (heap_alloc2_old W _ _)).trans hv
  have b1 : ∀ j v, (#[Value.string (byStr b.name), .int .i64 b.num, .int .i64 b.stage, .int .i64 b.share] : Array Value)[j]? = some v → W2.cell? ⟨W.heap.size + 1, j, none⟩ = some v := fun j v hv => by
    rw [hW2]
    exact (cell_of_row _ _ _ _ _ _ (heap_alloc2_new W _ _)).trans hv
  have k0 := b0 0 _ rfl
  have k1 := b0 1 _ rfl
  have k2 := b1 0 _ rfl
  have k3 := b1 1 _ rfl
  clear b0 b1
  generalize M.cmpV a b = r at *
  generalize byStr a.name = sa at *
  generalize byStr b.name = sb at *
  generalize a.num = na at *
  generalize b.num = nb at *
  have D2 : Hid (Gro W2 W2.drew) := Gro.drew _
  go_enter Tryz.func38, Tryz.ntmps38
  go_upto_region 1 with fail
  rw [← hW2]
  clear hW2
  go_region_held3 (fun V => V.cell? ⟨W.heap.size, 0, none⟩ = some (.string sa) ∧ V.cell? ⟨W.heap.size, 1, none⟩ = some (.int .i64 na) ∧ V.cell? ⟨W.heap.size + 1, 0, none⟩ = some (.string sb) ∧ V.cell? ⟨W.heap.size + 1, 1, none⟩ = some (.int .i64 nb)) (go_keep) (first
    | (go_at_call 40; refine (HS.out _ _ _).mono ?_; rintro e w4 ⟨rfl, e4⟩; have e4' := e4.symm; subst e4')
    | (go_at_call 41; refine (HC.out _ _ _).mono ?_; rintro e w5 ⟨rfl, e5⟩; have e5' := e5.symm; subst e5')
    | (go_at_call 39; refine (HO.out _ _ _ _ _ (World.cell?_alloc_at _ _ _ 0 rfl) (World.cell?_alloc_at _ _ _ 1 rfl)).mono ?_; rintro e w6 ⟨rfl, e6⟩; have e6' := e6.symm; subst e6'))
  go_wp2
  go_ret
  exact ⟨by rw [EU.out]; rfl, G2.out.trans (D2.out.trans (Gro.alloc _ _))⟩

/-- texts by their bytes, as the model and as we have it -/
theorem less_is : ∀ x y : List UInt8, Op.bytesLess x y = M.nmLt (x.map UInt8.toNat) (y.map UInt8.toNat)
  | [], [] => rfl
  | [], _ :: _ => rfl
  | _ :: _, [] => rfl
  | a :: x, b :: y => by
    have ih := less_is x y
    show (decide (a < b) || (a == b && Op.bytesLess x y)) = _
    rw [ih]
    simp only [List.map_cons, M.nmLt]
    have e1 : (a < b) = (a.toNat < b.toNat) := by rw [UInt8.lt_iff_toNat_lt]
    have e2 : (a == b) = decide (a.toNat = b.toNat) := by
      by_cases h : a = b
      · subst h; simp
      · have : a.toNat ≠ b.toNat := fun z => h (UInt8.toNat_inj.1 z)
        rw [beq_eq_false_iff_ne.2 h, decide_eq_false this]
    simp only [e1, e2]
    by_cases q1 : a.toNat < b.toNat
    · simp [q1]
    · by_cases q2 : b.toNat < a.toNat
      · have : ¬ a.toNat = b.toNat := by omega
        simp [q1, q2, this]
      · have : a.toNat = b.toNat := by omega
        simp [this]
def M.kv (a : M.Vn) : M.Vn := ⟨(a.name.map UInt8.ofNat).map UInt8.toNat, a.num, 0, 0⟩
theorem kv_name {a : M.Vn} (h : ∀ x ∈ a.name, x < 256) : (M.kv a).name = a.name := by
  show (a.name.map UInt8.ofNat).map UInt8.toNat = a.name
  rw [List.map_map]
  conv => rhs; rw [← List.map_id a.name]
  refine List.map_congr_left (fun x hx => ?_)
  show (UInt8.ofNat x).toNat = x
  have := h x hx
  simp
  omega
theorem toN_inj {x y : List UInt8} (h : x.map UInt8.toNat = y.map UInt8.toNat) : x = y := by
  have := congrArg (List.map UInt8.ofNat) h
  rw [List.map_map, List.map_map] at this
  have e : ∀ l : List UInt8, l.map (UInt8.ofNat ∘ UInt8.toNat) = l := fun l => by
    conv => rhs; rw [← List.map_id l]
    exact List.map_congr_left (fun z _ => by simp)
  rwa [e, e] at this
theorem lt_cmpV (a b : M.Vn) : ltOf M.cmpV a b = M.vLt (M.kv a) (M.kv b) := by
  unfold ltOf M.cmpV M.orI M.cmpB M.vLt
  rw [less_is]
  show decide _ = (M.nmLt (M.kv a).name (M.kv b).name || (decide ((M.kv a).name = (M.kv b).name) && decide (a.num < b.num)))
  have ek : ((M.kv a).name = (M.kv b).name) ↔ a.name.map UInt8.ofNat = b.name.map UInt8.ofNat := ⟨fun z => toN_inj z, fun z => by show List.map _ _ = List.map _ _; rw [z]⟩
  change decide ((if (if M.nmLt (M.kv a).name (M.kv b).name = true then (-1 : Int) else if a.name.map UInt8.ofNat = b.name.map UInt8.ofNat then 0 else 1) = 0 then Lib.compareInt a.num b.num else (if M.nmLt (M.kv a).name (M.kv b).name = true then (-1 : Int) else if a.name.map UInt8.ofNat = b.name.map UInt8.ofNat then 0 else 1)) < 0) = _
  by_cases h1 : M.nmLt (M.kv a).name (M.kv b).name = true
  · rw [if_pos h1, h1]
    rfl
  · have h1' : M.nmLt (M.kv a).name (M.kv b).name = false := by simpa using h1
    rw [if_neg h1, h1']
    by_cases h2 : a.name.map UInt8.ofNat = b.name.map UInt8.ofNat
    · rw [if_pos h2, if_pos rfl, decide_eq_true (ek.2 h2)]
      unfold Lib.compareInt
      by_cases h3 : a.num < b.num
      · simp [h3]
      · by_cases h4 : b.num < a.num
        · simp [h3, h4]
        · simp [h3, h4]
    · rw [if_neg h2, if_neg (by decide), decide_eq_false (fun z => h2 (ek.1 z))]
      rfl
theorem v_same {x y z : M.Vn} (h : x.name = y.name ∧ x.num = y.num) : M.vLt x z = M.vLt y z := by unfold M.vLt; rw [h.1, h.2]
theorem swo_cmpV : SWO (ltOf M.cmpV) where
  irrefl x := by
    rw [lt_cmpV]
    cases h : M.vLt (M.kv x) (M.kv x) with
    | false => rfl
    | true => have := M.v_asym h; rw [h] at this; cases this
  trans x y z h1 h2 := by rw [lt_cmpV] at *; exact M.v_trans h1 h2
  ntrans x y z h1 h2 := by
    rw [lt_cmpV] at *
    cases h : M.vLt (M.kv x) (M.kv z) with
    | false => rfl
    | true =>
      by_cases e : (M.kv x).name = (M.kv y).name ∧ (M.kv x).num = (M.kv y).num
      · rw [v_same e] at h; rw [h] at h2; cases h2
      · rcases M.v_total e with z1 | z1
        · rw [z1] at h1; cases h1
        · have := M.v_trans z1 h
          rw [this] at h2
          cases h2
theorem holdsV [Inhabited M.Vn] {w : World} {base g cap : Nat} {F : List M.Vn} (h : w.ownsRow base 49 4 (.slice (some ⟨g, 0, none⟩) F.length cap) F.length (vnCells F)) : HoldsK encN 4 w g 0 F.toArray := by
  intro j hj
  have hj' : j < F.length * 4 := by simpa using hj
  rw [get_flatK _ _ _ _ (by simpa using hj'), Nat.zero_add]
  refine ⟨?_, h.frozenAt j⟩
  rw [h.cellAt j (by omega)]
  have hi : j / 4 < F.length := by omega
  obtain ⟨q0, q1, q2, q3⟩ := vnCells_at F (j / 4) hi
  have e : F.toArray[j / 4]! = M.vAtL F (j / 4) := by rw [vAtL_in F hi]; simp [hi]
  rw [e]
  rcases (show j % 4 = 0 ∨ j % 4 = 1 ∨ j % 4 = 2 ∨ j % 4 = 3 by omega) with r | r | r | r
  · rw [r, show j = j / 4 * 4 by omega, q0, show j / 4 * 4 / 4 = j / 4 by omega]; rfl
  · rw [r, show j = j / 4 * 4 + 1 by omega, q1, show (j / 4 * 4 + 1) / 4 = j / 4 by omega]; rfl
  · rw [r, show j = j / 4 * 4 + 2 by omega, q2, show (j / 4 * 4 + 2) / 4 = j / 4 by omega]; rfl
  · rw [r, show j = j / 4 * 4 + 3 by omega, q3, show (j / 4 * 4 + 3) / 4 = j / 4 by omega]; rfl
theorem rdV_holds [Inhabited M.Vn] {w : World} {g : Nat} {d : Array M.Vn} (h : HoldsK encN 4 w g 0 d) (hl : d.size ≤ maxLen) (hg : g < w.heap.size) : RdV w (some ⟨g, 0, none⟩) d.toList := by
  refine ⟨by simpa using hl, fun _ => ⟨g, 0, rfl, hg, fun i hi => ?_⟩⟩
  have hi' : i < d.size := by simpa using hi
  have e : M.vAtL d.toList i = d[i]! := by rw [vAtL_in _ hi]; simp [hi']
  have c0 := (h.cell hi' (c := 0) (by omega)).1
  have c1 := (h.cell hi' (c := 1) (by omega)).1
  have c2 := (h.cell hi' (c := 2) (by omega)).1
  have c3 := (h.cell hi' (c := 3) (by omega)).1
  rw [← e] at c0 c1 c2 c3
  exact ⟨c0, c1, c2, c3⟩

theorem sortV_own (base : Nat) (a : Option Addr) (cap : Nat) (F : List M.Vn) (w : World) (hown : w.ownsRow base 49 4 (.slice a F.length cap) F.length (vnCells F)) (hl : F.length ≤ 1000000) (hbase : base ≤ w.heap.size) :
    Calls Tryz.prog 37 #[.slice a F.length cap, .func (.func 38) #[] #[]] w fun e w' => e = .returned (.tuple #[]) ∧ ∃ R : List M.Vn, R.Perm F ∧ (∀ i j (hi : i < j) (hj : j < R.length), M.vLt (M.kv R[j]) (M.kv (R[i]'(by omega))) = false) ∧ RdV w' a R ∧ RowKit.Below base w w' := by
  have inh : Inhabited M.Vn := ⟨M.vn0⟩
  rcases hown.2 with ⟨h0, hz⟩ | ⟨g, cap', cur, hv, hb0, hb, h1, h2, h3, h4⟩
  · have e : F = [] := List.length_eq_zero_iff.1 hz
    subst e
    refine (Tryz.slices_SortFunc_no a cap _ w).mono ?_
    rintro e w' ⟨rfl, rfl⟩
    exact ⟨rfl, [], List.Perm.refl _, (fun i j hi hj => by simp at hj), ⟨Nat.zero_le _, fun h => absurd rfl h⟩, Below.refl _ _⟩
  · rw [Value.slice.injEq] at hv
    obtain ⟨rfl, _, rfl⟩ := hv
    have hg : g < w.heap.size := (Array.getElem?_eq_some_iff.1 hb).1
    have hH := holdsV hown
    have hc : CmpLays Tryz.prog 38 #[] encN 4 M.cmpV g 0 F.toArray.size w := fun m os dk _ x y => cmpV_any x y _
    have K := Tryz.slices_SortFunc_vs encN (fun _ => rfl) (fun x v hv => by simp [encN] at hv; rcases hv with rfl | rfl | rfl | rfl <;> rfl) M.cmpV swo_cmpV 38 #[] g 0 cap F.toArray w (enters_of Tryz.func38 (by kernel_rfl) rfl) hc hH hg (by simp; omega)
    rw [List.size_toArray] at K
    refine K.mono ?_
    rintro e w' ⟨rfl, d', n, os, hp, hs, rfl⟩
    have hsz : d'.size = F.length := by simpa using hp.1
    have hperm : d'.toList.Perm F := by
      have q := hp.2.2
      have e1 : (d'.extract 0 F.length).toList = d'.toList := by rw [← hsz]; simp
      have e2 : (F.toArray.extract 0 F.length).toList = F := by simp
      rw [e1, e2] at q
      exact q
    have hbl : RowKit.Below base w (putRowK encN 4 (Sort.ahead w n) g 0 d') := below_putRow (Below.refl base w) hb0
    have hps : (putRowK encN 4 (Sort.ahead w n) g 0 d').heap.size = w.heap.size := by simp [putRowK, putRow, mapBlock, Sort.ahead]
    refine ⟨rfl, d'.toList, hperm, fun i j hi hj => ?_, ?_, ?_⟩
    · have hj' : j < d'.size := by simpa using hj
      have q := hs i j (Nat.zero_le _) hi (by omega)
      rw [lt_cmpV] at q
      rw [getElem!_pos d' i (by omega), getElem!_pos d' j hj'] at q
      simpa using q
    · refine rdV_holds ?_ (by unfold maxLen; omega) (by unfold sortWorldK; simp; omega)
      unfold sortWorldK
      exact holdsK_grow _ _ _ _ _ _ _ (by omega) (holdsK_putRowK _ _ _ _ _ _ _ (holdsK_ahead _ _ _ n _ _ _ hH) (by simpa using hsz))
    · refine hbl.trans ?_
      exact Gro.below ⟨0, os, rfl⟩ (by omega)
end Go.Proofs.YtiggkjkjfnlfkaaGreatDoor
