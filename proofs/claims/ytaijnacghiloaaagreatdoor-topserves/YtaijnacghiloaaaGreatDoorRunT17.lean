/-
  Several texts as one: ByClone, CdNum.
-/
import Derived.Test.YtaijnacghiloaaaGreatDoorRunT1
import Derived.Lib.SliceRun
namespace Go.Proofs.YtaijnacghiloaaaGreatDoor
open Go.ChangeShapes Go.WideShapes Go.ChangeAt Go.RowKit Go.Lib
set_option linter.unusedVariables false
set_option maxHeartbeats 4000000 in
theorem clone_by (a:Option Addr) (bs:List Nat) (c:Nat) (w:World) (h:RdB w a bs) (hc:a=none->c=0) (hl:bs.length<=140737488351232) :
 Calls Tryz.prog 150 #[.slice a bs.length c] w λ e w' => ∃ va vc,e = .returned (.slice va bs.length vc)/\w'.ownsRow w.heap.size 5 1 (.slice va bs.length vc) bs.length (byCells bs)/\Below w.heap.size w w':=by
 have q22 : ∀ (w:World) (a:Option Addr) (n c n' c':Nat),(binOp .eql 28 (.slice a n c) (.slice none n' c')).run Tryz.prog w = .ok (.bool a.isNone) w:=λ w a n c n' c'=>Lib.run_eql_slice_nil w _ _ a n c n' c' Tryz.underlying28
 cases a with
 | none =>
   have e:bs = []:=by
    by_cases hy:bs = []
    · exact hy
    · obtain ⟨b,off,e,_⟩:=h.2.2 hy;cases e
   subst e;have hc0:=hc rfl;subst hc0
   go_enter Tryz.func150, Tryz.ntmps150
   go_wp2
   go_ret
   exact ⟨none,0,rfl,World.ownsRow_nil _ _ _ _,Below.refl _ _⟩
 | some ad =>
   have HB:=hide h;have b0:Hid (∀ o,Below w.heap.size w (w.alloc o)):=λ o=>(Below.refl _ w).alloc (Nat.le_refl _) o
   have O0:Hid ((w.alloc (.cells #[] 5)).ownsRow w.heap.size 5 1 (.slice (some ⟨w.heap.size,0,none⟩) 0 0) 0 (byCells [])):=by
    have:=World.ownsRow_lit (base:=w.heap.size) (e := 5) (size:=1) w #[] 0 (Nat.le_refl _) (by unfold maxLen;omega) (by simp)
    unfold Hid;simpa [byCells] using this
   clear h hc
   go_enter Tryz.func150, Tryz.ntmps150
   go_wp2_with (at_builtin;refine wpList_append_by rfl (.tmp 5) (.tmp 6) rfl w.heap.size (.slice (some ⟨w.heap.size,0,none⟩) 0 0) 0 [] rfl O0.out (some ad) bs bs.length c rfl rfl (HB.out.below (b0.out _)) (λ e=>by cases e) (by omega) (by simp) ?_;intro va vc w1 ho1 hb1 hg1;rw [Nat.zero_add,List.nil_append] at ho1;have O1:=hide ho1;have K1:=hide ((b0.out _).trans hb1);clear ho1 hb1 hg1)
   go_ret
   exact ⟨va,vc,rfl,O1.out,K1.out⟩
theorem rd_one (w:World) (n:Int) (t:TypeId):Rd (w.alloc (.cells #[.int .i64 n] t)) (some ⟨w.heap.size,0,none⟩) [n] :=
 ⟨by unfold maxLen;simp,λ _=>⟨w.heap.size,0,rfl,by simp,λ i hi=>by
  have:i=0:=by simpa using hi
  subst this
  exact World.cell?_alloc_at _ _ _ 0 rfl⟩⟩
set_option maxHeartbeats 4000000 in
theorem cdnum_any:CdNumGives:=by
 intro a bs c n w h hc hl h1 h2;have F1:=hide (clone_by a bs c w h hc hl)
 have BY:Hid (M.bysL [n]=M.numL n):=by unfold Hid;rw [M.bys_cons];show M.numL n ++ []=_;rw [List.append_nil]
 clear h hc
 have F2:Hid (∀ va vc w1,w1.ownsRow w.heap.size 5 1 (.slice va bs.length vc) bs.length (byCells bs)->Below w.heap.size w w1->Calls Tryz.prog 22 #[.slice va bs.length vc, .slice (some ⟨w1.heap.size,0,none⟩) 1 1] (w1.alloc (.cells #[.int .i64 n] 3)) λ e w' => ∃ v,e = .returned v/\w'.ownsRow w.heap.size 5 1 v (bs ++ M.numL n).length (byCells (bs ++ M.numL n))/\Below w.heap.size w w'):=λ va vc w1 ho hb=>by
  refine (add_any w.heap.size va vc bs (some ⟨w1.heap.size,0,none⟩) [n] 1 _ (by have:=hb.size;simp;omega) (ho.alloc _) (rd_one w1 n _) (by intro x hx;rw [List.mem_singleton] at hx;subst hx;exact ⟨h1,h2⟩) ?_ (by simp;omega)).mono ?_
  · intro _ p hp
    cases hp;intro e;exact Nat.lt_irrefl _ (ho.lt _ e).2
  · rintro e w2 ⟨va',vc',rfl,hw⟩
    refine ⟨_,rfl, ?_, ?_⟩
    · have:=hw.own
      rw [BY.out] at this ⊢;exact this
    · exact (hb.alloc hb.size _).grown hw.gr hw.le (λ k hk=>(ho.lt k hk).1)
 go_enter Tryz.func124, Tryz.ntmps124
 go_wp2_with (first
  | (go_at_call 150;refine F1.out.mono ?_;rintro e w1 ⟨va,vc,rfl,ho1,hb1⟩;have O1:=hide ho1;have K1:=hide hb1;clear ho1 hb1)
  | (go_at_call 22;refine (F2.out va vc w1 O1.out K1.out).mono ?_;rintro e w2 ⟨v2,rfl,ho2,hb2⟩;have O2:=hide ho2;have K2:=hide hb2;clear ho2 hb2))
 go_ret
 exact ⟨v2,rfl,O2.out,K2.out⟩
end Go.Proofs.YtaijnacghiloaaaGreatDoor
