/-
  Several texts as one: SortOwn.
-/
import Derived.Test.YtaijnacghiloaaaGreatDoorRunT1
import Derived.Test.YtaijnacghiloaaaGreatDoorShelf
import Derived.Sort.OwnSortedInts
namespace Go.Proofs.YtaijnacghiloaaaGreatDoor
open Go.ChangeShapes Go.WideShapes Go.ChangeAt Go.RowKit Go.Shelf Go.Lib Go.Sort
set_option linter.unusedVariables false
theorem sort_own (base:Nat) (v:Value) (F:List Int) (w:World) (hown:w.ownsRow base 3 1 v F.length (F.map (Value.int .i64))) (hsz:F.length<4611686018427387904) (hbase:base<=w.heap.size) :
 Calls Tryz.prog 158 #[v] w λ e w'=>e = .returned (.tuple #[])/\w'.ownsRow base 3 1 v F.length ((M.sortI F).map (Value.int .i64))/\Below base w w':=by
 rcases hown.2 with ⟨rfl,h0⟩ | ⟨g,cap,cur,rfl,hb0,hb,h1,h2,h3,h4⟩
 · have e:F = []:=List.length_eq_zero_iff.1 h0
   subst e;refine (Tryz.slices_Sort_int_none none 0 w).mono ?_;rintro e w' ⟨rfl,rfl⟩
   exact ⟨rfl,by rw [show M.sortI [] = [] from by simp [M.sortI]];exact hown,Below.refl _ _⟩
 · have hg:g<w.heap.size:=(Array.getElem?_eq_some_iff.1 hb).1
   refine (Tryz.slices_Sort_int g 0 cap F w (holds_of_blockI hb (by simpa using h4)) hg hsz).mono ?_;rintro e w' ⟨rfl,n,os,rfl⟩
   refine ⟨rfl,ownsRow_sortedI (by simp) hb0 hb h1 h2 h3, ?_⟩
   exact (Below.refl _ w).grown (grownBy_sortedI _) hbase (λ k hk=>by cases hk;exact hb0)
theorem own_cut {w:World} {base g n cap m:Nat} {L K:List Int} (h:w.ownsRow base 3 1 (.slice (some ⟨g,0,none⟩) n cap) n ((L ++ K).map (Value.int .i64))) (hm:m=L.length) :
 w.ownsRow base 3 1 (.slice (some ⟨g,0,none⟩) m cap) m (L.map (Value.int .i64)):=by
 subst hm
 have hl:(L ++ K).length=n:=by have:=h.1;simpa using this
 rcases h.2 with ⟨h0,_⟩ | ⟨g',cap',cur,hv,hbase,hb,h1,h2,h3,h4⟩
 · cases h0
 cases hv;rw [List.length_append] at hl
 refine ⟨by simp, .inr ⟨g,cap,cur,rfl,hbase,hb,by omega,h2,h3, ?_⟩⟩
 have:cur.toList.take (L.length*1)=(cur.toList.take (n*1)).take (L.length*1):=by rw [List.take_take,Nat.min_eq_left (by omega)]
 rw [this,h4,List.map_append,Nat.mul_one];exact List.take_left' (by simp)
theorem compact_len (l:List Int):(Lib.compact l).length<=l.length:=by
 unfold Lib.compact Lib.compactUpTo;rw [List.length_map];exact Nat.le_trans (List.length_filter_le _ _) (by simp)
theorem compact_own (base:Nat) (v:Value) (F:List Int) (w:World) (hown:w.ownsRow base 3 1 v F.length (F.map (Value.int .i64))) (hsz:F.length<=1000000) (hbase:base<=w.heap.size) :
 Calls Tryz.prog 159 #[v] w λ e w' => ∃ v',e = .returned v'/\w'.ownsRow base 3 1 v' (Lib.compact F).length ((Lib.compact F).map (Value.int .i64))/\Below base w w':=by
 rcases hown.2 with ⟨rfl,h0⟩ | ⟨g,cap,cur,rfl,hb0,hb,h1,h2,h3,h4⟩
 · have e:F = []:=List.length_eq_zero_iff.1 h0
   subst e;refine (Tryz.slices_Compact_int_empty none 0 w).mono ?_;rintro e w' ⟨rfl,rfl⟩
   exact ⟨_,rfl,hown,Below.refl _ _⟩
 · have hg:g<w.heap.size:=(Array.getElem?_eq_some_iff.1 hb).1
   refine (Tryz.slices_Compact_int g 0 cap F w (holds_of_blockI hb (by simpa using h4)) (by omega) h1).mono ?_;rintro e w' ⟨rfl,q,rfl⟩;have hle:=compact_len F
   have hlen:(Lib.compact F ++ List.replicate (F.length-(Lib.compact F).length) 0).length=F.length:=by rw [List.length_append,List.length_replicate];omega
   have:=ownsRow_sortedI (w:=w) (base:=base) (g:=g) (cap:=cap) (n:=q) (e:=3) (os:=#[]) (cur:=cur) (ss:=F) (ts:=Lib.compact F ++ List.replicate (F.length-(Lib.compact F).length) 0) hlen hb0 hb h1 h2 h3;have hb2:Below base w (grow (putRow (Value.int .i64) (Sort.ahead w q) g 0 (Lib.compact F ++ List.replicate (F.length-(Lib.compact F).length) 0).toArray) #[]):=(Below.refl _ w).grown (grownBy_sortedI _) hbase (λ k hk=>by cases hk;exact hb0);rw [grow_empty] at this hb2
   exact ⟨_,rfl,own_cut this rfl,hb2⟩
end Go.Proofs.YtaijnacghiloaaaGreatDoor
