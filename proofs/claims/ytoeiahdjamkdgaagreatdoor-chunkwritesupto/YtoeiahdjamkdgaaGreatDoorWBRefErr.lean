/-
  The reference's Bare, Fine and BitsError, and the law's faulted: what they answer.
  The four listed errors in a world.
-/
import Derived.Test.YtoeiahdjamkdgaaGreatDoorWBPack
import Derived.Test.YtoeiahdjamkdgaaGreatDoorWBErrAs
import Derived.Laws.CopyOwn
import Derived.OpenShut
set_option maxRecDepth 100000
set_option maxHeartbeats 800000
namespace Go.Proofs.YtoeiahdjamkdgaaGreatDoor
open Go.RowKit
abbrev rfl2 (c i:Int):Array Value:=#[.int .i64 c,.int .i64 i]
theorem bare_any (k:Int)(w:World):Calls Tryz.prog 8 #[.int .i64 k] w fun e w'=>e=.returned (.agg (rfl2 k (-1)))/\w'=w.alloc (.cells (rfl2 k (-1)) 32):=by
 go_enter Tryz.func8,Tryz.ntmps8
 go_wp2
 exact bodyPost_ret (v:=.agg (rfl2 k (-1))) (results_cell_row Tryz.results8 _ _ w.heap.size 32 (rfl2 k (-1)) (0,0) _ rfl (heap_alloc_new w _) Tryz.underlying32 rfl (by kernel_rfl)) rfl ⟨rfl,rfl⟩
theorem fine_any (w:World):Calls Tryz.prog 17 #[] w fun e w'=>e=.returned (.agg (rfl2 0 (-1)))/\w'=w.alloc (.cells (rfl2 0 (-1)) 32):=by
 go_enter Tryz.func17,Tryz.ntmps17
 go_wp2
 exact bodyPost_ret (v:=.agg (rfl2 0 (-1))) (results_cell_row Tryz.results17 _ _ w.heap.size 32 (rfl2 0 (-1)) (0,0) _ rfl (heap_alloc_new w _) Tryz.underlying32 rfl (by kernel_rfl)) rfl ⟨rfl,rfl⟩
theorem row_setCell {w:World}{g j:Nat}{cs:Array Value}{t:TypeId}(h:w.heap[g]? = some (.cells cs t (0,0)))(v:Value):(w.setCell ⟨g,j,none⟩ v).heap[g]? = some (.cells (cs.setIfInBounds j v) t (0,0)):=by
 simp[World.setCell,Array.getElem?_modify,h]
theorem row_two {w:World}{g:Nat}{x y:Int}{t:TypeId}(h:w.heap[g]? = some (.cells (rfl2 x y) t (0,0))) :
    (w.cell? ⟨g,0,none⟩=some (.int .i64 x)/\w.cell? ⟨g,1,none⟩=some (.int .i64 y))/\w.frozen? ⟨g,0,none⟩=false/\w.frozen? ⟨g,1,none⟩=false :=
 ⟨⟨cell_of_row w g 0 _ t _ h,cell_of_row w g 1 _ t _ h⟩,frozen_of_row w g 0 _ t h,frozen_of_row w g 1 _ t h⟩
theorem row_put {w:World}{g:Nat}{x y:Int}{t:TypeId}(h:w.heap[g]? = some (.cells (rfl2 x y) t (0,0)))(x' y':Int) :
    ((w.setCell ⟨g,0,none⟩ (.int .i64 x')).setCell ⟨g,1,none⟩ (.int .i64 y')).heap[g]? = some (.cells (rfl2 x' y') t (0,0)) :=
 row_setCell (row_setCell h _) _
theorem faulted_fault (w:World)(A:Nat->Addr)(h:Errs w A)(i p:Nat)(hi:i<8)(at_:Int)(h0:w.cell? ⟨p,0,none⟩=some (.int .i64 at_))(h1:w.cell? ⟨p,1,none⟩=some (errV (A i)))(n:Int)(hn:n=(i:Int)+1) :
    Calls Tryz.prog 12 #[.iface 83 (.pointer (some ⟨p,0,none⟩)),.agg (rfl2 n at_)] w fun e w'=>e=.returned (.bool true)/\Below w.heap.size w w':=by
 subst hn
 have hb0:Below w.heap.size w (w.alloc (.cells (rfl2 ((i:Int)+1) at_) 32)):=(Below.refl _ _).alloc (Nat.le_refl _) _
 have HA:Hid (Errs (w.alloc (.cells (rfl2 ((i:Int)+1) at_) 32)) A):=h.keep hb0
 have H0:Hid ((w.alloc (.cells (rfl2 ((i:Int)+1) at_) 32)).cell? ⟨p,0,none⟩=some (.int .i64 at_)):=(hb0.cell (World.block_lt_of_cell? w _ h0)).trans h0
 have H1:Hid ((w.alloc (.cells (rfl2 ((i:Int)+1) at_) 32)).cell? ⟨p,1,none⟩=some (errV (A i))):=(hb0.cell (World.block_lt_of_cell? w _ h1)).trans h1
 clear h h0 h1
 go_enter Tryz.func12,Tryz.ntmps12
 go_wp2_with fail
 refine (code_fault _ A HA.out i p hi at_ H0.out H1.out).mono ?_
 rintro e w1 ⟨rfl,hb1⟩
 have hrow:w1.heap[w.heap.size]? = some (.cells (rfl2 ((i:Int)+1) at_) 32 (0,0)):=(hb1.block w.heap.size (by simp)).trans (heap_alloc_new w _)
 obtain⟨⟨c0,c1⟩,_,_⟩:=row_two hrow
 have hne:((i:Int)+1 == 0)=false:=by simp;omega
 clear hrow
 go_wp2_with fail
 go_ret
 exact⟨rfl,hb0.trans (hb1.mono hb0.size)⟩
theorem faulted_sent (w:World)(A:Nat->Addr)(h:Errs w A)(i:Nat)(hi:i<8)(n:Int)(hn:n=(i:Int)+1) :
    Calls Tryz.prog 12 #[errV (A i),.agg (rfl2 n (-1))] w fun e w'=>e=.returned (.bool true)/\Below w.heap.size w w':=by
 subst hn
 have hb0:Below w.heap.size w (w.alloc (.cells (rfl2 ((i:Int)+1) (-1)) 32)):=(Below.refl _ _).alloc (Nat.le_refl _) _
 have HA:Hid (Errs (w.alloc (.cells (rfl2 ((i:Int)+1) (-1)) 32)) A):=h.keep hb0
 clear h
 go_enter Tryz.func12,Tryz.ntmps12
 go_wp2_with fail
 refine (code_sent _ A HA.out i hi).mono ?_
 rintro e w1 ⟨rfl,hb1⟩
 have hrow:w1.heap[w.heap.size]? = some (.cells (rfl2 ((i:Int)+1) (-1)) 32 (0,0)):=(hb1.block w.heap.size (by simp)).trans (heap_alloc_new w _)
 obtain⟨⟨c0,c1⟩,_,_⟩:=row_two hrow
 have hne:((i:Int)+1 == 0)=false:=by simp;omega
 clear hrow
 go_wp2_with fail
 go_ret
 exact⟨rfl,hb0.trans (hb1.mono hb0.size)⟩
theorem ckA {w w':World}{g:Nat}{v:Value}(h:w.cell? ⟨g,0,none⟩=some v)(hb:Below w.heap.size w w'):w'.cell? ⟨g,0,none⟩=some v:=(hb.cell (World.block_lt_of_cell? w _ h)).trans h
structure Four4 (w:World) (tt bt st kt:TypeId) (tp bp sp kp:Value):Prop where
 text:w.cell? ⟨2,0,none⟩=some (.iface tt tp)
 bound:w.cell? ⟨1,0,none⟩=some (.iface bt bp)
 shape:w.cell? ⟨0,0,none⟩=some (.iface st sp)
 kind:w.cell? ⟨3,0,none⟩=some (.iface kt kp)
theorem Four4.keep {w w':World}{tt bt st kt:TypeId}{tp bp sp kp:Value}(h:Four4 w tt bt st kt tp bp sp kp)(hb:Below w.heap.size w w'):Four4 w' tt bt st kt tp bp sp kp :=
 ⟨ckA h.text hb,ckA h.bound hb,ckA h.shape hb,ckA h.kind hb⟩
end Go.Proofs.YtoeiahdjamkdgaaGreatDoor
