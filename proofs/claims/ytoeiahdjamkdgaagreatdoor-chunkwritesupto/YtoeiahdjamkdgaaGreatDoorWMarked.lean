/-
  A row of bytes of the call's own that may be marked behind its end (what a text was converted to): appended to.
-/
import Derived.Test.YtoeiahdjamkdgaaGreatDoorWBPTexts
import Derived.Lib.FrozenHead
import Derived.Lib.ConvBytes
namespace Go.Proofs.YtoeiahdjamkdgaaGreatDoor
open Go.RowKit
def Free (n:Nat)(z:Nat × Nat):Prop:=∀j,j<n->¬ (z.1<=j/\j<z.2)
theorem store_free (P:Program)(g o t:Nat)(z:Nat × Nat)(vs:List Value):∀(i:Nat) (cur:Array Value) (w:World),w.heap[g]? = some (.cells cur t z)->Free cur.size z->o+i+vs.length<=cur.size->(∀v∈vs,v.oneCell'=true) →
    (storeCells ⟨g,o,none⟩ vs i).run P w=.ok () (w.setRow g (cur.toList.take (o+i)++vs++cur.toList.drop (o+i+vs.length)).toArray):=by
 induction vs with
 | nil =>
  intro i cur w hg _ _ _
  simp only[storeCells,List.append_nil,List.length_nil,Nat.add_zero,List.take_append_drop,Array.toArray_toList]
  rw[setRow_self w g cur t z hg]
  rfl
 | cons v rest ih =>
  intro i cur w hg hz hl h1
  rw[List.length_cons] at hl
  have hi:o+i<cur.size:=by omega
  have hc:w.cell? ⟨g,o+i,none⟩=some cur[o+i]:=by simp[World.cell?,hg,hi]
  have hf:w.frozen? ⟨g,o+i,none⟩=false:=by
   have:=hz (o+i) hi
   simp only[World.frozen?,hg,Bool.and_eq_false_iff,decide_eq_false_iff_not]
   omega
  have hst:(store ((⟨g,o,none⟩:Addr).add i) v).run P w=.ok () (w.setRow g (cur.setIfInBounds (o+i) v)):=by
   rw[addr_add,run_store P w _ v _ (h1 v (by simp)),hc]
   simp[hf,setCell_eq_setRow w g (o+i) cur t z v hg]
  have ih':=ih (i+1) (cur.setIfInBounds (o+i) v) (w.setRow g (cur.setIfInBounds (o+i) v)) (setRow_heap w g cur _ t _ hg) (by simpa using hz) (by simp;omega) (fun x hx=>h1 x (by simp[hx]))
  simp only[storeCells,Sem.run_bind,hst,Result.andThen_ok,ih',setRow_setRow]
  congr 3
  have e:=list_seg_step cur.toList (o+i) v rest (by simp;omega)
  simpa [Array.toList_setIfInBounds,Nat.add_assoc] using e
def OwnM (w:World)(B:Nat)(v:Value)(l:List UInt8):Prop :=
 ∃g cap cur z,v=.slice (some ⟨g,0,none⟩) l.length cap/\B<=g/\w.heap[g]? = some (.cells cur 5 z)/\Free cur.size z/\l.length<=cap/\cap<=maxLen/\cur.size=cap/\cur.toList.take l.length=cellsOf l
theorem OwnM.lt {w:World}{B:Nat}{v:Value}{l:List UInt8}(h:OwnM w B v l):∀k,v.ownBlock=some k->B<=k/\k<w.heap.size:=by
 obtain⟨g,cap,cur,z,rfl,hB,hg,_⟩:=h
 intro k hk
 simp[Value.ownBlock] at hk
 subst hk
 exact⟨hB,lt_of_block hg⟩
theorem OwnM.keep {w w':World}{B:Nat}{v:Value}{l:List UInt8}(h:OwnM w B v l)(hb:Below w.heap.size w w'):OwnM w' B v l:=by
 obtain⟨g,cap,cur,z,rfl,hB,hg,hr⟩:=h
 exact⟨g,cap,cur,z,rfl,hB,blk_keep hb hg,hr⟩
theorem OwnM.cells {w:World}{B g cap:Nat}{l:List UInt8}(h:OwnM w B (.slice (some ⟨g,0,none⟩) l.length cap) l)(j:Nat)(hj:j<l.length):w.cell? ⟨g,j,none⟩=some (.int .u8 l[j].toNat):=by
 obtain⟨g',cap',cur,z,e,hB,hg,hz,hlc,hm,hs,ht⟩:=h
 obtain⟨rfl,rfl⟩:g=g'/\cap=cap':=by simpa using e
 rw[cell_of_row _ g j cur _ z hg]
 have e1:cur[j]? = (cur.toList.take l.length)[j]?:=by rw[List.getElem?_take,if_pos hj,Array.getElem?_toList]
 rw[e1,ht]
 simp[cellsOf,hj]
theorem OwnM.below {B:Nat}{w wr w1:World}{v:Value}{l:List UInt8}(hb:Below B w wr)(hB:B<=w.heap.size)(hown:OwnM wr B v l)(hg:wr.grownBy w1 v.ownBlock):Below B w w1 :=
 hb.grown hg (by have:=hb.size;omega) (fun k hk=>(hown.lt k hk).1)
theorem OwnM.stand {w w':World}{B:Nat}{v:Value}{l:List UInt8}(hown:OwnM w B v l)(hg:w.grownBy w' v.ownBlock):Stand w w':=fun g ty hty ht=>by
 obtain⟨cs,z,h⟩:=ht
 refine hg.block g (lt_of_block h) (fun e=>?_)
 obtain⟨g',cap,cur,z',rfl,_,hg',_⟩:=hown
 simp[Value.ownBlock] at e
 subst e
 rw[hg'] at h
 injection h with h
 injection h with _ h _
 exact hty h.symm
theorem ownM_new (w:World)(B:Nat)(l m:List UInt8)(cap:Nat)(hB:B<=w.heap.size)(hc:(l++m).length<=cap)(hm:cap<=maxLen) :
    OwnM (w.drew.alloc (.cells ((cellsOf l).toArray++(cellsOf m).toArray++Builtin.zeroCells (Value.int .u8 0).cells (cap-(l.length+m.length))) 5)) B (.slice (some ⟨w.heap.size,0,none⟩) (l++m).length cap) (l++m):=by
 refine⟨w.heap.size,cap,_,(0,0),rfl,hB,heap_alloc_new w.drew _,fun j _=>by simp,hc,hm,?_,?_⟩
 · rw[List.length_append] at hc
   simp[cellsOf,Builtin.zeroCells,Value.cells]
   omega
 · have e : ((cellsOf l).toArray ++ (cellsOf m).toArray ++ Builtin.zeroCells (Value.int .u8 0).cells (cap - (l.length + m.length))).toList = cellsOf (l ++ m) ++ (Builtin.zeroCells (Value.int .u8 0).cells (cap - (l.length + m.length))).toList := by
     simp[cellsOf]
   rw[e]
   have e2:(l++m).length=(cellsOf (l++m)).length:=by simp[cellsOf]
   rw[e2]
   exact List.take_left
theorem cellsOf_one (l:List UInt8):∀v∈cellsOf l,v.oneCell'=true:=by
 intro v hv
 simp[cellsOf] at hv
 obtain⟨_,_,rfl⟩:=hv
 rfl
theorem ownM_room {w:World}{B g cap:Nat}{l m:List UInt8}{cur:Array Value}{z:Nat × Nat}(hB:B<=g)(hg:w.heap[g]? = some (.cells cur 5 z))(hz:Free cur.size z)(hroom:l.length+m.length<=cap)(hm:cap<=maxLen)(hs:cur.size=cap)(ht:cur.toList.take l.length=cellsOf l) :
    OwnM (w.setRow g (cur.toList.take l.length++cellsOf m++cur.toList.drop (l.length+m.length)).toArray) B (.slice (some ⟨g,0,none⟩) (l++m).length cap) (l++m):=by
 refine⟨g,cap,_,z,rfl,hB,setRow_heap w g cur _ _ z hg,?_,by simpa using hroom,hm,?_,?_⟩
 · have e : (cur.toList.take l.length ++ cellsOf m ++ cur.toList.drop (l.length + m.length)).toArray.size = cur.size := by
     simp[cellsOf];omega
   rw[e];exact hz
 · simp[cellsOf];omega
 · rw[ht]
   have e2:(l++m).length=(cellsOf l++cellsOf m).length:=by simp[cellsOf]
   show List.take (l++m).length (cellsOf l++cellsOf m++cur.toList.drop (l.length+m.length))=_
   rw[e2,List.take_left]
   simp[cellsOf]
theorem appM_slice (w:World)(B ty:Nat)(v:Value)(l m:List UInt8)(hown:OwnM w B v l)(a:Addr)(c:Nat)(hnews:∀j u,(cellsOf m)[j]? = some u->w.cell? (a.add j)=some u)(h63:l.length+m.length<=1000000000)(hB:B<=w.heap.size) :
    ∃v' w',(Builtin.append_ #[58,58] ty #[v,.slice (some a) m.length c]).run Tryz.prog w=.ok v' w'/\OwnM w' B v' (l++m)/\w.grownBy w' v.ownBlock:=by
 obtain⟨i0,hi,hz0,hz1,hz2⟩:=info_parts Tryz.info5
 have hown0:=hown
 obtain⟨g,cap,cur,z,rfl,hBg,hg,hz,hlc,hm,hs,ht⟩:=hown
 have hml:(cellsOf m).length=m.length*i0.size:=by rw[hz1];simp[cellsOf]
 by_cases hroom:l.length+m.length<=cap
 · have hf:=run_firstCells_some (P:=Tryz.prog) w i0.size m.length a m.length c (cellsOf m) hml hnews
   have hst:=store_free Tryz.prog g l.length 5 z (cellsOf m) 0 cur w hg hz (by simp[cellsOf];omega) (cellsOf_one m)
   have hcl:(cellsOf m).length=m.length:=by simp[cellsOf]
   simp only[Nat.add_zero,hcl] at hst
   refine⟨.slice (some ⟨g,0,none⟩) (l++m).length cap,_,?_,ownM_room hBg hg hz hroom hm hs ht,⟨rfl,rfl,rfl,by simp,fun k _ hk=>setRow_other w g k _ (fun e=>hk (by simp[Value.ownBlock,e]))⟩⟩
   rw[hz1] at hf
   simp[Builtin.append_,run_underlying Tryz.underlying58,sizeOf,typeInfo,hi,hz1,Builtin.lenOf,hroom,hf,Addr.add_lit,hst]
 · have hr := run_append_grow (P := Tryz.prog) w 58 ty 5 i0 (.int .u8 0) Tryz.underlying58 hi hz0 ⟨g, 0, none⟩ l.length cap (cellsOf l) (by rw [hz1]; simp [cellsOf]) (fun j u hu => by
     obtain⟨hj,e⟩:=List.getElem?_eq_some_iff.1 hu
     have hj':j<l.length:=by simpa [cellsOf] using hj
     rw[addr_add,Nat.zero_add,hown0.cells j hj',←e];simp[cellsOf]) a m.length c (cellsOf m) hml hnews (by omega) (by omega) (growslice_fits (by omega) (by rw[hz2];omega))
   have hge:=grownCap_ge w (l.length+m.length) cap 5
   have hcm:grownCap w (l.length+m.length) cap 5<=maxLen:=grownCap_le_maxLen w _ cap _ (by unfold maxLen;omega)
   have hn:=ownM_new w B l m (grownCap w (l.length+m.length) cap 5) hB (by rw[List.length_append];exact hge) hcm
   rw[List.length_append] at hn
   exact⟨_,_,hr,hn,⟨rfl,rfl,rfl,by simp,fun k hk _=>heap_alloc_old w.drew _ hk⟩⟩
theorem appM_string (w:World)(B ty:Nat)(v:Value)(l m:List UInt8)(hown:OwnM w B v l)(s:ByteArray)(hsm:s.data.toList=m)(h63:l.length+m.length<=1000000000)(hB:B<=w.heap.size) :
    ∃v' w',(Builtin.append_ #[58,9] ty #[v,.string s]).run Tryz.prog w=.ok v' w'/\OwnM w' B v' (l++m)/\w.grownBy w' v.ownBlock:=by
 obtain⟨i0,hi,hz0,hz1,hz2⟩:=info_parts Tryz.info5
 have hown0:=hown
 obtain⟨g,cap,cur,z,rfl,hBg,hg,hz,hlc,hm,hs,ht⟩:=hown
 have hss:s.size=m.length:=by rw[←hsm,Array.length_toList];rfl
 have hsc:Lib.strCells s=cellsOf m:=by rw[ow_strCells',hsm]
 by_cases hroom:l.length+m.length<=cap
 · have hf:=Lib.run_firstCells_string (P:=Tryz.prog) w 1 s
   rw[hsc,hss] at hf
   have hst:=store_free Tryz.prog g l.length 5 z (cellsOf m) 0 cur w hg hz (by simp[cellsOf];omega) (cellsOf_one m)
   have hcl:(cellsOf m).length=m.length:=by simp[cellsOf]
   simp only[Nat.add_zero,hcl] at hst
   refine⟨.slice (some ⟨g,0,none⟩) (l++m).length cap,_,?_,ownM_room hBg hg hz hroom hm hs ht,⟨rfl,rfl,rfl,by simp,fun k _ hk=>setRow_other w g k _ (fun e=>hk (by simp[Value.ownBlock,e]))⟩⟩
   simp[Builtin.append_,run_underlying Tryz.underlying58,run_underlying Tryz.underlying9,hss,sizeOf,typeInfo,hi,hz1,Builtin.lenOf,hroom,hf,Addr.add_lit,hst]
 · have hr := Lib.run_append_grow_string (P := Tryz.prog) w 58 9 ty 5 i0 (.int .u8 0) Tryz.underlying58 Tryz.underlying9 hi hz0 ⟨g, 0, none⟩ l.length cap (cellsOf l) (by rw [hz1]; simp [cellsOf]) (fun j u hu => by
     obtain⟨hj,e⟩:=List.getElem?_eq_some_iff.1 hu
     have hj':j<l.length:=by simpa [cellsOf] using hj
     rw[addr_add,Nat.zero_add,hown0.cells j hj',←e];simp[cellsOf]) s (by omega) (by omega) (growslice_fits (by omega) (by rw[hz2];omega))
   rw[hsc,hss] at hr
   have hge:=grownCap_ge w (l.length+m.length) cap 5
   have hcm:grownCap w (l.length+m.length) cap 5<=maxLen:=grownCap_le_maxLen w _ cap _ (by unfold maxLen;omega)
   have hn:=ownM_new w B l m (grownCap w (l.length+m.length) cap 5) hB (by rw[List.length_append];exact hge) hcm
   rw[List.length_append] at hn
   exact⟨_,_,hr,hn,⟨rfl,rfl,rfl,by simp,fun k hk _=>heap_alloc_old w.drew _ hk⟩⟩
theorem ownM_conv (w:World)(B:Nat)(s:ByteArray)(m:List UInt8)(hsm:s.data.toList=m)(h63:s.size<=1000000000)(hB:B<=w.heap.size) :
    ∃v' w',(convert 9 58 (.string s)).run Tryz.prog w=.ok v' w'/\OwnM w' B v' m/\Below w.heap.size w w':=by
 have hss:s.size=m.length:=by rw[←hsm,Array.length_toList];rfl
 have hge:=grownCap_ge w s.size 0 5
 have hcm:grownCap w s.size 0 5<=maxLen:=grownCap_le_maxLen w _ 0 _ (by unfold maxLen;omega)
 have hsz:(Lib.bytesCells w 5 s).size=grownCap w s.size 0 5:=by
  have e:s.data.size=s.size:=rfl
  simp[Lib.bytesCells,e];omega
 refine⟨_,_,Lib.run_convert_string_bytes w 9 58 5 s Tryz.underlying9 Tryz.underlying58 Tryz.underlying5,?_,⟨rfl,rfl,rfl,by rw[Lib.bytesWorld_size];omega,fun j hj=>Lib.bytesWorld_at_old w _ s j hj⟩⟩
 rw[hss] at *
 refine⟨w.heap.size,_,_,_,rfl,hB,Lib.bytesWorld_at_new w _ s,fun j hj=>by simp only;omega,hge,hcm,hsz,?_⟩
 have e:(Lib.bytesCells w 5 s).toList=cellsOf m++(Array.replicate (grownCap w s.size 0 5-s.size) (Value.int .u8 0)).toList:=by
  simp[Lib.bytesCells,cellsOf,←hsm]
 rw[e]
 have e2:m.length=(cellsOf m).length:=by simp[cellsOf]
 rw[e2]
 exact List.take_left
end Go.Proofs.YtoeiahdjamkdgaaGreatDoor
