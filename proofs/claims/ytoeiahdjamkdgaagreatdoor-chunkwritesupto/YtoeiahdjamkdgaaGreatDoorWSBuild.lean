/-
  (*strings.Builder).WriteString, for this program.
-/
import Derived.Test.YtoeiahdjamkdgaaGreatDoorShelf
import Derived.Test.YtoeiahdjamkdgaaGreatDoorWBOwn
set_option maxRecDepth 100000
set_option maxHeartbeats 3200000
namespace Go.Proofs.YtoeiahdjamkdgaaGreatDoor
open Go.RowKit
theorem Tryz.infoBd:(Tryz.prog.info? 60).map (fun i=>i.size)=some 2:=by kernel_rfl
theorem Tryz.infoU8:(Tryz.prog.info? 5).map (fun i=>(i.zero,i.size,i.bytes))=some (some (.int .u8 0),1,1):=by kernel_rfl
theorem Tryz.liesBd:liesAt Tryz.prog Tryz.prog.depth 60 (2 / Tryz.prog.cellsOf 60) 0 60 1=true:=by kernel_rfl
theorem copyCheck_used (b:Nat)(w:World)(h0:w.cell? ⟨b,0,none⟩=some (.pointer (some ⟨b,0,none⟩))) :
    Calls Tryz.prog (37) #[.pointer (some ⟨b,0,none⟩)] w fun e w'=>e=.returned (.tuple #[])/\w'=w:=by
 obtain⟨j,hj,_⟩:=Option.map_eq_some_iff.1 Tryz.infoBd
 go_enter Tryz.func37,Tryz.ntmps37
 go_wp2
 rw[Lib.run_neq_ptr_same w _ Tryz.underlying57 hj]
 go_wp2
 go_end0
 exact⟨rfl,rfl⟩
theorem copyCheck_fresh (b:Nat)(w:World)(h0:w.cell? ⟨b,0,none⟩=some (.pointer none))(hsh:w.shape? b=some (60,2))(hfz:w.frozen? ⟨b,0,none⟩=false) :
    Calls Tryz.prog (37) #[.pointer (some ⟨b,0,none⟩)] w fun e w'=>e=.returned (.tuple #[])/\w'=w.setCell ⟨b,0,none⟩ (.pointer (some ⟨b,0,none⟩)):=by
 obtain⟨j,hj,hjs⟩:=Option.map_eq_some_iff.1 Tryz.infoBd
 go_enter Tryz.func37,Tryz.ntmps37
 go_wp2
 rw[Lib.run_to_unsafe w ⟨b,0,none⟩ Tryz.underlying57 Tryz.underlying120 hj (by rw[hjs];decide) hsh (Nat.zero_lt_succ 1)]
 simp only[Result.andThen]
 rw[Oper.upon_value]
 go_wp2
 rw[run_callFunc_extern Tryz.func67 (by kernel_rfl) (by kernel_rfl) (by kernel_rfl) (e:=Extern.AbiNoEscape.same) (by kernel_rfl)]
 rw[Lib.run_noEscape]
 simp only[Result.andThen]
 rw[Oper.upon_value]
 go_wp2
 rw[Lib.run_from_unsafe w ⟨b,0,none⟩ Tryz.underlying120 Tryz.underlying57 hj hsh Tryz.liesBd]
 simp only[Result.andThen]
 rw[Oper.upon_value]
 go_wp2
 go_end0
 exact⟨rfl,rfl⟩
theorem copyCheck_any (B b:Nat)(bs:List Value)(w:World)(h:Lib.IsBuilder 60 5 B b bs w) :
    Calls Tryz.prog (37) #[.pointer (some ⟨b,0,none⟩)] w fun e w'=>e=.returned (.tuple #[])/\(Lib.BuilderAt 60 5 B b (.pointer (some ⟨b,0,none⟩)) bs w'/\Below B w w'/\∀k,k≠b->w'.heap[k]? = w.heap[k]?):=by
 rcases h with h|h
 · refine (copyCheck_fresh b w h.cell0 h.shape h.frozen0).mono ?_
   rintro e w' ⟨rfl,rfl⟩
   exact⟨rfl,h.used _,(Below.refl B w).setCell (p:=⟨b,0,none⟩) h.1 _,fun k hk=>Below.heap_setCell _ _ _ _ hk⟩
 · refine (copyCheck_used b w h.cell0).mono ?_
   rintro e w' ⟨rfl,rfl⟩
   exact⟨rfl,h,Below.refl B _,fun _ _=>rfl⟩
theorem writeString_any (B b:Nat)(bs:List Value)(s:ByteArray)(w:World)(h:Lib.IsBuilder 60 5 B b bs w)(hlen:bs.length+s.size<=140737488355328)(hBw:B<=w.heap.size) :
    Calls Tryz.prog (22) #[.pointer (some ⟨b,0,none⟩),.string s] w fun e w'=>e=.returned (.tuple #[.int .i64 s.size,.nilIface])/\(Lib.BuilderAt 60 5 B b (.pointer (some ⟨b,0,none⟩)) (bs++Lib.strCells s) w'/\Below B w w'/\(∀k cs T f,k≠b->T≠5->w.heap[k]? = some (.cells cs T f)->w'.heap[k]? = some (.cells cs T f))):=by
 obtain⟨i0,hi,hz0,hz1,hz2⟩:=info_parts Tryz.infoU8
 go_enter Tryz.func22,Tryz.ntmps22
 go_wp2_with fail
 refine (copyCheck_any B b bs _ h).mono ?_
 rintro e w1 ⟨rfl,h1,hb1,hk1⟩
 have HK1:Hid _:=hk1
 clear hk1
 obtain⟨hB,v,hbk,hown,hne⟩:=h1
 have c0:w1.cell? ⟨b,0,none⟩=some (.pointer (some ⟨b,0,none⟩)):=by rw[Lib.cell_of_heap hbk];rfl
 have c1:w1.cell? ⟨b,1,none⟩=some v:=by rw[Lib.cell_of_heap hbk];rfl
 go_wp2_with (at_builtin;refine Lib.wpList_append_own_string _ rfl _ _ 58 9 rfl B 5 i0 Tryz.underlying58 Tryz.underlying9 hi hz0 hz1 hz2 _ _ _ rfl hown s rfl ?c3 ?c4 ?c5 ?_)
 case c3=>unfold maxLen;omega
 case c4=>omega
 case c5=>have:=hb1.size;omega
 intro v' w2 hown' hgrow _
 have hlt:b<w1.heap.size:=lt_of_block hbk
 have hb2:w2.heap[b]? = some (.cells #[.pointer (some ⟨b,0,none⟩),v] 60 (0,0)):=by
  rw[hgrow.block b hlt (fun e=>hne e.symm)]
  exact hbk
 have d0:w2.cell? ⟨b,0,none⟩=some (.pointer (some ⟨b,0,none⟩)):=by rw[Lib.cell_of_heap hb2];rfl
 have d1:w2.cell? ⟨b,1,none⟩=some v:=by rw[Lib.cell_of_heap hb2];rfl
 have f1:w2.frozen? ⟨b,1,none⟩=false:=Lib.frozen_of_heap hb2 1
 obtain⟨ao,n',cap,rfl⟩:∃ao n' cap,v'=.slice ao n' cap:=by
  rcases hown'.2 with ⟨hv,_⟩|⟨g,cap,cur,hv,_⟩
  · exact⟨_,_,_,hv⟩
  · exact⟨_,_,_,hv⟩
 go_wp2
 go_ret2
 refine⟨rfl,?_,?_,fun k cs T f hkb hT hk=>?_⟩
 · exact Lib.BuilderAt.put (T:=60) (e:=5) hB hb2 (bs':=bs++Lib.strCells s) (by simpa [Lib.strCells_length] using hown') (by decide)
 · exact (hb1.grown hgrow (by have:=hb1.size;omega) (fun k hk=>(hown.lt k hk).1)).setCell (p:=⟨b,1,none⟩) hB _
 · have hk2:w1.heap[k]? = some (.cells cs T f):=(HK1.out k hkb).trans hk
   rw[Below.heap_setCell _ _ _ _ hkb,hgrow.block k (lt_of_block hk2) (fun e=>?_)]
   · exact hk2
   · rcases hown.2 with ⟨hv,_⟩|⟨g,cap,cur,hv,hg1,hg2,_⟩
     · rw[hv] at e
       simp[Value.ownBlock] at e
     · rw[hv] at e
       simp only[Value.ownBlock,Option.some.injEq] at e
       subst e
       rw[hg2] at hk2
       injection hk2 with hk2
       injection hk2 with _ hk3 _
       exact hT hk3.symm
theorem bd_keep {T e B b:Nat}{p:Value}{bs:List Value}{w w':World}(h:Lib.BuilderAt T e B b p bs w)(hb:Below w.heap.size w w'):Lib.BuilderAt T e B b p bs w':=by
 obtain⟨hB,v,hbk,hown,hne⟩:=h
 exact⟨hB,v,blk_keep hb hbk,ow_kept hown hb,hne⟩
theorem isb_keep {T e B b:Nat}{bs:List Value}{w w':World}(h:Lib.IsBuilder T e B b bs w)(hb:Below w.heap.size w w'):Lib.IsBuilder T e B b bs w':=h.elim (fun h=>.inl (bd_keep h hb)) (fun h=>.inr (bd_keep h hb))
theorem byteCells_app (l m:List UInt8):Lib.byteCells (l++m)=Lib.byteCells l++Lib.byteCells m:=by simp[Lib.byteCells]
structure NtI (W:World) (l:List UInt8) (X:World):Prop where
 bd:Lib.IsBuilder 60 5 W.heap.size W.heap.size (Lib.byteCells l) X
 fr:Below W.heap.size W X
theorem NtI.lt {W X:World}{l:List UInt8}(h:NtI W l X):W.heap.size<X.heap.size:=h.bd.elim (fun h=>h.lt) (fun h=>h.lt)
theorem NtI.keep {W X w':World}{l:List UInt8}(h:NtI W l X)(hb:Below X.heap.size X w'):NtI W l w':=⟨isb_keep h.bd hb,h.fr.trans (hb.mono h.fr.size)⟩
theorem NtI.write {W X:World}{l m:List UInt8}(h:NtI W l X)(hlen:l.length+m.length<=100000000) :
    Calls Tryz.prog (22) #[.pointer (some ⟨W.heap.size,0,none⟩),.string ⟨m.toArray⟩] X fun e w'=>(∃v,e=.returned v)/\NtI W (l++m) w'/\(∀k cs T f,k≠W.heap.size->T≠5->X.heap[k]? = some (.cells cs T f)->w'.heap[k]? = some (.cells cs T f))/\X.heap.size<=w'.heap.size:=by
 refine (writeString_any W.heap.size W.heap.size _ ⟨m.toArray⟩ X h.bd (by rw[Lib.byteCells_length];simp only[ByteArray.size,List.size_toArray];omega) h.fr.size).mono ?_
 rintro e w' ⟨rfl,h1,h2,h3⟩
 exact⟨⟨_,rfl⟩,⟨.inr (by rw[byteCells_app];exact h1),h.fr.trans h2⟩,h3,h2.size⟩
end Go.Proofs.YtoeiahdjamkdgaaGreatDoor
