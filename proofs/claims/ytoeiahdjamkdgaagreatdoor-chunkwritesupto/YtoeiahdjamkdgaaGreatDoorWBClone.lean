/-
  strings.Clone answers the same bytes; nothing that was there turns.
  wire.ReadVarint, wire.Text and wire.ReadText: what they answer, by cases, for every text.
  wire.ReadText's refusals.
-/
import Derived.Lib.Strings
import Derived.Lib.BufferWrite
import Derived.Lib.UnsafeStr
import Derived.Test.YtoeiahdjamkdgaaGreatDoorWBFix
import Derived.Laws.DeepNot64
set_option maxRecDepth 100000
set_option maxHeartbeats 4000000
namespace Go.Proofs.YtoeiahdjamkdgaaGreatDoor
open Go.RowKit
theorem liteClone_any (s:ByteArray)(w:World)(hs:s.size<=281474976710656) :
    Calls Tryz.prog 188 #[.string s] w fun e w'=>e=.returned (.string s)/\Below w.heap.size w w':=by
 by_cases h0:s.size=0
 · obtain rfl:s=⟨#[]⟩:=ByteArray.ext (Array.eq_empty_of_size_eq_zero h0)
   go_enter Tryz.func188,Tryz.ntmps188
   go_wp2
   go_ret
   exact⟨rfl,Below.refl _ _⟩
 · obtain⟨i0,hi,hz0,hz1,hz2⟩:=info_parts Tryz.info5
   have hinfo:(Tryz.prog.info? 5).map (·.size)=some 1:=by rw[hi];simp[hz1]
   have hco:Tryz.prog.cellsOf 5=1:=by simp[Program.cellsOf,hi,hz1]
   obtain⟨M,hM⟩:∃M,M=madeCells (Value.int .u8 0).cells (((s.size:Nat):Int).toNat*i0.size):=⟨_,rfl⟩
   have hMs:M.size=s.size:=by rw[hM,size_madeCells,hz1];simp
   have hmk:∀W:World,(Instr.makeSlice 58 (.int .i64 (s.size:Int)) (.int .i64 (s.size:Int))).run Tryz.prog W=.ok (.slice (some ⟨W.heap.size,0,none⟩) s.size s.size) (W.alloc (.cells M 5)):=fun W=>by
    have h:=run_make (P:=Tryz.prog) W 58 5 i0 (.int .u8 0) Tryz.underlying58 hi hz0 .i64 .i64 (s.size:Int) (s.size:Int) (by omega) (by omega) (by rw[hz2];omega) (by omega)
    rw[←hM] at h
    simpa using h
   clear hM
   have hcp:=Lib.run_copy_row_string (P:=Tryz.prog) (w.alloc (.cells M 5)) 58 9 3 5 w.heap.size 0 s.size s.size s M 5 Tryz.underlying58 hinfo (heap_alloc_new w _) (Nat.le_refl _) (by omega)
   obtain⟨Y,hY⟩:∃Y,Y=(M.toList.take 0++Lib.byteCells s.data.toList++M.toList.drop (0+s.size)).toArray:=⟨_,rfl⟩
   rw[←hY] at hcp
   have hYl:Y.toList=Lib.byteCells s.data.toList:=by
    rw[hY,List.toList_toArray,List.take_zero,List.nil_append,List.drop_of_length_le (by rw[Array.length_toList];omega),List.append_nil]
   have hYs:Y.size=s.size:=by rw[←Array.length_toList,hYl,Lib.byteCells_length,←Lib.size_eq]
   have hgY:((w.alloc (.cells M 5)).setRow w.heap.size Y).heap[w.heap.size]? = some (.cells Y 5 (0,0)):=setRow_heap _ _ M _ 5 (0,0) (heap_alloc_new w _)
   have hne:s.data.toList≠[]:=fun e=>h0 (by rw[Lib.size_eq,e];rfl)
   have hUS:=Lib.run_unsafeString_row (P:=Tryz.prog) ((w.alloc (.cells M 5)).setRow w.heap.size Y) 82 3 9 5 Tryz.underlying82 hco w.heap.size Y.size (by unfold World.shape?;rw[hgY]) s.data.toList hne (by rw[←Lib.size_eq];omega) (by rw[←Lib.size_eq];omega)
    (fun j x hx=>Lib.cells_of_row hgY Y.size j _ (by rw[List.take_of_length_le (by rw[Array.length_toList];exact Nat.le_refl _),hYl];simp[Lib.byteCells,hx]))
   rw[←Lib.size_eq] at hUS
   clear hY
   go_enter Tryz.func188,Tryz.ntmps188
   go_wp2
   go_ret
   have hb1:Below w.heap.size w (w.alloc (.cells M 5)):=(Below.refl _ w).alloc (Nat.le_refl _) _
   have hb2:Below w.heap.size (w.alloc (.cells M 5)) ((w.alloc (.cells M 5)).setRow w.heap.size Y):=⟨rfl,rfl,rfl,by simp,fun k hk=>setRow_other _ _ _ _ (by omega)⟩
   exact⟨rfl,Lib.below_freeze (hb1.trans hb2) (p:=⟨w.heap.size,0,none⟩) (Nat.le_refl _) _⟩
theorem clone_any (s:ByteArray)(w:World)(hs:s.size<=281474976710656) :
    Calls Tryz.prog 180 #[.string s] w fun e w'=>e=.returned (.string s)/\Below w.heap.size w w':=by
 go_enter Tryz.func180,Tryz.ntmps180
 go_wp2_with (go_at_call 188;refine (liteClone_any s _ hs).mono ?_;rintro e w1 ⟨rfl,hb1⟩)
 go_ret
 exact⟨rfl,hb1⟩
theorem readU_hit (s:ByteArray)(w:World)(ev:Value)(n k:Nat)(hs:s.size<=maxLen)(hg:w.cell? ⟨2,0,none⟩=some ev)(hr:Um.rdv s.data.toList 0 0=(n,k))(hk:0<k) :
    Calls Tryz.prog 118 #[.string s] w fun e w'=>e=.returned (.tuple #[.int .u64 n,.int .i64 k,.nilIface])/\Below w.heap.size w w':=by
 refine (readUvarint_any s w ev hs hg).mono ?_
 rintro e w' ⟨rfl,hb⟩
 rw[hr]
 exact⟨by simp[errOf];omega,hb⟩
theorem readU_miss (s:ByteArray)(w:World)(ev:Value)(hs:s.size<=maxLen)(hg:w.cell? ⟨2,0,none⟩=some ev)(hr:Um.rdv s.data.toList 0 0=(0,0)) :
    Calls Tryz.prog 118 #[.string s] w fun e w'=>e=.returned (.tuple #[.int .u64 0,.int .i64 0,ev])/\Below w.heap.size w w':=by
 refine (readUvarint_any s w ev hs hg).mono ?_
 rintro e w' ⟨rfl,hb⟩
 rw[hr]
 exact⟨by simp[errOf],hb⟩
theorem and1_u64 (n:Nat)(h:n<18446744073709551616):bits .and .u64 (n:Int) 1=((n % 2:Nat):Int):=by
 have:=u64_and_nat n 1 h (by omega)
 rw[Nat.and_one_is_mod] at this
 exact this
theorem ret_v {a b:Int}{c:Int}{x:Value}(h:a=b):Ending.returned (.tuple #[.int .i64 a,.int .i64 c,x])=.returned (.tuple #[.int .i64 b,.int .i64 c,x]):=by rw[h]
theorem readV_hit (s:ByteArray)(w:World)(ev:Value)(n k:Nat)(hs:s.size<=maxLen)(hg:w.cell? ⟨2,0,none⟩=some ev)(hr:Um.rdv s.data.toList 0 0=(n,k))(hk:0<k) :
    Calls Tryz.prog 185 #[.string s] w fun e w'=>e=.returned (.tuple #[.int .i64 (unz n),.int .i64 k,.nilIface])/\Below w.heap.size w w':=by
 have hn:n<18446744073709551616:=by have:=(Um.rdv_room s.data.toList 0 0 (by simp)).1;rw[hr] at this;exact this
 have ha:=and1_u64 n hn
 have HR:Hid (Um.rdv s.data.toList 0 0=(n,k)):=hr
 clear hr
 by_cases ho:n % 2=1
 · have hd:(((n:Int) % 2) == 1)=true:=by simp;omega
   have hx:bits .xor .i64 (-1) ((n:Int) / 2)=-1-((n / 2:Nat):Int):=i64_not (n / 2) (by omega)
   go_enter Tryz.func185,Tryz.ntmps185
   go_wp2_with fail
   refine (readU_hit s _ ev n k hs hg HR.out hk).mono ?_
   rintro e w1 ⟨rfl,hb1⟩
   go_wp2
   go_ret3
   exact⟨ret_v (by unfold unz;rw[if_pos ho];omega),hb1⟩
 · have hd:(((n:Int) % 2) == 1)=false:=by simp;omega
   go_enter Tryz.func185,Tryz.ntmps185
   go_wp2_with fail
   refine (readU_hit s _ ev n k hs hg HR.out hk).mono ?_
   rintro e w1 ⟨rfl,hb1⟩
   go_wp2
   go_ret3
   exact⟨ret_v (by unfold unz;rw[if_neg ho];omega),hb1⟩
theorem readV_miss (s:ByteArray)(w:World)(t:TypeId)(x:Value)(hs:s.size<=maxLen)(hg:w.cell? ⟨2,0,none⟩=some (.iface t x))(hr:Um.rdv s.data.toList 0 0=(0,0)) :
    Calls Tryz.prog 185 #[.string s] w fun e w'=>e=.returned (.tuple #[.int .i64 0,.int .i64 0,.iface t x])/\Below w.heap.size w w':=by
 have HR:Hid (Um.rdv s.data.toList 0 0=(0,0)):=hr
 clear hr
 go_enter Tryz.func185,Tryz.ntmps185
 go_wp2_with fail
 refine (readU_miss s _ (.iface t x) hs hg HR.out).mono ?_
 rintro e w1 ⟨rfl,hb1⟩
 go_wp2
 go_ret3
 exact⟨rfl,hb1⟩
theorem text_any (s:ByteArray)(w:World)(hs:s.size<=140737488351232) :
    Calls Tryz.prog 63 #[.string s] w fun e w'=>e=.returned (.string (⟨(Um.uv s.size).toArray⟩++s))/\Below w.heap.size w w':=by
 have hl:=Um.uv_ten (n:=s.size) (by omega)
 go_enter Tryz.func63,Tryz.ntmps63
 go_wp2_with fail
 refine (uvarint_any s.size _ (by omega)).mono ?_
 rintro e w1 ⟨rfl,hb1⟩
 go_wp2
 go_ret
 exact⟨rfl,hb1⟩
theorem readT_hit (s:ByteArray)(w:World)(ev:Value)(n k:Nat)(hs:s.size<=140737488351232)(hg:w.cell? ⟨2,0,none⟩=some ev)(hr:Um.rdv s.data.toList 0 0=(n,k))(hk:0<k)(hn:n<=200000)(hf:k+n<=s.size) :
    Calls Tryz.prog 170 #[.string s] w fun e w'=>e=.returned (.tuple #[.string (s.extract k (k+n)),.int .i64 ((k:Int)+n),.nilIface])/\Below w.heap.size w w':=by
 have HR:Hid (Um.rdv s.data.toList 0 0=(n,k)):=hr
 clear hr
 have hd1:decide (200000<(n:Int))=false:=by simp;omega
 have hd2:decide ((s.size:Int)-(k:Int)<(n:Int))=false:=by simp;omega
 have hsz:(s.extract k (k+n)).size<=281474976710656:=by rw[ByteArray.size_extract];omega
 go_enter Tryz.func170,Tryz.ntmps170
 go_wp2_with fail
 refine (readU_hit s _ ev n k (by unfold maxLen;omega) hg HR.out hk).mono ?_
 rintro e w1 ⟨rfl,hb1⟩
 go_wp2_with fail
 refine (clone_any _ _ hsz).mono ?_
 rintro e w2 ⟨rfl,hb2⟩
 go_wp2
 go_ret3
 exact⟨rfl,hb1.trans (hb2.mono hb1.size)⟩
theorem readT_none (s:ByteArray)(w:World)(t:TypeId)(x:Value)(hs:s.size<=maxLen)(hg:w.cell? ⟨2,0,none⟩=some (.iface t x))(hr:Um.rdv s.data.toList 0 0=(0,0)) :
    Calls Tryz.prog 170 #[.string s] w fun e w'=>e=.returned (.tuple #[.string ⟨#[]⟩,.int .i64 0,.iface t x])/\Below w.heap.size w w':=by
 have HR:Hid (Um.rdv s.data.toList 0 0=(0,0)):=hr
 clear hr
 go_enter Tryz.func170,Tryz.ntmps170
 go_wp2_with fail
 refine (readU_miss s _ (.iface t x) hs hg HR.out).mono ?_
 rintro e w1 ⟨rfl,hb1⟩
 go_wp2
 go_ret3
 exact⟨rfl,hb1⟩
theorem readT_long (s:ByteArray)(w:World)(ev:Value)(n k:Nat)(hs:s.size<=1000000)(hg:w.cell? ⟨2,0,none⟩=some ev)(hr:Um.rdv s.data.toList 0 0=(n,k))(hk:0<k)(hf:s.size<k+n\/200000<n) :
    Calls Tryz.prog 170 #[.string s] w fun e w'=>e=.returned (.tuple #[.string ⟨#[]⟩,.int .i64 0,ev])/\Below w.heap.size w w':=by
 have hm:s.size<=maxLen:=by unfold maxLen;omega
 have hk10:k<=10:=by have:=(Um.rdv_room s.data.toList 0 0 (by simp)).2.1;rw[hr] at this;exact this
 have hkl:k<=s.size:=by have:=(Um.rdv_room s.data.toList 0 0 (by simp)).2.2;rw[hr] at this;simpa using this
 have HR:Hid (Um.rdv s.data.toList 0 0=(n,k)):=hr
 clear hr
 by_cases hn:n<=200000
 · have hd1:decide (200000<(n:Int))=false:=by simp;omega
   have hd2:decide ((s.size:Int)-(k:Int)<(n:Int))=true:=by simp;omega
   go_enter Tryz.func170,Tryz.ntmps170
   go_wp2_with fail
   refine (readU_hit s _ ev n k hm hg HR.out hk).mono ?_
   rintro e w1 ⟨rfl,hb1⟩
   have hg1:=(hb1.cell (World.block_lt_of_cell? w _ hg)).trans hg
   go_wp2
   go_region
   all_goals (try go_wp2)
   all_goals go_ret3
   all_goals exact⟨rfl,hb1.drew⟩
 · have hd1:decide (200000<(n:Int))=true:=by simp;omega
   go_enter Tryz.func170,Tryz.ntmps170
   go_wp2_with fail
   refine (readU_hit s _ ev n k hm hg HR.out hk).mono ?_
   rintro e w1 ⟨rfl,hb1⟩
   have hg1:=(hb1.cell (World.block_lt_of_cell? w _ hg)).trans hg
   go_wp2
   go_region
   all_goals (try go_wp2)
   all_goals go_ret3
   all_goals exact⟨rfl,hb1.drew⟩
end Go.Proofs.YtoeiahdjamkdgaaGreatDoor
