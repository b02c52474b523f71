/-
  A row of bytes of the call's own: kept, appended to, turned into a text.
  enc.sizeOf and enc.plainNumbers: the bytes of numbers.
-/
import Derived.Lib.AppendStr
import Derived.OwnWalk
import Derived.OneCell
import Derived.Test.YtoeiahdjamkdgaaGreatDoorWBVal
import Derived.Laws.MakeOwn
set_option maxRecDepth 100000
set_option maxHeartbeats 1600000
namespace Go.Proofs.YtoeiahdjamkdgaaGreatDoor
open Go.RowKit
theorem ow_kept {w w':World}{base e size n:Nat}{v:Value}{xs:List Value}(h:w.ownsRow base e size v n xs)(hb:Below w.heap.size w w'):w'.ownsRow base e size v n xs:=by
 refine⟨h.1,?_⟩
 rcases h.2 with hn|⟨g,cap,cur,rfl,hbg,hgg,rest⟩
 · exact .inl hn
 · exact .inr ⟨g,cap,cur,rfl,hbg,(hb.block g (Array.getElem?_eq_some_iff.1 hgg).1).trans hgg,rest⟩
theorem ow_strCells' (s:ByteArray):Lib.strCells s=cellsOf s.data.toList:=by simp[Lib.strCells,cellsOf]
theorem ow_app (l m:List UInt8):cellsOf (l++m)=cellsOf l++cellsOf m:=by simp[cellsOf]
theorem ow_str {w:World}{B:Nat}{v:Value}{l:List UInt8}{s:ByteArray}(h:w.ownsRow B 5 1 v (l.length+s.size) (cellsOf l++Lib.strCells s)):w.ownsRow B 5 1 v (l++s.data.toList).length (cellsOf (l++s.data.toList)):=by
 rw[ow_strCells',←ow_app] at h
 have e:l.length+s.size=(l++s.data.toList).length:=by rw[List.length_append,Array.length_toList];rfl
 rw[e] at h
 exact h
theorem ow_conv {w:World}{base n:Nat}{v:Value}{l:List UInt8}(hl:l.length=n)(h:w.ownsRow base 5 1 v n (cellsOf l)):(convert 58 9 v).run Tryz.prog w=.ok (.string ⟨l.toArray⟩) w:=by
 rcases h.2 with ⟨rfl,hn⟩|⟨g,cap,cur,rfl,_,_⟩
 · obtain rfl:l=[]:=List.eq_nil_of_length_eq_zero (by omega)
   rfl
 · subst hl
   exact run_convert_bytes_back w 58 9 5 ⟨g,0,none⟩ cap l Tryz.underlying58 Tryz.underlying5 Tryz.underlying9 (fun j hj=>h.cells rfl j _ (by simp[cellsOf,hj]))
theorem below_grown {B:Nat}{w wr w1:World}{v:Value}{e n:Nat}{xs:List Value}(hb:Below B w wr)(hB:B<=w.heap.size)(hown:wr.ownsRow B e 1 v n xs)(hg:wr.grownBy w1 v.ownBlock):Below B w w1 :=
 hb.grown hg (by have:=hb.size;omega) (fun k hk=>(hown.lt k hk).1)
theorem ow_apart {w:World}{B n g e:Nat}{v:Value}{xs:List Value}{cs:Array Value}{z:Nat × Nat}(hown:w.ownsRow B 5 1 v n xs)(h:w.heap[g]? = some (.cells cs e z))(hne:e≠5):v.ownBlock≠some g:=by
 rcases hown.2 with ⟨rfl,_⟩|⟨g1,_,cur1,rfl,_,hg1,_⟩
 · simp[Value.ownBlock]
 · intro he
   simp[Value.ownBlock] at he
   subst he
   rw[hg1] at h
   injection h with h
   injection h with _ h _
   exact hne h.symm
theorem ow_block {w w':World}{B n g e:Nat}{v:Value}{xs:List Value}{cs:Array Value}{z:Nat × Nat}(hown:w.ownsRow B 5 1 v n xs)(h:w.heap[g]? = some (.cells cs e z))(hne:e≠5)(hg:w.grownBy w' v.ownBlock):w'.heap[g]? = some (.cells cs e z) :=
 (hg.block g (lt_of_block h) (fun e=>ow_apart hown h hne e.symm)).trans h
theorem blk_alloc {w:World}{g:Nat}{o o':Obj}(h:w.heap[g]? = some o):(w.alloc o').heap[g]? = some o:=((Below.refl w.heap.size w).alloc (Nat.le_refl _) o').block g (lt_of_block h) |>.trans h
theorem blk_keep {w w':World}{g:Nat}{o:Obj}(hb:Below w.heap.size w w')(h:w.heap[g]? = some o):w'.heap[g]? = some o:=(hb.block g (lt_of_block h)).trans h
theorem row_three {w:World}{g e:Nat}{x y z:Value}(h:w.heap[g]? = some (.cells #[x,y,z] e (0,0))):w.cell? ⟨g,0,none⟩=some x/\w.cell? ⟨g,1,none⟩=some y/\w.cell? ⟨g,2,none⟩=some z :=
 ⟨by rw[cell_of_row _ g 0 _ e (0,0) h];rfl,by rw[cell_of_row _ g 1 _ e (0,0) h];rfl,by rw[cell_of_row _ g 2 _ e (0,0) h];rfl⟩
def vns (vs:List Vl):List Int:=vs.map (·.n)
theorem vns_len (vs:List Vl):(vns vs).length=vs.length:=by simp[vns]
def vss (vs:List Vl):List (List UInt8):=vs.map (·.s.data.toList)
theorem vss_len (vs:List Vl):(vss vs).length=vs.length:=by simp[vss]
theorem sizeOf_int (w:World):Calls Tryz.prog 138 #[.int .i64 2] w fun e w'=>e=.returned (.int .i64 4)/\w'=w:=by
 go_enter Tryz.func138,Tryz.ntmps138
 go_wp2
 go_ret
 exact⟨rfl,rfl⟩
theorem sizeOf_long (k:Int)(w:World)(h:¬ k=2):Calls Tryz.prog 138 #[.int .i64 k] w fun e w'=>e=.returned (.int .i64 8)/\w'=w:=by
 go_enter Tryz.func138,Tryz.ntmps138
 go_wp2
 go_ret
 exact⟨rfl,rfl⟩
theorem own_num_snoc {w:World}{base e N q:Nat}{v:Value}{n:Int}{l:List UInt8}(hn:n=(Um.by_ N q:Nat))(h:w.ownsRow base e 1 v (l.length+q+1) (cellsOf (l++Um.lit N q)++[.int .u8 n])):w.ownsRow base e 1 v (l.length+(q+1)) (cellsOf (l++Um.lit N (q+1))):=by
 have hlt:=Um.by_lt N q
 rw[Um.lit_succ,←List.append_assoc,cells_snoc,Um.bt_int (by omega) (by omega),←hn];exact h
theorem plainNumbers_any (a:Option Addr)(vs:List Vl)(c sz:Nat)(w:World)(hn:vs.length<=20000)(hsz:sz<=8)(hl:LiesV w a vs)(hx:∀j (h:j<vs.length),-9223372036854775808<=vs[j].n/\vs[j].n<=9223372036854775807) :
    Calls Tryz.prog 137 #[.slice a vs.length c,.int .i64 sz] w fun e w'=>e=.returned (.string ⟨(Um.nums sz (vns vs)).toArray⟩)/\Below w.heap.size w w':=by
 obtain⟨i0,hi,hz0,hz1,hz2⟩:=info_parts Tryz.info5
 have hcap:sz*vs.length<=8*20000:=Nat.mul_le_mul hsz hn
 obtain⟨cp,HC⟩:∃cp:Nat,Hid (cp=sz*vs.length):=⟨_,rfl⟩
 have hci:(sz:Int)*(vs.length:Int)=(cp:Int):=by rw[HC.out];simp
 have hcp:cp<=160000:=by rw[HC.out];omega
 obtain⟨M,hM⟩:∃M,M=madeCells (Value.int .u8 0).cells (((cp:Nat):Int).toNat*i0.size):=⟨_,rfl⟩
 have hMs:M.size=cp:=by rw[hM,size_madeCells,hz1];simp
 have hmk:∀W:World,(Instr.makeSlice 58 (.int .i64 0) (.int .i64 (cp:Int))).run Tryz.prog W=.ok (.slice (some ⟨W.heap.size,0,none⟩) 0 cp) (W.alloc (.cells M 5)):=fun W=>by
  have h:=run_make (P:=Tryz.prog) W 58 5 i0 (.int .u8 0) Tryz.underlying58 hi hz0 .i64 .i64 0 (cp:Int) (by omega) (by omega) (by rw[hz2];omega) (by omega)
  rw[←hM] at h
  simpa using h
 have HS:Hid ((w.alloc (.cells M 5)).ownsRow w.heap.size 5 1 (.slice (some ⟨w.heap.size,0,none⟩) 0 cp) 0 (cellsOf [])):=World.ownsRow_made w M cp (Nat.le_refl _) (by unfold maxLen;omega) (by omega)
 have HL:Hid (LiesV w a vs):=hl
 have HX:Hid (∀j (h:j<vs.length),-9223372036854775808<=vs[j].n/\vs[j].n<=9223372036854775807):=hx
 clear hM hMs hl hx hcap
 go_enter Tryz.func137,Tryz.ntmps137
 go_wp2
 clear hmk
 go_loopw [5,16] (fun b x wr=>∃i:Nat,i<=vs.length/\x=.int .i64 i/\Hid (wr.ownsRow w.heap.size 5 1 b (Um.nums sz ((vns vs).take i)).length (cellsOf (Um.nums sz ((vns vs).take i))))/\Below w.heap.size w wr) (fun _ x _=>vs.length-(intOf x).toNat)
 case atStart=>exact⟨0,Nat.zero_le _,rfl,HS,(Below.refl _ _).alloc (Nat.le_refl _) _⟩
 case round =>
  obtain⟨i,hik,rfl,HO,hb⟩:=hrel
  generalize hwr0:wr=wr0 at *
  by_cases hlt:i<vs.length
  · obtain⟨b,o,rfl,hc0,hc1,hc2⟩:=(HL.out.keep hb) i hlt
    have hr:=HX.out i hlt
    have HN:Hid (Um.nums sz ((vns vs).take (i+1))=Um.nums sz ((vns vs).take i)++Um.lit (Um.u64 vs[i].n) sz):=by
     show _=_
     rw[Um.nums_take sz (vns vs) i (by rw[vns_len];exact hlt)]
     simp[vns]
    have hnl:=Um.nums_len sz ((vns vs).take i)
    have hnl2:(Um.nums sz ((vns vs).take i)).length<=8*20000:=by
     rw[hnl];refine Nat.mul_le_mul hsz ?_;rw[List.length_take];omega
    clear hnl
    generalize Um.nums sz ((vns vs).take i)=l at *
    generalize vs[i]=v at *
    obtain⟨k,n,s⟩:=v
    simp only at hc0 hc1 hc2 hr
    simp only at HN
    go_wp2
    clear hc0 hc1 hc2
    go_loopw [5,21] (fun b x wr=>∃j:Nat,j<=sz/\x=.int .i64 j/\Hid (wr.ownsRow w.heap.size 5 1 b (l.length+j) (cellsOf (l++Um.lit (Um.u64 n) j)))/\Hid (wr.heap[wr0.heap.size]? = some (.cells #[.int .i64 k,.int .i64 n,.string s] 46 (0,0)))/\Below w.heap.size w wr) (fun _ x _=>sz-(intOf x).toNat)
    case atStart =>
     refine⟨0,Nat.zero_le _,rfl,?_,heap_alloc_new wr0 _,hb.alloc hb.size _⟩
     have h0:=HO.out.alloc (.cells #[.int .i64 k,.int .i64 n,.string s] 46)
     show World.ownsRow _ _ _ _ _ _ _
     rw[show Um.lit (Um.u64 n) 0=[] from rfl,List.append_nil]
     exact h0
    case round =>
     clear HO hb hwr0
     obtain⟨j,hjz,rfl,HO,HB,hb⟩:=hrel
     obtain⟨hq0,hq1,hq2⟩:=row_three HB.out
     by_cases hj:j<sz
     · have hby:=Um.by_u64 n j (by omega)
       have hown:=HO.out
       have hll:(l++Um.lit (Um.u64 n) j).length=l.length+j:=by rw[List.length_append,Um.lit_len]
       have HQ:Hid _:=hll
       clear hll
       go_wp2_with (at_builtin;refine wpList_append_own _ rfl _ _ 58 rfl w.heap.size 5 i0 (.int .u8 0) 1 1 Tryz.underlying58 hi hz0 hz1 hz2 rfl (by decide) _ _ _ rfl (hown.alloc _) ⟨wr.heap.size,0,none⟩ 1 1 [.int .u8 (Um.by_ (Um.u64 n) j:Nat)] rfl rfl (cell_one_new _ _ _) (by intro u hu;simp at hu;subst hu;rfl) (by unfold maxLen;omega) (by omega) (by have:=hb.size;simp;omega) ?_;intro v' w1 hown' hgrow _)
       have hown2:=own_num_snoc rfl hown'
       have hb2:=below_app hb (Nat.le_refl _) hown hgrow
       have HB2:Hid (w1.heap[wr0.heap.size]? = some (.cells #[.int .i64 k,.int .i64 n,.string s] 46 (0,0))):=ow_block (hown.alloc _) (blk_alloc HB.out) (by decide) hgrow
       clear hown hown' hgrow hq0 hq1 hq2 hby
       go_wp2
       go_roundw
       case rel=>exact⟨j+1,by omega,by go_num,hown2,HB2,hb2⟩
       case measure=>simp[intOf];omega
     · obtain rfl:j=sz:=by omega
       have ho:=HO.out
       have e:l.length+j=(l++Um.lit (Um.u64 n) j).length:=by rw[List.length_append,Um.lit_len]
       rw[e,←HN.out] at ho
       clear e
       go_wp2
       go_roundw
       case rel=>exact⟨i+1,by omega,by go_num,ho,hb⟩
       case measure=>simp[intOf];omega
  · obtain rfl:i=vs.length:=by omega
    have ho:=HO.out
    rw[←vns_len,List.take_length] at ho
    have hcv:=ow_conv rfl ho
    go_wp2
    go_ret
    exact⟨rfl,hb⟩
end Go.Proofs.YtoeiahdjamkdgaaGreatDoor
