/-
  wire.Sum and the reference's Remainder answer the same remainder, for every text of at most 1000000 bytes.
-/
import Derived.Test.YtoeiahdjamkdgaaGreatDoorWBBase
import Derived.Laws.CopyOwn
set_option maxRecDepth 100000
set_option maxHeartbeats 800000
namespace Go.Proofs.YtoeiahdjamkdgaaGreatDoor
open Go.RowKit
theorem xor32 (a b:Nat)(ha:a<4294967296)(hb:b<4294967296):bits .xor .u32 (a:Int) (b:Int)=((a ^^^ b:Nat):Int):=u32_xor_nat a b ha hb
theorem take_snoc (s:ByteArray)(k:Nat)(h:k<s.size):s.data.toList.take (k+1)=s.data.toList.take k++[s[k]]:=by
 rw[List.take_succ_eq_append_getElem (by simpa using h)];rfl
theorem ret_int {k:IntKind}{a b:Int}(h:a=b):Ending.returned (.int k a)=.returned (.int k b):=by rw[h]
theorem st_xor_div {c:Nat}(h:c<4294967296):bits .xor .u32 ((c:Int) / 2) 3988292384=((c / 2 ^^^ 3988292384:Nat):Int):=by
 have:=xor32 (c / 2) 3988292384 (by omega) (by omega)
 simpa using this
theorem xor_all {c:Nat}(h:c<4294967296):bits .xor .u32 (c:Int) 4294967295=((c ^^^ 4294967295:Nat):Int):=xor32 c 4294967295 h (by omega)
theorem remainder_any (s:ByteArray)(w:World)(hs:s.size<=1000000) :
    Calls Tryz.prog 49 #[.string s] w fun e w'=>e=.returned (.int .u32 (Crc.rem s.data.toList))/\w'=w:=by
 go_enter Tryz.func49,Tryz.ntmps49
 go_wp2
 go_loop [3,4] (fun c i=>∃k:Nat,k<=s.size/\i=.int .i64 k/\c=.int .u32 (Crc.bytes 4294967295 (s.data.toList.take k))) (fun _ i=>s.size-(intOf i).toNat)
 case atStart=>exact⟨0,Nat.zero_le _,rfl,rfl⟩
 case round =>
  obtain⟨k,hk,rfl,rfl⟩:=hrel
  have hc:=Crc.bytes_lt (s.data.toList.take k) (c:=4294967295) (by omega)
  generalize hg:Crc.bytes 4294967295 (s.data.toList.take k)=c at *
  have HG:Hid (Crc.bytes 4294967295 (s.data.toList.take k)=c):=hg
  clear hg
  by_cases hlt:k<s.size
  · have hb8:s[k].toNat<256:=s[k].toNat_lt
    have hx:=xor32 c (s[k]).toNat hc (by omega)
    have hc0:=Crc.xor_lt hc (show s[k].toNat<4294967296 by omega)
    have HN:Hid (Crc.bytes 4294967295 (s.data.toList.take (k+1))=Crc.stn 8 (c ^^^ s[k].toNat)):=by
     show _=_
     rw[take_snoc s k hlt,Crc.bytes_snoc,HG.out];rfl
    go_wp2
    generalize hc0e:c ^^^ s[k].toNat=c0 at *
    clear hc0e hx
    go_loop [3,5] (fun c i=>∃j:Nat,j<=8/\i=.int .i64 j/\c=.int .u32 (Crc.stn j c0)) (fun _ i=>8-(intOf i).toNat)
    case atStart=>exact⟨0,Nat.zero_le _,rfl,rfl⟩
    case round =>
     obtain⟨j,hj,rfl,rfl⟩:=hrel
     have hd:=Crc.stn_lt j hc0
     have HS:Hid (Crc.stn (j+1) c0=Crc.st (Crc.stn j c0)):=rfl
     generalize hde:Crc.stn j c0=d at *
     have HD:Hid (Crc.stn j c0=d):=hde
     clear hde
     by_cases hjl:j<8
     · have hx:=st_xor_div hd
       by_cases ho:d % 2=1
       · have ho':((d:Int) % 2 == 1)=true:=by simp;omega
         go_wp2
         go_round
         case rel=>exact⟨j+1,by omega,by go_num,by rw[HS.out];unfold Crc.st;rw[if_pos ho]⟩
         case measure=>simp[intOf];omega
       · have ho':((d:Int) % 2 == 1)=false:=by simp;omega
         go_wp2
         go_round
         case rel=>exact⟨j+1,by omega,by go_num,by rw[HS.out];unfold Crc.st;rw[if_neg ho];go_num⟩
         case measure=>simp[intOf];omega
     · go_wp2
       go_round
       case rel=>exact⟨k+1,by omega,by go_num,by rw[HN.out,←HD.out,show j=8 by omega]⟩
       case measure=>simp[intOf];omega
  · have hx:=xor_all hc
    have HF:Hid (Crc.rem s.data.toList=c ^^^ 4294967295):=by
     show _=_
     rw[←HG.out,List.take_of_length_le (by simp;omega)];rfl
    go_wp2
    go_ret
    exact⟨ret_int (by rw[HF.out]),rfl⟩
def zz:Array Value:=#[.int .u32 0,.int .u32 0,.int .u32 0,.int .u32 0,.int .u32 0,.int .u32 0,.int .u32 0,.int .u32 0,.int .u32 0,.int .u32 0,.int .u32 0,.int .u32 0,.int .u32 0,.int .u32 0,.int .u32 0,.int .u32 0]
def tab (k:Nat):Array Value:=Array.ofFn (n:=16) fun j=>.int .u32 (if j.val<k then (Crc.stn 4 j.val:Int) else 0)
theorem tab_size (k:Nat):(tab k).size=16:=by simp[tab]
theorem tab_get (k j:Nat)(h:j<16):(tab k)[j]? = some (.int .u32 (if j<k then (Crc.stn 4 j:Int) else 0)):=by simp[tab,h]
theorem tab_set (k:Nat)(h:k<16):(tab k).setIfInBounds k (.int .u32 (Crc.stn 4 k:Int))=tab (k+1):=by
 apply Array.ext
 · simp[tab]
 · intro i h1 h2
   have hi16:i<16:=by rw[tab_size] at h2;exact h2
   have e1:=tab_get k i hi16
   have e2:=tab_get (k+1) i hi16
   apply Option.some.inj
   rw[←Array.getElem?_eq_getElem h1,←Array.getElem?_eq_getElem h2,Array.getElem?_setIfInBounds,e2]
   by_cases hi:k=i
   · subst hi;simp[tab_size,h]
   · have:i<k ↔ i<k+1:=by omega
     rw[if_neg hi,e1]
     simp[this]
theorem tab_one (k:Nat):(tab k).all (·.oneCell')=true:=by
 rw[Array.all_eq_true]
 intro i h
 simp[tab,Value.oneCell']
theorem and1 (c:Nat)(h:c<4294967296):bits .and .u32 (c:Int) 1=(c:Int) % 2:=by
 have:=u32_and_nat c 1 h (by omega)
 simpa [Nat.and_one_is_mod] using this
theorem remainders_any (w:World) :
    Calls Tryz.prog 110 #[] w fun e w'=>e=.returned (.agg (tab 16))/\Below w.heap.size w w':=by
 go_enter Tryz.func110,Tryz.ntmps110
 go_wp2
 go_loopw [5] (fun i wr=>∃k:Nat,k<=16/\i=.int .i64 k/\Hid (wr=(w.alloc (.cells zz 158)).alloc (.cells (tab k) 158))) (fun i _=>16-(intOf i).toNat)
 case atStart=>exact⟨0,by omega,rfl,rfl⟩
 case round =>
  obtain⟨k,hk,rfl,HW⟩:=hrel
  obtain rfl:=HW.out
  by_cases hlt:k<16
  · go_wp2
    go_loop [3,10] (fun c i=>∃j:Nat,j<=4/\i=.int .i64 j/\c=.int .u32 (Crc.stn j k)) (fun _ i=>4-(intOf i).toNat)
    case atStart=>exact⟨0,Nat.zero_le _,rfl,rfl⟩
    case round =>
     obtain⟨j,hj,rfl,rfl⟩:=hrel
     have hd:=Crc.stn_lt j (show k<4294967296 by omega)
     have HS:Hid (Crc.stn (j+1) k=Crc.st (Crc.stn j k)):=rfl
     generalize hde:Crc.stn j k=d at *
     have HD:Hid (Crc.stn j k=d):=hde
     clear hde
     by_cases hjl:j<4
     · have hx:=st_xor_div hd
       have ha:=and1 d hd
       by_cases ho:d % 2=1
       · have ho':((d:Int) % 2 == 1)=true:=by simp;omega
         go_wp2
         go_round
         case rel=>exact⟨j+1,by omega,by go_num,by rw[HS.out];unfold Crc.st;rw[if_pos ho]⟩
         case measure=>simp[intOf];omega
       · have ho':((d:Int) % 2 == 1)=false:=by simp;omega
         go_wp2
         go_round
         case rel=>exact⟨j+1,by omega,by go_num,by rw[HS.out];unfold Crc.st;rw[if_neg ho];go_num⟩
         case measure=>simp[intOf];omega
     · have hgt:=tab_get k k hlt
       go_wp2
       go_roundw
       case rel=>exact⟨k+1,by omega,by go_num,by show _=_;rw[←HD.out,show j=4 by omega,tab_set k hlt]⟩
       case measure=>simp[intOf];omega
  · obtain rfl:k=16:=by omega
    have hA:=heap_alloc2_old w (.cells zz 158) (.cells (tab 16) 158)
    have hB:=heap_alloc2_new w (.cells zz 158) (.cells (tab 16) 158)
    go_wp2_with (first|(refine wpList_load_row rfl 158 (.tmp 1) rfl (w.heap.size+1) rfl 158 (tab 16) (0,0) _ hB Tryz.underlying158 rfl (by kernel_rfl) ?_)|(refine wpList_store_row rfl 158 (.tmp 0) (.tmp 25) rfl w.heap.size (tab 16) rfl rfl 158 zz hA (by kernel_rfl) rfl (tab_one 16) ?_))
    exact bodyPost_ret (v:=.agg (tab 16)) (results_cell_row Tryz.results110 _ _ w.heap.size 158 (tab 16) (0,0) _ rfl (setRow_heap _ _ _ _ _ _ hA) Tryz.underlying158 rfl (by kernel_rfl)) rfl
     ⟨rfl,below_setRow (((Below.refl _ _).alloc (Nat.le_refl _) _).alloc (by simp) _) (Nat.le_refl _) _⟩
theorem flip_all {c:Nat}(h:c<4294967296):bits .xor .u32 IntKind.u32.max (c:Int)=((c ^^^ 4294967295:Nat):Int):=by
 have:=xor32 4294967295 c (by omega) h
 rw[Nat.xor_comm] at this
 exact this
theorem and15 (c:Nat)(h:c<4294967296):bits .and .u32 (c:Int) 15=((c % 16:Nat):Int):=by
 have:=u32_and_nat c 15 h (by omega)
 rw[show (15:Nat)=2 ^ 4-1 by rfl,Nat.and_two_pow_sub_one_eq_mod] at this
 exact this
theorem xor_four (c:Nat)(h:c<4294967296):bits .xor .u32 ((c:Int) / 16) ((Crc.stn 4 (c % 16):Nat):Int)=((Crc.stn 4 c:Nat):Int):=by
 have:=xor32 (c / 16) (Crc.stn 4 (c % 16)) (by omega) (Crc.stn_lt 4 (by omega))
 rw[←Crc.four] at this
 exact this
theorem wpList_store_new {P:Program}{ops:Array Oper}{rest:List Oper}{o:Oper}{a:Act}{w w0:World}{B:Nat}{Q:Exit->Act->World->Prop}(hgd:o.guard=none)(ty:TypeId)(x y:Operand)(ho:o.op=.store ty x y)
    (g:Nat) (cells:Array Value) (hx:a.eval x=.pointer (some ⟨g,0,none⟩)) (hy:a.eval y=.agg cells)
    (t:TypeId) (old:Array Value) (hg:w.heap[g]? = some (.cells old t (0,0))) (hi:(P.info? ty).map (·.size)=some cells.size)
    (hold:old.size=cells.size) (h1:cells.all (·.oneCell')=true) (hb:Below B w0 w) (hB:B<=g)
    (h:∀W:World,W.heap[g]? = some (.cells cells t (0,0))->Below B w0 W->wpList P ops Q rest (a.put o.dst undef) W):wpList P ops Q (o :: rest) a w :=
 wpList_store_row hgd ty x y ho g cells hx hy t old hg hi hold h1 (h _ (setRow_heap _ _ _ _ _ _ hg) (below_setRow hb hB _))
theorem sum_any (s:ByteArray)(w:World)(hs:s.size<=1000000) :
    Calls Tryz.prog 65 #[.string s] w fun e w'=>e=.returned (.int .u32 (Crc.rem s.data.toList))/\Below w.heap.size w w':=by
 go_enter Tryz.func65,Tryz.ntmps65
 go_wp2_with (first|(go_at_call 110;refine (remainders_any _).mono ?_;rintro e w1 ⟨rfl,hb1⟩)|(refine wpList_store_new rfl 158 (.tmp 3) (.tmp 6) rfl w1.heap.size (tab 16) rfl rfl 158 zz (heap_alloc_new w1 _) (by kernel_rfl) rfl (tab_one 16) (hb1.alloc hb1.size _) hb1.size ?_;intro W hT hb2))
 have hC:∀c:Nat,W.cell? ⟨w1.heap.size,c % 16,none⟩=some (.int .u32 (Crc.stn 4 (c % 16):Nat)):=fun c=>by
  rw[cell_of_row W w1.heap.size (c % 16) (tab 16) 158 (0,0) hT,tab_get 16 (c % 16) (by omega),if_pos (by omega)]
 clear hT
 go_loop [4,9] (fun c i=>∃k:Nat,k<=s.size/\i=.int .i64 k/\c=.int .u32 (Crc.bytes 4294967295 (s.data.toList.take k))) (fun _ i=>s.size-(intOf i).toNat)
 case atStart=>exact⟨0,Nat.zero_le _,rfl,rfl⟩
 case round =>
  obtain⟨k,hk,rfl,rfl⟩:=hrel
  have hc:=Crc.bytes_lt (s.data.toList.take k) (c:=4294967295) (by omega)
  generalize hg:Crc.bytes 4294967295 (s.data.toList.take k)=c at *
  have HG:Hid (Crc.bytes 4294967295 (s.data.toList.take k)=c):=hg
  clear hg
  by_cases hlt:k<s.size
  · have hb8:s[k].toNat<256:=s[k].toNat_lt
    have hx:=xor32 c (s[k]).toNat hc (by omega)
    have hc0:=Crc.xor_lt hc (show s[k].toNat<4294967296 by omega)
    have HN:Hid (Crc.bytes 4294967295 (s.data.toList.take (k+1))=Crc.stn 4 (Crc.stn 4 (c ^^^ s[k].toNat))):=by
     show _=_
     rw[take_snoc s k hlt,Crc.bytes_snoc,HG.out,Crc.byte_four]
    have ha:=and15 _ hc0
    have hf:=xor_four _ hc0
    have hl:=hC (c ^^^ s[k].toNat)
    have hc1:=Crc.stn_lt 4 hc0
    have ha2:=and15 _ hc1
    have hf2:=xor_four _ hc1
    have hl2:=hC (Crc.stn 4 (c ^^^ s[k].toNat))
    clear hC
    go_wp2
    go_round
    case rel=>exact⟨k+1,by omega,by go_num,by rw[HN.out]⟩
    case measure=>simp[intOf];omega
  · have hx:=flip_all hc
    have HF:Hid (Crc.rem s.data.toList=c ^^^ 4294967295):=by
     show _=_
     rw[←HG.out,List.take_of_length_le (by simp;omega)];rfl
    go_wp2
    go_ret
    exact⟨ret_int (by rw[HF.out]),hb2⟩
end Go.Proofs.YtoeiahdjamkdgaaGreatDoor
