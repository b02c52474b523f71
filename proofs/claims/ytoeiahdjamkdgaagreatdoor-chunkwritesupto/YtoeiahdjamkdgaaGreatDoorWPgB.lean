/-
  page.around: a body behind its mark, its length and its sum.
-/
import Derived.Test.YtoeiahdjamkdgaaGreatDoorWSum
import Derived.Test.YtoeiahdjamkdgaaGreatDoorWBClone
import Derived.Test.YtoeiahdjamkdgaaGreatDoorWBOwn
set_option maxRecDepth 100000
set_option maxHeartbeats 1600000
namespace Go.Proofs.YtoeiahdjamkdgaaGreatDoor
open Go.RowKit
theorem Crc.rem_lt (l:List UInt8):Crc.rem l<4294967296:=Crc.xor_lt (Crc.bytes_lt l (by decide)) (by decide)
def pgB (b:List UInt8):List UInt8:=[80]++Um.uv b.length++Um.lit (Crc.rem b) 4++b
theorem blk_drw {w:World}{g:Nat}{o:Obj}(h:w.heap[g]? = some o):w.drew.heap[g]? = some o:=h
theorem conv_one {w:World}{g:Nat}{n:Int}(h:w.heap[g]? = some (.cells #[.int .u8 n] 5 (0,0))) :
    (convert 58 9 (.slice (some ⟨g,0,none⟩) 1 1)).run Tryz.prog w=.ok (.string ⟨#[Um.bt n]⟩) w:=by
 refine run_convert_bytes_arg w 58 5 Tryz.underlying58 Tryz.underlying5 g 0 1 1 [n] rfl ?_ 9 Tryz.underlying9
 intro i hi
 obtain rfl:i=0:=by omega
 simp[World.cell?,h]
theorem pgAround_any (b:List UInt8)(W:World)(hs:b.length<=300000):Calls Tryz.prog 36 #[.string ⟨b.toArray⟩] W fun e w'=>e=.returned (.tuple #[.string ⟨(pgB b).toArray⟩,.nilIface])/\Below W.heap.size W w':=by
 have hsz:(⟨b.toArray⟩:ByteArray).size=b.length:=by simp[ByteArray.size]
 have hrl:=Crc.rem_lt b
 have hul:=Um.uv_ten (n:=b.length) (by omega)
 have hll:=Um.lit_len (Crc.rem b) 4
 have hcv1:IntKind.u64.wrap (Crc.rem b:Int)=(Crc.rem b:Int):=by unfold IntKind.wrap IntKind.signed IntKind.bits;simp;omega
 have hcv2:IntKind.u64.wrap (b.length:Int)=(b.length:Int):=by unfold IntKind.wrap IntKind.signed IntKind.bits;simp;omega
 have HPg:Hid ((⟨#[80]⟩:ByteArray)++⟨(Um.uv b.length).toArray⟩++⟨(Um.lit (Crc.rem b) 4).toArray⟩++⟨b.toArray⟩=⟨(pgB b).toArray⟩):=by
  show _=_
  rw[show (⟨#[80]⟩:ByteArray)=⟨[80].toArray⟩ from rfl,arr_app,arr_app,arr_app];rfl
 have HF:Hid (∀X,Calls Tryz.prog 64 #[.int .u64 (Crc.rem b:Nat),.int .i64 4] X fun e w'=>e=.returned (.tuple #[.string ⟨(Um.lit (Crc.rem b) 4).toArray⟩,.nilIface])/\Below X.heap.size X w'):=fun X=>fixed_ok (Crc.rem b) 4 X (by omega) (by omega) (by omega) (by omega)
 have HS:Hid (∀X,Calls Tryz.prog 65 #[.string ⟨b.toArray⟩] X fun e w'=>e=.returned (.int .u32 (Crc.rem b:Nat))/\Below X.heap.size X w'):=fun X=>sum_any ⟨b.toArray⟩ X (by omega)
 generalize Crc.rem b=r at *
 obtain⟨lt,HLt⟩:∃lt,Hid ((⟨(Um.lit r 4).toArray⟩:ByteArray)=lt):=⟨_,rfl⟩
 have hlt:lt.size=4:=by rw[←HLt.out];simpa [ByteArray.size] using hll
 rw[HLt.out] at HPg HF
 obtain⟨ut,HUt⟩:∃ut,Hid ((⟨(Um.uv b.length).toArray⟩:ByteArray)=ut):=⟨_,rfl⟩
 have hut:ut.size<=10:=by rw[←HUt.out];simpa [ByteArray.size] using hul
 have HU:Hid (∀X,Below W.heap.size W X->Calls Tryz.prog 66 #[.int .u64 (b.length:Nat)] X fun e w'=>e=.returned (.string ut)/\Below W.heap.size W w'/\Below X.heap.size X w'):=fun X hX=>by rw[←HUt.out];exact (uvarint_any b.length X (by omega)).mono fun _ _ h=>⟨h.1,hX.trans (h.2.mono hX.size),h.2⟩
 rw[HUt.out] at HPg
 clear HLt HUt hrl hul hll
 generalize b.toArray=ba at *
 go_enter Tryz.func36,Tryz.ntmps36
 go_wp2_with fail
 refine Calls.mono (HS.out _) ?_
 rintro e w1 ⟨rfl,hb1⟩
 go_wp2_with fail
 refine Calls.mono (HF.out _) ?_
 rintro e w2 ⟨rfl,hb2⟩
 have HB2:Hid (Below W.heap.size W w2):=hb1.trans (hb2.mono hb1.size)
 clear hb1 hb2
 go_wp2_with fail
 have hc0:∀X:World,(convert 58 9 (.slice (some ⟨X.heap.size,0,none⟩) 1 1)).run Tryz.prog (X.alloc (.cells #[.int .u8 80] 5))=.ok (.string ⟨#[80]⟩) (X.alloc (.cells #[.int .u8 80] 5)):=fun X=>conv_one (n:=80) (heap_alloc_new X _)
 have hc1:∀X:World,(convert 58 9 (.slice (some ⟨X.heap.size,0,none⟩) 1 1)).run Tryz.prog (X.alloc (.cells #[.int .u8 80] 5)).drew=.ok (.string ⟨#[80]⟩) (X.alloc (.cells #[.int .u8 80] 5)).drew:=fun X=>conv_one (n:=80) (blk_drw (heap_alloc_new X _))
 have b0:=HB2.out
 go_region_with (go_at_call 66;(with_reducible refine Calls.mono (HU.out _ ?_) ?_);(repeat' (first|with_reducible assumption|with_reducible exact b0.drew|with_reducible exact b0|with_reducible refine Below.drew ?_|with_reducible refine Below.alloc ?_ ?_ _|with_reducible exact Below.size (by assumption)|with_reducible exact Nat.le_refl _|(simp;done)|(simp;omega)));rintro e w3 ⟨rfl,hbw,hb3⟩;(first|(have hc2:(convert 58 9 (.slice (some ⟨w2.heap.size,0,none⟩) 1 1)).run Tryz.prog w3=.ok (.string ⟨#[80]⟩) w3:=conv_one (n:=80) (blk_keep hb3 (heap_alloc_new w2 _)))|(have hc2:(convert 58 9 (.slice (some ⟨w2.heap.size,0,none⟩) 1 1)).run Tryz.prog w3=.ok (.string ⟨#[80]⟩) w3:=conv_one (n:=80) (blk_keep hb3 (blk_drw (heap_alloc_new w2 _))))|skip))
 all_goals (have HBW:Hid _:=hbw;clear hbw hb3 b0 hc0 hc1;(try clear hc2);go_wp2;go_ret2;rw[HPg.out];refine⟨rfl,?_⟩;first|exact HBW.out|exact HBW.out.alloc HBW.out.size _|exact (HBW.out.alloc HBW.out.size _).drew)
end Go.Proofs.YtoeiahdjamkdgaaGreatDoor
