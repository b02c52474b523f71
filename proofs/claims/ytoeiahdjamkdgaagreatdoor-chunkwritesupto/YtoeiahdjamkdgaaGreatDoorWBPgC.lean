/-
  stats.Text of stats whose values are right ones.
  page.checkLeaf: whether a leaf is one.
-/
import Derived.Test.YtoeiahdjamkdgaaGreatDoorWPgB
import Derived.Test.YtoeiahdjamkdgaaGreatDoorWBStBase
import Derived.Test.YtoeiahdjamkdgaaGreatDoorWBMapV
set_option maxRecDepth 100000
set_option maxHeartbeats 6400000
namespace Go.Proofs.YtoeiahdjamkdgaaGreatDoor
open Go.RowKit
def stV (s:St):List UInt8:=if s.h=true then [1,Um.bt s.mn.k]++Um.txt (plainB s.mn.k [s.mn])++Um.txt (plainB s.mn.k [s.mx]) else [0]
def stTx (s:St):List UInt8:=Um.uv s.e.toNat++Um.uv s.u.toNat++stV s
structure St.Fit (s:St):Prop where
 k1:1<=s.mn.k
 k5:s.mn.k<=5
 ok:s.mn.Ok s.mn.k
 ok2:s.mx.Ok s.mn.k
 in1:s.mn.In
 in2:s.mx.In
theorem boxed1 (W:World)(c1:Array Value)(t1:TypeId):∃w0,Hid (W.alloc (.cells c1 t1)=w0)/\Hid (w0.heap[W.heap.size]? = some (.cells c1 t1 (0,0)))/\Hid (Below W.heap.size W w0):=⟨_,rfl,heap_alloc_new W _,(Below.refl _ _).alloc (Nat.le_refl _) _⟩
theorem liesV_one {X:World}{g:Nat}{v:Vl}{t:TypeId}(h:X.heap[g]? = some (.cells #[.int .i64 v.k,.int .i64 v.n,.string v.s] t (0,0))):LiesV X (some ⟨g,0,none⟩) [v]:=fun j hj=>by
 obtain rfl:j=0:=by simp at hj;exact hj
 obtain⟨h0,h1,h2⟩:=row_three h
 exact⟨g,0,rfl,h0,h1,h2⟩
theorem conv_two {w:World}{g:Nat}{n m:Int}(h:w.heap[g]? = some (.cells #[.int .u8 n,.int .u8 m] 5 (0,0))) :
    (convert 58 9 (.slice (some ⟨g,0,none⟩) 2 2)).run Tryz.prog w=.ok (.string ⟨#[Um.bt n,Um.bt m]⟩) w:=by
 refine run_convert_bytes_arg w 58 5 Tryz.underlying58 Tryz.underlying5 g 0 2 2 [n,m] rfl ?_ 9 Tryz.underlying9
 intro i hi
 have:i=0\/i=1:=by omega
 rcases this with rfl|rfl<;>simp[World.cell?,h]
theorem valuesText_none (s:St)(hh:s.h=false)(W:World):Calls Tryz.prog 108 #[s.val] W fun e w'=>e=.returned (.string ⟨(stV s).toArray⟩)/\Below W.heap.size W w':=by
 have HT:Hid (stV s=[0]):=by show _=_;unfold stV;rw[if_neg (by rw[hh];simp)]
 obtain⟨w0,HW0,HX,HB⟩:=boxed1 W s.cs 51
 have hst:=(st_row HX.out).1
 rw[hh] at hst
 obtain⟨s0,s1,s2,s3,s4,s5,s6,s7,s8⟩:=hst
 have hc0:∀X:World,(convert 58 9 (.slice (some ⟨X.heap.size,0,none⟩) 1 1)).run Tryz.prog (X.alloc (.cells #[.int .u8 0] 5))=.ok (.string ⟨#[0]⟩) (X.alloc (.cells #[.int .u8 0] 5)):=fun X=>conv_one (n:=0) (heap_alloc_new X _)
 unfold St.val
 unfold St.cs at HW0 HX ⊢
 rw[hh] at HW0 ⊢
 go_enter Tryz.func108,Tryz.ntmps108
 go_upto_region 1 with fail
 rw[HW0.out]
 go_upto_region 2 with fail
 obtain⟨w1,HW1⟩:∃w1,Hid (w0.alloc (.cells #[.int .u8 0] 5)=w1):=⟨_,rfl⟩
 have b1:Below w0.heap.size w0 w1:=by rw[←HW1.out];exact (Below.refl _ _).alloc (Nat.le_refl _) _
 rw[HW1.out]
 have HB1:Hid _:=b1
 clear hc0 HW1
 replace s2:=(b1.cell (World.block_lt_of_cell? _ _ s2)).trans s2
 clear b1 s0 s1 s3 s4 s5 s6 s7 s8
 go_wp2
 go_ret
 rw[HT.out]
 exact⟨rfl,HB.out.trans (HB1.out.mono HB.out.size)⟩
theorem valuesText_some (s:St)(hh:s.h=true)(hf:s.Fit)(W:World)(kt st:TypeId)(kp sp:Value)(hgk:W.cell? ⟨3,0,none⟩=some (.iface kt kp))(hgs:W.cell? ⟨0,0,none⟩=some (.iface st sp)):Calls Tryz.prog 108 #[s.val] W fun e w'=>e=.returned (.string ⟨(stV s).toArray⟩)/\Below W.heap.size W w':=by
 have HK:Hid (1<=s.mn.k/\s.mn.k<=5):=⟨hf.k1,hf.k5⟩
 obtain⟨w0,HW0,HX,HB⟩:=boxed1 W s.cs 51
 have HGK:Hid (∀X,Below w0.heap.size w0 X->X.cell? ⟨3,0,none⟩=some (.iface kt kp)):=fun X hX=>((HB.out.trans (hX.mono HB.out.size)).cell (World.block_lt_of_cell? W _ hgk)).trans hgk
 have HGS:Hid (∀X,Below w0.heap.size w0 X->X.cell? ⟨0,0,none⟩=some (.iface st sp)):=fun X hX=>((HB.out.trans (hX.mono HB.out.size)).cell (World.block_lt_of_cell? W _ hgs)).trans hgs
 have HN:Hid (∀X,Below w0.heap.size w0 X->(X.cell? ⟨W.heap.size,0,none⟩=some (.int .i64 s.e)/\X.cell? ⟨W.heap.size,1,none⟩=some (.int .i64 s.u)/\X.cell? ⟨W.heap.size,2,none⟩=some (.bool true)/\X.cell? ⟨W.heap.size,3,none⟩=some (.int .i64 s.mn.k)/\X.cell? ⟨W.heap.size,4,none⟩=some (.int .i64 s.mn.n)/\X.cell? ⟨W.heap.size,5,none⟩=some (.string s.mn.s)/\X.cell? ⟨W.heap.size,6,none⟩=some (.int .i64 s.mx.k)/\X.cell? ⟨W.heap.size,7,none⟩=some (.int .i64 s.mx.n)/\X.cell? ⟨W.heap.size,8,none⟩=some (.string s.mx.s))/\Below w0.heap.size w0 X):=fun X hX=>(by
  have h:=(st_row (blk_keep hX HX.out)).1
  rw[hh] at h
  exact⟨h,hX⟩)
 have HKd:Hid (∀X,Below w0.heap.size w0 X->Calls Tryz.prog 145 #[.agg #[.int .i64 s.e,.int .i64 s.u,.bool true,.int .i64 s.mn.k,.int .i64 s.mn.n,.string s.mn.s,.int .i64 s.mx.k,.int .i64 s.mx.n,.string s.mx.s]] X fun e w'=>e=.returned (.int .i64 s.mn.k)/\Below w0.heap.size w0 w'/\Below X.heap.size X w'):=fun X hX=>(by
  have h:=kindS_any s X
  unfold St.val St.cs at h
  rw[hh] at h
  exact h.mono fun _ _ h=>⟨h.1,hX.trans (h.2.mono hX.size),h.2⟩)
 obtain⟨pmn,HPN⟩:∃p,Hid ((⟨(plainB s.mn.k [s.mn]).toArray⟩:ByteArray)=p):=⟨_,rfl⟩
 obtain⟨pmx,HPX⟩:∃p,Hid ((⟨(plainB s.mn.k [s.mx]).toArray⟩:ByteArray)=p):=⟨_,rfl⟩
 have hzn:pmn.size<=118:=by
  have h:=plainB_len (kd:=s.mn.k) (vs:=[s.mn]) ⟨⟨hf.k1,hf.k5⟩,fun v hv=>by rw[List.mem_singleton] at hv;subst hv;exact⟨hf.ok,hf.in1⟩⟩
  rw[←HPN.out];simpa [ByteArray.size] using h
 have hzx:pmx.size<=118:=by
  have h:=plainB_len (kd:=s.mn.k) (vs:=[s.mx]) ⟨⟨hf.k1,hf.k5⟩,fun v hv=>by rw[List.mem_singleton] at hv;subst hv;exact⟨hf.ok2,hf.in2⟩⟩
  rw[←HPX.out];simpa [ByteArray.size] using h
 have HPmn:Hid (∀X g,Below w0.heap.size w0 X->X.heap[g]? = some (.cells #[.int .i64 s.mn.k,.int .i64 s.mn.n,.string s.mn.s] 46 (0,0))->Calls Tryz.prog 100 #[.int .i64 s.mn.k,.slice (some ⟨g,0,none⟩) 1 1] X fun e w'=>e=.returned (.tuple #[.string pmn,.nilIface])/\Below w0.heap.size w0 w'):=fun X g hX hg=>(by
  rw[←HPN.out]
  exact (plain_right (some ⟨g,0,none⟩) [s.mn] 1 s.mn.k X kt st kp sp (HGK.out X hX) (HGS.out X hX) (by simp) hf.k1 hf.k5 (liesV_one hg) (fun j h=>by obtain rfl:j=0:=(by simp at h;exact h);exact hf.ok) (fun j h=>by obtain rfl:j=0:=(by simp at h;exact h);exact hf.in1.2.1)).mono fun _ _ h=>⟨h.1,hX.trans (h.2.mono hX.size)⟩)
 have HPmx:Hid (∀X g,Below w0.heap.size w0 X->X.heap[g]? = some (.cells #[.int .i64 s.mx.k,.int .i64 s.mx.n,.string s.mx.s] 46 (0,0))->Calls Tryz.prog 100 #[.int .i64 s.mn.k,.slice (some ⟨g,0,none⟩) 1 1] X fun e w'=>e=.returned (.tuple #[.string pmx,.nilIface])/\Below w0.heap.size w0 w'):=fun X g hX hg=>(by
  rw[←HPX.out]
  exact (plain_right (some ⟨g,0,none⟩) [s.mx] 1 s.mn.k X kt st kp sp (HGK.out X hX) (HGS.out X hX) (by simp) hf.k1 hf.k5 (liesV_one hg) (fun j h=>by obtain rfl:j=0:=(by simp at h;exact h);exact hf.ok2) (fun j h=>by obtain rfl:j=0:=(by simp at h;exact h);exact hf.in2.2.1)).mono fun _ _ h=>⟨h.1,hX.trans (h.2.mono hX.size)⟩)
 have HTx:Hid (∀p:ByteArray,p.size<=118->∃t:ByteArray,(⟨(Um.uv p.size).toArray⟩:ByteArray)++p=t/\t.size<=128/\∀X,Below w0.heap.size w0 X->Calls Tryz.prog 63 #[.string p] X fun e w'=>e=.returned (.string t)/\Below w0.heap.size w0 w'/\Below X.heap.size X w'):=fun p hp=>⟨_,rfl,by have:=Um.uv_ten (n:=p.size) (by omega);rw[ByteArray.size_append];show (Um.uv p.size).toArray.size+p.size<=128;rw[List.size_toArray];omega,fun X hX=>(text_any p X (by omega)).mono fun _ _ h=>⟨h.1,hX.trans (h.2.mono hX.size),h.2⟩⟩
 obtain⟨tmn,htn,hsn,htN⟩:=HTx.out pmn hzn
 obtain⟨tmx,htx,hsx,htX⟩:=HTx.out pmx hzx
 have HTn:Hid _:=htN
 have HTm:Hid _:=htX
 have HSv:Hid ((⟨#[1,Um.bt s.mn.k]⟩:ByteArray)++tmn++tmx=⟨(stV s).toArray⟩):=by
  show _=_
  unfold stV
  rw[if_pos hh,←htn,←htx,←HPN.out,←HPX.out,txt_arr,txt_arr,show (⟨#[1,Um.bt s.mn.k]⟩:ByteArray)=⟨[1,Um.bt s.mn.k].toArray⟩ from rfl,arr_app,arr_app]
 obtain⟨s0,s1,s2,s3,s4,s5,s6,s7,s8⟩:=(HN.out w0 (Below.refl _ _)).1
 have hc0:∀X:World,(convert 58 9 (.slice (some ⟨X.heap.size,0,none⟩) 1 1)).run Tryz.prog (X.alloc (.cells #[.int .u8 0] 5))=.ok (.string ⟨#[0]⟩) (X.alloc (.cells #[.int .u8 0] 5)):=fun X=>conv_one (n:=0) (heap_alloc_new X _)
 clear htN htX htn htx HPN HPX HTx hf
 unfold St.val
 unfold St.cs at HW0 HX ⊢
 rw[hh] at HW0 ⊢
 go_enter Tryz.func108,Tryz.ntmps108
 go_upto_region 1 with fail
 rw[HW0.out]
 go_upto_region 2 with fail
 obtain⟨w1,HW1⟩:∃w1,Hid (w0.alloc (.cells #[.int .u8 0] 5)=w1):=⟨_,rfl⟩
 have b1:Below w0.heap.size w0 w1:=by rw[←HW1.out];exact (Below.refl _ _).alloc (Nat.le_refl _) _
 rw[HW1.out]
 have HB1:Hid _:=b1
 clear s0 s1 s2 s3 s4 s5 s6 s7 s8 hc0 HW1
 obtain⟨s0,s1,s2,s3,s4,s5,s6,s7,s8⟩:=(HN.out w1 b1).1
 clear b1
 go_wp2_with fail
 go_cut [4,5] (fun x y wx=>x=.string pmn/\y=.nilIface/\Hid (Below w0.heap.size w0 wx))
 case first =>
  have b0:Below w0.heap.size w0 w1:=HB1.out
  go_region_held3 (fun X=>(X.cell? ⟨W.heap.size,0,none⟩=some (.int .i64 s.e)/\X.cell? ⟨W.heap.size,1,none⟩=some (.int .i64 s.u)/\X.cell? ⟨W.heap.size,2,none⟩=some (.bool true)/\X.cell? ⟨W.heap.size,3,none⟩=some (.int .i64 s.mn.k)/\X.cell? ⟨W.heap.size,4,none⟩=some (.int .i64 s.mn.n)/\X.cell? ⟨W.heap.size,5,none⟩=some (.string s.mn.s)/\X.cell? ⟨W.heap.size,6,none⟩=some (.int .i64 s.mx.k)/\X.cell? ⟨W.heap.size,7,none⟩=some (.int .i64 s.mx.n)/\X.cell? ⟨W.heap.size,8,none⟩=some (.string s.mx.s))/\Below w0.heap.size w0 X) (with_reducible refine HN.out _ ?_;repeat' (first|with_reducible assumption|with_reducible exact b0.drew|with_reducible exact b0|with_reducible refine Below.drew ?_|with_reducible exact Nat.le_refl _|with_reducible refine Below.setCell ?_ ?_ _|with_reducible refine Below.alloc ?_ ?_ _|with_reducible exact Below.size (by assumption)|(simp;done)|(simp;omega)|omega)) (first
   | (go_at_call 145;(with_reducible refine Calls.mono (HKd.out _ ?_) ?_);(repeat' (first|with_reducible assumption|with_reducible exact b0.drew|with_reducible exact b0|with_reducible refine Below.drew ?_|with_reducible refine Below.alloc ?_ ?_ _|with_reducible exact Below.size (by assumption)|with_reducible exact Nat.le_refl _|(simp;done)|(simp;omega)));rintro e x1 ⟨rfl,hbx1,hraw1⟩;(first|(have hzz0:=blk_keep hraw1 (blk_drw (heap_alloc_new _ (.cells #[.int .i64 s.mn.k,.int .i64 s.mn.n,.string s.mn.s] 46))))|(have hzz0:=blk_keep hraw1 (heap_alloc_new _ (.cells #[.int .i64 s.mn.k,.int .i64 s.mn.n,.string s.mn.s] 46)))|skip))
   | (go_at_call 100;(with_reducible refine Calls.mono (HPmn.out _ _ ?_ ?_) ?_);(repeat' (first|with_reducible assumption|with_reducible exact b0.drew|with_reducible exact b0|with_reducible refine Below.drew ?_|with_reducible refine Below.alloc ?_ ?_ _|with_reducible exact Below.size (by assumption)|with_reducible exact Nat.le_refl _|(simp;done)|(simp;omega)));(try (first|exact hzz0|exact heap_alloc_new _ _|exact blk_drw (heap_alloc_new _ _)));rintro e x2 ⟨rfl,hbx2⟩))
  all_goals (have HBX:Hid _:=hbx2;go_wp2_with fail;go_meet;exact⟨rfl,rfl,HBX.out⟩)
 case rest =>
  obtain⟨rfl,rfl,HB4⟩:=hcut
  rename World=>w4
  clear s0 s1 s2 s3 s4 s5 s6 s7 s8 HB1
  obtain⟨s0,s1,s2,s3,s4,s5,s6,s7,s8⟩:=(HN.out w4 HB4.out).1
  go_wp2_with fail
  go_cut [6,5] (fun x y wx=>x=.string pmx/\y=.nilIface/\Hid (Below w0.heap.size w0 wx))
  case first =>
   have b0:Below w0.heap.size w0 w4:=HB4.out
   go_region_held3 (fun X=>(X.cell? ⟨W.heap.size,0,none⟩=some (.int .i64 s.e)/\X.cell? ⟨W.heap.size,1,none⟩=some (.int .i64 s.u)/\X.cell? ⟨W.heap.size,2,none⟩=some (.bool true)/\X.cell? ⟨W.heap.size,3,none⟩=some (.int .i64 s.mn.k)/\X.cell? ⟨W.heap.size,4,none⟩=some (.int .i64 s.mn.n)/\X.cell? ⟨W.heap.size,5,none⟩=some (.string s.mn.s)/\X.cell? ⟨W.heap.size,6,none⟩=some (.int .i64 s.mx.k)/\X.cell? ⟨W.heap.size,7,none⟩=some (.int .i64 s.mx.n)/\X.cell? ⟨W.heap.size,8,none⟩=some (.string s.mx.s))/\Below w0.heap.size w0 X) (with_reducible refine HN.out _ ?_;repeat' (first|with_reducible assumption|with_reducible exact b0.drew|with_reducible exact b0|with_reducible refine Below.drew ?_|with_reducible exact Nat.le_refl _|with_reducible refine Below.setCell ?_ ?_ _|with_reducible refine Below.alloc ?_ ?_ _|with_reducible exact Below.size (by assumption)|(simp;done)|(simp;omega)|omega)) (first
    | (go_at_call 145;(with_reducible refine Calls.mono (HKd.out _ ?_) ?_);(repeat' (first|with_reducible assumption|with_reducible exact b0.drew|with_reducible exact b0|with_reducible refine Below.drew ?_|with_reducible refine Below.alloc ?_ ?_ _|with_reducible exact Below.size (by assumption)|with_reducible exact Nat.le_refl _|(simp;done)|(simp;omega)));rintro e x1 ⟨rfl,hbx1,hraw1⟩;(first|(have hzz0:=blk_keep hraw1 (blk_drw (heap_alloc_new _ (.cells #[.int .i64 s.mx.k,.int .i64 s.mx.n,.string s.mx.s] 46))))|(have hzz0:=blk_keep hraw1 (heap_alloc_new _ (.cells #[.int .i64 s.mx.k,.int .i64 s.mx.n,.string s.mx.s] 46)))|skip))
    | (go_at_call 100;(with_reducible refine Calls.mono (HPmx.out _ _ ?_ ?_) ?_);(repeat' (first|with_reducible assumption|with_reducible exact b0.drew|with_reducible exact b0|with_reducible refine Below.drew ?_|with_reducible refine Below.alloc ?_ ?_ _|with_reducible exact Below.size (by assumption)|with_reducible exact Nat.le_refl _|(simp;done)|(simp;omega)));(try (first|exact hzz0|exact heap_alloc_new _ _|exact blk_drw (heap_alloc_new _ _)));rintro e x2 ⟨rfl,hbx2⟩))
   all_goals (have HBX:Hid _:=hbx2;go_wp2_with fail;go_meet;exact⟨rfl,rfl,HBX.out⟩)
  case rest =>
   obtain⟨rfl,rfl,HB7⟩:=hcut
   rename World=>w7
   clear s0 s1 s2 s3 s4 s5 s6 s7 s8 HB4
   obtain⟨s0,s1,s2,s3,s4,s5,s6,s7,s8⟩:=(HN.out w7 HB7.out).1
   go_wp2_with fail
   have hwr:IntKind.u8.wrap s.mn.k=s.mn.k:=(by have:=HK.out;unfold IntKind.wrap IntKind.signed IntKind.bits;simp;omega)
   have hc0:∀X:World,(convert 58 9 (.slice (some ⟨X.heap.size,0,none⟩) 2 2)).run Tryz.prog (X.alloc (.cells #[.int .u8 1,.int .u8 s.mn.k] 5))=.ok (.string ⟨#[Um.bt 1,Um.bt s.mn.k]⟩) (X.alloc (.cells #[.int .u8 1,.int .u8 s.mn.k] 5)):=fun X=>conv_two (heap_alloc_new X _)
   have hc1:∀X:World,(convert 58 9 (.slice (some ⟨X.heap.size,0,none⟩) 2 2)).run Tryz.prog (X.alloc (.cells #[.int .u8 1,.int .u8 s.mn.k] 5)).drew=.ok (.string ⟨#[Um.bt 1,Um.bt s.mn.k]⟩) (X.alloc (.cells #[.int .u8 1,.int .u8 s.mn.k] 5)).drew:=fun X=>conv_two (blk_drw (heap_alloc_new X _))
   have b0:Below w0.heap.size w0 w7:=HB7.out
   go_region_with (first
    | (go_at_call 145;(with_reducible refine Calls.mono (HKd.out _ ?_) ?_);(repeat' (first|with_reducible assumption|with_reducible exact b0.drew|with_reducible exact b0|with_reducible refine Below.drew ?_|with_reducible refine Below.alloc ?_ ?_ _|with_reducible exact Below.size (by assumption)|with_reducible exact Nat.le_refl _|(simp;done)|(simp;omega)));rintro e x1 ⟨rfl,hbx1,hraw1⟩;(first|(have hzz:=blk_keep hraw1 hzz0;clear hzz0;have hzz0:=hzz;clear hzz)|(have hzz0:=blk_keep hraw1 (blk_drw (heap_alloc_new _ (.cells #[.int .u8 1,.int .u8 s.mn.k] 5))))|(have hzz0:=blk_keep hraw1 (heap_alloc_new _ (.cells #[.int .u8 1,.int .u8 s.mn.k] 5)))|skip);(try (have hcz:=conv_two hzz0)))
    | (go_at_call 63;(with_reducible refine Calls.mono (HTn.out _ ?_) ?_);(repeat' (first|with_reducible assumption|with_reducible exact b0.drew|with_reducible exact b0|with_reducible refine Below.drew ?_|with_reducible refine Below.alloc ?_ ?_ _|with_reducible exact Below.size (by assumption)|with_reducible exact Nat.le_refl _|(simp;done)|(simp;omega)));rintro e x2 ⟨rfl,hbx2,hraw2⟩;(first|(have hzz:=blk_keep hraw2 hzz0;clear hzz0;have hzz0:=hzz;clear hzz)|(have hzz0:=blk_keep hraw2 (blk_drw (heap_alloc_new _ (.cells #[.int .u8 1,.int .u8 s.mn.k] 5))))|(have hzz0:=blk_keep hraw2 (heap_alloc_new _ (.cells #[.int .u8 1,.int .u8 s.mn.k] 5)))|skip);(try (have hcz:=conv_two hzz0)))
    | (go_at_call 63;(with_reducible refine Calls.mono (HTm.out _ ?_) ?_);(repeat' (first|with_reducible assumption|with_reducible exact b0.drew|with_reducible exact b0|with_reducible refine Below.drew ?_|with_reducible refine Below.alloc ?_ ?_ _|with_reducible exact Below.size (by assumption)|with_reducible exact Nat.le_refl _|(simp;done)|(simp;omega)));rintro e x3 ⟨rfl,hbx3,hraw3⟩;(first|(have hzz:=blk_keep hraw3 hzz0;clear hzz0;have hzz0:=hzz;clear hzz)|(have hzz0:=blk_keep hraw3 (blk_drw (heap_alloc_new _ (.cells #[.int .u8 1,.int .u8 s.mn.k] 5))))|(have hzz0:=blk_keep hraw3 (heap_alloc_new _ (.cells #[.int .u8 1,.int .u8 s.mn.k] 5)))|skip);(try (have hcz:=conv_two hzz0))))
   all_goals (have HBX:Hid _:=hbx3;clear hbx1 hbx2 hbx3 hraw1 hraw2 hraw3 b0 hc0 hc1;(try clear hcz);(try clear hzz0);go_wp2;go_ret;rw[←HSv.out];refine⟨rfl,HB.out.trans (Below.mono (B:=w0.heap.size) ?_ HB.out.size)⟩;first|exact HBX.out|exact HBX.out.alloc HBX.out.size _|exact (HBX.out.alloc HBX.out.size _).drew)
theorem valuesText_any (s:St)(hf:s.h=true->s.Fit)(W:World)(kt st:TypeId)(kp sp:Value)(hgk:W.cell? ⟨3,0,none⟩=some (.iface kt kp))(hgs:W.cell? ⟨0,0,none⟩=some (.iface st sp)):Calls Tryz.prog 108 #[s.val] W fun e w'=>e=.returned (.string ⟨(stV s).toArray⟩)/\Below W.heap.size W w':=by
 cases hh:s.h with
 | false=>exact valuesText_none s hh W
 | true=>exact valuesText_some s hh (hf hh) W kt st kp sp hgk hgs
theorem stV_len (s:St)(hf:s.h=true->s.Fit):(stV s).length<=258:=by
 unfold stV
 split
 · rename_i hh
   have hf:=hf hh
   have h1:=plainB_len (kd:=s.mn.k) (vs:=[s.mn]) ⟨⟨hf.k1,hf.k5⟩,fun v hv=>by rw[List.mem_singleton] at hv;subst hv;exact⟨hf.ok,hf.in1⟩⟩
   have h2:=plainB_len (kd:=s.mn.k) (vs:=[s.mx]) ⟨⟨hf.k1,hf.k5⟩,fun v hv=>by rw[List.mem_singleton] at hv;subst hv;exact⟨hf.ok2,hf.in2⟩⟩
   simp only[List.length_cons,List.length_nil] at h1 h2
   have h3:=Um.txt_len (plainB s.mn.k [s.mn]) (by omega)
   have h4:=Um.txt_len (plainB s.mn.k [s.mx]) (by omega)
   simp only[List.length_append,List.length_cons,List.length_nil]
   omega
 · simp
theorem stTx_len (s:St)(hf:s.h=true->s.Fit)(he:s.e<=9223372036854775807)(hu:s.u<=9223372036854775807):(stTx s).length<=278:=by
 have h1:=stV_len s hf
 have h2:=Um.uv_ten (n:=s.e.toNat) (by omega)
 have h3:=Um.uv_ten (n:=s.u.toNat) (by omega)
 unfold stTx
 simp only[List.length_append]
 omega
theorem stText_any (s:St)(hf:s.h=true->s.Fit)(he:0<=s.e/\s.e<=9223372036854775807)(hu:0<=s.u/\s.u<=9223372036854775807)(W:World)(kt st:TypeId)(kp sp:Value)(hgk:W.cell? ⟨3,0,none⟩=some (.iface kt kp))(hgs:W.cell? ⟨0,0,none⟩=some (.iface st sp)):Calls Tryz.prog 62 #[s.val] W fun e w'=>e=.returned (.string ⟨(stTx s).toArray⟩)/\Below W.heap.size W w':=by
 have hvl:=stV_len s hf
 have hle:=Um.uv_ten (n:=s.e.toNat) (by omega)
 have hlu:=Um.uv_ten (n:=s.u.toNat) (by omega)
 obtain⟨w0,HW0,HX,HB⟩:=boxed1 W s.cs 51
 obtain⟨vt,HVt⟩:∃p,Hid ((⟨(stV s).toArray⟩:ByteArray)=p):=⟨_,rfl⟩
 obtain⟨et,HEt⟩:∃p,Hid ((⟨(Um.uv s.e.toNat).toArray⟩:ByteArray)=p):=⟨_,rfl⟩
 obtain⟨ut,HUt⟩:∃p,Hid ((⟨(Um.uv s.u.toNat).toArray⟩:ByteArray)=p):=⟨_,rfl⟩
 have hz1:vt.size<=258:=by rw[←HVt.out];simpa [ByteArray.size] using hvl
 have hz2:et.size<=10:=by rw[←HEt.out];simpa [ByteArray.size] using hle
 have hz3:ut.size<=10:=by rw[←HUt.out];simpa [ByteArray.size] using hlu
 have HSt:Hid (et++ut++vt=⟨(stTx s).toArray⟩):=by show _=_;rw[←HVt.out,←HEt.out,←HUt.out,arr_app,arr_app];rfl
 have HN:Hid (∀X,Below w0.heap.size w0 X->(X.cell? ⟨W.heap.size,0,none⟩=some (.int .i64 s.e)/\X.cell? ⟨W.heap.size,1,none⟩=some (.int .i64 s.u)/\X.cell? ⟨W.heap.size,2,none⟩=some (.bool s.h)/\X.cell? ⟨W.heap.size,3,none⟩=some (.int .i64 s.mn.k)/\X.cell? ⟨W.heap.size,4,none⟩=some (.int .i64 s.mn.n)/\X.cell? ⟨W.heap.size,5,none⟩=some (.string s.mn.s)/\X.cell? ⟨W.heap.size,6,none⟩=some (.int .i64 s.mx.k)/\X.cell? ⟨W.heap.size,7,none⟩=some (.int .i64 s.mx.n)/\X.cell? ⟨W.heap.size,8,none⟩=some (.string s.mx.s))/\Below w0.heap.size w0 X):=fun X hX=>⟨(st_row (blk_keep hX HX.out)).1,hX⟩
 have HCe:Hid (∀X,Below w0.heap.size w0 X->Calls Tryz.prog 107 #[.int .i64 s.e] X fun e w'=>e=.returned (.string et)/\Below w0.heap.size w0 w'):=fun X hX=>(by
  have h:=countText_any s.e.toNat X (by omega)
  rw[Int.toNat_of_nonneg he.1,HEt.out] at h
  exact h.mono fun _ _ h=>⟨h.1,hX.trans (h.2.mono hX.size)⟩)
 have HCu:Hid (∀X,Below w0.heap.size w0 X->Calls Tryz.prog 107 #[.int .i64 s.u] X fun e w'=>e=.returned (.string ut)/\Below w0.heap.size w0 w'):=fun X hX=>(by
  have h:=countText_any s.u.toNat X (by omega)
  rw[Int.toNat_of_nonneg hu.1,HUt.out] at h
  exact h.mono fun _ _ h=>⟨h.1,hX.trans (h.2.mono hX.size)⟩)
 have HCv:Hid (∀X,Below w0.heap.size w0 X->Calls Tryz.prog 108 #[.agg #[.int .i64 s.e,.int .i64 s.u,.bool s.h,.int .i64 s.mn.k,.int .i64 s.mn.n,.string s.mn.s,.int .i64 s.mx.k,.int .i64 s.mx.n,.string s.mx.s]] X fun e w'=>e=.returned (.string vt)/\Below w0.heap.size w0 w'):=fun X hX=>(by
  have h:=valuesText_any s hf X kt st kp sp (((HB.out.trans (hX.mono HB.out.size)).cell (World.block_lt_of_cell? W _ hgk)).trans hgk) (((HB.out.trans (hX.mono HB.out.size)).cell (World.block_lt_of_cell? W _ hgs)).trans hgs)
  rw[HVt.out] at h
  exact h.mono fun _ _ h=>⟨h.1,hX.trans (h.2.mono hX.size)⟩)
 have hq1:∀W:World,(Op.stringOp .add et ut).run Tryz.prog W=.ok (.string (et++ut)) W:=fun W=>run_string_add_sum _ _ _ (by omega)
 have hq2:∀W:World,(Op.stringOp .add (et++ut) vt).run Tryz.prog W=.ok (.string (et++ut++vt)) W:=fun W=>run_string_add_sum _ _ _ (by rw[ByteArray.size_append];omega)
 obtain⟨s0,s1,s2,s3,s4,s5,s6,s7,s8⟩:=(HN.out w0 (Below.refl _ _)).1
 clear hgk hgs hf he hu hvl hle hlu HVt HEt HUt
 unfold St.val
 unfold St.cs at HW0 HX ⊢
 go_enter Tryz.func62,Tryz.ntmps62
 go_upto_region 1 with fail
 rw[HW0.out]
 have b0:Below w0.heap.size w0 w0:=Below.refl _ _
 go_region_held3 (fun X=>(X.cell? ⟨W.heap.size,0,none⟩=some (.int .i64 s.e)/\X.cell? ⟨W.heap.size,1,none⟩=some (.int .i64 s.u)/\X.cell? ⟨W.heap.size,2,none⟩=some (.bool s.h)/\X.cell? ⟨W.heap.size,3,none⟩=some (.int .i64 s.mn.k)/\X.cell? ⟨W.heap.size,4,none⟩=some (.int .i64 s.mn.n)/\X.cell? ⟨W.heap.size,5,none⟩=some (.string s.mn.s)/\X.cell? ⟨W.heap.size,6,none⟩=some (.int .i64 s.mx.k)/\X.cell? ⟨W.heap.size,7,none⟩=some (.int .i64 s.mx.n)/\X.cell? ⟨W.heap.size,8,none⟩=some (.string s.mx.s))/\Below w0.heap.size w0 X) (with_reducible refine HN.out _ ?_;repeat' (first|with_reducible assumption|with_reducible exact b0.drew|with_reducible exact b0|with_reducible refine Below.drew ?_|with_reducible exact Nat.le_refl _|with_reducible refine Below.setCell ?_ ?_ _|with_reducible refine Below.alloc ?_ ?_ _|with_reducible exact Below.size (by assumption)|(simp;done)|(simp;omega)|omega)) (first
  | (go_at_call 107;(with_reducible refine Calls.mono (HCe.out _ ?_) ?_);(repeat' (first|with_reducible assumption|with_reducible exact b0.drew|with_reducible exact b0|with_reducible refine Below.drew ?_|with_reducible refine Below.alloc ?_ ?_ _|with_reducible exact Below.size (by assumption)|with_reducible exact Nat.le_refl _|(simp;done)|(simp;omega)));rintro e x1 ⟨rfl,hbx1⟩)
  | (go_at_call 107;(with_reducible refine Calls.mono (HCu.out _ ?_) ?_);(repeat' (first|with_reducible assumption|with_reducible exact b0.drew|with_reducible exact b0|with_reducible refine Below.drew ?_|with_reducible refine Below.alloc ?_ ?_ _|with_reducible exact Below.size (by assumption)|with_reducible exact Nat.le_refl _|(simp;done)|(simp;omega)));rintro e x2 ⟨rfl,hbx2⟩)
  | (go_at_call 108;(with_reducible refine Calls.mono (HCv.out _ ?_) ?_);(repeat' (first|with_reducible assumption|with_reducible exact b0.drew|with_reducible exact b0|with_reducible refine Below.drew ?_|with_reducible refine Below.alloc ?_ ?_ _|with_reducible exact Below.size (by assumption)|with_reducible exact Nat.le_refl _|(simp;done)|(simp;omega)));rintro e x3 ⟨rfl,hbx3⟩))
 all_goals (have HBX:Hid _:=hbx3;go_wp2;go_ret;rw[←HSt.out];exact⟨rfl,HB.out.trans (HBX.out.mono HB.out.size)⟩)
def noneC (lid:Int):Cl:=⟨lid,none,[],0,none,[],0,none,[],0⟩
theorem noneC_fit (lid kind mr md:Int):(isLfB kind mr md && fitB lid mr md (noneC lid).id (noneC lid).rs (noneC lid).ds (noneC lid).vs.length)=isLfB kind mr md:=by
 have:fitB lid mr md (noneC lid).id (noneC lid).rs (noneC lid).ds (noneC lid).vs.length=true:=by
  unfold fitB noneC
  simp[headB,cntE]
 rw[this,Bool.and_true]
theorem pgLeaf_any (lid kind mr md:Int)(pa:Option Addr)(pn pc:Nat)(W:World)(st kt bt:TypeId)(sp kp bp:Value)
    (hs:W.cell? ⟨0,0,none⟩=some (.iface st sp)) (hk:W.cell? ⟨3,0,none⟩=some (.iface kt kp)) (hbd:W.cell? ⟨1,0,none⟩=some (.iface bt bp)) :
    Calls Tryz.prog 117 #[.agg #[.int .i64 lid,.int .i64 kind,.int .i64 mr,.int .i64 md,.slice pa pn pc]] W fun e w'=>e=.returned (if isLfB kind mr md=true then .nilIface else .iface st sp)/\Below W.heap.size W w':=by
 obtain⟨w0,HW0,HX,HB⟩:=boxed1 W #[.int .i64 lid,.int .i64 kind,.int .i64 mr,.int .i64 md,.slice pa pn pc] 39
 obtain⟨⟨p0,p1,p2,p3,p4⟩,_⟩:=row_five HX.out
 have ck:∀{g:Nat} {v:Value},W.cell? ⟨g,0,none⟩=some v->w0.cell? ⟨g,0,none⟩=some v:=fun h=>(HB.out.cell (World.block_lt_of_cell? W _ h)).trans h
 have HP:Hid (Calls Tryz.prog 33 #[.agg #[.int .i64 lid,.int .i64 kind,.int .i64 mr,.int .i64 md,.slice pa pn pc],.agg #[.int .i64 lid,.slice none 0 0,.slice none 0 0,.slice none 0 0],.int .i64 0,.int .i64 0] w0 fun e w'=>PtRet w0.heap.size lid kind mr md (noneC lid) 0 0 (.iface st sp) (.iface kt kp) (.iface bt bp) e w'/\Below w0.heap.size w0 w'):=part_any lid kind mr md 0 0 pa pn pc (noneC lid) w0 st kt bt sp kp bp (by simp[noneC]) (by simp[noneC]) (by simp[noneC]) (by simp[noneC]) (by simp[noneC]) (by simp[noneC]) (ck hs) (ck hk) (ck hbd) ⟨fun j h=>absurd h (by simp[noneC,i64s]),fun j h=>absurd h (by simp[noneC,i64s]),fun j h=>absurd h (by simp[noneC])⟩
 clear ck hs hk hbd
 obtain⟨rv,HRv⟩:∃rv,Hid ((if isLfB kind mr md=true then Value.nilIface else .iface st sp)=rv):=⟨_,rfl⟩
 rw[HRv.out]
 go_enter Tryz.func117,Tryz.ntmps117
 go_upto_region 1 with fail
 rw[HW0.out]
 go_wp2_with fail
 refine Calls.mono HP.out ?_
 rintro e w1 ⟨hp,hb1⟩
 have HB1:Hid (∀o,Below W.heap.size W (w1.alloc o)):=fun o=>(HB.out.trans (hb1.mono HB.out.size)).alloc (HB.out.trans (hb1.mono HB.out.size)).size o
 clear hb1 p0 p1 p2 p3 p4
 rcases hp with (⟨h1,rfl⟩|⟨_,p,hp,_⟩)|⟨_,h2,_⟩|⟨hg,_,k,a,b,rfl,_⟩
 · rw[noneC_fit] at h1
   have HE:Hid (rv=.iface st sp):=HRv.out.symm.trans (if_neg (by rw[h1];simp))
   clear h1
   go_wp2
   go_ret
   rw[HE.out]
   exact⟨rfl,HB1.out _⟩
 · exact absurd hp (by simp[noneC])
 · exact absurd ⟨Int.le_refl 0,Int.le_refl 0,Int.natCast_nonneg _⟩ h2
 · have h1:=hg.1
   rw[noneC_fit] at h1
   have HE:Hid (rv=.nilIface):=HRv.out.symm.trans (if_pos h1)
   clear h1 hg
   go_wp2
   go_ret
   rw[HE.out]
   exact⟨rfl,HB1.out _⟩
end Go.Proofs.YtoeiahdjamkdgaaGreatDoor
