/-
  The reference's PageOf.
  The walk of the law PageWrites.
  The reference's chunk of a right column.
  The walk of the law ChunkWrites.
  ChunkWrites, for whatever leaf, column and number.
-/
import Derived.Test.YtoeiahdjamkdgaaGreatDoorWBDictOf
import Derived.Test.YtoeiahdjamkdgaaGreatDoorWBChO
set_option maxRecDepth 100000
set_option maxHeartbeats 12800000
namespace Go.Proofs.YtoeiahdjamkdgaaGreatDoor
open Go.RowKit
theorem pageOf_any (lid kind:Int)(mr md:Nat)(pa:Option Addr)(pn pc:Nat)(c:Cl)(us:List Vl)(ps:List Nat)(hu:Uq c.vs us ps)(hp:PgC kind mr md c)(hn:c.rs.length<=1000)(hv:c.vs.length<=700)(hf:(ofC c).h=true->(ofC c).Fit)(he:0<=(ofC c).e/\(ofC c).e<=9223372036854775807)(hue:0<=(ofC c).u/\(ofC c).u<=9223372036854775807)(W:World)(hat:c.At W)(hlo:∀v∈c.vs,v.Low) :
    Calls Tryz.prog 28 #[.agg #[.int .i64 lid,.int .i64 kind,.int .i64 (mr:Nat),.int .i64 (md:Nat),.slice pa pn pc],.agg #[.int .i64 c.id,.slice c.ra c.rs.length c.rc,.slice c.da c.ds.length c.dc,.slice c.va c.vs.length c.vc]] W fun e w'=>e=.returned (.string ⟨(pgB (bdB (ofC c) mr md c (bestP kind c.vs us ps).1 (bestP kind c.vs us ps).2.data.toList)).toArray⟩)/\Below W.heap.size W w':=by
 obtain⟨w0,HW0,HX,HY,HB⟩:=two_boxes W #[.int .i64 lid,.int .i64 kind,.int .i64 (mr:Nat),.int .i64 (md:Nat),.slice pa pn pc] #[.int .i64 c.id,.slice c.ra c.rs.length c.rc,.slice c.da c.ds.length c.dc,.slice c.va c.vs.length c.vc] 24 27
 have HUp:Hid (∀X,Below w0.heap.size w0 X->Below W.heap.size W X):=fun X hX=>HB.out.trans (hX.mono HB.out.size)
 have HAT:Hid (∀X,Below w0.heap.size w0 X->c.At X):=fun X hX=>hat.keep (HUp.out X hX)
 have HN:Hid (∀X,Below w0.heap.size w0 X->((X.cell? ⟨W.heap.size,0,none⟩=some (.int .i64 lid)/\X.cell? ⟨W.heap.size,1,none⟩=some (.int .i64 kind)/\X.cell? ⟨W.heap.size,2,none⟩=some (.int .i64 (mr:Nat))/\X.cell? ⟨W.heap.size,3,none⟩=some (.int .i64 (md:Nat))/\X.cell? ⟨W.heap.size,4,none⟩=some (.slice pa pn pc))/\(X.cell? ⟨W.heap.size+1,0,none⟩=some (.int .i64 c.id)/\X.cell? ⟨W.heap.size+1,1,none⟩=some (.slice c.ra c.rs.length c.rc)/\X.cell? ⟨W.heap.size+1,2,none⟩=some (.slice c.da c.ds.length c.dc)/\X.cell? ⟨W.heap.size+1,3,none⟩=some (.slice c.va c.vs.length c.vc)))/\Below w0.heap.size w0 X):=fun X hX=>⟨⟨(row_five (blk_keep hX HX.out)).1,row_four (blk_keep hX HY.out)⟩,hX⟩
 have hw1:Lib.bitLen mr<=32:=Lib.bitLen_le _ 32 (by omega) (Nat.lt_of_le_of_lt hp.m1 (by decide))
 have hw2:Lib.bitLen md<=32:=Lib.bitLen_le _ 32 (by omega) (Nat.lt_of_le_of_lt hp.m2 (by decide))
 have hds:c.ds.length<=1000:=by rw[←hp.len];exact hn
 have hl1:=Um.wrs_len (Lib.bitLen mr) hw1 c.rs hn
 have hl2:=Um.wrs_len (Lib.bitLen md) hw2 c.ds hds
 have hl3:=bestP_len (us:=us) (ps:=ps) hp.rt
 have hl4:=stTx_len (ofC c) hf he.2 hue.2
 have hcd2:=bestP_code kind c.vs us ps
 have hm1:=hp.m1
 have hm2:=hp.m2
 obtain⟨code,HCo⟩:∃x,Hid ((bestP kind c.vs us ps).1=x):=⟨_,rfl⟩
 obtain⟨bt',HBt⟩:∃x,Hid ((bestP kind c.vs us ps).2=x):=⟨_,rfl⟩
 obtain⟨rt,HRt⟩:∃p,Hid ((⟨(Um.wrs (Lib.bitLen mr) [] c.rs).toArray⟩:ByteArray)=p):=⟨_,rfl⟩
 obtain⟨dt,HDt⟩:∃p,Hid ((⟨(Um.wrs (Lib.bitLen md) [] c.ds).toArray⟩:ByteArray)=p):=⟨_,rfl⟩
 obtain⟨tt,HTt⟩:∃p,Hid ((⟨(stTx (ofC c)).toArray⟩:ByteArray)=p):=⟨_,rfl⟩
 have hz1:rt.size<=80000:=by rw[←HRt.out];simpa [ByteArray.size] using hl1
 have hz2:dt.size<=80000:=by rw[←HDt.out];simpa [ByteArray.size] using hl2
 have hz3:bt'.size<=77008:=by rw[←HBt.out];omega
 have hz4:tt.size<=278:=by rw[←HTt.out];simpa [ByteArray.size] using hl4
 have hco:0<=code/\code<=3:=by rw[←HCo.out];exact hcd2
 have HBe:Hid (∀X,Below w0.heap.size w0 X->Calls Tryz.prog 40 #[.int .i64 kind,.slice c.va c.vs.length c.vc] X fun e w'=>e=.returned (.tuple #[.int .i64 code,.string bt'])/\Below w0.heap.size w0 w'):=fun X hX=>(by
  have h:=bestOf_any c.va c.vs c.vc kind X hv (HAT.out X hX).v hp.rt us ps hu
  rw[HCo.out,HBt.out] at h
  exact h.mono fun _ _ h=>⟨h.1,hX.trans (h.2.mono hX.size)⟩)
 obtain⟨s,HSs⟩:∃s,Hid (ofC c=s):=⟨_,rfl⟩
 have HSo:Hid (∀X,Below w0.heap.size w0 X->Calls Tryz.prog 42 #[.agg #[.int .i64 c.id,.slice c.ra c.rs.length c.rc,.slice c.da c.ds.length c.dc,.slice c.va c.vs.length c.vc]] X fun e w'=>e=.returned (.agg #[.int .i64 s.e,.int .i64 s.u,.bool s.h,.int .i64 s.mn.k,.int .i64 s.mn.n,.string s.mn.s,.int .i64 s.mx.k,.int .i64 s.mx.n,.string s.mx.s])/\Below w0.heap.size w0 w'):=fun X hX=>(by
  have h:=statsOfR_any c X (by omega) (by omega) (HAT.out X hX) hlo
  rw[HSs.out] at h
  exact h.mono fun _ _ h=>⟨h.1,hX.trans (h.2.mono hX.size)⟩)
 have HSt:Hid (∀X,Below w0.heap.size w0 X->Calls Tryz.prog 41 #[.agg #[.int .i64 s.e,.int .i64 s.u,.bool s.h,.int .i64 s.mn.k,.int .i64 s.mn.n,.string s.mn.s,.int .i64 s.mx.k,.int .i64 s.mx.n,.string s.mx.s]] X fun e w'=>e=.returned (.string tt)/\Below w0.heap.size w0 w'):=fun X hX=>(by
  have h:=statsText_any (ofC c) hf he hue X
  rw[HTt.out,HSs.out] at h
  exact h.mono fun _ _ h=>⟨h.1,hX.trans (h.2.mono hX.size)⟩)
 have HW1:Hid (∀X,Below w0.heap.size w0 X->Calls Tryz.prog 45 #[.int .u64 (mr:Nat)] X fun e w'=>e=.returned (.int .i64 (Lib.bitLen mr:Nat))/\Below w0.heap.size w0 w'):=fun X hX=>(widthOf_any mr X (by omega)).mono fun _ _ h=>⟨h.1,by rw[h.2];exact hX⟩
 have HW2:Hid (∀X,Below w0.heap.size w0 X->Calls Tryz.prog 45 #[.int .u64 (md:Nat)] X fun e w'=>e=.returned (.int .i64 (Lib.bitLen md:Nat))/\Below w0.heap.size w0 w'):=fun X hX=>(widthOf_any md X (by omega)).mono fun _ _ h=>⟨h.1,by rw[h.2];exact hX⟩
 have HR1:Hid (∀X,Below w0.heap.size w0 X->Calls Tryz.prog 44 #[.slice c.ra c.rs.length c.rc,.int .i64 (Lib.bitLen mr:Nat)] X fun e w'=>e=.returned (.string rt)/\Below w0.heap.size w0 w'):=fun X hX=>(by
  have h:=runsOf_any c.ra c.rc c.rs (Lib.bitLen mr) X hn hw1 hp.rs (HAT.out X hX).r
  rw[HRt.out] at h
  exact h.mono fun _ _ h=>⟨h.1,hX.trans (h.2.mono hX.size)⟩)
 have HR2:Hid (∀X,Below w0.heap.size w0 X->Calls Tryz.prog 44 #[.slice c.da c.ds.length c.dc,.int .i64 (Lib.bitLen md:Nat)] X fun e w'=>e=.returned (.string dt)/\Below w0.heap.size w0 w'):=fun X hX=>(by
  have h:=runsOf_any c.da c.dc c.ds (Lib.bitLen md) X hds hw2 hp.ds (HAT.out X hX).d
  rw[HDt.out] at h
  exact h.mono fun _ _ h=>⟨h.1,hX.trans (h.2.mono hX.size)⟩)
 have HBy:Hid (∀X,Below w0.heap.size w0 X->Calls Tryz.prog 46 #[.int .i64 code] X fun e w'=>e=.returned (.string ⟨#[Um.bt code]⟩)/\Below w0.heap.size w0 w'):=fun X hX=>(byte_any code X (by omega) (by omega)).mono fun _ _ h=>⟨h.1,hX.trans (h.2.mono hX.size)⟩
 have HTx:Hid (∀p:ByteArray,p.size<=100000->∃t:ByteArray,(⟨(Um.txt p.data.toList).toArray⟩:ByteArray)=t/\t.size<=p.size+10/\∀X,Below w0.heap.size w0 X->Calls Tryz.prog 43 #[.string p] X fun e w'=>e=.returned (.string t)/\Below w0.heap.size w0 w'):=fun p hp=>⟨_,rfl,by have:=Um.uv_ten (n:=p.size) (by omega);rw[←txt_arr,ByteArray.size_append];show (Um.uv p.size).toArray.size+p.size<=p.size+10;rw[List.size_toArray];omega,fun X hX=>by rw[←txt_arr];exact (long_any p X (by omega)).mono fun _ _ h=>⟨h.1,hX.trans (h.2.mono hX.size)⟩⟩
 obtain⟨t1,e1,ht1,hc1⟩:=HTx.out rt (by omega)
 obtain⟨t2,e2,ht2,hc2⟩:=HTx.out dt (by omega)
 obtain⟨t3,e3,ht3,hc3⟩:=HTx.out bt' (by omega)
 have HT1:Hid _:=hc1
 have HT2:Hid _:=hc2
 have HT3:Hid _:=hc3
 obtain⟨bl,HBl⟩:∃l,Hid (bdB (ofC c) mr md c (bestP kind c.vs us ps).1 (bestP kind c.vs us ps).2.data.toList=l):=⟨_,rfl⟩
 have HBd:Hid (tt++t1++t2++⟨#[Um.bt code]⟩++t3=⟨bl.toArray⟩):=(by
  show _=_
  rw[←HBl.out]
  unfold bdB
  rw[←e1,←e2,←e3,←HTt.out,←HRt.out,←HDt.out,HBt.out,HCo.out,show (⟨#[Um.bt code]⟩:ByteArray)=⟨[Um.bt code].toArray⟩ from rfl,arr_app,arr_app,arr_app,arr_app])
 rw[HBl.out]
 have zc:(⟨#[Um.bt code]⟩:ByteArray).size=1:=rfl
 have hbl:bl.length<=300000:=(by
  have h:(tt++t1++t2++⟨#[Um.bt code]⟩++t3).size=bl.length:=by rw[HBd.out];simp[ByteArray.size]
  rw[ByteArray.size_append,ByteArray.size_append,ByteArray.size_append,ByteArray.size_append,zc] at h
  omega)
 have hcv1:IntKind.u64.wrap ((mr:Nat):Int)=((mr:Nat):Int):=by unfold IntKind.wrap IntKind.signed IntKind.bits;simp;omega
 have hcv2:IntKind.u64.wrap ((md:Nat):Int)=((md:Nat):Int):=by unfold IntKind.wrap IntKind.signed IntKind.bits;simp;omega
 have hq1:∀W:World,(Op.stringOp .add tt t1).run Tryz.prog W=.ok (.string (tt++t1)) W:=fun W=>run_string_add_sum _ _ _ (by omega)
 have hq2:∀W:World,(Op.stringOp .add (tt++t1) t2).run Tryz.prog W=.ok (.string (tt++t1++t2)) W:=fun W=>run_string_add_sum _ _ _ (by rw[ByteArray.size_append];omega)
 have hq3:∀W:World,(Op.stringOp .add (tt++t1++t2) ⟨#[Um.bt code]⟩).run Tryz.prog W=.ok (.string (tt++t1++t2++⟨#[Um.bt code]⟩)) W:=fun W=>run_string_add_sum _ _ _ (by rw[ByteArray.size_append,ByteArray.size_append,zc];omega)
 have hq4:∀W:World,(Op.stringOp .add (tt++t1++t2++⟨#[Um.bt code]⟩) t3).run Tryz.prog W=.ok (.string ⟨bl.toArray⟩) W:=fun W=>by rw[←HBd.out];exact run_string_add_sum _ _ _ (by rw[ByteArray.size_append,ByteArray.size_append,ByteArray.size_append,zc];omega)
 clear zc hc1 hc2 hc3 e1 e2 e3 HTx hz1 hz2 hz3 hz4 HCo HBt HRt HDt HTt hl1 hl2 hl3 hl4 hcd2 hco hp hu hf he hue hat hds hw1 hw2 hn hv ht1 ht2 ht3 hlo hm1 hm2 HSs
 generalize Lib.bitLen mr=wr1 at *
 generalize Lib.bitLen md=wr2 at *
 obtain⟨⟨⟨p0,p1,p2,p3,p4⟩,⟨k0,k1,k2,k3⟩⟩,_⟩:=HN.out w0 (Below.refl _ _)
 go_enter Tryz.func28,Tryz.ntmps28
 go_upto_region 1 with fail
 rw[HW0.out]
 go_wp2_with fail
 refine Calls.mono (HBe.out w0 (Below.refl _ _)) ?_
 rintro e w1 ⟨rfl,hb1⟩
 have HB1:Hid (Below w0.heap.size w0 w1):=hb1
 clear p0 p1 p2 p3 p4 k0 k1 k2 k3 hb1
 obtain⟨⟨⟨p0,p1,p2,p3,p4⟩,⟨k0,k1,k2,k3⟩⟩,_⟩:=HN.out w1 HB1.out
 go_wp2_with fail
 go_cut [7] (fun x wx=>x=.string ⟨bl.toArray⟩/\Hid (Below w0.heap.size w0 wx))
 case first =>
  have b0:Below w0.heap.size w0 w1:=HB1.out
  go_region_held3 (fun X=>((X.cell? ⟨W.heap.size,0,none⟩=some (.int .i64 lid)/\X.cell? ⟨W.heap.size,1,none⟩=some (.int .i64 kind)/\X.cell? ⟨W.heap.size,2,none⟩=some (.int .i64 (mr:Nat))/\X.cell? ⟨W.heap.size,3,none⟩=some (.int .i64 (md:Nat))/\X.cell? ⟨W.heap.size,4,none⟩=some (.slice pa pn pc))/\(X.cell? ⟨W.heap.size+1,0,none⟩=some (.int .i64 c.id)/\X.cell? ⟨W.heap.size+1,1,none⟩=some (.slice c.ra c.rs.length c.rc)/\X.cell? ⟨W.heap.size+1,2,none⟩=some (.slice c.da c.ds.length c.dc)/\X.cell? ⟨W.heap.size+1,3,none⟩=some (.slice c.va c.vs.length c.vc)))/\Below w0.heap.size w0 X) (with_reducible refine HN.out _ ?_;repeat' (first|with_reducible assumption|with_reducible exact b0.drew|with_reducible exact b0|with_reducible refine Below.drew ?_|with_reducible exact Nat.le_refl _|with_reducible refine Below.setCell ?_ ?_ _|with_reducible refine Below.alloc ?_ ?_ _|with_reducible exact Below.size (by assumption)|(simp;done)|(simp;omega)|omega)) (first
   | (go_at_call 42;(with_reducible refine Calls.mono (HSo.out _ ?_) ?_);(repeat' (first|with_reducible assumption|with_reducible exact b0.drew|with_reducible exact b0|with_reducible refine Below.drew ?_|with_reducible refine Below.alloc ?_ ?_ _|with_reducible exact Below.size (by assumption)|with_reducible exact Nat.le_refl _|(simp;done)|(simp;omega)));rintro e x1 ⟨rfl,hbx1⟩)
   | (go_at_call 41;(with_reducible refine Calls.mono (HSt.out _ ?_) ?_);(repeat' (first|with_reducible assumption|with_reducible exact b0.drew|with_reducible exact b0|with_reducible refine Below.drew ?_|with_reducible refine Below.alloc ?_ ?_ _|with_reducible exact Below.size (by assumption)|with_reducible exact Nat.le_refl _|(simp;done)|(simp;omega)));rintro e x2 ⟨rfl,hbx2⟩)
   | (go_at_call 45;(with_reducible refine Calls.mono (HW1.out _ ?_) ?_);(repeat' (first|with_reducible assumption|with_reducible exact b0.drew|with_reducible exact b0|with_reducible refine Below.drew ?_|with_reducible refine Below.alloc ?_ ?_ _|with_reducible exact Below.size (by assumption)|with_reducible exact Nat.le_refl _|(simp;done)|(simp;omega)));rintro e x3 ⟨rfl,hbx3⟩)
   | (go_at_call 44;(with_reducible refine Calls.mono (HR1.out _ ?_) ?_);(repeat' (first|with_reducible assumption|with_reducible exact b0.drew|with_reducible exact b0|with_reducible refine Below.drew ?_|with_reducible refine Below.alloc ?_ ?_ _|with_reducible exact Below.size (by assumption)|with_reducible exact Nat.le_refl _|(simp;done)|(simp;omega)));rintro e x4 ⟨rfl,hbx4⟩)
   | (go_at_call 43;(with_reducible refine Calls.mono (HT1.out _ ?_) ?_);(repeat' (first|with_reducible assumption|with_reducible exact b0.drew|with_reducible exact b0|with_reducible refine Below.drew ?_|with_reducible refine Below.alloc ?_ ?_ _|with_reducible exact Below.size (by assumption)|with_reducible exact Nat.le_refl _|(simp;done)|(simp;omega)));rintro e x5 ⟨rfl,hbx5⟩)
   | (go_at_call 45;(with_reducible refine Calls.mono (HW2.out _ ?_) ?_);(repeat' (first|with_reducible assumption|with_reducible exact b0.drew|with_reducible exact b0|with_reducible refine Below.drew ?_|with_reducible refine Below.alloc ?_ ?_ _|with_reducible exact Below.size (by assumption)|with_reducible exact Nat.le_refl _|(simp;done)|(simp;omega)));rintro e x6 ⟨rfl,hbx6⟩)
   | (go_at_call 44;(with_reducible refine Calls.mono (HR2.out _ ?_) ?_);(repeat' (first|with_reducible assumption|with_reducible exact b0.drew|with_reducible exact b0|with_reducible refine Below.drew ?_|with_reducible refine Below.alloc ?_ ?_ _|with_reducible exact Below.size (by assumption)|with_reducible exact Nat.le_refl _|(simp;done)|(simp;omega)));rintro e x7 ⟨rfl,hbx7⟩)
   | (go_at_call 43;(with_reducible refine Calls.mono (HT2.out _ ?_) ?_);(repeat' (first|with_reducible assumption|with_reducible exact b0.drew|with_reducible exact b0|with_reducible refine Below.drew ?_|with_reducible refine Below.alloc ?_ ?_ _|with_reducible exact Below.size (by assumption)|with_reducible exact Nat.le_refl _|(simp;done)|(simp;omega)));rintro e x8 ⟨rfl,hbx8⟩)
   | (go_at_call 46;(with_reducible refine Calls.mono (HBy.out _ ?_) ?_);(repeat' (first|with_reducible assumption|with_reducible exact b0.drew|with_reducible exact b0|with_reducible refine Below.drew ?_|with_reducible refine Below.alloc ?_ ?_ _|with_reducible exact Below.size (by assumption)|with_reducible exact Nat.le_refl _|(simp;done)|(simp;omega)));rintro e x9 ⟨rfl,hbx9⟩)
   | (go_at_call 43;(with_reducible refine Calls.mono (HT3.out _ ?_) ?_);(repeat' (first|with_reducible assumption|with_reducible exact b0.drew|with_reducible exact b0|with_reducible refine Below.drew ?_|with_reducible refine Below.alloc ?_ ?_ _|with_reducible exact Below.size (by assumption)|with_reducible exact Nat.le_refl _|(simp;done)|(simp;omega)));rintro e x10 ⟨rfl,hbx10⟩))
  all_goals (have HBX:Hid (Below w0.heap.size w0 x10):=hbx10;go_wp2_with fail;go_meet;exact⟨rfl,HBX.out⟩)
 case rest =>
  obtain⟨rfl,HB2⟩:=hcut
  rename World=>w2
  clear p0 p1 p2 p3 p4 k0 k1 k2 k3 HB1 hq1 hq2 hq3 hq4 hcv1 hcv2 HBd HBl HBe HSo HSt HW1 HW2 HR1 HR2 HBy HT1 HT2 HT3
  have hsz:(⟨bl.toArray⟩:ByteArray).size=bl.length:=by simp[ByteArray.size]
  have hrl:=Crc.rem_lt bl
  have hul:=Um.uv_ten (n:=bl.length) (by omega)
  have hll:=Um.lit_len (Crc.rem bl) 4
  have hcv1:IntKind.u64.wrap (Crc.rem bl:Int)=(Crc.rem bl:Int):=by unfold IntKind.wrap IntKind.signed IntKind.bits;simp;omega
  have hcv2:IntKind.u64.wrap (bl.length:Int)=(bl.length:Int):=by unfold IntKind.wrap IntKind.signed IntKind.bits;simp;omega
  have HPg:Hid ((⟨#[Um.bt 80]⟩:ByteArray)++⟨(Um.uv bl.length).toArray⟩++⟨(Um.lit (Crc.rem bl) 4).toArray⟩++⟨bl.toArray⟩=⟨(pgB bl).toArray⟩):=by
   show _=_
   rw[show (⟨#[Um.bt 80]⟩:ByteArray)=⟨[80].toArray⟩ from rfl,arr_app,arr_app,arr_app];rfl
  have HF:Hid (∀X,Calls Tryz.prog 48 #[.int .u64 (Crc.rem bl:Nat),.int .i64 4] X fun e w'=>e=.returned (.string ⟨(Um.lit (Crc.rem bl) 4).toArray⟩)/\Below X.heap.size X w'):=fun X=>little_any (Crc.rem bl) 4 X (by omega) (by omega)
  have HS:Hid (∀X,Calls Tryz.prog 49 #[.string ⟨bl.toArray⟩] X fun e w'=>e=.returned (.int .u32 (Crc.rem bl:Nat))/\w'=X):=fun X=>remainder_any ⟨bl.toArray⟩ X (by omega)
  have HBm:Hid (∀X,Calls Tryz.prog 46 #[.int .i64 80] X fun e w'=>e=.returned (.string ⟨#[Um.bt 80]⟩)/\Below X.heap.size X w'):=fun X=>byte_any 80 X (by omega) (by omega)
  generalize Crc.rem bl=r at *
  obtain⟨lt,HLt⟩:∃lt,Hid ((⟨(Um.lit r 4).toArray⟩:ByteArray)=lt):=⟨_,rfl⟩
  have hlt:lt.size=4:=by rw[←HLt.out];simpa [ByteArray.size] using hll
  rw[HLt.out] at HPg HF
  obtain⟨ut,HUt⟩:∃ut,Hid ((⟨(Um.uv bl.length).toArray⟩:ByteArray)=ut):=⟨_,rfl⟩
  have hut:ut.size<=10:=by rw[←HUt.out];simpa [ByteArray.size] using hul
  have HU:Hid (∀X,Calls Tryz.prog 47 #[.int .u64 (bl.length:Nat)] X fun e w'=>e=.returned (.string ut)/\Below X.heap.size X w'):=fun X=>by rw[←HUt.out];exact seven_any bl.length X (by omega)
  rw[HUt.out] at HPg
  clear HLt HUt hrl hul hll
  generalize bl.toArray=ba at *
  have z1:(⟨#[Um.bt 80]⟩:ByteArray).size=1:=rfl
  have hq1:∀W:World,(Op.stringOp .add ⟨#[Um.bt 80]⟩ ut).run Tryz.prog W=.ok (.string (⟨#[Um.bt 80]⟩++ut)) W:=fun W=>run_string_add_sum _ _ _ (by rw[z1];omega)
  have hq2:∀W:World,(Op.stringOp .add (⟨#[Um.bt 80]⟩++ut) lt).run Tryz.prog W=.ok (.string (⟨#[Um.bt 80]⟩++ut++lt)) W:=fun W=>run_string_add_sum _ _ _ (by rw[ByteArray.size_append,z1];omega)
  have hq3:∀W:World,(Op.stringOp .add (⟨#[Um.bt 80]⟩++ut++lt) ⟨ba⟩).run Tryz.prog W=.ok (.string (⟨#[Um.bt 80]⟩++ut++lt++⟨ba⟩)) W:=fun W=>run_string_add_sum _ _ _ (by rw[ByteArray.size_append,ByteArray.size_append,z1];omega)
  clear z1
  go_wp2_with fail
  refine Calls.mono (HBm.out _) ?_
  rintro e w3 ⟨rfl,hb3⟩
  have HB3:Hid (Below w0.heap.size w0 w3):=HB2.out.trans (hb3.mono HB2.out.size)
  clear hb3 HB2
  go_wp2_with fail
  refine Calls.mono (HU.out _) ?_
  rintro e w4 ⟨rfl,hb4⟩
  have HB4:Hid (Below w0.heap.size w0 w4):=HB3.out.trans (hb4.mono HB3.out.size)
  clear hb4 HB3
  go_wp2_with fail
  refine Calls.mono (HS.out _) ?_
  rintro e w5 ⟨rfl,hw⟩
  obtain rfl:=hw.symm
  go_wp2_with fail
  refine Calls.mono (HF.out _) ?_
  rintro e w6 ⟨rfl,hb6⟩
  have HB6:Hid (Below w0.heap.size w0 w6):=HB4.out.trans (hb6.mono HB4.out.size)
  clear hb6 HB4
  go_wp2
  go_ret
  rw[HPg.out]
  exact⟨rfl,HUp.out _ HB6.out⟩
theorem WrR.same {N:Nat}{lid kind mr md:Int}{c k:Cl}{us:List Vl}{ps:List Nat}{sv kv:Value}{t:List UInt8}{ev:Value}{w:World}(hs:SameC c k)(h:WrR N lid kind mr md k us ps sv kv t ev w):WrR N lid kind mr md c us ps sv kv t ev w:=by
 obtain⟨cid,cra,crs,crc,cda,cds,cdc,cva,cvs,cvc⟩:=c
 obtain⟨kid,kra,krs,krc,kda,kds,kdc,kva,kvs,kvc⟩:=k
 have e1:kid=cid:=hs.id
 have e2:krs=crs:=hs.rs
 have e3:kds=cds:=hs.ds
 have e4:kvs=cvs:=hs.vs
 subst e1 e2 e3 e4
 exact h
def FinW (lid kind mr md:Int)(c:Cl)(ec ea:Int):Prop :=
 (ec=3/\ea=-1/\(isLfB kind mr md && fitB lid mr md c.id c.rs c.ds c.vs.length)=false) ∨
 (∃p:Nat,∃hp:p<c.vs.length,ec=4/\ea=p/\(isLfB kind mr md && fitB lid mr md c.id c.rs c.ds c.vs.length)=true/\badV kind c.vs[p]=true/\∀j (h:j<c.vs.length),j<p->badV kind c.vs[j]=false) ∨
 (ec=3/\ea=-1/\GoodC lid kind mr md c/\c.rs=[])\/(ec=0/\GoodC lid kind mr md c/\c.rs≠[])
theorem finW_of {lid kind mr md:Int}{c:Cl}{ec ea:Int}(h:ColErr lid kind mr md c.id c.rs c.ds c.vs ec ea)(h0:ec=0->c.rs≠[]):FinW lid kind mr md c ec ea:=by
 rcases h with ⟨e1,e2,hf⟩|⟨hf,⟨e1,e2,hg⟩|⟨p,hp,e1,e2,hb,hfi⟩⟩
 · exact .inl ⟨e1,e2,hf⟩
 · exact .inr (.inr (.inr ⟨e1,⟨hf,hg⟩,h0 e1⟩))
 · exact .inr (.inl ⟨p,hp,e1,e2,hf,hb,hfi⟩)
theorem finW_none {lid kind mr md:Int}{c:Cl}{ea:Int}(h:ColErr lid kind mr md c.id c.rs c.ds c.vs 0 ea)(h0:c.rs=[]):FinW lid kind mr md c 3 (-1):=by
 rcases h with ⟨e1,_⟩|⟨hf,⟨_,_,hg⟩|⟨p,hp,e1,_⟩⟩
 · cases e1
 · exact .inr (.inr (.inl ⟨rfl,rfl,⟨hf,hg⟩,h0⟩))
 · cases e1
theorem set2_row {w:World}{g t:Nat}{x0 x1:Value}(h:w.heap[g]? = some (.cells #[x0,x1] t (0,0)))(y0 y1:Value) :
    ((w.setCell ⟨g,0,none⟩ y0).setCell ⟨g,1,none⟩ y1).heap[g]? = some (.cells #[y0,y1] t (0,0)):=by
 have h0:(w.setCell ⟨g,0,none⟩ y0).heap[g]? = some (.cells #[y0,x1] t (0,0)):=row_setCell h y0
 exact row_setCell h0 y1
theorem set2_below {B:Nat}{w X:World}(h:Below B w X){g:Nat}(hg:B<=g)(y0 y1:Value):Below B w ((X.setCell ⟨g,0,none⟩ y0).setCell ⟨g,1,none⟩ y1):=(h.setCell hg _).setCell hg _
theorem field_rep (x0 x1 x2 x3:Value)(w:World):(Instr.field 27 (.agg #[x0,x1,x2,x3]) 1).run Tryz.prog w=.ok x1 w:=by kernel_rfl
theorem goodC_val {lid kind mr md:Int}{c k:Cl}(h0:k.id=c.id)(h1:k.rs=c.rs)(h2:k.ds=c.ds)(h3:k.vs=c.vs)(hg:GoodC lid kind mr md c):GoodC lid kind mr md k:=by
 obtain⟨cid,cra,crs,crc,cda,cds,cdc,cva,cvs,cvc⟩:=c
 obtain⟨kid,kra,krs,krc,kda,kds,kdc,kva,kvs,kvc⟩:=k
 simp only at h0 h1 h2 h3
 subst h0 h1 h2 h3
 exact hg
theorem cat_ch (l m:List UInt8)(h:l.length+m.length<=100000000)(W:World):(Op.stringOp .add ⟨l.toArray⟩ ⟨m.toArray⟩).run Tryz.prog W=.ok (.string ⟨(l++m).toArray⟩) W:=by
 have e:(⟨(l++m).toArray⟩:ByteArray)=⟨l.toArray⟩++⟨m.toArray⟩:=by
  have e2:∀x:ByteArray,x=⟨x.data.toList.toArray⟩:=fun x=>by simp
  rw[e2 (⟨l.toArray⟩++⟨m.toArray⟩)]
  simp[ByteArray.data_append]
 rw[e]
 exact run_string_add_sum _ _ _ (by simp only[ByteArray.size,List.size_toArray];omega)
theorem szF_stop {f most m:Nat}{rs:List Int}(h:¬ (m<rs.length/\rEnd rs m<=most)):szF f rs most m=m:=by
 cases f with
 | zero=>rfl
 | succ f =>
  unfold szF
  by_cases h1:m<rs.length
  · rw[if_pos h1,if_pos (by omega)]
  · rw[if_neg h1]
theorem chunkOf_any (lid kind mr md:Int)(pa:Option Addr)(pn pc:Nat)(U:List Vl->List Vl × List Nat)(hU:∀vs,Uq vs (U vs).1 (U vs).2)(c:Cl)(most:Nat)(hg:GoodC lid kind mr md c)(hin:∀v∈c.vs,v.In)(hbk:c.rs.length+c.ds.length+c.vs.length<=2000)(W:World)(hat:c.At W) :
    Calls Tryz.prog 13 #[.agg #[.int .i64 lid,.int .i64 kind,.int .i64 mr,.int .i64 md,.slice pa pn pc],.agg #[.int .i64 c.id,.slice c.ra c.rs.length c.rc,.slice c.da c.ds.length c.dc,.slice c.va c.vs.length c.vc],.int .i64 most] W fun e w'=>e=.returned (.string ⟨(chT U kind mr md (pgs c.rs.length most md c)).toArray⟩)/\Below W.heap.size W w':=by
 have hTl:(chT U kind mr md (pgs c.rs.length most md c)).length<=1000000:=by
  have hwh:=pgs_whole (lid:=lid) (kind:=kind) (mr:=mr) (md:=md) most c.rs.length c (Nat.le_refl _) hg
  have h:=chT_len (U:=U) (lid:=lid) (kind:=kind) (mr:=mr) (md:=md) (pgs c.rs.length most md c) (fun p hp=>⟨(hwh.2.2.2 p hp).1,(hwh.2.2.2 p hp).2,fun v hv=>hin v (pgs_mem _ _ _ hp v hv)⟩) (by rw[hwh.1,hwh.2.1,hwh.2.2.1];exact hbk)
  rw[hwh.1,hwh.2.2.1] at h
  have hfit:=hg.1
  rw[Bool.and_eq_true,fitB_iff] at hfit
  obtain⟨_,_,hlen,_⟩:=hfit
  omega
 have hfit:=hg.1
 rw[Bool.and_eq_true,fitB_iff] at hfit
 obtain⟨-,hcid,hlen,hhd,-,-,hvl⟩:=hfit
 rw[headB_iff] at hhd
 have hst0:=st_zero hhd
 have hcn:cntE 0 c.rs<=c.rs.length:=List.length_filter_le _ _
 obtain⟨w0,HW0,HX,HY,HB⟩:=two_boxes W #[.int .i64 lid,.int .i64 kind,.int .i64 mr,.int .i64 md,.slice pa pn pc] #[.int .i64 c.id,.slice c.ra c.rs.length c.rc,.slice c.da c.ds.length c.dc,.slice c.va c.vs.length c.vc] 24 27
 have HI0:Hid (LsI W lid kind mr md pa pn pc c w0):=⟨HX.out,HY.out,HB.out⟩
 have HAT:Hid (∀X,Below W.heap.size W X->c.At X):=fun X hX=>hat.keep hX
 have HG:Hid _:=hg
 have HIN:Hid _:=hin
 have HU:Hid _:=hU
 have HPt:Hid (∀(lo hi a b:Nat) X,StAt c.rs (lo:Nat) a->StAt c.rs (hi:Nat) b->Below W.heap.size W X->Calls Tryz.prog 27 #[.agg #[.int .i64 lid,.int .i64 kind,.int .i64 mr,.int .i64 md,.slice pa pn pc],.agg #[.int .i64 c.id,.slice c.ra c.rs.length c.rc,.slice c.da c.ds.length c.dc,.slice c.va c.vs.length c.vc],.int .i64 (lo:Nat),.int .i64 (hi:Nat)] X fun e w'=>(∃k:Cl,e=.returned (.agg #[.int .i64 k.id,.slice k.ra k.rs.length k.rc,.slice k.da k.ds.length k.dc,.slice k.va k.vs.length k.vc])/\k.At w'/\k.id=c.id/\k.rs=cutL c.rs a b/\k.ds=cutL c.ds a b/\k.vs=cutL c.vs (cntE md (c.ds.take a)) (cntE md (c.ds.take b)))/\Below X.heap.size X w'):=fun lo hi a b X h1 h2 hX=>partOf_any lid kind mr md (lo:Nat) (hi:Nat) pa pn pc c X a b (by omega) (by omega) hlen hvl h1 h2 (hat.keep hX)
 have HCo:Hid (Calls Tryz.prog 26 #[.agg #[.int .i64 c.id,.slice c.ra c.rs.length c.rc,.slice c.da c.ds.length c.dc,.slice c.va c.vs.length c.vc]] w0 fun e w'=>e=.returned (.int .i64 (cntE 0 c.rs:Nat))/\Below w0.heap.size w0 w'):=countOf_any c.id c.ra c.rs c.rc c.da c.ds.length c.dc c.va c.vs.length c.vc (by omega) w0 (hat.keep HB.out).r
 have HZ0:Hid (Zr c.rs 0):=hhd
 have HSt0:Hid (StAt c.rs (0:Nat) 0):=hst0
 have HTl:Hid _:=hTl
 have HT0:Hid (chT U kind mr md (pgs c.rs.length most md (c.snd md 0))=chT U kind mr md (pgs c.rs.length most md c)):=chT_val _ rfl rfl rfl
 obtain⟨T,HT⟩:∃T,Hid (chT U kind mr md (pgs c.rs.length most md c)=T):=⟨_,rfl⟩
 rw[HT.out] at HTl HT0 ⊢
 have HVl:Hid (c.vs.length=cntE md c.ds):=hvl
 have HLn:Hid (c.rs.length=c.ds.length):=hlen
 have HCid:Hid _:=hcid
 clear HX HY HB hat hg hin hU hhd hst0 hTl hvl hcid hlen
 go_enter Tryz.func13,Tryz.ntmps13
 go_upto_region 2 with fail
 rw[HW0.out]
 clear HW0
 obtain⟨k0,k1,k2,k3⟩:=row_four HI0.out.co
 go_wp2_with fail
 refine Calls.mono HCo.out ?_
 rintro e w1 ⟨rfl,hb1⟩
 have HI1:Hid (LsI W lid kind mr md pa pn pc c w1):=HI0.out.keep hb1
 clear hb1 HI0 HCo k0 k1 k2 k3
 obtain⟨nn,HNN⟩:∃nn:Nat,Hid (cntE 0 c.rs=nn):=⟨_,rfl⟩
 rw[HNN.out] at hcn ⊢
 have hem:(⟨#[]⟩:ByteArray)=⟨([]:List UInt8).toArray⟩:=rfl
 go_wp2_with fail
 go_loopw [7,9] (fun x y wr=>∃(t:List UInt8) (fr a f:Nat),fr<=nn/\x=.string ⟨t.toArray⟩/\y=.int .i64 (fr:Nat)/\Hid (StAt c.rs (fr:Nat) a)/\Hid (Zr c.rs a)/\Hid (t++chT U kind mr md (pgs f most md (c.snd md a))=T)/\Hid (c.rs.length-a<=f)/\Hid (LsI W lid kind mr md pa pn pc c wr)) (fun _ y _=>nn-(intOf y).toNat)
 case atStart=>exact⟨[],0,0,c.rs.length,Nat.zero_le _,rfl,rfl,HSt0,HZ0,HT0,Nat.sub_le _ _,HI1⟩
 case round =>
  clear HI1 HSt0 HZ0 HT0
  obtain⟨t,fr,a,f,hfr,rfl,rfl,HSt,HZr,HTx,HFu,HI⟩:=hrel
  have hltI:=st_lt HSt.out
  rw[HNN.out] at hltI
  have HTle:Hid (t.length<=1000000):=(by
   have h1:=HTx.out
   have h2:=HTl.out
   rw[←h1,List.length_append] at h2
   show _<=_
   omega)
  by_cases hlt:fr<nn
  · have hal:a<c.rs.length:=hltI.1 hlt
    obtain⟨g1,g2,_⟩:=goodC_two HG.out HZr.out
    have hne:(c.snd md a).rs≠[]:=fun h=>by
     have h5:(c.rs.drop a).length=0:=by
      have h6:(c.snd md a).rs=c.rs.drop a:=rfl
      rw[←h6,h]
      rfl
     rw[List.length_drop] at h5
     omega
    have HG2:Hid (GoodC lid kind mr md (c.snd md a)):=g2
    have HNe:Hid _:=hne
    have hdl:(c.rs.drop a).length=c.rs.length-a:=List.length_drop
    have hr0:=rEnd_le (rs:=c.rs.drop a) (b:=0) (by omega)
    have hn1:=st_next HSt.out hal
    have e0:=rEnd_drop c.rs a 0
    rw[Nat.add_zero] at e0
    rw[←e0] at hn1
    have HN1:Hid (StAt c.rs ((fr+1:Nat):Int) (a+rEnd (c.rs.drop a) 0)):=hn1
    have HZ1:Hid (Zr (c.rs.drop a) (rEnd (c.rs.drop a) 0)):=rEnd_zr _ _
    clear hltI g1 g2 hne hn1 e0
    go_wp2_with fail
    go_loopw [10] (fun x wr=>∃(tq m f':Nat),fr<tq/\tq<=nn/\x=.int .i64 (tq:Nat)/\a+m<=c.rs.length/\Hid (StAt c.rs (tq:Nat) (a+m))/\Hid (Zr (c.rs.drop a) m)/\Hid (pSz (c.rs.drop a) most=szF f' (c.rs.drop a) most m)/\Hid ((c.rs.drop a).length<=f'+m)/\Hid (LsI W lid kind mr md pa pn pc c wr)) (fun x _=>nn-(intOf x).toNat)
    case atStart=>exact⟨fr+1,rEnd (c.rs.drop a) 0,(c.rs.drop a).length,by omega,by omega,by go_num,by omega,HN1,HZ1,rfl,Nat.le_add_right _ _,HI⟩
    case round =>
     clear HI HN1 HZ1 hr0
     rename World=>wq
     obtain⟨tq,m,f',hft,hto,rfl,ham,HSt2,HZ2,HP,HF,HI⟩:=hrel
     have hltI:=st_lt HSt2.out
     rw[HNN.out] at hltI
     obtain⟨⟨p0,p1,p2,p3,p4⟩,_⟩:=row_five HI.out.lf
     obtain⟨k0,k1,k2,k3⟩:=row_four HI.out.co
     go_upto_region 6 with fail
     go_cut [32] (fun x wx=>∃b:Bool,x=.bool b/\Hid (b=true ↔ (a+m<c.rs.length/\rEnd (c.rs.drop a) m<=most))/\Hid (LsI W lid kind mr md pa pn pc c wx))
     case first =>
      by_cases hl2:a+m<c.rs.length
      · have htn:tq<nn:=hltI.2 hl2
        have q1:decide (((tq:Nat):Int)<((nn:Nat):Int))=true:=decide_eq_true (by omega)
        have hn2:=st_next HSt2.out hl2
        rw[←rEnd_drop] at hn2
        have hre:=rEnd_le (rs:=c.rs.drop a) (b:=m) (by omega)
        have HPt2:Hid (Calls Tryz.prog 27 #[.agg #[.int .i64 lid,.int .i64 kind,.int .i64 mr,.int .i64 md,.slice pa pn pc],.agg #[.int .i64 c.id,.slice c.ra c.rs.length c.rc,.slice c.da c.ds.length c.dc,.slice c.va c.vs.length c.vc],.int .i64 (fr:Nat),.int .i64 ((tq:Nat)+1)] wq fun e w'=>(∃k:Cl,e=.returned (.agg #[.int .i64 k.id,.slice k.ra k.rs.length k.rc,.slice k.da k.ds.length k.dc,.slice k.va k.vs.length k.vc])/\k.rs.length=rEnd (c.rs.drop a) m)/\Below wq.heap.size wq w'):=(by
         have h:=HPt.out fr (tq+1) a (a+rEnd (c.rs.drop a) m) wq HSt.out hn2 HI.out.old
         rw[Int.natCast_add] at h
         refine h.mono fun e w' hq=>⟨?_,hq.2⟩
         obtain⟨⟨k,h1,_,_,h2,_⟩,_⟩:=hq
         exact⟨k,h1,by rw[h2,cutL_len _ _ _ (by omega)];omega⟩)
        obtain⟨re,HRE⟩:∃re:Nat,Hid (rEnd (c.rs.drop a) m=re):=⟨_,rfl⟩
        rw[HRE.out] at hre HPt2
        have HL2:Hid _:=hl2
        clear hn2 hl2 hltI
        go_wp2_with fail
        refine Calls.mono HPt2.out ?_
        rintro e w2 ⟨⟨k,rfl,hkl⟩,hb2⟩
        have HI2:Hid (LsI W lid kind mr md pa pn pc c w2):=HI.out.keep hb2
        rw[hkl]
        clear hb2 hkl HPt2 p0 p1 p2 p3 p4 k0 k1 k2 k3
        have hfld:∀X:World,(Instr.field 27 (.agg #[.int .i64 k.id,.slice k.ra re k.rc,.slice k.da k.ds.length k.dc,.slice k.va k.vs.length k.vc]) 1).run Tryz.prog X=.ok (.slice k.ra re k.rc) X:=fun X=>field_rep _ _ _ _ X
        by_cases hm:re<=most
        · have q2:decide (((re:Nat):Int)<=((most:Nat):Int))=true:=decide_eq_true (by omega)
          go_wp2_with fail
          go_meet
          exact⟨true,rfl,⟨fun _=>⟨HL2.out,by rw[HRE.out];exact hm⟩,fun _=>rfl⟩,HI2⟩
        · have q2:decide (((re:Nat):Int)<=((most:Nat):Int))=false:=decide_eq_false (by omega)
          go_wp2_with fail
          go_meet
          exact⟨false,rfl,⟨fun h=>by (cases h),fun h=>absurd (HRE.out ▸ h.2) hm⟩,HI2⟩
      · have q1:decide (((tq:Nat):Int)<((nn:Nat):Int))=false:=decide_eq_false (by omega)
        go_wp2_with fail
        go_meet
        exact⟨false,rfl,⟨fun h=>by (cases h),fun h=>absurd h.1 hl2⟩,HI⟩
     case rest =>
      obtain⟨b,rfl,HBi,HI2⟩:=hcut
      rename World=>wx
      clear HI p0 p1 p2 p3 p4 k0 k1 k2 k3
      cases b with
      | true =>
       obtain⟨h1,h2⟩:=HBi.out.1 rfl
       obtain⟨f2,rfl⟩:∃f2,f'=f2+1:=⟨f'-1,by have:=HF.out;omega⟩
       have hgt:=rEnd_gt (c.rs.drop a) m
       have hre:=rEnd_le (rs:=c.rs.drop a) (b:=m) (by omega)
       have hn2:=st_next HSt2.out h1
       rw[←rEnd_drop] at hn2
       have HN2:Hid (StAt c.rs ((tq+1:Nat):Int) (a+rEnd (c.rs.drop a) m)):=hn2
       have HP2:Hid (pSz (c.rs.drop a) most=szF f2 (c.rs.drop a) most (rEnd (c.rs.drop a) m)):=(by
        show _=_
        rw[HP.out,szF,if_pos (by omega),if_neg (by omega)])
       have HZ3:Hid (Zr (c.rs.drop a) (rEnd (c.rs.drop a) m)):=rEnd_zr _ _
       have htn:=hltI.2 h1
       clear h1 h2 hn2 hltI
       go_wp2
       go_roundw
       case rel=>exact⟨tq+1,rEnd (c.rs.drop a) m,f2,by omega,by omega,by go_num,by omega,HN2,HZ3,HP2,by have:=HF.out;show _<=_;omega,HI2⟩
       case measure=>simp[intOf];omega
      | false =>
       have hns:¬ (a+m<c.rs.length/\rEnd (c.rs.drop a) m<=most):=fun h=>by cases HBi.out.2 h
       have HPm:Hid (pSz (c.rs.drop a) most=m):=(by
        show _=_
        rw[HP.out]
        exact szF_stop (fun h=>hns ⟨by omega,h.2⟩))
       have hm1:0<m:=by have h:=(pSz_ok (rs:=c.rs.drop a) most HNe.out).1;rw[HPm.out] at h;exact h
       obtain⟨f0,hf0⟩:∃f0,f=f0+1:=⟨f-1,by have:=HFu.out;omega⟩
       subst hf0
       obtain⟨g1,_,g3⟩:=goodC_two HG2.out (n:=m) HZ2.out
       have HTy:Hid ((t++pgT U kind mr md ((c.snd md a).fst md m))++chT U kind mr md (pgs f0 most md (c.snd md (a+m)))=T):=(by
        have h:=HTx.out
        rw[pgs,if_neg HNe.out,chT_cons,show pSz (c.snd md a).rs most=m from HPm.out] at h
        show _=_
        obtain⟨u1,u2,u3⟩:=snd_snd c md a m
        rw[←h,List.append_assoc,chT_val f0 u1 u2 u3])
       have HTl2:Hid ((t++pgT U kind mr md ((c.snd md a).fst md m)).length<=1000000):=(by
        have h1:=HTy.out
        have h2:=HTl.out
        rw[←h1,List.length_append] at h2
        show _<=_
        omega)
       have HPt3:Hid (∀X,Below wx.heap.size wx X->Calls Tryz.prog 27 #[.agg #[.int .i64 lid,.int .i64 kind,.int .i64 mr,.int .i64 md,.slice pa pn pc],.agg #[.int .i64 c.id,.slice c.ra c.rs.length c.rc,.slice c.da c.ds.length c.dc,.slice c.va c.vs.length c.vc],.int .i64 (fr:Nat),.int .i64 (tq:Nat)] X fun e w'=>(∃k:Cl,e=.returned (.agg #[.int .i64 k.id,.slice k.ra k.rs.length k.rc,.slice k.da k.ds.length k.dc,.slice k.va k.vs.length k.vc])/\k.At w'/\k.id=c.id/\k.rs=(c.rs.drop a).take m/\k.ds=(c.ds.drop a).take m/\k.vs=(c.vs.drop (cntE md (c.ds.take a))).take (cntE md ((c.ds.drop a).take m)))/\Below wx.heap.size wx w'/\Below X.heap.size X w'):=fun X hX=>(HPt.out fr tq a (a+m) X HSt.out HSt2.out (HI2.out.keep hX).old).mono fun e w' h=>(by
        obtain⟨⟨k,h1,h2,h3,h4,h5,h6⟩,h7⟩:=h
        rw[cutL_drop] at h4 h5
        rw[cntE_two,cutL_drop] at h6
        exact⟨⟨k,h1,h2,h3,h4,h5,h6⟩,bel_next hX (Nat.le_refl _) h7,h7⟩)
       have HPo:Hid (∀X (k:Cl),Below wx.heap.size wx X->k.At X->k.id=c.id->k.rs=(c.rs.drop a).take m->k.ds=(c.ds.drop a).take m->k.vs=(c.vs.drop (cntE md (c.ds.take a))).take (cntE md ((c.ds.drop a).take m))->Calls Tryz.prog 28 #[.agg #[.int .i64 lid,.int .i64 kind,.int .i64 mr,.int .i64 md,.slice pa pn pc],.agg #[.int .i64 k.id,.slice k.ra k.rs.length k.rc,.slice k.da k.ds.length k.dc,.slice k.va k.vs.length k.vc]] X fun e w'=>e=.returned (.string ⟨(pgT U kind mr md ((c.snd md a).fst md m)).toArray⟩)/\Below wx.heap.size wx w'):=fun X k hX ka ki kr kd kv=>(by
        have hgk:GoodC lid kind mr md k:=goodC_val (c:=(c.snd md a).fst md m) ki kr kd kv g1
        have hink:∀v∈k.vs,v.In:=fun v hv=>HIN.out v (by rw[kv] at hv;exact List.mem_of_mem_drop (List.mem_of_mem_take hv))
        obtain⟨hm1,hm2,hpg⟩:=goodC_pg hgk hink
        have heu:=ofK_eu k k.vs.length (Nat.le_refl _)
        rw[ofK_all] at heu
        have l1:k.rs.length<=c.rs.length:=by rw[kr,List.length_take,List.length_drop];omega
        have l2:=hpg.len
        have l4:=HLn.out
        have l5:k.vs.length<=c.vs.length:=by rw[kv,List.length_take,List.length_drop];omega
        have l6:=HVl.out
        have l7:cntE md c.ds<=c.ds.length:=List.length_filter_le _ _
        have l3:=hpg.vl
        have h:=pageOf_any lid kind mr.toNat md.toNat pa pn pc k (U k.vs).1 (U k.vs).2 (HU.out k.vs) hpg (by omega) (by omega) (ofC_fit hpg.rt) (by rw[heu.1];omega) (by rw[heu.2];omega) X ka (fun v hv=>(hink v hv).2.1.1)
        rw[Int.toNat_of_nonneg hm1.1,Int.toNat_of_nonneg hm2.1] at h
        refine h.mono fun e w' hq=>⟨?_,bel_next hX (Nat.le_refl _) hq.2⟩
        rw[hq.1,←pgT_val (k:=k) (c:=(c.snd md a).fst md m) kr kd kv]
        rfl)
       obtain⟨pg,HPG⟩:∃pg,Hid (pgT U kind mr md ((c.snd md a).fst md m)=pg):=⟨_,rfl⟩
       rw[HPG.out] at HTy HTl2 HPo
       have HCat:Hid (∀X:World,(Op.stringOp .add ⟨t.toArray⟩ ⟨pg.toArray⟩).run Tryz.prog X=.ok (.string ⟨(t++pg).toArray⟩) X):=fun X=>cat_ch t pg (by have h:=HTl2.out;rw[List.length_append] at h;omega) X
       obtain⟨tb,HTB⟩:∃tb,Hid ((⟨t.toArray⟩:ByteArray)=tb):=⟨_,rfl⟩
       obtain⟨pb,HPB⟩:∃pb,Hid ((⟨pg.toArray⟩:ByteArray)=pb):=⟨_,rfl⟩
       obtain⟨ub,HUB⟩:∃ub,Hid ((⟨(t++pg).toArray⟩:ByteArray)=ub):=⟨_,rfl⟩
       rw[HTB.out,HPB.out,HUB.out] at HCat
       rw[HPB.out] at HPo
       rw[HTB.out]
       have hcat:=HCat.out
       clear g1 g3 hns hltI HBi HP HF HZ2 HTx HPG
       obtain⟨⟨p0,p1,p2,p3,p4⟩,_⟩:=row_five HI2.out.lf
       obtain⟨k0,k1,k2,k3⟩:=row_four HI2.out.co
       go_upto_region 8 with fail
       go_cut [7] (fun x wy=>x=.string ub/\Hid (LsI W lid kind mr md pa pn pc c wy))
       case first =>
        have b0:Below wx.heap.size wx wx:=Below.refl _ _
        have HN:Hid (∀X,Below wx.heap.size wx X->(X.cell? ⟨W.heap.size,0,none⟩=some (.int .i64 lid)/\X.cell? ⟨W.heap.size,1,none⟩=some (.int .i64 kind)/\X.cell? ⟨W.heap.size,2,none⟩=some (.int .i64 mr)/\X.cell? ⟨W.heap.size,3,none⟩=some (.int .i64 md)/\X.cell? ⟨W.heap.size,4,none⟩=some (.slice pa pn pc))/\(X.cell? ⟨W.heap.size+1,0,none⟩=some (.int .i64 c.id)/\X.cell? ⟨W.heap.size+1,1,none⟩=some (.slice c.ra c.rs.length c.rc)/\X.cell? ⟨W.heap.size+1,2,none⟩=some (.slice c.da c.ds.length c.dc)/\X.cell? ⟨W.heap.size+1,3,none⟩=some (.slice c.va c.vs.length c.vc))/\Below wx.heap.size wx X):=fun X hX=>⟨(row_five (blk_keep hX HI2.out.lf)).1,row_four (blk_keep hX HI2.out.co),hX⟩
        go_region_held3 (fun X=>(X.cell? ⟨W.heap.size,0,none⟩=some (.int .i64 lid)/\X.cell? ⟨W.heap.size,1,none⟩=some (.int .i64 kind)/\X.cell? ⟨W.heap.size,2,none⟩=some (.int .i64 mr)/\X.cell? ⟨W.heap.size,3,none⟩=some (.int .i64 md)/\X.cell? ⟨W.heap.size,4,none⟩=some (.slice pa pn pc))/\(X.cell? ⟨W.heap.size+1,0,none⟩=some (.int .i64 c.id)/\X.cell? ⟨W.heap.size+1,1,none⟩=some (.slice c.ra c.rs.length c.rc)/\X.cell? ⟨W.heap.size+1,2,none⟩=some (.slice c.da c.ds.length c.dc)/\X.cell? ⟨W.heap.size+1,3,none⟩=some (.slice c.va c.vs.length c.vc))/\Below wx.heap.size wx X) (with_reducible refine HN.out _ ?_;repeat' (first|with_reducible assumption|with_reducible exact b0.drew|with_reducible exact b0|with_reducible refine Below.drew ?_|with_reducible exact Nat.le_refl _|with_reducible refine Below.setCell ?_ ?_ _|with_reducible refine Below.alloc ?_ ?_ _|with_reducible exact Below.size (by assumption)|(simp;done)|(simp;omega)|omega)) (first
         | (go_at_call 27;(with_reducible refine Calls.mono (HPt3.out _ ?_) ?_);(repeat' (first|with_reducible assumption|with_reducible exact b0.drew|with_reducible exact b0|with_reducible refine Below.drew ?_|with_reducible refine Below.alloc ?_ ?_ _|with_reducible exact Below.size (by assumption)|with_reducible exact Nat.le_refl _|(simp;done)|(simp;omega)));rintro e x1 ⟨⟨k,rfl,ka,ki,kr,kd,kv⟩,hbx1,hraw1⟩;have HKA:Hid (k.At x1):=ka;have HKE:Hid (k.id=c.id/\k.rs=(c.rs.drop a).take m/\k.ds=(c.ds.drop a).take m/\k.vs=(c.vs.drop (cntE md (c.ds.take a))).take (cntE md ((c.ds.drop a).take m))):=⟨ki,kr,kd,kv⟩;clear ka ki kr kd kv)
         | (go_at_call 28;(with_reducible refine Calls.mono (HPo.out _ k ?_ ?_ HKE.out.1 HKE.out.2.1 HKE.out.2.2.1 HKE.out.2.2.2) ?_);(repeat' (first|with_reducible assumption|with_reducible exact b0.drew|with_reducible exact b0|with_reducible refine Below.drew ?_|with_reducible refine Below.alloc ?_ ?_ _|with_reducible exact Below.size (by assumption)|with_reducible exact Nat.le_refl _|(simp;done)|(simp;omega)));(first|exact HKA.out|exact HKA.out.keep ((Below.refl _ _).drew));rintro e x2 ⟨rfl,hbx2⟩;have HBX2:Hid (Below wx.heap.size wx x2):=hbx2))
        all_goals
         go_wp2_with fail
         go_meet
         exact⟨rfl,HI2.out.keep HBX2.out⟩
       case rest =>
        obtain⟨rfl,HI3⟩:=hcut
        clear HI2 p0 p1 p2 p3 p4 k0 k1 k2 k3
        have HZ4:Hid (Zr c.rs (a+m)):=fun x hx=>(st_at HSt2.out (List.getElem?_eq_some_iff.1 hx).1).1 ▸ (List.getElem?_eq_some_iff.1 hx).2.symm
        go_wp2
        go_roundw
        case rel=>exact⟨t++pg,tq,a+m,f0,by omega,by rw[HUB.out],rfl,HSt2,HZ4,HTy,by have:=HFu.out;show _<=_;omega,HI3⟩
        case measure=>simp[intOf];omega
  · have hal:¬ a<c.rs.length:=fun h=>hlt (hltI.2 h)
    have HE:Hid (t=T):=(by
     have h:=HTx.out
     have hp:pgs f most md (c.snd md a)=[]:=by
      cases f with
      | zero=>rfl
      | succ f=>rw[pgs,if_pos (show (c.snd md a).rs=[] from List.drop_eq_nil_of_le (by omega))]
     rw[hp,chT,List.flatMap_nil,List.append_nil] at h
     exact h)
    have q1:decide (((fr:Nat):Int)<((nn:Nat):Int))=false:=decide_eq_false (by omega)
    obtain⟨tb,HTB⟩:∃tb,Hid ((⟨t.toArray⟩:ByteArray)=tb):=⟨_,rfl⟩
    rw[HTB.out]
    go_wp2
    go_ret
    exact⟨by rw[←HE.out,HTB.out];rfl,HI.out.old⟩
def FinC (lid kind mr md:Int)(c:Cl)(most:Int)(ec ea:Int):Prop :=
 (ec=3/\ea=-1/\(isLfB kind mr md && fitB lid mr md c.id c.rs c.ds c.vs.length)=false) ∨
 (∃p:Nat,∃hp:p<c.vs.length,ec=4/\ea=p/\(isLfB kind mr md && fitB lid mr md c.id c.rs c.ds c.vs.length)=true/\badV kind c.vs[p]=true/\∀j (h:j<c.vs.length),j<p->badV kind c.vs[j]=false) ∨
 (ec=3/\ea=-1/\GoodC lid kind mr md c/\c.rs=[])\/(ec=2/\ea=-1/\GoodC lid kind mr md c/\c.rs≠[]/\¬ (1<=most/\most<=20000))\/(ec=0/\GoodC lid kind mr md c/\c.rs≠[]/\(1<=most/\most<=20000))
theorem finC_of {lid kind mr md:Int}{c:Cl}{most ec ea:Int}(h:FinW lid kind mr md c ec ea)(h0:ec=0->(1<=most/\most<=20000)):FinC lid kind mr md c most ec ea:=by
 rcases h with h|h|h|⟨h1,h2,h3⟩
 · exact .inl h
 · exact .inr (.inl h)
 · exact .inr (.inr (.inl h))
 · exact .inr (.inr (.inr (.inr ⟨h1,h2,h3,h0 h1⟩)))
theorem finC_none {lid kind mr md:Int}{c:Cl}{most ea:Int}(h:FinW lid kind mr md c 0 ea)(h0:¬ (1<=most/\most<=20000)):FinC lid kind mr md c most 2 (-1):=by
 rcases h with ⟨h,_⟩|⟨_,_,h,_⟩|⟨h,_⟩|⟨_,h2,h3⟩
 · cases h
 · cases h
 · cases h
 · exact .inr (.inr (.inr (.inl ⟨rfl,rfl,h2,h3,h0⟩)))
def BoC (A:Nat->Addr)(lid kind mr md:Int)(U:List Vl->List Vl × List Nat)(c:Cl)(most:Int)(ec ea:Int)(t:List UInt8)(ev:Value)(w:World):Prop :=
 (ec=3/\ea=-1/\t=[]/\ev=errV (A 2))\/(∃p q:Nat,ec=4/\ea=p/\t=[]/\ev=.iface 83 (.pointer (some ⟨q,0,none⟩))/\w.cell? ⟨q,0,none⟩=some (.int .i64 p)/\w.cell? ⟨q,1,none⟩=some (errV (A 3)))\/(ec=2/\ea=-1/\t=[]/\ev=errV (A 1)) ∨
 (ec=0/\GoodC lid kind mr md c/\(1<=most/\most<=20000)/\ev=.nilIface/\t=chT U kind mr md (pgs c.rs.length most.toNat md c))
theorem bothC {A:Nat->Addr}{N:Nat}{lid kind mr md:Int}{U:List Vl->List Vl × List Nat}{c:Cl}{most:Int}{t:List UInt8}{ev:Value}{ec ea:Int}{w:World}(h1:FinC lid kind mr md c most ec ea)(h2:CwR N lid kind mr md U c most (errV (A 2)) (errV (A 3)) (errV (A 1)) t ev w):BoC A lid kind mr md U c most ec ea t ev w:=by
 rcases h1 with ⟨e1,e2,hf⟩|⟨p,hp,e1,e2,hf,hb,hfi⟩|⟨e1,e2,hg,hr⟩|⟨e1,e2,hg,hr,hm⟩|⟨e1,hg,hr,hm⟩
 · rcases h2 with ⟨h,_,ht⟩|⟨h,_⟩
   · rcases h with ⟨_,h4⟩|⟨h,_⟩|⟨h,_⟩|⟨h,_⟩|⟨h,_⟩
     · exact .inl ⟨e1,e2,ht,h4⟩
     · rw[hf] at h;cases h
     · have:=h.1;rw[hf] at this;cases this
     · have:=h.1;rw[hf] at this;cases this
     · have:=h.1;rw[hf] at this;cases this
   · have:=h.1;rw[hf] at this;cases this
 · rcases h2 with ⟨h,_,ht⟩|⟨h,_⟩
   · rcases h with ⟨h,_⟩|⟨_,p2,hp2,hb2,hf2,q,_,h4,h5,h6⟩|⟨h,_⟩|⟨h,_⟩|⟨h,_⟩
     · rw[hf] at h;cases h
     · obtain rfl:=firstT hp hp2 hb hb2 hfi hf2
       exact .inr (.inl ⟨p,q,e1,e2,ht,h4,h5,h6⟩)
     · have:=h.2 p hp;rw[hb] at this;cases this
     · have:=h.2 p hp;rw[hb] at this;cases this
     · have:=h.2 p hp;rw[hb] at this;cases this
   · have:=h.2 p hp;rw[hb] at this;cases this
 · rcases h2 with ⟨h,_,ht⟩|⟨_,h,_⟩
   · rcases h with ⟨h,_⟩|⟨_,p,hp,h,_⟩|⟨_,_,h4⟩|⟨_,h,_⟩|⟨_,h,_⟩
     · rw[hg.1] at h;cases h
     · rw[hg.2 p hp] at h;cases h
     · exact .inl ⟨e1,e2,ht,h4⟩
     · exact absurd hr h
     · exact absurd hr h
   · exact absurd hr h
 · rcases h2 with ⟨h,_,ht⟩|⟨_,_,h,_⟩
   · rcases h with ⟨h,_⟩|⟨_,p,hp,h,_⟩|⟨_,h,_⟩|⟨_,_,_,h4⟩|⟨_,_,h,_⟩
     · rw[hg.1] at h;cases h
     · rw[hg.2 p hp] at h;cases h
     · exact absurd h hr
     · exact .inr (.inr (.inl ⟨e1,e2,ht,h4⟩))
     · exact absurd h hm
   · exact absurd h hm
 · obtain⟨h3,h4⟩:=h2.good hg hr hm
   exact .inr (.inr (.inr ⟨e1,hg,hm,h3,h4⟩))
theorem chunkWrites_walk (lid kind mr md:Int)(pa:Option Addr)(pc:Nat)(ps:List Int)(c:Cl)(most:Int)(W:World)(A:Nat->Addr)(hE:Errs W A)(hp:Lies W pa (i64s ps))(hat:c.At W)(hin:∀v∈c.vs,v.In)(hcb:c.bulk<=1048576)  :
    Calls Tryz.prog 3 #[.agg #[.int .i64 lid,.int .i64 kind,.int .i64 mr,.int .i64 md,.slice pa ps.length pc],.agg #[.int .i64 c.id,.slice c.ra c.rs.length c.rc,.slice c.da c.ds.length c.dc,.slice c.va c.vs.length c.vc],.int .i64 most] W fun e w'=>e=.returned (.bool true)/\Below W.heap.size W w':=by
 obtain⟨pn,hpn⟩:∃pn,ps.length=pn:=⟨_,rfl⟩
 have HPN:Hid _:=hpn
 rw[hpn]
 clear hpn
 obtain⟨U,hU⟩:=uq_pick
 have HU:Hid _:=hU
 obtain⟨w0,HW0,HX,HY,HB⟩:=two_boxes W #[.int .i64 lid,.int .i64 kind,.int .i64 mr,.int .i64 md,.slice pa pn pc] #[.int .i64 c.id,.slice c.ra c.rs.length c.rc,.slice c.da c.ds.length c.dc,.slice c.va c.vs.length c.vc] 24 27
 have HI0:Hid (LsI W lid kind mr md pa pn pc c w0):=⟨HX.out,HY.out,HB.out⟩
 have HA0:Hid (∀X,Below W.heap.size W X->Errs X A):=fun X hX=>hE.keep hX
 have HP:Hid (∀X,Below W.heap.size W X->Lies X pa (i64s ps)):=fun X hX=>hp.keep hX
 have HAT:Hid (∀X,Below W.heap.size W X->c.At X):=fun X hX=>hat.keep hX
 have HIN:Hid (∀v∈c.vs,v.In):=hin
 clear HX HY HB hE hp hat hin hU
 go_enter Tryz.func3,Tryz.ntmps3
 go_wp2_with fail
 rw[HW0.out]
 clear HW0
 have hE0:=HA0.out _ HI0.out.old
 refine (pair_any w0 _ _ _ _ _ _ _ _ _ _ ⟨ecT hE0 0 (by omega),ecT hE0 1 (by omega),ecT hE0 2 (by omega),ecT hE0 3 (by omega),ecT hE0 6 (by omega)⟩).mono ?_
 clear hE0
 rintro e w1 ⟨rfl,hb1⟩
 have HI1:Hid (LsI W lid kind mr md pa pn pc c w1):=HI0.out.keep hb1
 clear HI0 hb1
 obtain⟨⟨p0,p1,p2,p3,p4⟩,_⟩:=row_five HI1.out.lf
 obtain⟨k0,k1,k2,k3⟩:=row_four HI1.out.co
 go_wp2_with fail
 refine (slim3_any lid kind mr md pa pn pc c hcb w1 (HAT.out _ HI1.out.old)).mono ?_
 obtain⟨b,HBo⟩:∃b,Hid (slimB c pn=b):=⟨_,rfl⟩
 rw[HBo.out]
 rintro e w2 ⟨rfl,hb2⟩
 have HI2:Hid (LsI W lid kind mr md pa pn pc c w2):=HI1.out.keep hb2
 clear HI1 hb2 p0 p1 p2 p3 p4 k0 k1 k2 k3
 obtain⟨⟨p0,p1,p2,p3,p4⟩,_⟩:=row_five HI2.out.lf
 obtain⟨k0,k1,k2,k3⟩:=row_four HI2.out.co
 cases b
 · go_wp2
   go_ret
   exact⟨rfl,HI2.out.old⟩
 have hsl:c.bulk<=2000/\pn<=100:=by have h:=HBo.out;unfold slimB at h;simpa using h
 have hsv:=sumV_len c.vs
 have hbk:c.rs.length+c.ds.length+c.vs.length<=2000:=by have:=hsl.1;unfold Cl.bulk at this;omega
 have hpn:pn<=100:=hsl.2
 clear hsl hsv hcb HBo
 go_wp2_with fail
 refine Calls.mono (rightL_any lid kind mr md pa pn pc w2) ?_
 rintro e wr ⟨⟨b,rfl⟩,hbr⟩
 have HIr:Hid (LsI W lid kind mr md pa pn pc c wr):=HI2.out.keep hbr
 clear HI2 hbr p0 p1 p2 p3 p4 k0 k1 k2 k3
 obtain⟨⟨p0,p1,p2,p3,p4⟩,_⟩:=row_five HIr.out.lf
 obtain⟨k0,k1,k2,k3⟩:=row_four HIr.out.co
 cases b
 · go_wp2
   go_ret
   exact⟨rfl,HIr.out.old⟩
 go_wp2_with fail
 refine (columnError_any lid kind mr md c.id pa c.ra c.da c.va pn pc c.rc c.dc c.vc c.rs c.ds c.vs wr (by omega) (by omega) (HAT.out _ HIr.out.old).r (HAT.out _ HIr.out.old).d (HAT.out _ HIr.out.old).v).mono ?_
 rintro e w3 ⟨⟨ec,ea,rfl,hce⟩,hb3⟩
 have HCE:Hid (ColErr lid kind mr md c.id c.rs c.ds c.vs ec ea):=hce
 have HBq:Hid (Below wr.heap.size wr (w3.alloc (.cells (rfl2 ec ea) 32))):=hb3.alloc hb3.size _
 have HFE:Hid ((w3.alloc (.cells (rfl2 ec ea) 32)).heap[w3.heap.size]? = some (.cells (rfl2 ec ea) 32 (0,0))):=heap_alloc_new w3 (.cells (rfl2 ec ea) 32)
 have hEs:wr.heap.size<=w3.heap.size:=hb3.size
 clear hce hb3 p0 p1 p2 p3 p4 k0 k1 k2 k3
 obtain⟨E,HEE⟩:∃E,Hid (w3.heap.size=E):=⟨_,rfl⟩
 go_upto_region 5 with fail
 obtain⟨wq,HWq⟩:∃w,Hid (w3.alloc (.cells (rfl2 ec ea) 32)=w):=⟨_,rfl⟩
 rw[HWq.out] at HBq
 rw[HWq.out,HEE.out] at HFE
 rw[HEE.out] at hEs
 rw[HWq.out,HEE.out]
 clear HWq HEE
 go_cut [37] (fun x wx=>∃b:Bool,x=.bool b/\Hid (wx=wq)/\Hid (b=true ↔ (ec=0/\c.rs=[])))
 case first =>
  obtain⟨k0,k1,k2,k3⟩:=row_four (HIr.out.keep HBq.out).co
  obtain⟨⟨e0,e1⟩,e2,e3⟩:=row_two HFE.out
  by_cases hz:ec=0
  · subst hz
    by_cases hr:c.rs=[]
    · have HR:Hid (c.rs=[]):=hr
      have hl0:c.rs.length=0:=by rw[hr];rfl
      rw[hl0] at k1
      clear hr hl0
      go_wp2_with fail
      go_meet
      exact⟨true,rfl,rfl,⟨fun _=>⟨(by first|rfl|trivial),HR.out⟩,fun _=>rfl⟩⟩
    · have HR:Hid (¬ c.rs=[]):=hr
      have q1:((c.rs.length:Int) == 0)=false:=by
       have:=List.length_pos_iff.2 hr
       simp;omega
      clear hr
      go_wp2_with fail
      go_meet
      exact⟨false,rfl,rfl,⟨fun h=>by (cases h),fun h=>absurd h.2 HR.out⟩⟩
  · have HR:Hid (¬ ec=0):=hz
    have q1:(ec == 0)=false:=by simpa using hz
    clear hz
    go_wp2_with fail
    go_meet
    exact⟨false,rfl,rfl,⟨fun h=>by (cases h),fun h=>absurd h.1 HR.out⟩⟩
 obtain⟨b,rfl,HWy,HBi⟩:=hcut
 rename World=>wy
 have hwy:wy=wq:=HWy.out
 subst hwy
 clear HWy
 go_upto_if 37 with fail
 go_cut [] (fun wx=>∃xc xa:Int,Hid (Below wr.heap.size wr wx)/\Hid (wx.heap[E]? = some (.cells (rfl2 xc xa) 32 (0,0)))/\Hid (FinW lid kind mr md c xc xa))
 case first =>
  cases b with
  | true =>
   have HFn:Hid (FinW lid kind mr md c 3 (-1)):=(by
    obtain⟨h1,h2⟩:=HBi.out.1 rfl
    have h3:=HCE.out
    rw[h1] at h3
    exact finW_none h3 h2)
   go_wp2_with fail
   refine Calls.mono (bare_any 3 wy) ?_
   rintro e wb ⟨rfl,hwb⟩
   have hbb:Below wy.heap.size wy wb:=by rw[hwb];exact (Below.refl _ _).alloc (Nat.le_refl _) _
   have HFb:Hid (wb.heap[E]? = some (.cells (rfl2 ec ea) 32 (0,0))):=blk_keep hbb HFE.out
   have HBb:Hid (Below wr.heap.size wr wb):=HBq.out.trans (hbb.mono HBq.out.size)
   clear hwb hbb
   obtain⟨⟨e0,e1⟩,e2,e3⟩:=row_two HFb.out
   go_wp2_with fail
   go_meet
   exact⟨3,-1,set2_below HBb.out hEs _ _,set2_row HFb.out _ _,HFn⟩
  | false =>
   have HFn:Hid (FinW lid kind mr md c ec ea):=finW_of HCE.out (fun h hr=>by cases HBi.out.2 ⟨h,hr⟩)
   go_wp2_with fail
   go_meet
   exact⟨ec,ea,HBq,HFE,HFn⟩
 case rest =>
 clear HBq HFE HCE HBi
 obtain⟨xc,xa,HBq,HFE,HFn⟩:=hcut
 rename World=>wq
 go_upto_region 7 with fail
 go_cut [49] (fun x wx=>∃b:Bool,x=.bool b/\Hid (wx=wq)/\Hid (b=true ↔ (xc=0/\¬ (1<=most/\most<=20000))))
 case first =>
  obtain⟨⟨e0,e1⟩,e2,e3⟩:=row_two HFE.out
  by_cases hz:xc=0
  · subst hz
    by_cases m1:most<1
    · have q1:decide (most<1)=true:=decide_eq_true m1
      have HM:Hid (¬ (1<=most/\most<=20000)):=(by show ¬ _;omega)
      clear m1
      go_wp2_with fail
      go_meet
      exact⟨true,rfl,rfl,⟨fun _=>⟨(by first|rfl|trivial),HM.out⟩,fun _=>rfl⟩⟩
    · have q1:decide (most<1)=false:=decide_eq_false m1
      by_cases m2:20000<most
      · have q2:decide ((20000:Int)<most)=true:=decide_eq_true m2
        have q2':decide (most > (20000:Int))=true:=decide_eq_true m2
        have HM:Hid (¬ (1<=most/\most<=20000)):=(by show ¬ _;omega)
        clear m1 m2
        go_wp2_with fail
        go_meet
        exact⟨true,rfl,rfl,⟨fun _=>⟨(by first|rfl|trivial),HM.out⟩,fun _=>rfl⟩⟩
      · have q2:decide ((20000:Int)<most)=false:=decide_eq_false m2
        have q2':decide (most > (20000:Int))=false:=decide_eq_false m2
        have HM:Hid (1<=most/\most<=20000):=(by show _/\_;omega)
        clear m1 m2
        go_wp2_with fail
        go_meet
        exact⟨false,rfl,rfl,⟨fun h=>by (cases h),fun h=>absurd HM.out h.2⟩⟩
  · have HR:Hid (¬ xc=0):=hz
    have q1:(xc == 0)=false:=by simpa using hz
    clear hz
    go_wp2_with fail
    go_meet
    exact⟨false,rfl,rfl,⟨fun h=>by (cases h),fun h=>absurd h.1 HR.out⟩⟩
 obtain⟨b,rfl,HWy,HBi⟩:=hcut
 rename World=>wy
 have hwy:wy=wq:=HWy.out
 subst hwy
 clear HWy
 go_upto_if 49 with fail
 go_cut [] (fun wx=>∃yc ya:Int,Hid (Below wr.heap.size wr wx)/\Hid (wx.heap[E]? = some (.cells (rfl2 yc ya) 32 (0,0)))/\Hid (FinC lid kind mr md c most yc ya))
 case first =>
  cases b with
  | true =>
   have HFm:Hid (FinC lid kind mr md c most 2 (-1)):=(by
    obtain⟨h1,h2⟩:=HBi.out.1 rfl
    have h3:=HFn.out
    rw[h1] at h3
    exact finC_none h3 h2)
   go_wp2_with fail
   refine Calls.mono (bare_any 2 wy) ?_
   rintro e wb ⟨rfl,hwb⟩
   have hbb:Below wy.heap.size wy wb:=by rw[hwb];exact (Below.refl _ _).alloc (Nat.le_refl _) _
   have HFb:Hid (wb.heap[E]? = some (.cells (rfl2 xc xa) 32 (0,0))):=blk_keep hbb HFE.out
   have HBb:Hid (Below wr.heap.size wr wb):=HBq.out.trans (hbb.mono HBq.out.size)
   clear hwb hbb
   obtain⟨⟨e0,e1⟩,e2,e3⟩:=row_two HFb.out
   go_wp2_with fail
   go_meet
   exact⟨2,-1,set2_below HBb.out hEs _ _,set2_row HFb.out _ _,HFm⟩
  | false =>
   have HFm:Hid (FinC lid kind mr md c most xc xa):=finC_of HFn.out (fun h=>Classical.byContradiction fun hm=>by cases HBi.out.2 ⟨h,hm⟩)
   go_wp2_with fail
   go_meet
   exact⟨xc,xa,HBq,HFE,HFm⟩
 case rest =>
 clear HBq HFE HFn HBi
 obtain⟨yc,ya,HBq,HFE,HFn⟩:=hcut
 rename World=>wz
 have HI3:Hid (LsI W lid kind mr md pa pn pc c wz):=HIr.out.keep HBq.out
 clear HIr HBq
 obtain⟨⟨p0,p1,p2,p3,p4⟩,_⟩:=row_five HI3.out.lf
 obtain⟨k0,k1,k2,k3⟩:=row_four HI3.out.co
 go_upto_region 9 with fail
 go_cut [9,10] (fun x y wx=>∃t:List UInt8,x=.string ⟨t.toArray⟩/\Hid (Below wz.heap.size wz wx)/\Hid (BoC A lid kind mr md U c most yc ya t y wx))
 case first =>
  have b0:Below wz.heap.size wz wz:=Below.refl _ _
  have HN:Hid (∀X,Below wz.heap.size wz X->(X.cell? ⟨W.heap.size,0,none⟩=some (.int .i64 lid)/\X.cell? ⟨W.heap.size,1,none⟩=some (.int .i64 kind)/\X.cell? ⟨W.heap.size,2,none⟩=some (.int .i64 mr)/\X.cell? ⟨W.heap.size,3,none⟩=some (.int .i64 md)/\X.cell? ⟨W.heap.size,4,none⟩=some (.slice pa pn pc))/\(X.cell? ⟨W.heap.size+1,0,none⟩=some (.int .i64 c.id)/\X.cell? ⟨W.heap.size+1,1,none⟩=some (.slice c.ra c.rs.length c.rc)/\X.cell? ⟨W.heap.size+1,2,none⟩=some (.slice c.da c.ds.length c.dc)/\X.cell? ⟨W.heap.size+1,3,none⟩=some (.slice c.va c.vs.length c.vc))/\Below wz.heap.size wz X):=fun X hX=>⟨(row_five (blk_keep hX HI3.out.lf)).1,row_four (blk_keep hX HI3.out.co),hX⟩
  have HO1:Hid (∀X,Below wz.heap.size wz X->Calls Tryz.prog 10 #[.agg #[.int .i64 lid,.int .i64 kind,.int .i64 mr,.int .i64 md,.slice pa pn pc]] X fun e w'=>(∃pa' pc',e=.returned (.agg #[.int .i64 lid,.int .i64 kind,.int .i64 mr,.int .i64 md,.slice pa' pn pc']))/\Below wz.heap.size wz w'/\Below X.heap.size X w'):=fun X hX=>(by
   have h:=ownLeaf_any lid kind mr md pa pc ps X (by rw[HPN.out];omega) (HP.out _ (HI3.out.keep hX).old)
   rw[HPN.out] at h
   exact h.mono fun e w' h=>⟨(by obtain⟨⟨pa',pc',h1,_⟩,_⟩:=h;exact⟨pa',pc',h1⟩),bel_next hX (Nat.le_refl _) h.2,h.2⟩)
  have HO2:Hid (∀X,Below wz.heap.size wz X->Calls Tryz.prog 11 #[.agg #[.int .i64 c.id,.slice c.ra c.rs.length c.rc,.slice c.da c.ds.length c.dc,.slice c.va c.vs.length c.vc]] X fun e w'=>(∃k0:Cl,e=.returned (.agg #[.int .i64 k0.id,.slice k0.ra k0.rs.length k0.rc,.slice k0.da k0.ds.length k0.dc,.slice k0.va k0.vs.length k0.vc])/\k0.At w'/\SameC c k0)/\Below wz.heap.size wz w'/\Below X.heap.size X w'):=fun X hX=>(ownColumn_cl c X (by omega) (by omega) (by omega) (HAT.out _ (HI3.out.keep hX).old)).mono fun e w' h=>⟨(by obtain⟨⟨k,h1,h2,_,h3⟩,_⟩:=h;exact⟨k,h1,h2,h3⟩),bel_next hX (Nat.le_refl _) h.2,h.2⟩
  have HO3:Hid (∀X (k0:Cl) pa' pc',Below wz.heap.size wz X->k0.At X->SameC c k0->Calls Tryz.prog 9 #[.agg #[.int .i64 lid,.int .i64 kind,.int .i64 mr,.int .i64 md,.slice pa' pn pc'],.agg #[.int .i64 k0.id,.slice k0.ra k0.rs.length k0.rc,.slice k0.da k0.ds.length k0.dc,.slice k0.va k0.vs.length k0.vc],.int .i64 most] X fun e w'=>(∃(t:List UInt8) (ev:Value),e=.returned (.tuple #[.string ⟨t.toArray⟩,ev])/\BoC A lid kind mr md U c most yc ya t ev w')/\Below wz.heap.size wz w'):=fun X k0 pa' pc' hX ka ks=>(by
   have hEX:=HA0.out _ (HI3.out.keep hX).old
   refine (chWrite_any lid kind mr md pa' pn pc' U HU.out k0 most (by rw[ks.rs,ks.ds,ks.vs];exact hbk) ks.cap (by rw[ks.vs];exact HIN.out) X _ _ _ _ _ _ (ecT hEX 2 (by omega)) (ecT hEX 3 (by omega)) (ecT hEX 1 (by omega)) ka).mono fun e w' h=>⟨?_,bel_next hX (Nat.le_refl _) h.2⟩
   obtain⟨⟨t,ev,h1,h2⟩,_⟩:=h
   exact⟨t,ev,h1,bothC HFn.out (h2.same ks)⟩)
  go_region_held3 (fun X=>(X.cell? ⟨W.heap.size,0,none⟩=some (.int .i64 lid)/\X.cell? ⟨W.heap.size,1,none⟩=some (.int .i64 kind)/\X.cell? ⟨W.heap.size,2,none⟩=some (.int .i64 mr)/\X.cell? ⟨W.heap.size,3,none⟩=some (.int .i64 md)/\X.cell? ⟨W.heap.size,4,none⟩=some (.slice pa pn pc))/\(X.cell? ⟨W.heap.size+1,0,none⟩=some (.int .i64 c.id)/\X.cell? ⟨W.heap.size+1,1,none⟩=some (.slice c.ra c.rs.length c.rc)/\X.cell? ⟨W.heap.size+1,2,none⟩=some (.slice c.da c.ds.length c.dc)/\X.cell? ⟨W.heap.size+1,3,none⟩=some (.slice c.va c.vs.length c.vc))/\Below wz.heap.size wz X) (with_reducible refine HN.out _ ?_;repeat' (first|with_reducible assumption|with_reducible exact b0.drew|with_reducible exact b0|with_reducible refine Below.drew ?_|with_reducible exact Nat.le_refl _|with_reducible refine Below.setCell ?_ ?_ _|with_reducible refine Below.alloc ?_ ?_ _|with_reducible exact Below.size (by assumption)|(simp;done)|(simp;omega)|omega)) (first
   | (go_at_call 10;(with_reducible refine Calls.mono (HO1.out _ ?_) ?_);(repeat' (first|with_reducible assumption|with_reducible exact b0.drew|with_reducible exact b0|with_reducible refine Below.drew ?_|with_reducible refine Below.alloc ?_ ?_ _|with_reducible exact Below.size (by assumption)|with_reducible exact Nat.le_refl _|(simp;done)|(simp;omega)));rintro e x1 ⟨⟨pa',pc',rfl⟩,hbx1,hraw1⟩;(first|(have HK1:Hid (k0.At x1):=Cl.At.keep (Hid.out HK0) hraw1;clear HK0;have HK0:Hid (k0.At x1):=HK1;clear HK1)|skip))
   | (go_at_call 11;(with_reducible refine Calls.mono (HO2.out _ ?_) ?_);(repeat' (first|with_reducible assumption|with_reducible exact b0.drew|with_reducible exact b0|with_reducible refine Below.drew ?_|with_reducible refine Below.alloc ?_ ?_ _|with_reducible exact Below.size (by assumption)|with_reducible exact Nat.le_refl _|(simp;done)|(simp;omega)));rintro e x2 ⟨⟨k0,rfl,ka0,ks0⟩,hbx2,hraw2⟩;have HK0:Hid (k0.At x2):=ka0;have HKS0:Hid _:=ks0;clear ka0 ks0)
   | (go_at_call 9;(with_reducible refine Calls.mono (HO3.out _ k0 pa' pc' ?_ ?_ ?_) ?_);(repeat' (first|with_reducible assumption|with_reducible exact b0.drew|with_reducible exact b0|with_reducible refine Below.drew ?_|with_reducible refine Below.alloc ?_ ?_ _|with_reducible exact Below.size (by assumption)|with_reducible exact Nat.le_refl _|(simp;done)|(simp;omega)));(first|exact HK0.out|exact HK0.out.keep ((Below.refl _ _).drew));exact HKS0.out;rintro e x3 ⟨⟨t,ev,rfl,hor⟩,hbx3⟩;have HOR:Hid (BoC A lid kind mr md U c most yc ya t ev x3):=hor;have HBX3:Hid (Below wz.heap.size wz x3):=hbx3;clear hor))
  all_goals
   go_wp2_with fail
   go_meet
   exact⟨t,rfl,HBX3,HOR⟩
 case rest =>
  obtain⟨t,rfl,HBw,HBR⟩:=hcut
  rename World=>wx
  rename Value=>ev
  have HI:Hid (LsI W lid kind mr md pa pn pc c wx):=HI3.out.keep HBw.out
  have HFx:Hid (wx.heap[E]? = some (.cells (rfl2 yc ya) 32 (0,0))):=blk_keep HBw.out HFE.out
  clear HI3 HFE HBw p0 p1 p2 p3 p4 k0 k1 k2 k3 HFn
  obtain⟨⟨e0,e1⟩,e2,e3⟩:=row_two HFx.out
  rcases HBR.out with ⟨rfl,rfl,rfl,rfl⟩|⟨p,q,rfl,rfl,rfl,rfl,h5,h6⟩|⟨rfl,rfl,rfl,rfl⟩|⟨rfl,hg,hm,rfl,ht⟩
  · clear HBR
    go_wp2_with fail
    refine (faulted_sent wx A (HA0.out _ HI.out.old) 2 (by omega) 3 (by omega)).mono ?_
    rintro e w5 ⟨rfl,hb5⟩
    have HI5:Hid _:=HI.out.keep hb5
    clear hb5 e0 e1 e2 e3
    go_wp2
    go_ret
    exact⟨rfl,HI5.out.old⟩
  · have H5:Hid _:=h5
    have H6:Hid _:=h6
    clear HBR h5 h6
    go_wp2_with fail
    refine (faulted_fault wx A (HA0.out _ HI.out.old) 3 q (by omega) p H5.out H6.out 4 (by omega)).mono ?_
    rintro e w5 ⟨rfl,hb5⟩
    have HI5:Hid _:=HI.out.keep hb5
    clear hb5 e0 e1 e2 e3
    go_wp2
    go_ret
    exact⟨rfl,HI5.out.old⟩
  · clear HBR
    go_wp2_with fail
    refine (faulted_sent wx A (HA0.out _ HI.out.old) 1 (by omega) 2 (by omega)).mono ?_
    rintro e w5 ⟨rfl,hb5⟩
    have HI5:Hid _:=HI.out.keep hb5
    clear hb5 e0 e1 e2 e3
    go_wp2
    go_ret
    exact⟨rfl,HI5.out.old⟩
  · obtain⟨mo,rfl⟩:=Int.eq_ofNat_of_zero_le (by omega:0<=most)
    have HPo:Hid (Calls Tryz.prog 13 #[.agg #[.int .i64 lid,.int .i64 kind,.int .i64 mr,.int .i64 md,.slice pa pn pc],.agg #[.int .i64 c.id,.slice c.ra c.rs.length c.rc,.slice c.da c.ds.length c.dc,.slice c.va c.vs.length c.vc],.int .i64 (mo:Nat)] wx fun e w'=>e=.returned (.string ⟨t.toArray⟩)/\Below wx.heap.size wx w'):=(by
     have h:=chunkOf_any lid kind mr md pa pn pc U HU.out c mo hg HIN.out hbk wx (HAT.out _ HI.out.old)
     rw[show mo=Int.toNat (mo:Nat) from rfl,←ht] at h
     exact h)
    clear ht hg hm HBR
    generalize t.toArray=ta at *
    obtain⟨⟨p0,p1,p2,p3,p4⟩,_⟩:=row_five HI.out.lf
    obtain⟨k0,k1,k2,k3⟩:=row_four HI.out.co
    go_wp2_with fail
    refine Calls.mono HPo.out ?_
    rintro e w5 ⟨rfl,hb5⟩
    have HI5:Hid _:=HI.out.keep hb5
    clear hb5 e0 e1 e2 e3 p0 p1 p2 p3 p4 k0 k1 k2 k3
    go_wp2
    go_ret
    exact⟨rfl,HI5.out.old⟩
theorem chunkWrites_top {H:Type}(d0 d1:DataW H){b2:Nat}(lid kind mr md:Int)(pa:Option Addr)(pc:Nat)(ps:List Int)(c:Cl)(most:Int)(W:World)(hp:Lies W pa (i64s ps))(hat:c.At W)(hin:∀v∈c.vs,v.In)(hcb:c.bulk<=Rows.uptoBulk d1)(_hw:(Lit.int .i64 most).wf=true)(bulk:Rows.uptoBulk d0+(Rows.uptoBulk d1+(b2+0))<=1048576)(hL:laidMetH Tryz.prog Rows.chunkWritesUptoRow.laid W) :
    Calls Tryz.prog 3 #[.agg #[.int .i64 lid,.int .i64 kind,.int .i64 mr,.int .i64 md,.slice pa ps.length pc],c.val,.int .i64 most] W fun e w'=>e=.returned (.bool true)/\Below W.heap.size W w':=by
 obtain⟨A,hE⟩:=errs_of hL
 exact chunkWrites_walk lid kind mr md pa pc ps c most W A hE hp hat hin (by omega)
end Go.Proofs.YtoeiahdjamkdgaaGreatDoor
