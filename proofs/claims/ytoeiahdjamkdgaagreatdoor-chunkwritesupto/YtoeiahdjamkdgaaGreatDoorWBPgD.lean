/-
  page.bodyOf: what a right column's page holds.
  page.bodyOf of a right column.
  page.Write of any column.
  The five errors that the laws of pages list; what Write answers, in two parts.
  The closed fact that stage 10's laws begin with; what levels can be packed.
-/
import Derived.Test.YtoeiahdjamkdgaaGreatDoorWBPgC
import Derived.Test.YtoeiahdjamkdgaaGreatDoorWBBest
set_option maxRecDepth 100000
set_option maxHeartbeats 12800000
namespace Go.Proofs.YtoeiahdjamkdgaaGreatDoor
open Go.RowKit
theorem bestP_len {kd:Int}{vs us:List Vl}{ps:List Nat}(h:Right kd vs):(bestP kd vs us ps).2.size<=110*vs.length+8:=by
 have hb:∀(b:Int × ByteArray) (n:Int) (t:ByteArray),(bst b n t).2.size<=b.2.size:=fun b n t=>by unfold bst;simp only;split<;>omega
 have h0:(⟨(plainB kd vs).toArray⟩:ByteArray).size<=110*vs.length+8:=by have:=plainB_len h;simpa [ByteArray.size] using this
 unfold bestP
 split
 · exact Nat.le_trans (hb _ _ _) (Nat.le_trans (hb _ _ _) h0)
 · split
   · exact Nat.le_trans (hb _ _ _) (Nat.le_trans (hb _ _ _) h0)
   · exact Nat.le_trans (hb _ _ _) h0
theorem bestP_code (kd:Int)(vs us:List Vl)(ps:List Nat):0<=(bestP kd vs us ps).1/\(bestP kd vs us ps).1<=3:=by
 have hb:∀(b:Int × ByteArray) (n:Int) (t:ByteArray),0<=b.1/\b.1<=3->0<=n/\n<=3->0<=(bst b n t).1/\(bst b n t).1<=3:=fun b n t h1 h2=>by unfold bst;simp only;split<;>assumption
 unfold bestP
 split
 · exact hb _ _ _ (hb _ _ _ ⟨Int.le_refl 0,show (0:Int)<=3 by decide⟩ ⟨by decide,by decide⟩) ⟨by decide,by decide⟩
 · split
   · exact hb _ _ _ (hb _ _ _ ⟨Int.le_refl 0,show (0:Int)<=3 by decide⟩ ⟨by decide,by decide⟩) ⟨by decide,by decide⟩
   · exact hb _ _ _ ⟨Int.le_refl 0,show (0:Int)<=3 by decide⟩ ⟨by decide,by decide⟩
structure PgC (kind:Int) (mr md:Nat) (c:Cl):Prop where
 m1:mr<=40
 m2:md<=40
 len:c.rs.length=c.ds.length
 vl:c.vs.length<=c.ds.length
 rs:∀j (h:j<c.rs.length),Room (Lib.bitLen mr) c.rs[j]
 ds:∀j (h:j<c.ds.length),Room (Lib.bitLen md) c.ds[j]
 rt:Right kind c.vs
theorem room_le {n:Nat}{x:Int}(hn:n<=40)(h0:0<=x)(h1:x<=n):Room (Lib.bitLen n) x:=by
 have h:=Um.lt_bitLen 15 n (Nat.lt_of_le_of_lt hn (by decide)) (by omega)
 refine⟨h0,?_⟩
 have h2:((n:Nat):Int)<((2 ^ Lib.bitLen n:Nat):Int):=Int.ofNat_lt.2 h
 rw[Int.natCast_pow] at h2
 exact Int.lt_of_le_of_lt h1 h2
theorem goodC_pg {lid kind mr md:Int}{c:Cl}(h:GoodC lid kind mr md c)(hin:∀v∈c.vs,v.In):(0<=mr/\mr<=40)/\(0<=md/\md<=40)/\PgC kind mr.toNat md.toNat c:=by
 obtain⟨h1,h2⟩:=h
 rw[Bool.and_eq_true] at h1
 obtain⟨hl,hf⟩:=h1
 unfold isLfB btw at hl
 simp only[Bool.and_eq_true,decide_eq_true_eq] at hl
 obtain⟨⟨hk,hmr⟩,hmd⟩:=hl
 unfold fitB at hf
 split at hf
 · cases hf
 · rename_i q1
   split at hf
   · cases hf
   · split at hf
     · cases hf
     · rename_i q3
       have hlen:c.rs.length=c.ds.length:=by
        rcases Nat.lt_trichotomy c.rs.length c.ds.length with h|h|h
        · exact absurd (.inr (by omega)) q1
        · exact h
        · exact absurd (.inr (by omega)) q1
       have hr:∀x∈c.rs,0<=x/\x<=mr:=fun x hx=>by
        by_cases hb:btw 0 x mr=true
        · unfold btw at hb;exact of_decide_eq_true hb
        · exact absurd (.inl (List.any_eq_true.2 ⟨x,hx,by simp[hb]⟩)) q3
       have hd:∀x∈c.ds,0<=x/\x<=md:=fun x hx=>by
        by_cases hb:btw 0 x md=true
        · unfold btw at hb;exact of_decide_eq_true hb
        · exact absurd (.inr (List.any_eq_true.2 ⟨x,hx,by simp[hb]⟩)) q3
       have hv:c.vs.length=cntE md c.ds:=of_decide_eq_true hf
       have hvl:cntE md c.ds<=c.ds.length:=List.length_filter_le _ _
       refine⟨hmr,hmd,by omega,by omega,hlen,by omega,fun j hj=>room_le (by omega) (hr _ (List.getElem_mem hj)).1 (by have:=(hr _ (List.getElem_mem hj)).2;omega),fun j hj=>room_le (by omega) (hd _ (List.getElem_mem hj)).1 (by have:=(hd _ (List.getElem_mem hj)).2;omega),hk,fun v hv=>⟨?_,hin v hv⟩⟩
       obtain⟨j,hj,rfl⟩:=List.getElem_of_mem hv
       have:=h2 j hj
       unfold badV at this
       simp only[Bool.or_eq_false_iff,Bool.not_eq_false',beq_iff_eq] at this
       have h3:=okV_iff.1 this.2
       unfold Vl.Ok
       rw[this.1] at h3
       rw[this.1]
       exact h3
theorem widthB_any (n:Nat)(w:World)(h:n<=40):Calls Tryz.prog 60 #[.int .i64 (n:Nat)] w fun e w'=>e=.returned (.int .i64 (Lib.bitLen n:Nat))/\w'=w:=by
 by_cases h0:n=0
 · subst h0
   exact width_none 0 w (by omega)
 · exact width_any n w (by omega) (by omega)
def bdB (s:St)(mr md:Nat)(c:Cl)(code:Int)(vt:List UInt8):List UInt8:=stTx s++Um.txt (Um.wrs (Lib.bitLen mr) [] c.rs)++Um.txt (Um.wrs (Lib.bitLen md) [] c.ds)++[Um.bt code]++Um.txt vt
theorem bodyOf_any (lid kind:Int)(mr md:Nat)(pa:Option Addr)(pn pc:Nat)(c:Cl)(s:St)(us:List Vl)(ps:List Nat)(hu:Uq c.vs us ps)(hp:PgC kind mr md c)(hn:c.rs.length<=1000)(hv:c.vs.length<=700)(hcr:c.rs.length<=c.rc)(hcd:c.ds.length<=c.dc)(hf:s.h=true->s.Fit)(he:0<=s.e/\s.e<=9223372036854775807)(hue:0<=s.u/\s.u<=9223372036854775807)(W:World)(kt st bt:TypeId)(kp sp bp:Value)(hgk:W.cell? ⟨3,0,none⟩=some (.iface kt kp))(hgs:W.cell? ⟨0,0,none⟩=some (.iface st sp))(hgb:W.cell? ⟨1,0,none⟩=some (.iface bt bp))(hat:c.At W) :
    Calls Tryz.prog 35 #[.agg #[.int .i64 lid,.int .i64 kind,.int .i64 (mr:Nat),.int .i64 (md:Nat),.slice pa pn pc],.agg #[.int .i64 c.id,.slice c.ra c.rs.length c.rc,.slice c.da c.ds.length c.dc,.slice c.va c.vs.length c.vc],.agg #[.int .i64 s.e,.int .i64 s.u,.bool s.h,.int .i64 s.mn.k,.int .i64 s.mn.n,.string s.mn.s,.int .i64 s.mx.k,.int .i64 s.mx.n,.string s.mx.s]] W fun e w'=>e=.returned (.tuple #[.string ⟨(bdB s mr md c (bestP kind c.vs us ps).1 (bestP kind c.vs us ps).2.data.toList).toArray⟩,.nilIface])/\Below W.heap.size W w':=by
 obtain⟨w0,HW0,HX,HY,HZ,HB⟩:=three_boxes W #[.int .i64 lid,.int .i64 kind,.int .i64 (mr:Nat),.int .i64 (md:Nat),.slice pa pn pc] #[.int .i64 c.id,.slice c.ra c.rs.length c.rc,.slice c.da c.ds.length c.dc,.slice c.va c.vs.length c.vc] #[.int .i64 s.e,.int .i64 s.u,.bool s.h,.int .i64 s.mn.k,.int .i64 s.mn.n,.string s.mn.s,.int .i64 s.mx.k,.int .i64 s.mx.n,.string s.mx.s] 39 27 51
 have HUp:Hid (∀X,Below w0.heap.size w0 X->Below W.heap.size W X):=fun X hX=>HB.out.trans (hX.mono HB.out.size)
 have HGK:Hid (∀X,Below w0.heap.size w0 X->X.cell? ⟨3,0,none⟩=some (.iface kt kp)):=fun X hX=>((HUp.out X hX).cell (World.block_lt_of_cell? W _ hgk)).trans hgk
 have HGS:Hid (∀X,Below w0.heap.size w0 X->X.cell? ⟨0,0,none⟩=some (.iface st sp)):=fun X hX=>((HUp.out X hX).cell (World.block_lt_of_cell? W _ hgs)).trans hgs
 have HGB:Hid (∀X,Below w0.heap.size w0 X->X.cell? ⟨1,0,none⟩=some (.iface bt bp)):=fun X hX=>((HUp.out X hX).cell (World.block_lt_of_cell? W _ hgb)).trans hgb
 have HAT:Hid (∀X,Below w0.heap.size w0 X->c.At X):=fun X hX=>hat.keep (HUp.out X hX)
 have HN:Hid (∀X,Below w0.heap.size w0 X->((X.cell? ⟨W.heap.size,0,none⟩=some (.int .i64 lid)/\X.cell? ⟨W.heap.size,1,none⟩=some (.int .i64 kind)/\X.cell? ⟨W.heap.size,2,none⟩=some (.int .i64 (mr:Nat))/\X.cell? ⟨W.heap.size,3,none⟩=some (.int .i64 (md:Nat))/\X.cell? ⟨W.heap.size,4,none⟩=some (.slice pa pn pc))/\(X.cell? ⟨W.heap.size+1,0,none⟩=some (.int .i64 c.id)/\X.cell? ⟨W.heap.size+1,1,none⟩=some (.slice c.ra c.rs.length c.rc)/\X.cell? ⟨W.heap.size+1,2,none⟩=some (.slice c.da c.ds.length c.dc)/\X.cell? ⟨W.heap.size+1,3,none⟩=some (.slice c.va c.vs.length c.vc))/\(X.cell? ⟨W.heap.size+1+1,0,none⟩=some (.int .i64 s.e)/\X.cell? ⟨W.heap.size+1+1,1,none⟩=some (.int .i64 s.u)/\X.cell? ⟨W.heap.size+1+1,2,none⟩=some (.bool s.h)/\X.cell? ⟨W.heap.size+1+1,3,none⟩=some (.int .i64 s.mn.k)/\X.cell? ⟨W.heap.size+1+1,4,none⟩=some (.int .i64 s.mn.n)/\X.cell? ⟨W.heap.size+1+1,5,none⟩=some (.string s.mn.s)/\X.cell? ⟨W.heap.size+1+1,6,none⟩=some (.int .i64 s.mx.k)/\X.cell? ⟨W.heap.size+1+1,7,none⟩=some (.int .i64 s.mx.n)/\X.cell? ⟨W.heap.size+1+1,8,none⟩=some (.string s.mx.s)))/\Below w0.heap.size w0 X):=fun X hX=>⟨⟨(row_five (blk_keep hX HX.out)).1,row_four (blk_keep hX HY.out),(st_row (blk_keep hX HZ.out)).1⟩,hX⟩
 have hw1:Lib.bitLen mr<=32:=Lib.bitLen_le _ 32 (by omega) (Nat.lt_of_le_of_lt hp.m1 (by decide))
 have hw2:Lib.bitLen md<=32:=Lib.bitLen_le _ 32 (by omega) (Nat.lt_of_le_of_lt hp.m2 (by decide))
 have hds:c.ds.length<=1000:=by rw[←hp.len];exact hn
 have hl1:=Um.wrs_len (Lib.bitLen mr) hw1 c.rs hn
 have hl2:=Um.wrs_len (Lib.bitLen md) hw2 c.ds hds
 have hl3:=bestP_len (us:=us) (ps:=ps) hp.rt
 have hl4:=stTx_len s hf he.2 hue.2
 have hcd2:=bestP_code kind c.vs us ps
 obtain⟨code,HCo⟩:∃x,Hid ((bestP kind c.vs us ps).1=x):=⟨_,rfl⟩
 obtain⟨bt',HBt⟩:∃x,Hid ((bestP kind c.vs us ps).2=x):=⟨_,rfl⟩
 have HW1:Hid (∀X,Calls Tryz.prog 60 #[.int .i64 (mr:Nat)] X fun e w'=>e=.returned (.int .i64 (Lib.bitLen mr:Nat))/\w'=X):=fun X=>widthB_any mr X hp.m1
 have HW2:Hid (∀X,Calls Tryz.prog 60 #[.int .i64 (md:Nat)] X fun e w'=>e=.returned (.int .i64 (Lib.bitLen md:Nat))/\w'=X):=fun X=>widthB_any md X hp.m2
 obtain⟨rt,HRt⟩:∃p,Hid ((⟨(Um.wrs (Lib.bitLen mr) [] c.rs).toArray⟩:ByteArray)=p):=⟨_,rfl⟩
 obtain⟨dt,HDt⟩:∃p,Hid ((⟨(Um.wrs (Lib.bitLen md) [] c.ds).toArray⟩:ByteArray)=p):=⟨_,rfl⟩
 obtain⟨tt,HTt⟩:∃p,Hid ((⟨(stTx s).toArray⟩:ByteArray)=p):=⟨_,rfl⟩
 have HR1:Hid (∀X,Below w0.heap.size w0 X->Calls Tryz.prog 59 #[.slice c.ra c.rs.length c.rc,.int .i64 (Lib.bitLen mr:Nat)] X fun e w'=>e=.returned (.tuple #[.string rt,.nilIface])/\Below w0.heap.size w0 w'):=fun X hX=>(by
  refine (runsF_any c.ra c.rs c.rc (Lib.bitLen mr) X st sp hn hcr hw1 (HGS.out X hX) (fun j h=>?_) (HAT.out X hX).r).mono ?_
  · have h1:=hp.rs j h
    have h2:(2:Int) ^ Lib.bitLen mr<=2 ^ 32:=by have:=Nat.pow_le_pow_right (n:=2) (by omega) hw1;exact_mod_cast this
    exact⟨by have:=h1.1;omega,by have:=h1.2;omega⟩
  · rintro e w' ⟨⟨h1,_⟩|⟨i,p,hi,_,_,hN,_,_⟩,hb⟩
    · rw[HRt.out] at h1
      exact⟨h1,hX.trans (hb.mono hX.size)⟩
    · exact absurd (hp.rs i hi) hN)
 have HR2:Hid (∀X,Below w0.heap.size w0 X->Calls Tryz.prog 59 #[.slice c.da c.ds.length c.dc,.int .i64 (Lib.bitLen md:Nat)] X fun e w'=>e=.returned (.tuple #[.string dt,.nilIface])/\Below w0.heap.size w0 w'):=fun X hX=>(by
  refine (runsF_any c.da c.ds c.dc (Lib.bitLen md) X st sp hds hcd hw2 (HGS.out X hX) (fun j h=>?_) (HAT.out X hX).d).mono ?_
  · have h1:=hp.ds j h
    have h2:(2:Int) ^ Lib.bitLen md<=2 ^ 32:=by have:=Nat.pow_le_pow_right (n:=2) (by omega) hw2;exact_mod_cast this
    exact⟨by have:=h1.1;omega,by have:=h1.2;omega⟩
  · rintro e w' ⟨⟨h1,_⟩|⟨i,p,hi,_,_,hN,_,_⟩,hb⟩
    · rw[HDt.out] at h1
      exact⟨h1,hX.trans (hb.mono hX.size)⟩
    · exact absurd (hp.ds i hi) hN)
 have HBe:Hid (∀X,Below w0.heap.size w0 X->Calls Tryz.prog 61 #[.int .i64 kind,.slice c.va c.vs.length c.vc] X fun e w'=>e=.returned (.tuple #[.int .i64 code,.string bt',.nilIface])/\Below w0.heap.size w0 w'):=fun X hX=>(by
  have h:=best_right c.va c.vs c.vc kind X kt st bt kp sp bp (HGK.out X hX) (HGS.out X hX) (HGB.out X hX) hv (HAT.out X hX).v hp.rt us ps hu
  rw[HCo.out,HBt.out] at h
  exact h.mono fun _ _ h=>⟨h.1,hX.trans (h.2.mono hX.size)⟩)
 have HSt:Hid (∀X,Below w0.heap.size w0 X->Calls Tryz.prog 62 #[.agg #[.int .i64 s.e,.int .i64 s.u,.bool s.h,.int .i64 s.mn.k,.int .i64 s.mn.n,.string s.mn.s,.int .i64 s.mx.k,.int .i64 s.mx.n,.string s.mx.s]] X fun e w'=>e=.returned (.string tt)/\Below w0.heap.size w0 w'/\Below X.heap.size X w'):=fun X hX=>(by
  have h:=stText_any s hf he hue X kt st kp sp (HGK.out X hX) (HGS.out X hX)
  rw[HTt.out] at h
  exact h.mono fun _ _ h=>⟨h.1,hX.trans (h.2.mono hX.size),h.2⟩)
 have hz1:rt.size<=80000:=by rw[←HRt.out];simpa [ByteArray.size] using hl1
 have hz2:dt.size<=80000:=by rw[←HDt.out];simpa [ByteArray.size] using hl2
 have hz3:bt'.size<=77008:=by rw[←HBt.out];omega
 have hz4:tt.size<=278:=by rw[←HTt.out];simpa [ByteArray.size] using hl4
 have HTx:Hid (∀p:ByteArray,p.size<=100000->∃t:ByteArray,(⟨(Um.txt p.data.toList).toArray⟩:ByteArray)=t/\t.size<=p.size+10/\∀X,Below w0.heap.size w0 X->Calls Tryz.prog 63 #[.string p] X fun e w'=>e=.returned (.string t)/\Below w0.heap.size w0 w'/\Below X.heap.size X w'):=fun p hp=>⟨_,rfl,by have:=Um.uv_ten (n:=p.size) (by omega);rw[←txt_arr,ByteArray.size_append];show (Um.uv p.size).toArray.size+p.size<=p.size+10;rw[List.size_toArray];omega,fun X hX=>by rw[←txt_arr];exact (text_any p X (by omega)).mono fun _ _ h=>⟨h.1,hX.trans (h.2.mono hX.size),h.2⟩⟩
 obtain⟨t1,e1,ht1,hc1⟩:=HTx.out rt (by omega)
 obtain⟨t2,e2,ht2,hc2⟩:=HTx.out dt (by omega)
 obtain⟨t3,e3,ht3,hc3⟩:=HTx.out bt' (by omega)
 have HT1:Hid _:=hc1
 have HT2:Hid _:=hc2
 have HT3:Hid _:=hc3
 have HBd:Hid (tt++t1++t2++⟨#[Um.bt code]⟩++t3=⟨(bdB s mr md c (bestP kind c.vs us ps).1 (bestP kind c.vs us ps).2.data.toList).toArray⟩):=(by
  show _=_
  unfold bdB
  rw[←e1,←e2,←e3,←HTt.out,←HRt.out,←HDt.out,HBt.out,HCo.out,show (⟨#[Um.bt code]⟩:ByteArray)=⟨[Um.bt code].toArray⟩ from rfl,arr_app,arr_app,arr_app,arr_app])
 have hco:0<=code/\code<=3:=by rw[←HCo.out];exact hcd2
 generalize (⟨(bdB s mr md c (bestP kind c.vs us ps).1 (bestP kind c.vs us ps).2.data.toList).toArray⟩:ByteArray)=bd at HBd ⊢
 have hwr:IntKind.u8.wrap code=code:=(by unfold IntKind.wrap IntKind.signed IntKind.bits;simp;omega)
 have hq1:∀W:World,(Op.stringOp .add tt t1).run Tryz.prog W=.ok (.string (tt++t1)) W:=fun W=>run_string_add_sum _ _ _ (by omega)
 have hq2:∀W:World,(Op.stringOp .add (tt++t1) t2).run Tryz.prog W=.ok (.string (tt++t1++t2)) W:=fun W=>run_string_add_sum _ _ _ (by rw[ByteArray.size_append];omega)
 have hq3:∀W:World,(Op.stringOp .add (tt++t1++t2) ⟨#[Um.bt code]⟩).run Tryz.prog W=.ok (.string (tt++t1++t2++⟨#[Um.bt code]⟩)) W:=fun W=>run_string_add_sum _ _ _ (by rw[ByteArray.size_append,ByteArray.size_append,show (⟨#[Um.bt code]⟩:ByteArray).size=1 from rfl];omega)
 have hq4:∀W:World,(Op.stringOp .add (tt++t1++t2++⟨#[Um.bt code]⟩) t3).run Tryz.prog W=.ok (.string (tt++t1++t2++⟨#[Um.bt code]⟩++t3)) W:=fun W=>run_string_add_sum _ _ _ (by rw[ByteArray.size_append,ByteArray.size_append,ByteArray.size_append,show (⟨#[Um.bt code]⟩:ByteArray).size=1 from rfl];omega)
 have HQ:Hid _:=And.intro hq1 (And.intro hq2 (And.intro hq3 hq4))
 clear hq1 hq2 hq3 hq4 hc1 hc2 hc3 e1 e2 e3 HTx hz1 hz2 hz3 hz4 HCo HBt HRt HDt HTt hl1 hl2 hl3 hl4 hcd2 hco hp hu hf he hue hat hgk hgs hgb hds hw1 hw2 hn hv hcr hcd ht1 ht2 ht3
 generalize Lib.bitLen mr=wr1 at *
 generalize Lib.bitLen md=wr2 at *
 obtain⟨⟨⟨p0,p1,p2,p3,p4⟩,⟨k0,k1,k2,k3⟩,⟨s0,s1,s2,s3,s4,s5,s6,s7,s8⟩⟩,_⟩:=HN.out w0 (Below.refl _ _)
 go_enter Tryz.func35,Tryz.ntmps35
 go_upto_region 1 with fail
 rw[HW0.out]
 go_cut [8,9] (fun x y wx=>x=.string rt/\y=.nilIface/\Hid (Below w0.heap.size w0 wx))
 case first =>
  have b0:Below w0.heap.size w0 w0:=Below.refl _ _
  go_region_with (first|(go_at_call 60;refine Calls.mono (HW1.out _) ?_;rintro e x1 ⟨rfl,hx⟩;obtain rfl:=hx.symm)|(go_at_call 59;(with_reducible refine Calls.mono (HR1.out _ ?_) ?_);(repeat' (first|with_reducible assumption|with_reducible exact b0.drew|with_reducible exact b0|with_reducible refine Below.drew ?_|with_reducible refine Below.alloc ?_ ?_ _|with_reducible exact Below.size (by assumption)|with_reducible exact Nat.le_refl _|(simp;done)|(simp;omega)));rintro e x2 ⟨rfl,hbx2⟩))
  all_goals (have HBX:Hid _:=hbx2;clear hbx2 b0;go_wp2_with fail;go_meet;exact⟨rfl,rfl,HBX.out⟩)
 case rest =>
  obtain⟨rfl,rfl,HB1⟩:=hcut
  rename World=>w1
  clear p0 p1 p2 p3 p4 k0 k1 k2 k3 s0 s1 s2 s3 s4 s5 s6 s7 s8
  obtain⟨⟨⟨p0,p1,p2,p3,p4⟩,⟨k0,k1,k2,k3⟩,⟨s0,s1,s2,s3,s4,s5,s6,s7,s8⟩⟩,_⟩:=HN.out w1 HB1.out
  go_wp2_with fail
  go_cut [10,9] (fun x y wx=>x=.string dt/\y=.nilIface/\Hid (Below w0.heap.size w0 wx))
  case first =>
   have b0:Below w0.heap.size w0 w1:=HB1.out
   go_region_with (first|(go_at_call 60;refine Calls.mono (HW2.out _) ?_;rintro e x1 ⟨rfl,hx⟩;obtain rfl:=hx.symm)|(go_at_call 59;(with_reducible refine Calls.mono (HR2.out _ ?_) ?_);(repeat' (first|with_reducible assumption|with_reducible exact b0.drew|with_reducible exact b0|with_reducible refine Below.drew ?_|with_reducible refine Below.alloc ?_ ?_ _|with_reducible exact Below.size (by assumption)|with_reducible exact Nat.le_refl _|(simp;done)|(simp;omega)));rintro e x2 ⟨rfl,hbx2⟩))
   all_goals (have HBX:Hid _:=hbx2;clear hbx2 b0;go_wp2_with fail;go_meet;exact⟨rfl,rfl,HBX.out⟩)
  case rest =>
   obtain⟨rfl,rfl,HB2⟩:=hcut
   rename World=>w2
   clear p0 p1 p2 p3 p4 k0 k1 k2 k3 s0 s1 s2 s3 s4 s5 s6 s7 s8 HB1
   obtain⟨⟨⟨p0,p1,p2,p3,p4⟩,⟨k0,k1,k2,k3⟩,⟨s0,s1,s2,s3,s4,s5,s6,s7,s8⟩⟩,_⟩:=HN.out w2 HB2.out
   go_wp2_with fail
   refine Calls.mono (HBe.out w2 HB2.out) ?_
   rintro e w3 ⟨rfl,hb3⟩
   have HB3:Hid _:=hb3
   clear p0 p1 p2 p3 p4 k0 k1 k2 k3 s0 s1 s2 s3 s4 s5 s6 s7 s8 HB2 hb3
   obtain⟨⟨⟨p0,p1,p2,p3,p4⟩,⟨k0,k1,k2,k3⟩,⟨s0,s1,s2,s3,s4,s5,s6,s7,s8⟩⟩,_⟩:=HN.out w3 HB3.out
   obtain⟨hq1,hq2,hq3,hq4⟩:=HQ.out
   have hc0:∀X:World,(convert 58 9 (.slice (some ⟨X.heap.size,0,none⟩) 1 1)).run Tryz.prog (X.alloc (.cells #[.int .u8 code] 5))=.ok (.string ⟨#[Um.bt code]⟩) (X.alloc (.cells #[.int .u8 code] 5)):=fun X=>conv_one (heap_alloc_new X _)
   have hc1:∀X:World,(convert 58 9 (.slice (some ⟨X.heap.size,0,none⟩) 1 1)).run Tryz.prog (X.alloc (.cells #[.int .u8 code] 5)).drew=.ok (.string ⟨#[Um.bt code]⟩) (X.alloc (.cells #[.int .u8 code] 5)).drew:=fun X=>conv_one (blk_drw (heap_alloc_new X _))
   have b0:Below w0.heap.size w0 w3:=HB3.out
   go_wp2_with fail
   obtain⟨⟨_,_,⟨r0,r1,r2,r3,r4,r5,r6,r7,r8⟩⟩,_⟩:=HN.out (w3.alloc (.cells #[.int .u8 code] 5)) (HB3.out.alloc HB3.out.size _)
   go_region_law (first
    | (go_simp;(with_reducible refine Calls.mono (HSt.out _ ?_) ?_);(repeat' (first|with_reducible assumption|with_reducible exact b0.drew|with_reducible exact b0|with_reducible refine Below.drew ?_|with_reducible refine Below.alloc ?_ ?_ _|with_reducible exact Below.size (by assumption)|with_reducible exact Nat.le_refl _|(simp;done)|(simp;omega)));rintro e x1 ⟨rfl,hbx1,hraw1⟩;(first|(have hzz:=blk_keep hraw1 hzz0;clear hzz0;have hzz0:=hzz;clear hzz)|(have hzz0:=blk_keep hraw1 (blk_drw (heap_alloc_new _ (.cells #[.int .u8 code] 5))))|(have hzz0:=blk_keep hraw1 (heap_alloc_new _ (.cells #[.int .u8 code] 5)))|skip);(try (have hcz:=conv_one hzz0)))
    | (go_simp;(with_reducible refine Calls.mono (HT1.out _ ?_) ?_);(repeat' (first|with_reducible assumption|with_reducible exact b0.drew|with_reducible exact b0|with_reducible refine Below.drew ?_|with_reducible refine Below.alloc ?_ ?_ _|with_reducible exact Below.size (by assumption)|with_reducible exact Nat.le_refl _|(simp;done)|(simp;omega)));rintro e x2 ⟨rfl,hbx2,hraw2⟩;(first|(have hzz:=blk_keep hraw2 hzz0;clear hzz0;have hzz0:=hzz;clear hzz)|(have hzz0:=blk_keep hraw2 (blk_drw (heap_alloc_new _ (.cells #[.int .u8 code] 5))))|(have hzz0:=blk_keep hraw2 (heap_alloc_new _ (.cells #[.int .u8 code] 5)))|skip);(try (have hcz:=conv_one hzz0)))
    | (go_simp;(with_reducible refine Calls.mono (HT2.out _ ?_) ?_);(repeat' (first|with_reducible assumption|with_reducible exact b0.drew|with_reducible exact b0|with_reducible refine Below.drew ?_|with_reducible refine Below.alloc ?_ ?_ _|with_reducible exact Below.size (by assumption)|with_reducible exact Nat.le_refl _|(simp;done)|(simp;omega)));rintro e x3 ⟨rfl,hbx3,hraw3⟩;(first|(have hzz:=blk_keep hraw3 hzz0;clear hzz0;have hzz0:=hzz;clear hzz)|(have hzz0:=blk_keep hraw3 (blk_drw (heap_alloc_new _ (.cells #[.int .u8 code] 5))))|(have hzz0:=blk_keep hraw3 (heap_alloc_new _ (.cells #[.int .u8 code] 5)))|skip);(try (have hcz:=conv_one hzz0)))
    | (go_simp;(with_reducible refine Calls.mono (HT3.out _ ?_) ?_);(repeat' (first|with_reducible assumption|with_reducible exact b0.drew|with_reducible exact b0|with_reducible refine Below.drew ?_|with_reducible refine Below.alloc ?_ ?_ _|with_reducible exact Below.size (by assumption)|with_reducible exact Nat.le_refl _|(simp;done)|(simp;omega)));rintro e x4 ⟨rfl,hbx4,hraw4⟩;(first|(have hzz:=blk_keep hraw4 hzz0;clear hzz0;have hzz0:=hzz;clear hzz)|(have hzz0:=blk_keep hraw4 (blk_drw (heap_alloc_new _ (.cells #[.int .u8 code] 5))))|(have hzz0:=blk_keep hraw4 (heap_alloc_new _ (.cells #[.int .u8 code] 5)))|skip);(try (have hcz:=conv_one hzz0))))
   all_goals (have HBX:Hid _:=hbx4;clear r0 r1 r2 r3 r4 r5 r6 r7 r8 p0 p1 p2 p3 p4 k0 k1 k2 k3 s0 s1 s2 s3 s4 s5 s6 s7 s8 hbx1 hbx2 hbx3 hbx4 hraw1 hraw2 hraw3 hraw4 b0 hc0 hc1;(try clear hcz);(try clear hzz0);go_wp2;go_ret2;rw[HBd.out];refine⟨rfl,HUp.out _ ?_⟩;first|exact HBX.out|exact HBX.out.alloc HBX.out.size _|exact (HBX.out.alloc HBX.out.size _).drew)
theorem ofK_mem (c:Cl):∀i,i<=c.vs.length->((ofK c i).h=true->(ofK c i).mn∈c.vs/\(ofK c i).mx∈c.vs)
 | 0,_,h=>by unfold ofK at h;simp at h
 | i+1,hi,_=>by
  rw[ofK_succ c hi]
  have hx:c.vs[i]∈c.vs:=List.getElem_mem _
  have ih:=ofK_mem c i (by omega)
  unfold St.around
  refine⟨?_,?_⟩
  · show (if _ then _ else _)∈_
    split
    · exact hx
    · rename_i hc
      refine (ih ?_).1
      cases hh:(ofK c i).h with
      | true=>rfl
      | false=>rw[hh] at hc;simp at hc
  · show (if _ then _ else _)∈_
    split
    · exact hx
    · rename_i hc
      refine (ih ?_).2
      cases hh:(ofK c i).h with
      | true=>rfl
      | false=>rw[hh] at hc;simp at hc
theorem ofK_eu (c:Cl):∀i,i<=c.vs.length->(ofK c i).e=c.rs.length/\(ofK c i).u=(c.rs.length:Int)-c.vs.length
 | 0,_=>⟨rfl,rfl⟩
 | i+1,hi=>by
  rw[ofK_succ c hi]
  exact ofK_eu c i (by omega)
theorem ofK_all (c:Cl):ofK c c.vs.length=ofC c:=by unfold ofK ofC;rw[List.take_length]
theorem ofC_fit {kind:Int}{c:Cl}(h:Right kind c.vs):(ofC c).h=true->(ofC c).Fit:=fun hh=>by
 obtain⟨h1,h2⟩:=ofK_mem c c.vs.length (Nat.le_refl _) (by rw[ofK_all];exact hh)
 rw[ofK_all] at h1 h2
 have hk:(ofC c).mn.k=kind:=(h.2 _ h1).1.1
 exact⟨by rw[hk];exact h.1.1,by rw[hk];exact h.1.2,by rw[hk];exact (h.2 _ h1).1,by rw[hk];exact (h.2 _ h2).1,(h.2 _ h1).2,(h.2 _ h2).2⟩
def WrR (N:Nat)(lid kind mr md:Int)(c:Cl)(us:List Vl)(ps:List Nat)(sv kv:Value)(t:List UInt8)(ev:Value)(w:World):Prop :=
 ((isLfB kind mr md && fitB lid mr md c.id c.rs c.ds c.vs.length)=false/\t=[]/\ev=sv) ∨
 ((isLfB kind mr md && fitB lid mr md c.id c.rs c.ds c.vs.length)=true/\(∃p:Nat,∃hp:p<c.vs.length,badV kind c.vs[p]=true/\(∀j (h:j<c.vs.length),j<p->badV kind c.vs[j]=false)/\∃q,N<=q/\t=[]/\ev=.iface 83 (.pointer (some ⟨q,0,none⟩))/\w.cell? ⟨q,0,none⟩=some (.int .i64 p)/\w.cell? ⟨q,1,none⟩=some kv)) ∨
 (GoodC lid kind mr md c/\c.rs=[]/\t=[]/\ev=sv) ∨
 (GoodC lid kind mr md c/\c.rs≠[]/\ev=.nilIface/\t=pgB (bdB (ofC c) mr.toNat md.toNat c (bestP kind c.vs us ps).1 (bestP kind c.vs us ps).2.data.toList))
theorem bdB_len {s:St}{kind:Int}{mr md:Nat}{c:Cl}{us:List Vl}{ps:List Nat}(hp:PgC kind mr md c)(hn:c.rs.length<=1000)(hv:c.vs.length<=700)(hf:s.h=true->s.Fit)(he:s.e<=9223372036854775807)(hue:s.u<=9223372036854775807):(bdB s mr md c (bestP kind c.vs us ps).1 (bestP kind c.vs us ps).2.data.toList).length<=299000:=by
 have hw1:Lib.bitLen mr<=32:=Lib.bitLen_le _ 32 (by omega) (Nat.lt_of_le_of_lt hp.m1 (by decide))
 have hw2:Lib.bitLen md<=32:=Lib.bitLen_le _ 32 (by omega) (Nat.lt_of_le_of_lt hp.m2 (by decide))
 have hl1:=Um.wrs_len (Lib.bitLen mr) hw1 c.rs hn
 have hl2:=Um.wrs_len (Lib.bitLen md) hw2 c.ds (by rw[←hp.len];exact hn)
 have hl3:=bestP_len (us:=us) (ps:=ps) hp.rt
 have hl4:=stTx_len s hf he hue
 have h5:(bestP kind c.vs us ps).2.data.toList.length=(bestP kind c.vs us ps).2.size:=by rw[Array.length_toList];rfl
 have h1:=Um.txt_len (Um.wrs (Lib.bitLen mr) [] c.rs) (by omega)
 have h2:=Um.txt_len (Um.wrs (Lib.bitLen md) [] c.ds) (by omega)
 have h3:=Um.txt_len (bestP kind c.vs us ps).2.data.toList (by omega)
 unfold bdB
 simp only[List.length_append,List.length_cons,List.length_nil]
 omega
theorem pgWrite_any (lid kind mr md:Int)(pa:Option Addr)(pn pc:Nat)(c:Cl)(us:List Vl)(ps:List Nat)(hu:Uq c.vs us ps)(hbk:c.rs.length+c.ds.length+c.vs.length<=2000)(hcr:c.rs.length<=c.rc)(hcd:c.ds.length<=c.dc)(hcv:c.vs.length<=c.vc)(hin:∀v∈c.vs,v.In)(W:World)(kt st bt:TypeId)(kp sp bp:Value)(hgk:W.cell? ⟨3,0,none⟩=some (.iface kt kp))(hgs:W.cell? ⟨0,0,none⟩=some (.iface st sp))(hgb:W.cell? ⟨1,0,none⟩=some (.iface bt bp))(hat:c.At W) :
    Calls Tryz.prog 21 #[.agg #[.int .i64 lid,.int .i64 kind,.int .i64 mr,.int .i64 md,.slice pa pn pc],.agg #[.int .i64 c.id,.slice c.ra c.rs.length c.rc,.slice c.da c.ds.length c.dc,.slice c.va c.vs.length c.vc]] W fun e w'=>(∃t ev,e=.returned (.tuple #[.string ⟨t.toArray⟩,ev])/\WrR W.heap.size lid kind mr md c us ps (.iface st sp) (.iface kt kp) t ev w')/\Below W.heap.size W w':=by
 obtain⟨w0,HW0,HX,HY,HB⟩:=two_boxes W #[.int .i64 lid,.int .i64 kind,.int .i64 mr,.int .i64 md,.slice pa pn pc] #[.int .i64 c.id,.slice c.ra c.rs.length c.rc,.slice c.da c.ds.length c.dc,.slice c.va c.vs.length c.vc] 39 27
 have HUp:Hid (∀X,Below w0.heap.size w0 X->Below W.heap.size W X):=fun X hX=>HB.out.trans (hX.mono HB.out.size)
 have HGK:Hid (∀X,Below w0.heap.size w0 X->X.cell? ⟨3,0,none⟩=some (.iface kt kp)):=fun X hX=>((HUp.out X hX).cell (World.block_lt_of_cell? W _ hgk)).trans hgk
 have HGS:Hid (∀X,Below w0.heap.size w0 X->X.cell? ⟨0,0,none⟩=some (.iface st sp)):=fun X hX=>((HUp.out X hX).cell (World.block_lt_of_cell? W _ hgs)).trans hgs
 have HGB:Hid (∀X,Below w0.heap.size w0 X->X.cell? ⟨1,0,none⟩=some (.iface bt bp)):=fun X hX=>((HUp.out X hX).cell (World.block_lt_of_cell? W _ hgb)).trans hgb
 have HAT:Hid (∀X,Below w0.heap.size w0 X->c.At X):=fun X hX=>hat.keep (HUp.out X hX)
 have HN:Hid (∀X,Below w0.heap.size w0 X->((X.cell? ⟨W.heap.size,0,none⟩=some (.int .i64 lid)/\X.cell? ⟨W.heap.size,1,none⟩=some (.int .i64 kind)/\X.cell? ⟨W.heap.size,2,none⟩=some (.int .i64 mr)/\X.cell? ⟨W.heap.size,3,none⟩=some (.int .i64 md)/\X.cell? ⟨W.heap.size,4,none⟩=some (.slice pa pn pc))/\(X.cell? ⟨W.heap.size+1,0,none⟩=some (.int .i64 c.id)/\X.cell? ⟨W.heap.size+1,1,none⟩=some (.slice c.ra c.rs.length c.rc)/\X.cell? ⟨W.heap.size+1,2,none⟩=some (.slice c.da c.ds.length c.dc)/\X.cell? ⟨W.heap.size+1,3,none⟩=some (.slice c.va c.vs.length c.vc)))/\Below w0.heap.size w0 X):=fun X hX=>⟨⟨(row_five (blk_keep hX HX.out)).1,row_four (blk_keep hX HY.out)⟩,hX⟩
 have HIn:Hid (∀v∈c.vs,v.In):=hin
 have HUq:Hid (Uq c.vs us ps):=hu
 have HOf:Hid (Calls Tryz.prog 31 #[.agg #[.int .i64 lid,.int .i64 kind,.int .i64 mr,.int .i64 md,.slice pa pn pc],.agg #[.int .i64 c.id,.slice c.ra c.rs.length c.rc,.slice c.da c.ds.length c.dc,.slice c.va c.vs.length c.vc]] w0 fun e w'=>(∃(s:St) (ev:Value),e=.returned (.tuple #[s.val,ev])/\OfR w0.heap.size lid kind mr md c (.iface st sp) (.iface kt kp) s ev w')/\Below w0.heap.size w0 w'):=of_any lid kind mr md pa pn pc c w0 st kt bt sp kp bp (by omega) (by omega) (by omega) hcr hcd hcv (HGS.out w0 (Below.refl _ _)) (HGK.out w0 (Below.refl _ _)) (HGB.out w0 (Below.refl _ _)) (HAT.out w0 (Below.refl _ _)) (fun v hv=>(HIn.out v hv).2.1.1)
 clear hgk hgs hgb hat hin hu
 obtain⟨⟨⟨p0,p1,p2,p3,p4⟩,⟨k0,k1,k2,k3⟩⟩,_⟩:=HN.out w0 (Below.refl _ _)
 go_enter Tryz.func21,Tryz.ntmps21
 go_upto_region 1 with fail
 rw[HW0.out]
 go_wp2_with fail
 refine Calls.mono HOf.out ?_
 rintro e w1 ⟨⟨s,ev,rfl,hor⟩,hb1⟩
 have HB1:Hid (Below w0.heap.size w0 w1):=hb1
 have HOr:Hid (OfR w0.heap.size lid kind mr md c (.iface st sp) (.iface kt kp) s ev w1):=hor
 clear hor hb1 HOf p0 p1 p2 p3 p4 k0 k1 k2 k3
 obtain⟨w2,HW2,HZ2,HB2'⟩:=boxed1 w1 s.cs 51
 have HB2:Hid (Below w0.heap.size w0 w2):=HB1.out.trans (HB2'.out.mono HB1.out.size)
 obtain⟨⟨s0,s1,s2,s3,s4,s5,s6,s7,s8⟩,_⟩:=st_row HZ2.out
 unfold St.val St.cs
 unfold St.cs at HW2
 go_upto_region 2 with fail
 rw[HW2.out]
 rcases HOr.out with ⟨h1,h2,rfl⟩|⟨h1,p,hp,h2,h3,q,h4,h5,rfl,h6,h7⟩|⟨hg,rfl,hs⟩
 · have HR:Hid (WrR W.heap.size lid kind mr md c us ps (.iface st sp) (.iface kt kp) [] (.iface st sp) w2):=.inl ⟨h1,rfl,rfl⟩
   clear h1 h2 HOr s0 s1 s2 s3 s4 s5 s6 s7 s8
   go_wp2
   go_ret2
   exact⟨⟨[],_,rfl,HR.out⟩,HUp.out _ HB2.out⟩
 · have HR:Hid (WrR W.heap.size lid kind mr md c us ps (.iface st sp) (.iface kt kp) [] (.iface 83 (.pointer (some ⟨q,0,none⟩))) w2):=.inr (.inl ⟨h1,p,hp,h2,h3,q,Nat.le_trans HB.out.size h4,rfl,rfl,(HB2'.out.cell (World.block_lt_of_cell? w1 _ h6)).trans h6,(HB2'.out.cell (World.block_lt_of_cell? w1 _ h7)).trans h7⟩)
   clear h1 h2 h3 h4 h5 h6 h7 HOr s0 s1 s2 s3 s4 s5 s6 s7 s8
   go_wp2
   go_ret2
   exact⟨⟨[],_,rfl,HR.out⟩,HUp.out _ HB2.out⟩
 · obtain⟨hm1,hm2,hpg⟩:=goodC_pg hg HIn.out
   have hlen:=hpg.len
   have hvl:=hpg.vl
   have HRt:Hid (Right kind c.vs):=hpg.rt
   have HPg:Hid (PgC kind mr.toNat md.toNat c):=hpg
   have heu:=ofK_eu c c.vs.length (Nat.le_refl _)
   rw[ofK_all] at heu
   have hse:s.e=c.rs.length:=by rw[hs];exact heu.1
   have hsu:s.u=(c.rs.length:Int)-c.vs.length:=by rw[hs];exact heu.2
   have HSs:Hid (s=ofC c):=hs
   have HGd:Hid (GoodC lid kind mr md c):=hg
   clear hs hg heu HOr hpg
   rw[hse] at s0
   by_cases h0:c.rs=[]
   · have HR:Hid (∀w,WrR W.heap.size lid kind mr md c us ps (.iface st sp) (.iface kt kp) [] (.iface st sp) w):=fun w=>.inr (.inr (.inl ⟨HGd.out,h0,rfl,rfl⟩))
     have hgz:=HGS.out w2 HB2.out
     have HLe:Hid (c.rs.length=0):=(by rw[h0];rfl)
     rw[HLe.out] at s0
     clear h0 hse hsu HLe hlen
     go_wp2_with fail
     go_quiet (fail)
     go_wp2
     go_ret2
     exact⟨⟨[],_,rfl,HR.out _⟩,HUp.out _ (by first|exact below_dN HB2.out _|exact HB2.out)⟩
   · have hpos:0<c.rs.length:=List.length_pos_iff.2 h0
     have q1:((c.rs.length:Int) == 0)=false:=by simp;omega
     have q2:decide ((20000:Int)<(c.rs.length:Int))=false:=by simp;omega
     have q3:decide ((c.rs.length:Int) > 20000)=false:=by simp;omega
     have hbl:=bdB_len (s:=s) (us:=us) (ps:=ps) HPg.out (by omega) (by omega) (by rw[HSs.out];exact ofC_fit HRt.out) (by omega) (by omega)
     have HR:Hid (∀w,WrR W.heap.size lid kind mr md c us ps (.iface st sp) (.iface kt kp) (pgB (bdB s mr.toNat md.toNat c (bestP kind c.vs us ps).1 (bestP kind c.vs us ps).2.data.toList)) .nilIface w):=fun w=>.inr (.inr (.inr ⟨HGd.out,h0,rfl,by rw[HSs.out]⟩))
     have HBo:Hid (Calls Tryz.prog 35 #[.agg #[.int .i64 lid,.int .i64 kind,.int .i64 mr,.int .i64 md,.slice pa pn pc],.agg #[.int .i64 c.id,.slice c.ra c.rs.length c.rc,.slice c.da c.ds.length c.dc,.slice c.va c.vs.length c.vc],.agg #[.int .i64 s.e,.int .i64 s.u,.bool s.h,.int .i64 s.mn.k,.int .i64 s.mn.n,.string s.mn.s,.int .i64 s.mx.k,.int .i64 s.mx.n,.string s.mx.s]] w2 fun e w'=>e=.returned (.tuple #[.string ⟨(bdB s mr.toNat md.toNat c (bestP kind c.vs us ps).1 (bestP kind c.vs us ps).2.data.toList).toArray⟩,.nilIface])/\Below w2.heap.size w2 w'):=(by
      have h:=bodyOf_any lid kind mr.toNat md.toNat pa pn pc c s us ps HUq.out HPg.out (by omega) (by omega) hcr hcd (by rw[HSs.out];exact ofC_fit HRt.out) ⟨by omega,by omega⟩ ⟨by omega,by omega⟩ w2 kt st bt kp sp bp (HGK.out w2 HB2.out) (HGS.out w2 HB2.out) (HGB.out w2 HB2.out) (HAT.out w2 HB2.out)
      rw[Int.toNat_of_nonneg hm1.1,Int.toNat_of_nonneg hm2.1] at h
      exact h)
     generalize bdB s mr.toNat md.toNat c (bestP kind c.vs us ps).1 (bestP kind c.vs us ps).2.data.toList=bl at *
     have HAr:Hid (∀X,Calls Tryz.prog 36 #[.string ⟨bl.toArray⟩] X fun e w'=>e=.returned (.tuple #[.string ⟨(pgB bl).toArray⟩,.nilIface])/\Below X.heap.size X w'):=fun X=>pgAround_any bl X (by omega)
     have HHs:Hid (s.e=c.rs.length):=hse
     rw[←HHs.out] at s0 q1 q2 q3
     obtain⟨⟨⟨p0,p1,p2,p3,p4⟩,⟨k0,k1,k2,k3⟩⟩,_⟩:=HN.out w2 HB2.out
     clear hse hsu hlen hvl h0 hpos hm1 hm2 hbl
     go_wp2_with fail
     refine Calls.mono HBo.out ?_
     rintro e w3 ⟨rfl,hb3⟩
     have HB3:Hid (Below w0.heap.size w0 w3):=HB2.out.trans (hb3.mono HB2.out.size)
     clear hb3 p0 p1 p2 p3 p4 k0 k1 k2 k3 s0 s1 s2 s3 s4 s5 s6 s7 s8
     go_wp2_with fail
     refine Calls.mono (HAr.out _) ?_
     rintro e w4 ⟨rfl,hb4⟩
     have HB4:Hid (Below w0.heap.size w0 w4):=HB3.out.trans (hb4.mono HB3.out.size)
     clear hb4
     go_wp2
     go_ret2
     exact⟨⟨_,_,rfl,HR.out _⟩,HUp.out _ HB4.out⟩
structure Er5 (W:World) (tt bt st kt ut:TypeId) (tp bp sp kp up:Value):Prop where
 t:W.cell? ⟨2,0,none⟩=some (.iface tt tp)
 b:W.cell? ⟨1,0,none⟩=some (.iface bt bp)
 s:W.cell? ⟨0,0,none⟩=some (.iface st sp)
 k:W.cell? ⟨3,0,none⟩=some (.iface kt kp)
 u:W.cell? ⟨6,0,none⟩=some (.iface ut up)
theorem Er5.keep {W X:World}{tt bt st kt ut:TypeId}{tp bp sp kp up:Value}(h:Er5 W tt bt st kt ut tp bp sp kp up)(hX:Below W.heap.size W X):Er5 X tt bt st kt ut tp bp sp kp up:=by
 have ck:∀{g:Nat} {v:Value},W.cell? ⟨g,0,none⟩=some v->X.cell? ⟨g,0,none⟩=some v:=fun h=>(hX.cell (World.block_lt_of_cell? W _ h)).trans h
 exact⟨ck h.t,ck h.b,ck h.s,ck h.k,ck h.u⟩
abbrev bodyW (kind mr md:Int) (c:Cl) (us:List Vl) (ps:List Nat):List UInt8:=bdB (ofC c) mr.toNat md.toNat c (bestP kind c.vs us ps).1 (bestP kind c.vs us ps).2.data.toList
def WrT (lid kind mr md:Int)(c:Cl)(us:List Vl)(ps:List Nat)(t:List UInt8)(ev:Value):Prop:=(∃et ep,ev=.iface et ep)\/(ev=.nilIface/\GoodC lid kind mr md c/\c.rs≠[]/\t=pgB (bodyW kind mr md c us ps))
theorem WrT.of {N:Nat}{lid kind mr md:Int}{c:Cl}{us:List Vl}{ps:List Nat}{st kt:TypeId}{sp kp:Value}{t:List UInt8}{ev:Value}{w:World}(h:WrR N lid kind mr md c us ps (.iface st sp) (.iface kt kp) t ev w):WrT lid kind mr md c us ps t ev:=by
 rcases h with ⟨_,_,h⟩|⟨_,p,_,_,_,q,_,_,h,_⟩|⟨_,_,_,h⟩|⟨hg,hr,h,ht⟩
 · exact .inl ⟨_,_,h⟩
 · exact .inl ⟨_,_,h⟩
 · exact .inl ⟨_,_,h⟩
 · exact .inr ⟨h,hg,hr,ht⟩
theorem bodyW_len {lid kind mr md:Int}{c:Cl}{us:List Vl}{ps:List Nat}(hg:GoodC lid kind mr md c)(hin:∀v∈c.vs,v.In)(hbk:c.rs.length+c.ds.length+c.vs.length<=2000):(bodyW kind mr md c us ps).length<=299000:=by
 obtain⟨hm1,hm2,hpg⟩:=goodC_pg hg hin
 have hl:=hpg.len
 have hv:=hpg.vl
 have heu:=ofK_eu c c.vs.length (Nat.le_refl _)
 rw[ofK_all] at heu
 exact bdB_len hpg (by omega) (by omega) (ofC_fit hpg.rt) (by rw[heu.1];omega) (by rw[heu.2];omega)
def BoolE (e:Ending):Prop:=∃b,e=.returned (.bool b)
theorem rightL_any (lid kind mr md:Int)(pa:Option Addr)(pn pc:Nat)(W:World):Calls Tryz.prog 6 #[.agg #[.int .i64 lid,.int .i64 kind,.int .i64 mr,.int .i64 md,.slice pa pn pc]] W fun e w'=>BoolE e/\Below W.heap.size W w':=by
 have HB:Hid (Below W.heap.size W (W.alloc (.cells #[.int .i64 lid,.int .i64 kind,.int .i64 mr,.int .i64 md,.slice pa pn pc] 24))):=(Below.refl _ _).alloc (Nat.le_refl _) _
 go_enter Tryz.func6,Tryz.ntmps6
 go_wp2
 all_goals go_ret
 all_goals exact⟨⟨_,rfl⟩,HB.out⟩
end Go.Proofs.YtoeiahdjamkdgaaGreatDoor
