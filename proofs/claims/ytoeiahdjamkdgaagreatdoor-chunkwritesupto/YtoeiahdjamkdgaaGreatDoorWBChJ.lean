/-
  The closure of chunk.Marks.
  The reference's StatsText.
-/
import Derived.Test.YtoeiahdjamkdgaaGreatDoorWBChB
import Derived.Test.YtoeiahdjamkdgaaGreatDoorWBPgC
set_option maxRecDepth 100000
set_option maxHeartbeats 6400000
namespace Go.Proofs.YtoeiahdjamkdgaaGreatDoor
open Go.RowKit
theorem Tryz.infoMk:(Tryz.prog.info? 53).map (fun i=>(i.zero,i.size,i.bytes))=some (some (.agg #[.int .i64 0,.int .i64 0,.int .i64 0,.int .i64 0,.int .i64 0,.int .i64 0,.bool false,.int .i64 0,.int .i64 0,.string ⟨#[]⟩,.int .i64 0,.int .i64 0,.string ⟨#[]⟩]),13,120):=by kernel_rfl
theorem one_mk (m:Mk):∀u∈m.cs,u.oneCell'=true:=fun u hu=>by
 simp only[Mk.cs,List.mem_cons,List.not_mem_nil,or_false] at hu
 rcases hu with rfl|rfl|rfl|rfl|rfl|rfl|rfl|rfl|rfl|rfl|rfl|rfl|rfl<;>rfl
theorem marks1_any (lid kind mr md:Int)(pa:Option Addr)(pn pc:Nat)(at_ size fst:Int)(gL g1 g2 N:Nat)(lv:Value)(ms:List Mk)(k:Cl)(hn12:g2≠g1)(hn2L:g2≠gL)(hn1L:g1≠gL)(hgd:GoodC lid kind mr md k)(hin:∀v∈k.vs,v.Low)(hbk:k.rs.length+k.ds.length+k.vs.length<=2000)(hcap:k.Cap)(hms:ms.length<=100000)(hfs:0<=fst/\fst<=1000000)(W:World)(hI:MkS gL g1 g2 N lid kind mr md pa pn pc fst lv ms W)(hN:N<=W.heap.size)(st kt bt:TypeId)(sp kp bp:Value)(hs:W.cell? ⟨0,0,none⟩=some (.iface st sp))(hk:W.cell? ⟨3,0,none⟩=some (.iface kt kp))(hbd:W.cell? ⟨1,0,none⟩=some (.iface bt bp))(hat:k.At W) :
    Calls Tryz.prog 30 #[.int .i64 at_,.int .i64 size,.agg #[.int .i64 k.id,.slice k.ra k.rs.length k.rc,.slice k.da k.ds.length k.dc,.slice k.va k.vs.length k.vc],.pointer (some ⟨gL,0,none⟩),.pointer (some ⟨g2,0,none⟩),.pointer (some ⟨g1,0,none⟩)] W fun e w'=>e=.returned .nilIface/\(∃lv',MkS gL g1 g2 N lid kind mr md pa pn pc (fst+(cntE 0 k.rs:Nat)) lv' (ms++[⟨at_,size,fst,(cntE 0 k.rs:Nat),ofC k⟩]) w')/\MFr g1 g2 N W w':=by
 obtain⟨im,hmi,hm0,hm1,hm2⟩:=info_parts Tryz.infoMk
 obtain⟨w0,HW0,HX,HB⟩:=boxed1 W #[.int .i64 k.id,.slice k.ra k.rs.length k.rc,.slice k.da k.ds.length k.dc,.slice k.va k.vs.length k.vc] 27
 have HI0:Hid (MkS gL g1 g2 N lid kind mr md pa pn pc fst lv ms w0):=hI.keep HB.out
 obtain⟨s,HSt⟩:∃s,Hid (ofC k=s):=⟨_,rfl⟩
 have HOf:Hid (Calls Tryz.prog 31 #[.agg #[.int .i64 lid,.int .i64 kind,.int .i64 mr,.int .i64 md,.slice pa pn pc],.agg #[.int .i64 k.id,.slice k.ra k.rs.length k.rc,.slice k.da k.ds.length k.dc,.slice k.va k.vs.length k.vc]] w0 fun e w'=>e=.returned (.tuple #[.agg #[.int .i64 s.e,.int .i64 s.u,.bool s.h,.int .i64 s.mn.k,.int .i64 s.mn.n,.string s.mn.s,.int .i64 s.mx.k,.int .i64 s.mx.n,.string s.mx.s],.nilIface])/\Below w0.heap.size w0 w'):=(of_any lid kind mr md pa pn pc k w0 st kt bt sp kp bp (by omega) (by omega) (by omega) hcap.1 hcap.2.1 hcap.2.2 (ckB hs HB.out) (ckB hk HB.out) (ckB hbd HB.out) (hat.keep HB.out) hin).mono fun e w' h=>(by
  obtain⟨⟨s',ev,rfl,h2⟩,h3⟩:=h
  refine⟨?_,h3⟩
  rcases h2 with ⟨h1,_⟩|⟨_,p,hp,h1,_⟩|⟨_,h1,h2⟩
  · have:=hgd.1
    rw[h1] at this
    cases this
  · have:=hgd.2 p hp
    rw[h1] at this
    cases this
  · rw[h1,h2,HSt.out]
    rfl)
 have HAT:Hid (k.At w0):=hat.keep HB.out
 have HM0:Hid (MFr g1 g2 N W w0):=.of_below HB.out
 have hcn:cntE 0 k.rs<=k.rs.length:=List.length_filter_le _ _
 rw[HSt.out]
 clear hI hs hk hbd hat HB hgd hcap hin
 obtain⟨⟨p0,p1,p2,p3,p4⟩,_⟩:=row_five HI0.out.lf
 obtain⟨k0,k1,k2,k3⟩:=row_four HX.out
 go_enter Tryz.func30,Tryz.ntmps30
 go_upto_region 1 with fail
 rw[HW0.out]
 clear HW0
 go_wp2_with fail
 refine Calls.mono HOf.out ?_
 rintro e w1 ⟨rfl,hb1⟩
 have HI1:Hid (MkS gL g1 g2 N lid kind mr md pa pn pc fst lv ms w1):=HI0.out.keep hb1
 have HX1:Hid _:=blk_keep hb1 HX.out
 have HA1:Hid (k.At w1):=HAT.out.keep hb1
 have HM1:Hid (MFr g1 g2 N W w1):=HM0.out.trans (.of_below hb1)
 have hN1:N<=w1.heap.size:=Nat.le_trans hN HM1.out.size
 clear hb1 HX HI0 HAT HM0 HOf p0 p1 p2 p3 p4 k0 k1 k2 k3
 obtain⟨w2,HW2,HS2,HB2⟩:=boxed1 w1 #[.int .i64 s.e,.int .i64 s.u,.bool s.h,.int .i64 s.mn.k,.int .i64 s.mn.n,.string s.mn.s,.int .i64 s.mx.k,.int .i64 s.mx.n,.string s.mx.s] 51
 have HI2:Hid (MkS gL g1 g2 N lid kind mr md pa pn pc fst lv ms w2):=HI1.out.keep HB2.out
 have HX2:Hid _:=blk_keep HB2.out HX1.out
 have HA2:Hid (k.At w2):=HA1.out.keep HB2.out
 have HM2:Hid (MFr g1 g2 N W w2):=HM1.out.trans (.of_below HB2.out)
 have hN2:N<=w2.heap.size:=Nat.le_trans hN1 HB2.out.size
 have HCt:Hid (∀X,Below w2.heap.size w2 X->Calls Tryz.prog 32 #[.agg #[.int .i64 k.id,.slice k.ra k.rs.length k.rc,.slice k.da k.ds.length k.dc,.slice k.va k.vs.length k.vc]] X fun e w'=>e=.returned (.int .i64 (cntE 0 k.rs:Nat))/\Below w2.heap.size w2 w'/\Below X.heap.size X w'):=fun X hX=>(count_any k.id k.ra k.rs k.rc k.da k.ds.length k.dc k.va k.vs.length k.vc (by omega) X (HA2.out.keep hX).r).mono fun e w' h=>⟨h.1,bel_next hX (Nat.le_refl _) h.2,h.2⟩
 clear HB2 HX1 HA1 HI1 HM1
 go_upto_region 4 with fail
 rw[HW2.out]
 clear HW2
 obtain⟨c0,_⟩:=row_oneC HI2.out.fc
 obtain⟨k0,k1,k2,k3⟩:=row_four HX2.out
 obtain⟨⟨s0,s1,s2,s3,s4,s5,s6,s7,s8⟩,_⟩:=row_nine HS2.out
 go_cut [12] (fun p wx=>∃h,p=.pointer (some ⟨h,0,none⟩)/\Hid (wx.heap[h]? = some (.cells #[.int .i64 at_,.int .i64 size,.int .i64 fst,.int .i64 (cntE 0 k.rs:Nat),.int .i64 s.e,.int .i64 s.u,.bool s.h,.int .i64 s.mn.k,.int .i64 s.mn.n,.string s.mn.s,.int .i64 s.mx.k,.int .i64 s.mx.n,.string s.mx.s] 53 (0,0)))/\Hid (Below w2.heap.size w2 wx))
 case first =>
  have b0:Below w2.heap.size w2 w2:=Below.refl _ _
  have HN:Hid (∀X,Below w2.heap.size w2 X->X.cell? ⟨g2,0,none⟩=some (.int .i64 fst)/\(X.cell? ⟨W.heap.size,0,none⟩=some (.int .i64 k.id)/\X.cell? ⟨W.heap.size,1,none⟩=some (.slice k.ra k.rs.length k.rc)/\X.cell? ⟨W.heap.size,2,none⟩=some (.slice k.da k.ds.length k.dc)/\X.cell? ⟨W.heap.size,3,none⟩=some (.slice k.va k.vs.length k.vc))/\(X.cell? ⟨w1.heap.size,0,none⟩=some (.int .i64 s.e)/\X.cell? ⟨w1.heap.size,1,none⟩=some (.int .i64 s.u)/\X.cell? ⟨w1.heap.size,2,none⟩=some (.bool s.h)/\X.cell? ⟨w1.heap.size,3,none⟩=some (.int .i64 s.mn.k)/\X.cell? ⟨w1.heap.size,4,none⟩=some (.int .i64 s.mn.n)/\X.cell? ⟨w1.heap.size,5,none⟩=some (.string s.mn.s)/\X.cell? ⟨w1.heap.size,6,none⟩=some (.int .i64 s.mx.k)/\X.cell? ⟨w1.heap.size,7,none⟩=some (.int .i64 s.mx.n)/\X.cell? ⟨w1.heap.size,8,none⟩=some (.string s.mx.s))/\Below w2.heap.size w2 X):=fun X hX=>⟨(row_oneC (blk_keep hX HI2.out.fc)).1,row_four (blk_keep hX HX2.out),(row_nine (blk_keep hX HS2.out)).1,hX⟩
  go_region_held3 (fun X=>X.cell? ⟨g2,0,none⟩=some (.int .i64 fst)/\(X.cell? ⟨W.heap.size,0,none⟩=some (.int .i64 k.id)/\X.cell? ⟨W.heap.size,1,none⟩=some (.slice k.ra k.rs.length k.rc)/\X.cell? ⟨W.heap.size,2,none⟩=some (.slice k.da k.ds.length k.dc)/\X.cell? ⟨W.heap.size,3,none⟩=some (.slice k.va k.vs.length k.vc))/\(X.cell? ⟨w1.heap.size,0,none⟩=some (.int .i64 s.e)/\X.cell? ⟨w1.heap.size,1,none⟩=some (.int .i64 s.u)/\X.cell? ⟨w1.heap.size,2,none⟩=some (.bool s.h)/\X.cell? ⟨w1.heap.size,3,none⟩=some (.int .i64 s.mn.k)/\X.cell? ⟨w1.heap.size,4,none⟩=some (.int .i64 s.mn.n)/\X.cell? ⟨w1.heap.size,5,none⟩=some (.string s.mn.s)/\X.cell? ⟨w1.heap.size,6,none⟩=some (.int .i64 s.mx.k)/\X.cell? ⟨w1.heap.size,7,none⟩=some (.int .i64 s.mx.n)/\X.cell? ⟨w1.heap.size,8,none⟩=some (.string s.mx.s))/\Below w2.heap.size w2 X) (with_reducible refine HN.out _ ?_;repeat' (first|with_reducible assumption|with_reducible exact b0.drew|with_reducible exact b0|with_reducible refine Below.drew ?_|with_reducible exact Nat.le_refl _|with_reducible refine Below.setCell ?_ ?_ _|with_reducible refine Below.alloc ?_ ?_ _|with_reducible exact Below.size (by assumption)|(simp;done)|(simp;omega)|omega)) (first
   | (go_at_call 32;(with_reducible refine Calls.mono (HCt.out _ ?_) ?_);(repeat' (first|with_reducible assumption|with_reducible exact b0.drew|with_reducible exact b0|with_reducible refine Below.drew ?_|with_reducible refine Below.alloc ?_ ?_ _|with_reducible exact Below.size (by assumption)|with_reducible exact Nat.le_refl _|(simp;done)|(simp;omega)));rintro e x1 ⟨rfl,hbx1,hraw1⟩;have HBX1:Hid (Below w2.heap.size w2 x1):=hbx1;(first|(have hzz:=blk_keep hraw1 hzz0;clear hzz0;have hzz0:=hzz;clear hzz)|(have hzz0:=blk_keep hraw1 (blk_drew (heap_alloc_new _ (.cells #[.int .i64 0,.int .i64 0,.int .i64 0,.int .i64 0,.int .i64 0,.int .i64 0,.bool false,.int .i64 0,.int .i64 0,.string ⟨#[]⟩,.int .i64 0,.int .i64 0,.string ⟨#[]⟩] 53))))|(have hzz0:=blk_keep hraw1 (heap_alloc_new _ (.cells #[.int .i64 0,.int .i64 0,.int .i64 0,.int .i64 0,.int .i64 0,.int .i64 0,.bool false,.int .i64 0,.int .i64 0,.string ⟨#[]⟩,.int .i64 0,.int .i64 0,.string ⟨#[]⟩] 53)))|skip);(first|(obtain⟨z1,z2⟩:=row_mk hzz0;have HZZ:Hid _:=hzz0;clear hzz0)|skip)))
  · go_wp2_with fail
    go_meet
    exact⟨x1.heap.size,rfl,heap_alloc_new _ _,HBX1.out.alloc HBX1.out.size _⟩
  all_goals
   go_wp2_with fail
   go_meet
   exact⟨w2.heap.size,rfl,set13_row HZZ.out _ _ _ _ _ _ _ _ _ _ _ _ _,set13_below HBX1.out (Nat.le_refl _) _ _ _ _ _ _ _ _ _ _ _ _ _⟩
 case rest =>
  obtain⟨h,rfl,HMk,HBx⟩:=hcut
  rename World=>wx
  have HI3:Hid (MkS gL g1 g2 N lid kind mr md pa pn pc fst lv ms wx):=HI2.out.keep HBx.out
  have HM3:Hid (MFr g1 g2 N W wx):=HM2.out.trans (.of_below HBx.out)
  have hN3:N<=wx.heap.size:=Nat.le_trans hN2 HBx.out.size
  obtain⟨la,lc,rfl⟩:=own_slC HI3.out.row
  have hhg:h≠g2:=fun e=>by
   subst e
   have h1:=HMk.out
   rw[HI3.out.fc] at h1
   injection h1 with h1
   injection h1 with _ h1 _
   exact absurd h1 (by decide)
  clear c0 k0 k1 k2 k3 s0 s1 s2 s3 s4 s5 s6 s7 s8 HI2 HM2 HX2 HA2 HS2 HCt HBx
  obtain⟨c0,fz⟩:=row_oneC HI3.out.fc
  obtain⟨⟨x0,y1,y2,y3,y4,y5,y6,y7,y8,y9,ya,yb,yc⟩,_⟩:=row_mk HMk.out
  obtain⟨n,HCn⟩:∃n:Nat,Hid (cntE 0 k.rs=n):=⟨_,rfl⟩
  rw[HCn.out] at hcn HMk y3
  go_upto_region 6 with fail
  obtain⟨w5,HW5⟩:∃w5,Hid (wx.setCell ⟨g2,0,none⟩ (.int .i64 (fst+(n:Nat)))=w5):=⟨_,rfl⟩
  obtain⟨hm5,hf5⟩:=HI3.out.setF hn12 hn2L (fst+(n:Nat))
  have HMk5:Hid _:=blk_other HMk.out hhg (j:=0) (.int .i64 (fst+(n:Nat)))
  rw[HW5.out] at hm5 hf5 HMk5 ⊢
  have HI5:Hid (MkS gL g1 g2 N lid kind mr md pa pn pc (fst+(n:Nat)) (.slice la ms.length lc) ms w5):=hm5
  have HM5:Hid (MFr g1 g2 N W w5):=HM3.out.trans hf5
  have hN5:N<=w5.heap.size:=Nat.le_trans hN3 hf5.size
  clear hm5 hf5 HW5 HI3 HM3 c0 fz x0 y1 y2 y3 y4 y5 y6 y7 y8 y9 ya yb yc
  obtain⟨⟨x0,y1,y2,y3,y4,y5,y6,y7,y8,y9,ya,yb,yc⟩,_⟩:=row_mk HMk5.out
  obtain⟨d0,fz⟩:=row_oneC HI5.out.lc
  have HI6:Hid (MkS gL g1 g2 N lid kind mr md pa pn pc (fst+(n:Nat)) (.slice la ms.length lc) ms (w5.alloc (.cells #[.int .i64 at_,.int .i64 size,.int .i64 fst,.int .i64 (n:Nat),.int .i64 s.e,.int .i64 s.u,.bool s.h,.int .i64 s.mn.k,.int .i64 s.mn.n,.string s.mn.s,.int .i64 s.mx.k,.int .i64 s.mx.n,.string s.mx.s] 53))):=HI5.out.keep ((Below.refl _ _).alloc (Nat.le_refl _) _)
  have HM6:Hid (MFr g1 g2 N W (w5.alloc (.cells #[.int .i64 at_,.int .i64 size,.int .i64 fst,.int .i64 (n:Nat),.int .i64 s.e,.int .i64 s.u,.bool s.h,.int .i64 s.mn.k,.int .i64 s.mn.n,.string s.mn.s,.int .i64 s.mx.k,.int .i64 s.mx.n,.string s.mx.s] 53))):=HM5.out.trans (.of_below ((Below.refl _ _).alloc (Nat.le_refl _) _))
  go_wp2_with (at_builtin;refine wpList_append_any _ rfl _ _ 47 rfl N 53 im (.agg #[.int .i64 0,.int .i64 0,.int .i64 0,.int .i64 0,.int .i64 0,.int .i64 0,.bool false,.int .i64 0,.int .i64 0,.string ⟨#[]⟩,.int .i64 0,.int .i64 0,.string ⟨#[]⟩]) 13 120 Tryz.underlying47 hmi hm0 hm1 hm2 rfl (by decide) _ _ (mkF ms) rfl HI6.out.row (some ⟨w5.heap.size,0,none⟩) 1 1 (Mk.cs ⟨at_,size,fst,(n:Nat),s⟩) rfl rfl (fun j u hu=>⟨_,rfl,by rw[addr_add,Nat.zero_add];exact cell_alloc_at (cs:=(Mk.cs ⟨at_,size,fst,(n:Nat),s⟩).toArray) (T:=53) (by simpa using hu) rfl⟩) (one_mk _) (by unfold maxLen;omega) (by omega) (by simp;omega) ?_;intro v1 x1 hown1 hg1 hw1;obtain⟨e1,e2,e3⟩:=HI6.out.app (m:=⟨at_,size,fst,(n:Nat),s⟩) (Ne.symm hn12) hn1L hown1 hg1 hw1;obtain⟨a1,q1,rfl⟩:=own_slC hown1;have HI7:Hid _:=e2;have HM7:Hid (MFr g1 g2 N W _):=HM6.out.trans e3;clear hown1 hg1 hw1 e2 e3 d0 fz;obtain⟨d0,fz⟩:=row_oneC e1;clear e1)
  go_ret
  rw[HCn.out]
  exact⟨rfl,⟨_,HI7.out⟩,HM7.out⟩
theorem countR_any (n:Nat)(W:World)(h1:n<=9223372036854775807):Calls Tryz.prog 79 #[.int .i64 n] W fun e w'=>e=.returned (.string ⟨(Um.uv n).toArray⟩)/\Below W.heap.size W w':=by
 have hcv:IntKind.u64.wrap (n:Int)=(n:Int):=by unfold IntKind.wrap IntKind.signed IntKind.bits;simp;omega
 have hq:decide ((n:Int)<0)=false:=by simp
 go_enter Tryz.func79,Tryz.ntmps79
 go_wp2_with (go_at_call 47;refine (seven_any n _ (by omega)).mono ?_;rintro e w1 ⟨rfl,hb1⟩)
 go_ret
 exact⟨rfl,hb1⟩
theorem statsText_any (s:St)(hf:s.h=true->s.Fit)(he:0<=s.e/\s.e<=9223372036854775807)(hu:0<=s.u/\s.u<=9223372036854775807)(W:World):Calls Tryz.prog 41 #[.agg #[.int .i64 s.e,.int .i64 s.u,.bool s.h,.int .i64 s.mn.k,.int .i64 s.mn.n,.string s.mn.s,.int .i64 s.mx.k,.int .i64 s.mx.n,.string s.mx.s]] W fun e w'=>e=.returned (.string ⟨(stTx s).toArray⟩)/\Below W.heap.size W w':=by
 have hle:=Um.uv_ten (n:=s.e.toNat) (by omega)
 have hlu:=Um.uv_ten (n:=s.u.toNat) (by omega)
 obtain⟨w0,HW0,HX,HB⟩:=boxed1 W #[.int .i64 s.e,.int .i64 s.u,.bool s.h,.int .i64 s.mn.k,.int .i64 s.mn.n,.string s.mn.s,.int .i64 s.mx.k,.int .i64 s.mx.n,.string s.mx.s] 93
 obtain⟨et,HEt⟩:∃p,Hid ((⟨(Um.uv s.e.toNat).toArray⟩:ByteArray)=p):=⟨_,rfl⟩
 obtain⟨ut,HUt⟩:∃p,Hid ((⟨(Um.uv s.u.toNat).toArray⟩:ByteArray)=p):=⟨_,rfl⟩
 have hz2:et.size<=10:=by rw[←HEt.out];simpa [ByteArray.size] using hle
 have hz3:ut.size<=10:=by rw[←HUt.out];simpa [ByteArray.size] using hlu
 have HN:Hid (∀X,Below w0.heap.size w0 X->(X.cell? ⟨W.heap.size,0,none⟩=some (.int .i64 s.e)/\X.cell? ⟨W.heap.size,1,none⟩=some (.int .i64 s.u)/\X.cell? ⟨W.heap.size,2,none⟩=some (.bool s.h)/\X.cell? ⟨W.heap.size,3,none⟩=some (.int .i64 s.mn.k)/\X.cell? ⟨W.heap.size,4,none⟩=some (.int .i64 s.mn.n)/\X.cell? ⟨W.heap.size,5,none⟩=some (.string s.mn.s)/\X.cell? ⟨W.heap.size,6,none⟩=some (.int .i64 s.mx.k)/\X.cell? ⟨W.heap.size,7,none⟩=some (.int .i64 s.mx.n)/\X.cell? ⟨W.heap.size,8,none⟩=some (.string s.mx.s))/\Below w0.heap.size w0 X):=fun X hX=>⟨(st_row (blk_keep hX HX.out)).1,hX⟩
 have HCe:Hid (∀X,Below w0.heap.size w0 X->Calls Tryz.prog 79 #[.int .i64 s.e] X fun e w'=>e=.returned (.string et)/\Below w0.heap.size w0 w'):=fun X hX=>(by
  have h:=countR_any s.e.toNat X (by omega)
  rw[Int.toNat_of_nonneg he.1,HEt.out] at h
  exact h.mono fun _ _ h=>⟨h.1,hX.trans (h.2.mono hX.size)⟩)
 have HCu:Hid (∀X,Below w0.heap.size w0 X->Calls Tryz.prog 79 #[.int .i64 s.u] X fun e w'=>e=.returned (.string ut)/\Below w0.heap.size w0 w'):=fun X hX=>(by
  have h:=countR_any s.u.toNat X (by omega)
  rw[Int.toNat_of_nonneg hu.1,HUt.out] at h
  exact h.mono fun _ _ h=>⟨h.1,hX.trans (h.2.mono hX.size)⟩)
 have hq1:∀W:World,(Op.stringOp .add et ut).run Tryz.prog W=.ok (.string (et++ut)) W:=fun W=>run_string_add_sum _ _ _ (by omega)
 obtain⟨s0,s1,s2,s3,s4,s5,s6,s7,s8⟩:=(HN.out w0 (Below.refl _ _)).1
 go_enter Tryz.func41,Tryz.ntmps41
 go_upto_region 1 with fail
 rw[HW0.out]
 go_cut [3] (fun x wx=>x=.string (et++ut)/\Hid (Below w0.heap.size w0 wx))
 case first =>
  have b0:Below w0.heap.size w0 w0:=Below.refl _ _
  go_region_held3 (fun X=>(X.cell? ⟨W.heap.size,0,none⟩=some (.int .i64 s.e)/\X.cell? ⟨W.heap.size,1,none⟩=some (.int .i64 s.u)/\X.cell? ⟨W.heap.size,2,none⟩=some (.bool s.h)/\X.cell? ⟨W.heap.size,3,none⟩=some (.int .i64 s.mn.k)/\X.cell? ⟨W.heap.size,4,none⟩=some (.int .i64 s.mn.n)/\X.cell? ⟨W.heap.size,5,none⟩=some (.string s.mn.s)/\X.cell? ⟨W.heap.size,6,none⟩=some (.int .i64 s.mx.k)/\X.cell? ⟨W.heap.size,7,none⟩=some (.int .i64 s.mx.n)/\X.cell? ⟨W.heap.size,8,none⟩=some (.string s.mx.s))/\Below w0.heap.size w0 X) (with_reducible refine HN.out _ ?_;repeat' (first|with_reducible assumption|with_reducible exact b0.drew|with_reducible exact b0|with_reducible refine Below.drew ?_|with_reducible exact Nat.le_refl _|with_reducible refine Below.setCell ?_ ?_ _|with_reducible refine Below.alloc ?_ ?_ _|with_reducible exact Below.size (by assumption)|(simp;done)|(simp;omega)|omega)) (first
   | (go_at_call 79;(with_reducible refine Calls.mono (HCe.out _ ?_) ?_);(repeat' (first|with_reducible assumption|with_reducible exact b0.drew|with_reducible exact b0|with_reducible refine Below.drew ?_|with_reducible refine Below.alloc ?_ ?_ _|with_reducible exact Below.size (by assumption)|with_reducible exact Nat.le_refl _|(simp;done)|(simp;omega)));rintro e x1 ⟨rfl,hbx1⟩)
   | (go_at_call 79;(with_reducible refine Calls.mono (HCu.out _ ?_) ?_);(repeat' (first|with_reducible assumption|with_reducible exact b0.drew|with_reducible exact b0|with_reducible refine Below.drew ?_|with_reducible refine Below.alloc ?_ ?_ _|with_reducible exact Below.size (by assumption)|with_reducible exact Nat.le_refl _|(simp;done)|(simp;omega)));rintro e x2 ⟨rfl,hbx2⟩))
  all_goals (have HBX:Hid _:=hbx2;go_wp2_with fail;go_meet;exact⟨rfl,HBX.out⟩)
 case rest =>
  obtain⟨rfl,HB1⟩:=hcut
  rename World=>w1
  clear s0 s1 s2 s3 s4 s5 s6 s7 s8 hq1
  obtain⟨s0,s1,s2,s3,s4,s5,s6,s7,s8⟩:=(HN.out w1 HB1.out).1
  have hz4:(et++ut).size<=20:=by rw[ByteArray.size_append];omega
  have HEu:Hid (et++ut=⟨(Um.uv s.e.toNat++Um.uv s.u.toNat).toArray⟩):=(by show _=_;rw[←HEt.out,←HUt.out,arr_app])
  generalize et++ut=eu at hz4 HEu ⊢
  clear hz2 hz3 HCe HCu HEt HUt
  go_wp2_with fail
  refine Calls.mono (isValueR_any s.mn.k s.mn.k s.mn.n s.mn.s w1) ?_
  rintro e w2 ⟨rfl,hb2⟩
  have HB2:Hid (Below w0.heap.size w0 w2):=HB1.out.trans (hb2.mono HB1.out.size)
  clear s0 s1 s2 s3 s4 s5 s6 s7 s8 hb2 HB1
  obtain⟨s0,s1,s2,s3,s4,s5,s6,s7,s8⟩:=(HN.out w2 HB2.out).1
  go_wp2_with fail
  refine Calls.mono (isValueR_any s.mx.k s.mx.k s.mx.n s.mx.s w2) ?_
  rintro e w3 ⟨rfl,hb3⟩
  have HB3:Hid (Below w0.heap.size w0 w3):=HB2.out.trans (hb3.mono HB2.out.size)
  clear s0 s1 s2 s3 s4 s5 s6 s7 s8 hb3 HB2
  obtain⟨s0,s1,s2,s3,s4,s5,s6,s7,s8⟩:=(HN.out w3 HB3.out).1
  obtain⟨vh,HVh⟩:∃x,Hid (s.h=x):=⟨_,rfl⟩
  rw[HVh.out] at s2 ⊢
  cases vh with
  | false =>
   have HT:Hid (stTx s=Um.uv s.e.toNat++Um.uv s.u.toNat++[0]):=by show _=_;unfold stTx stV;rw[if_neg (by rw[HVh.out];simp)]
   have HBy:Hid (Calls Tryz.prog 46 #[.int .i64 0] w3 fun e w'=>e=.returned (.string ⟨#[Um.bt 0]⟩)/\Below w3.heap.size w3 w'):=byte_any 0 w3 (by omega) (by omega)
   have hq1:∀W:World,(Op.stringOp .add eu ⟨#[Um.bt 0]⟩).run Tryz.prog W=.ok (.string (eu++⟨#[Um.bt 0]⟩)) W:=fun W=>run_string_add_sum _ _ _ (by rw[show (⟨#[Um.bt 0]⟩:ByteArray).size=1 from rfl];omega)
   go_wp2_with fail
   refine Calls.mono HBy.out ?_
   rintro e w4 ⟨rfl,hb4⟩
   have HB4:Hid (Below w0.heap.size w0 w4):=HB3.out.trans (hb4.mono HB3.out.size)
   clear hb4
   go_wp2
   go_ret
   rw[HT.out,HEu.out,show (⟨#[Um.bt 0]⟩:ByteArray)=⟨[(0:UInt8)].toArray⟩ from rfl,arr_app]
   exact⟨rfl,HB.out.trans (HB4.out.mono HB.out.size)⟩
  | true =>
   have hf:=hf HVh.out
   have ho1:=okV_iff.2 hf.ok
   have hk2:s.mx.k=s.mn.k:=hf.ok2.1
   have ho2:okV s.mx.k s.mx.k s.mx.n s.mx.s.size=true:=(by rw[hk2];have:=okV_iff.2 hf.ok2;rw[hk2] at this;exact this)
   rw[ho1,ho2]
   have HK2:Hid _:=hk2
   have HT:Hid (stTx s=Um.uv s.e.toNat++Um.uv s.u.toNat++([1,Um.bt s.mn.k]++Um.txt (plainB s.mn.k [s.mn])++Um.txt (plainB s.mn.k [s.mx]))):=by show _=_;unfold stTx stV;rw[if_pos HVh.out]
   obtain⟨pmn,HPN⟩:∃p,Hid ((⟨(plainB s.mn.k [s.mn]).toArray⟩:ByteArray)=p):=⟨_,rfl⟩
   obtain⟨pmx,HPX⟩:∃p,Hid ((⟨(plainB s.mn.k [s.mx]).toArray⟩:ByteArray)=p):=⟨_,rfl⟩
   have hr1:Right s.mn.k [s.mn]:=⟨⟨hf.k1,hf.k5⟩,fun v hv=>by rw[List.mem_singleton] at hv;subst hv;exact⟨hf.ok,hf.in1⟩⟩
   have hr2:Right s.mn.k [s.mx]:=⟨⟨hf.k1,hf.k5⟩,fun v hv=>by rw[List.mem_singleton] at hv;subst hv;exact⟨hf.ok2,hf.in2⟩⟩
   have hzn:pmn.size<=118:=by have h:=plainB_len hr1;rw[←HPN.out];simpa [ByteArray.size] using h
   have hzx:pmx.size<=118:=by have h:=plainB_len hr2;rw[←HPX.out];simpa [ByteArray.size] using h
   have hk15:1<=s.mn.k/\s.mn.k<=5:=⟨hf.k1,hf.k5⟩
   have HPmn:Hid (∀X g,X.heap[g]? = some (.cells #[.int .i64 s.mn.k,.int .i64 s.mn.n,.string s.mn.s] 46 (0,0))->Calls Tryz.prog 74 #[.int .i64 s.mn.k,.slice (some ⟨g,0,none⟩) 1 1] X fun e w'=>e=.returned (.string pmn)/\Below X.heap.size X w'):=fun X g hg=>(by
    rw[←HPN.out]
    exact plainOf_any (some ⟨g,0,none⟩) [s.mn] 1 s.mn.k X (by simp) (liesV_one hg) hr1)
   have HPmx:Hid (∀X g,X.heap[g]? = some (.cells #[.int .i64 s.mx.k,.int .i64 s.mx.n,.string s.mx.s] 46 (0,0))->Calls Tryz.prog 74 #[.int .i64 s.mx.k,.slice (some ⟨g,0,none⟩) 1 1] X fun e w'=>e=.returned (.string pmx)/\Below X.heap.size X w'):=fun X g hg=>(by
    rw[←HPX.out]
    have h:=plainOf_any (some ⟨g,0,none⟩) [s.mx] 1 s.mn.k X (by simp) (liesV_one hg) hr2
    rw[←HK2.out] at h ⊢
    exact h)
   have HBy:Hid (∀X,Calls Tryz.prog 46 #[.int .i64 1] X fun e w'=>e=.returned (.string ⟨#[Um.bt 1]⟩)/\Below X.heap.size X w'):=fun X=>byte_any 1 X (by omega) (by omega)
   have HBk:Hid (∀X,Calls Tryz.prog 46 #[.int .i64 s.mn.k] X fun e w'=>e=.returned (.string ⟨#[Um.bt s.mn.k]⟩)/\Below X.heap.size X w'):=fun X=>byte_any s.mn.k X (by omega) (by omega)
   have HTx:Hid (∀p:ByteArray,p.size<=118->∃t:ByteArray,(⟨(Um.txt p.data.toList).toArray⟩:ByteArray)=t/\t.size<=128/\∀X,Calls Tryz.prog 43 #[.string p] X fun e w'=>e=.returned (.string t)/\Below X.heap.size X w'):=fun p hp=>⟨_,rfl,by have:=Um.uv_ten (n:=p.size) (by omega);rw[←txt_arr,ByteArray.size_append];show (Um.uv p.size).toArray.size+p.size<=128;rw[List.size_toArray];omega,fun X=>by rw[←txt_arr];exact long_any p X (by omega)⟩
   obtain⟨tmn,htn,hsn,htN⟩:=HTx.out pmn hzn
   obtain⟨tmx,htx,hsx,htX⟩:=HTx.out pmx hzx
   have HTn:Hid _:=htN
   have HTm:Hid _:=htX
   have HSv:Hid (eu++⟨#[Um.bt 1]⟩++⟨#[Um.bt s.mn.k]⟩++tmn++tmx=⟨(stTx s).toArray⟩):=by
    show _=_
    rw[HT.out,HEu.out,←htn,←htx,←HPN.out,←HPX.out,show (⟨#[Um.bt 1]⟩:ByteArray)=⟨[(1:UInt8)].toArray⟩ from rfl,show (⟨#[Um.bt s.mn.k]⟩:ByteArray)=⟨[Um.bt s.mn.k].toArray⟩ from rfl,arr_app,arr_app,arr_app,arr_app]
    simp only[List.append_assoc,List.cons_append,List.nil_append]
   have z1:(⟨#[Um.bt 1]⟩:ByteArray).size=1:=rfl
   have z2:(⟨#[Um.bt s.mn.k]⟩:ByteArray).size=1:=rfl
   have hq1:∀W:World,(Op.stringOp .add eu ⟨#[Um.bt 1]⟩).run Tryz.prog W=.ok (.string (eu++⟨#[Um.bt 1]⟩)) W:=fun W=>run_string_add_sum _ _ _ (by rw[z1];omega)
   have hq2:∀W:World,(Op.stringOp .add (eu++⟨#[Um.bt 1]⟩) ⟨#[Um.bt s.mn.k]⟩).run Tryz.prog W=.ok (.string (eu++⟨#[Um.bt 1]⟩++⟨#[Um.bt s.mn.k]⟩)) W:=fun W=>run_string_add_sum _ _ _ (by rw[ByteArray.size_append,z1,z2];omega)
   have hq3:∀W:World,(Op.stringOp .add (eu++⟨#[Um.bt 1]⟩++⟨#[Um.bt s.mn.k]⟩) tmn).run Tryz.prog W=.ok (.string (eu++⟨#[Um.bt 1]⟩++⟨#[Um.bt s.mn.k]⟩++tmn)) W:=fun W=>run_string_add_sum _ _ _ (by rw[ByteArray.size_append,ByteArray.size_append,z1,z2];omega)
   have hq4:∀W:World,(Op.stringOp .add (eu++⟨#[Um.bt 1]⟩++⟨#[Um.bt s.mn.k]⟩++tmn) tmx).run Tryz.prog W=.ok (.string (eu++⟨#[Um.bt 1]⟩++⟨#[Um.bt s.mn.k]⟩++tmn++tmx)) W:=fun W=>run_string_add_sum _ _ _ (by rw[ByteArray.size_append,ByteArray.size_append,ByteArray.size_append,z1,z2];omega)
   clear z1 z2 htN htX htn htx HPN HPX HTx hf ho1 ho2 hk2 hr1 hr2 HT HEu hzn hzx hsn hsx hz4
   go_wp2_with fail
   refine Calls.mono (HPmn.out _ _ (heap_alloc_new w3 _)) ?_
   rintro e w4 ⟨rfl,hb4⟩
   have HB4:Hid (Below w0.heap.size w0 w4):=(by have h1:Below w0.heap.size w0 (w3.alloc (.cells #[.int .i64 s.mn.k,.int .i64 s.mn.n,.string s.mn.s] 46)):=HB3.out.alloc HB3.out.size _;exact h1.trans (hb4.mono h1.size))
   clear s0 s1 s2 s3 s4 s5 s6 s7 s8 hb4 HB3
   obtain⟨s0,s1,s2,s3,s4,s5,s6,s7,s8⟩:=(HN.out w4 HB4.out).1
   go_wp2_with fail
   refine Calls.mono (HPmx.out _ _ (heap_alloc_new w4 _)) ?_
   rintro e w5 ⟨rfl,hb5⟩
   have HB5:Hid (Below w0.heap.size w0 w5):=(by have h1:Below w0.heap.size w0 (w4.alloc (.cells #[.int .i64 s.mx.k,.int .i64 s.mx.n,.string s.mx.s] 46)):=HB4.out.alloc HB4.out.size _;exact h1.trans (hb5.mono h1.size))
   clear s0 s1 s2 s3 s4 s5 s6 s7 s8 hb5 HB4
   go_wp2_with fail
   refine Calls.mono (HBy.out _) ?_
   rintro e w6 ⟨rfl,hb6⟩
   have HB6:Hid (Below w0.heap.size w0 w6):=HB5.out.trans (hb6.mono HB5.out.size)
   clear hb6 HB5
   go_wp2_with fail
   refine Calls.mono (HBk.out _) ?_
   rintro e w7 ⟨rfl,hb7⟩
   have HB7:Hid (Below w0.heap.size w0 w7):=HB6.out.trans (hb7.mono HB6.out.size)
   clear hb7 HB6
   go_wp2_with fail
   refine Calls.mono (HTn.out _) ?_
   rintro e w8 ⟨rfl,hb8⟩
   have HB8:Hid (Below w0.heap.size w0 w8):=HB7.out.trans (hb8.mono HB7.out.size)
   clear hb8 HB7
   go_wp2_with fail
   refine Calls.mono (HTm.out _) ?_
   rintro e w9 ⟨rfl,hb9⟩
   have HB9:Hid (Below w0.heap.size w0 w9):=HB8.out.trans (hb9.mono HB8.out.size)
   clear hb9 HB8
   go_wp2
   go_ret
   rw[HSv.out]
   exact⟨rfl,HB.out.trans (HB9.out.mono HB.out.size)⟩
end Go.Proofs.YtoeiahdjamkdgaaGreatDoor
