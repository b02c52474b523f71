/-
  enc.ReadBest of what Best writes.
  enc.ReadBest at any bytes and any code: the values, or an error.
  The reference's DeltaOf: the first number, then the differences by blocks.
  The reader of a page's body: values.
-/
import Derived.Test.YtoeiahdjamkdgaaGreatDoorWBRdSteps
import Derived.Test.YtoeiahdjamkdgaaGreatDoorWBBest
import Derived.Test.YtoeiahdjamkdgaaGreatDoorWBRsB
set_option maxRecDepth 100000
set_option maxHeartbeats 6400000
namespace Go.Proofs.YtoeiahdjamkdgaaGreatDoor
open Go.RowKit
theorem pvs_back {vs:List Vl}(hR:Right 4 vs):pvs (bys (vtx vs))=vs:=by
 unfold pvs bys vtx
 rw[List.map_map,List.map_map]
 refine (List.map_congr_left (fun v hv=>?_)).trans (List.map_id _)
 have ho:=(hR.2 v hv).1
 unfold Vl.Ok OkV at ho
 obtain⟨k,n,s⟩:=v
 simp only[Function.comp_apply,id_eq] at ho ⊢
 rw[mk_bytes]
 obtain⟨h1,h2⟩:=ho
 have h3:n=0:=by omega
 rw[h1,h3]
def IsBs (kd code:Int)(l:List UInt8)(n:Nat)(vs:List Vl):Prop :=
 if code=0 then IsPl kd l n vs else if code=1 then IsDc kd l n vs else if code=2 then IsDl kd l n vs else IsPr l n vs
def HasC (kd code:Int):Prop:=code=0\/code=1\/code=2/\(kd=2\/kd=3)\/code=3/\kd=4
theorem isBs_fn {kd code:Int}{l:List UInt8}{n:Nat}{vs us:List Vl}(h:IsBs kd code l n vs)(h':IsBs kd code l n us):vs=us:=by
 unfold IsBs at h h'
 split at h
 · rename_i e;rw[if_pos e] at h';exact isPl_fn h h'
 · rename_i e
   rw[if_neg e] at h'
   split at h
   · rename_i e1;rw[if_pos e1] at h';exact isDc_fn h h'
   · rename_i e1
     rw[if_neg e1] at h'
     split at h
     · rename_i e2
       rw[if_pos e2] at h'
       obtain⟨xs,g1,_,g3,_⟩:=h
       obtain⟨ys,f1,_,f3,_⟩:=h'
       rw[g1] at f1
       injection f1 with f1
       rw[g3,f3,f1]
     · rename_i e2
       rw[if_neg e2] at h'
       obtain⟨xs,g1,g3⟩:=h
       obtain⟨ys,f1,f3⟩:=h'
       rw[g1] at f1
       injection f1 with f1
       rw[g3,f3,f1]
theorem readBestX_c (kd code:Int)(s:ByteArray)(n:Nat)(w:World)(st kt:TypeId)(sp kp:Value)(hg:w.cell? ⟨2,0,none⟩=some (.iface st sp))(hgk:w.cell? ⟨3,0,none⟩=some (.iface kt kp))(hs:s.size<=1000000)(hn:n<=20000)(hk1:1<=kd)(hk5:kd<=5)(hc:HasC kd code) :
    Calls Tryz.prog 151 #[.int .i64 kd,.int .i64 code,.string s,.int .i64 (n:Nat)] w fun e w'=>RetRdC w.heap.size (IsBs kd code s.data.toList n) n (.iface st sp) e w'/\Below w.heap.size w w':=by
 rcases hc with rfl|rfl|⟨rfl,hk⟩|⟨rfl,rfl⟩
 · have HC:Hid _:=readPlain_c kd s n w st sp hg hs hn hk1 hk5
   clear hg hgk
   go_enter Tryz.func151,Tryz.ntmps151
   go_wp2_with fail
   refine (checkCount_fine kd n w hk1 hk5 (by omega) (by omega)).mono ?_
   rintro e w1 ⟨rfl,hw⟩
   obtain rfl:=hw.symm
   go_wp2_with fail
   refine Calls.mono HC.out ?_
   rintro e w1 ⟨⟨vs,a,c,hI,rfl,hl⟩|⟨hI,rfl⟩,hb⟩
   all_goals
    have HI:Hid _:=hI
    try have HL:Hid _:=hl
    try clear hl
    clear hI
    go_wp2
    go_ret2
    first|exact⟨Or.inl ⟨vs,a,c,HI.out,rfl,HL.out⟩,hb⟩|exact⟨Or.inr ⟨HI.out,rfl⟩,hb⟩
 · have HC:Hid _:=readDict_c kd s n w st sp hg hs hn hk1 hk5
   clear hg hgk
   go_enter Tryz.func151,Tryz.ntmps151
   go_wp2_with fail
   refine (checkCount_fine kd n w hk1 hk5 (by omega) (by omega)).mono ?_
   rintro e w1 ⟨rfl,hw⟩
   obtain rfl:=hw.symm
   go_wp2_with fail
   refine Calls.mono HC.out ?_
   rintro e w1 ⟨⟨vs,a,c,hI,rfl,hl⟩|⟨hI,rfl⟩,hb⟩
   all_goals
    have HI:Hid _:=hI
    try have HL:Hid _:=hl
    try clear hl
    clear hI
    go_wp2
    go_ret2
    first|exact⟨Or.inl ⟨vs,a,c,HI.out,rfl,HL.out⟩,hb⟩|exact⟨Or.inr ⟨HI.out,rfl⟩,hb⟩
 · have HC:Hid _:=readDelta_c kd s n w st kt sp kp hg hgk hs hn hk
   have hd:decide (kd=2\/kd=3)=true:=by simp[hk]
   clear hg hgk hk
   go_enter Tryz.func151,Tryz.ntmps151
   go_wp2_with fail
   refine (checkCount_fine kd n w hk1 hk5 (by omega) (by omega)).mono ?_
   rintro e w1 ⟨rfl,hw⟩
   obtain rfl:=hw.symm
   go_wp2_with fail
   refine (hasDelta_any kd _).mono ?_
   rw[hd]
   rintro e w2 ⟨rfl,hw⟩
   obtain rfl:=hw.symm
   go_wp2_with fail
   refine Calls.mono HC.out ?_
   rintro e w1 ⟨⟨vs,a,c,hI,rfl,hl⟩|⟨hI,rfl⟩,hb⟩
   all_goals
    have HI:Hid _:=hI
    try have HL:Hid _:=hl
    try clear hl
    clear hI
    go_wp2
    go_ret2
    first|exact⟨Or.inl ⟨vs,a,c,HI.out,rfl,HL.out⟩,hb⟩|exact⟨Or.inr ⟨HI.out,rfl⟩,hb⟩
 · have HC:Hid _:=readPrefixValues_c s n w st sp hg hs hn
   clear hg hgk
   go_enter Tryz.func151,Tryz.ntmps151
   go_wp2_with fail
   refine (checkCount_fine 4 n w (by omega) (by omega) (by omega) (by omega)).mono ?_
   rintro e w1 ⟨rfl,hw⟩
   obtain rfl:=hw.symm
   go_wp2_with fail
   refine (hasPrefix_any 4 _).mono ?_
   rintro e w2 ⟨rfl,hw⟩
   obtain rfl:=hw.symm
   go_wp2_with fail
   refine Calls.mono HC.out ?_
   rintro e w1 ⟨⟨vs,a,c,hI,rfl,hl⟩|⟨hI,rfl⟩,hb⟩
   all_goals
    have HI:Hid _:=hI
    try have HL:Hid _:=hl
    try clear hl
    clear hI
    go_wp2
    go_ret2
    first|exact⟨Or.inl ⟨vs,a,c,HI.out,rfl,HL.out⟩,hb⟩|exact⟨Or.inr ⟨HI.out,rfl⟩,hb⟩
theorem readBestX_shape (kd code:Int)(s:ByteArray)(n:Nat)(w:World)(ht:TypeId)(hp:Value)(hgs:w.cell? ⟨0,0,none⟩=some (.iface ht hp))(hn:n<=20000)(hk1:1<=kd)(hk5:kd<=5)(hc:¬ HasC kd code) :
    Calls Tryz.prog 151 #[.int .i64 kd,.int .i64 code,.string s,.int .i64 (n:Nat)] w fun e w'=>e=.returned (.tuple #[.slice none 0 0,.iface ht hp])/\Below w.heap.size w w':=by
 have c0:(code == 0)=false:=by rw[beq_eq_false_iff_ne];exact fun h=>hc (Or.inl h)
 have c1:(code == 1)=false:=by rw[beq_eq_false_iff_ne];exact fun h=>hc (Or.inr (Or.inl h))
 have hcase:((code == 2)=true/\(code == 3)=false/\decide (kd=2\/kd=3)=false)\/((code == 2)=false/\(code == 3)=true/\decide (kd=4)=false)\/((code == 2)=false/\(code == 3)=false):=by
  unfold HasC at hc
  by_cases h2:code=2
  · left
    exact⟨by simp[h2],by simp[h2],by rw[decide_eq_false_iff_not];exact fun h=>hc (Or.inr (Or.inr (Or.inl ⟨h2,h⟩)))⟩
  · right
    by_cases h3:code=3
    · left
      exact⟨by simp[h3],by simp[h3],by rw[decide_eq_false_iff_not];exact fun h=>hc (Or.inr (Or.inr (Or.inr ⟨h3,h⟩)))⟩
    · right
      exact⟨by rw[beq_eq_false_iff_ne];exact h2,by rw[beq_eq_false_iff_ne];exact h3⟩
 clear hc
 rcases hcase with ⟨c2,c3,hd⟩|⟨c2,c3,hd⟩|⟨c2,c3⟩
 all_goals
  go_enter Tryz.func151,Tryz.ntmps151
  go_wp2_with fail
  refine (checkCount_fine kd n w hk1 hk5 (by omega) (by omega)).mono ?_
  rintro e w1 ⟨rfl,hw⟩
  obtain rfl:=hw.symm
  go_wp2_with (first
   | (go_at_call 103;refine (hasDelta_any kd _).mono ?_;rw[hd];rintro e w2 ⟨rfl,hw⟩;obtain rfl:=hw.symm)
   | (go_at_call 105;refine (hasPrefix_any kd _).mono ?_;rw[hd];rintro e w2 ⟨rfl,hw⟩;obtain rfl:=hw.symm))
  go_quiet (fail)
  go_wp2
  go_ret2
  exact⟨rfl,dN (Below.refl _ _) _⟩
theorem maxs_abv (lo:Int):∀(ds:List Int) (x:Int),lo<=x->(∀d∈ds,lo<=d)->(ds.map fun d=>(d-lo).toNat).foldl max (x-lo).toNat=(ds.foldl max x-lo).toNat
 | [],_,_,_=>rfl
 | d :: ds,x,hx,h=>by
  have hd:=h d (by simp)
  simp only[List.map_cons,List.foldl_cons]
  rw[show max (x-lo).toNat (d-lo).toNat=(max x d-lo).toNat by omega]
  exact maxs_abv lo ds (max x d) (by omega) (fun y hy=>h y (by simp[hy]))
theorem abv_most {ds:List Int}(h0:0<ds.length):(abv ds).foldl max 0=(highs ds-lows ds).toNat:=by
 have h:=maxs_abv (lows ds) ds (lows ds) (Int.le_refl _) (fun d hd=>lows_le hd)
 rw[Int.sub_self,Int.toNat_zero] at h
 unfold abv
 rw[h]
 have h1:=(maxs_ge ds (lows ds)).2 _ (highs_in h0)
 rcases maxs_in ds (lows ds) with e|e
 · have:=highs_ge (lows_in h0)
   rw[e] at h1 ⊢
   rw[show highs ds=lows ds by omega]
 · have:=highs_ge e
   rw[show ds.foldl max (lows ds)=highs ds by omega]
theorem take_max (us:List Nat)(q:Nat)(h:q<us.length):(us.take (q+1)).foldl max 0=max ((us.take q).foldl max 0) us[q]:=by
 rw[List.take_succ_eq_append_getElem h,List.foldl_append];rfl
theorem cat4 (a b c d:List UInt8):(⟨a.toArray⟩:ByteArray)++⟨b.toArray⟩++⟨c.toArray⟩++⟨d.toArray⟩=⟨(a++b++c++d).toArray⟩:=by rw[arr_app,arr_app,arr_app]
theorem own_lies {w:World}{B e:Nat}{v:Value}{xs:List Value}(h:w.ownsRow B e 1 v xs.length xs)(h0:0<xs.length):∃g c,v=.slice (some ⟨g,0,none⟩) xs.length c/\Lies w (some ⟨g,0,none⟩) xs:=by
 rcases h.2 with ⟨_,hz⟩|⟨g,cap,cur,rfl,_,hk,_,_,hcs,ht⟩
 · omega
 · refine⟨g,cap,rfl,fun j hj=>⟨g,0,rfl,?_⟩⟩
   rw[Nat.zero_add,cell_of_row _ g j cur e (0,0) hk]
   have h1:(cur.toList.take (xs.length*1))[j]? = some xs[j]:=by rw[ht];exact List.getElem?_eq_getElem hj
   rw[List.getElem?_take_of_lt (by omega),Array.getElem?_toList] at h1
   exact h1
theorem deltaOf_any (a:Option Addr)(vs:List Vl)(c:Nat)(w:World)(hn:vs.length<=20000)(hl:LiesV w a vs)(hx:∀j (h:j<vs.length),-9223372036854775808<=vs[j].n/\vs[j].n<=9223372036854775807) :
    Calls Tryz.prog 76 #[.slice a vs.length c] w fun e w'=>e=.returned (.string ⟨(deltaB vs).toArray⟩)/\Below w.heap.size w w':=by
 obtain⟨i6,hi6,hz60,hz61,hz62⟩:=info_parts Tryz.infoI64
 obtain⟨iu,hiu,hu0,hu1,hu2⟩:=info_parts Tryz.infoU64
 have HL:Hid (LiesV w a vs):=hl
 have HX:Hid (∀j (h:j<vs.length),-9223372036854775808<=vs[j].n/\vs[j].n<=9223372036854775807):=hx
 clear hl hx
 by_cases h0:vs.length=0
 · have HD:Hid (deltaB vs=[]):=by show _=_;unfold deltaB;rw[if_pos h0]
   rw[h0]
   go_enter Tryz.func76,Tryz.ntmps76
   go_wp2
   go_ret
   exact⟨by rw[HD.out];rfl,Below.refl _ _⟩
 · obtain⟨b,o,rfl,hc0,hc1,hc2⟩:=HL.out 0 (by omega)
   have hx0:=HX.out 0 (by omega)
   have HD:Hid (deltaB vs=Um.uv (zig vs[0].n)++stepsB (difs vs) ((vs.length-1+31) / 32)):=by
    show _=_
    unfold deltaB
    rw[if_neg h0]
    simp[vns,List.getD,show 0<vs.length by omega]
   have hpos:0<vs.length:=by omega
   generalize vs[0]=v0 at *
   obtain⟨k0,n0,s0⟩:=v0
   simp only[Nat.zero_mul,Nat.add_zero] at hc0 hc1 hc2 hx0 HD
   have hl0:((vs.length:Int) == 0)=false:=by simp only[beq_eq_false_iff_ne,ne_eq];omega
   go_enter Tryz.func76,Tryz.ntmps76
   go_wp2_with fail
   refine (signedOf_any n0 _ hx0.1 hx0.2).mono ?_
   rintro e w1 ⟨rfl,hb1⟩
   have huv:=Um.uv_ten (zig_lt hx0.1 hx0.2)
   obtain⟨m1,hm1⟩:∃m1:List UInt8,m1=Um.uv (zig n0):=⟨_,rfl⟩
   rw[←hm1] at huv HD ⊢
   clear hm1 hc0 hc1 hc2
   obtain⟨n,hvn⟩:∃n,vs.length=n+1:=⟨vs.length-1,by omega⟩
   have hdl:=difs_len vs
   have HDF:Hid (∀r,r<n->(difs vs).getD r 0=wrap64 ((vns vs).getD (r+1) 0-(vns vs).getD r 0)):=fun r hr=>by
    simp[difs,List.getD,show r<vs.length-1 by omega,dif]
   have HDO:Hid _:=difs_ok (vs:=vs)
   rw[hvn,Nat.add_sub_cancel] at hdl HD
   obtain⟨ds,HDS⟩:∃ds,Hid (ds=difs vs):=⟨_,rfl⟩
   rw[←HDS.out] at hdl HD HDF HDO
   rw[hvn]
   have HVN:Hid (vs.length=n+1):=hvn
   have hn2:n<=20000:=by omega
   clear hvn hn hpos h0 hl0
   go_wp2
   go_loopw [3,4] (fun o x wr=>∃j:Nat,32*j<n+32/\x=.int .i64 (((32*j:Nat):Int)+1)/\o=.string ⟨(m1++stepsB ds j).toArray⟩/\(m1++stepsB ds j).length<=10+300*j/\Below w.heap.size w wr) (fun _ x _=>n+33-(intOf x).toNat)
   case atStart=>exact⟨0,by omega,rfl,by simp[stepsB],by simpa [stepsB] using huv,hb1⟩
   case round =>
    clear hb1
    obtain⟨j,hj,rfl,rfl,hroom,hb⟩:=hrel
    by_cases hlt:32*j<n
    · obtain⟨es,HE⟩:∃es:List Int,Hid (es=(ds.drop (32*j)).take 32):=⟨_,rfl⟩
      have hel:es.length=min 32 (n-32*j):=by rw[HE.out,List.length_take,List.length_drop,hdl]
      have HEX:Hid (∀d∈es,-9223372036854775808<=d/\d<=9223372036854775807):=fun d hd=>HDO.out d (List.mem_of_mem_drop (List.mem_of_mem_take (by rw[←HE.out];exact hd)))
      have HEG:Hid (∀q (h:q<es.length),es[q]=ds.getD (32*j+q) 0):=fun q h=>by
       have h2:=HE.out
       subst h2
       rw[List.length_take,List.length_drop] at h
       rw[List.getElem_take,List.getElem_drop,List.getD_eq_getElem?_getD,List.getElem?_eq_getElem (by omega)]
       rfl
      have HSB:Hid (m1++stepsB ds (j+1)=m1++stepsB ds j++blkB es):=by
       show _=_
       rw[stepsB_succ,stepB,←HE.out,List.append_assoc]
      have hbl:=blkB_len (ds:=es) (by omega) (by omega) HEX.out
      obtain⟨p,HP⟩:∃p,Hid (p=es.length):=⟨_,rfl⟩
      rw[←HP.out] at hel
      have hp:p<=32/\32*j+p<=n/\0<p/\(p<32->32*j+p=n):=by omega
      clear hel
      obtain⟨jj,HJ⟩:∃jj,Hid (jj=32*j):=⟨_,rfl⟩
      rw[←HJ.out] at hp hlt ⊢
      go_wp2
      go_loopw [5,6] (fun d k wq=>∃q r:Nat,q<=p/\Hid (r=jj+q)/\k=.int .i64 ((r:Int)+1)/\Hid (wq.ownsRow w.heap.size 2 1 d (i64s (es.take q)).length (i64s (es.take q)))/\Below w.heap.size w wq) (fun _ k _=>jj+40-(intOf k).toNat)
      case atStart=>exact⟨0,jj,Nat.zero_le _,rfl,rfl,World.ownsRow_nil _ _ _ _,hb⟩
      case round =>
       clear hb
       obtain⟨q,r,hq,HR,rfl,HO,hb⟩:=hrel
       by_cases hqp:q<p
       · have hr1:r<jj+32/\r<n:=by rw[HR.out];omega
         obtain⟨b1,o1,e1,_,hd1,_⟩:=(HL.out.keep hb) r (by rw[HVN.out];omega)
         obtain⟨rfl,rfl⟩:b=b1/\o=o1:=by simpa using e1
         obtain⟨b2,o2,e2,_,hd2,_⟩:=(HL.out.keep hb) (r+1) (by rw[HVN.out];omega)
         obtain⟨rfl,rfl⟩:b=b2/\o=o2:=by simpa using e2
         clear e1 e2
         have HQ:Hid (es.take (q+1)=es.take q++[wrap64 ((vs[r+1]'(by rw[HVN.out];omega)).n-(vs[r]'(by rw[HVN.out];omega)).n)]):=by
          show _=_
          have h1:r<vs.length:=by rw[HVN.out];omega
          have h2:r+1<vs.length:=by rw[HVN.out];omega
          rw[List.take_succ_eq_append_getElem (by rw[←HP.out];exact hqp),HEG.out q (by rw[←HP.out];exact hqp),←HJ.out,←HR.out,HDF.out r (by omega)]
          simp[vns,List.getD,h1,h2]
         generalize (vs[r+1]'(by rw[HVN.out];omega)).n=x1 at *
         generalize (vs[r]'(by rw[HVN.out];omega)).n=x0 at *
         have hr2:r<30000:=by omega
         have hr0:(0:Int)<=(r:Int)+1:=by omega
         have hwr:IntKind.i64.wrap (r:Int)=r:=by rw[IntKind.wrap_i64];omega
         have hr3:(r:Int)<(n:Int)+1:=by omega
         have hql:(i64s (es.take q)).length<=20000:=by rw[i64s_len,List.length_take];omega
         obtain⟨cs,HCS⟩:∃cs,Hid (cs=i64s (es.take q)):=⟨_,rfl⟩
         rw[←HCS.out] at HO hql
         have HQC:Hid (i64s (es.take (q+1))=cs++[.int .i64 (IntKind.i64.wrap (x1-x0))]):=by
          show _=_
          rw[HQ.out,HCS.out,IntKind.wrap_i64]
          simp[i64s,wrap64]
         go_wp2_with fail
         go_region_law (refine step_own_slice rfl _ _ 178 rfl w.heap.size 2 i6 (.int .i64 0) 1 8 Tryz.underlyingI64s hi6 hz60 hz61 hz62 rfl (by decide) _ cs.length cs rfl (HO.out.alloc _) ⟨wr.heap.size,0,none⟩ 1 1 [.int .i64 (IntKind.i64.wrap (x1-x0))] rfl rfl (show ∀j u,_->(wr.alloc _).cell? _=some u from cell_one_new _ _ _) (by intro u hu;simp at hu;subst hu;rfl) (by unfold maxLen;omega) (by omega) (by have:=hb.size;simp;omega) ?_;intro v' w3 hown3 hgrow3;have HO3:Hid _:=hown3;have hb3:Below w.heap.size w w3:=((hb.alloc hb.size _).drew).grown hgrow3 (by have:=hb.size;simp;omega) (fun k hk=>(HO.out.lt k hk).1))
         all_goals
          go_wp2
          go_roundw
          case rel =>
           refine⟨q+1,r+1,by omega,?_,by go_num,?_,hb3⟩
           · show _=_
             rw[HR.out];omega
           · rw[HQC.out,List.length_append]
             exact HO3
          case measure=>simp[intOf];omega
       · obtain rfl:q=p:=by omega
         have htk:es.take q=es:=List.take_of_length_le (by rw[←HP.out];omega)
         rw[htk] at HO
         clear htk
         have hr1:¬ (r<jj+32/\r<n):=by rw[HR.out];omega
         have hlq:(i64s es).length=q:=by rw[i64s_len,←HP.out]
         obtain⟨g,cd,hsl,hld⟩:=own_lies HO.out (by rw[hlq];omega)
         rw[hlq] at HO hsl
         subst hsl
         have HLd:Hid (∀W:World,W.ownsRow w.heap.size 2 1 (.slice (some ⟨g,0,none⟩) q cd) q (i64s es)->∀k (h:k<es.length),W.cell? ⟨g,k,none⟩=some (.int .i64 es[k])):=fun W hW k hk=>by
          obtain⟨g',c',e',hl⟩:=own_lies (xs:=i64s es) (by rw[hlq];exact hW) (by rw[i64s_len];omega)
          injection e' with e1 e2 e3
          injection e1 with e1
          injection e1 with e1 _ _
          subst e1
          obtain⟨b',o',e',hc⟩:=hl k (by rw[i64s_len];exact hk)
          injection e' with e'
          injection e' with e1 e2 _
          subst e1 e2
          rw[Nat.zero_add] at hc
          simpa [i64s] using hc
         clear hld
         have he0:=HLd.out _ HO.out 0 (by rw[←HP.out];omega)
         have HE0:Hid (es[0]'(by rw[←HP.out];omega)=es.getD 0 0):=by show _=_;simp[List.getD,show 0<es.length by rw[←HP.out];omega]
         rw[HE0.out] at he0
         have hcase:(r<jj+32/\¬ r<n)\/¬ r<jj+32:=by omega
         clear hr1
         rcases hcase with ⟨hc1,hc2⟩|hc1
         all_goals
          go_wp2
          clear he0
          go_loop [7,8] (fun le k=>∃m:Nat,m<=q/\k=.int .i64 m/\le=.int .i64 (mins (es.getD 0 0) es m)) (fun _ k=>q-(intOf k).toNat)
          case atStart=>exact⟨0,Nat.zero_le _,rfl,rfl⟩
          case round =>
           obtain⟨m,hm,rfl,rfl⟩:=hrel
           by_cases hmq:m<q
           · have hec:=HLd.out _ HO.out m (by rw[←HP.out];exact hmq)
             have HMS:Hid (mins (es.getD 0 0) es (m+1)=min (mins (es.getD 0 0) es m) (es[m]'(by rw[←HP.out];exact hmq))):=mins_succ _ _ _ _
             generalize es[m]'(by rw[←HP.out];exact hmq)=y at *
             generalize mins (es.getD 0 0) es m=z at *
             by_cases hyz:y<z
             · go_wp2
               go_round
               case rel=>exact⟨m+1,by omega,by go_num,by rw[HMS.out,Int.min_eq_right (by omega)]⟩
               case measure=>simp[intOf];omega
             · go_wp2
               go_round
               case rel=>exact⟨m+1,by omega,by go_num,by rw[HMS.out,Int.min_eq_left (by omega)]⟩
               case measure=>simp[intOf];omega
           · obtain rfl:m=q:=by omega
             have HLO:Hid (mins (es.getD 0 0) es m=lows es):=by
              show _=_
              unfold mins lows
              rw[List.take_of_length_le (by rw[←HP.out];omega)]
             rw[HLO.out]
             have hpos:0<es.length:=by rw[←HP.out];omega
             have hlo:=HEX.out _ (lows_in hpos)
             have hhi:=HEX.out _ (highs_in hpos)
             have hlh:=lows_le (highs_in hpos)
             obtain⟨ha1,ha2⟩:=abv_lt HEX.out hpos
             have HA1:Hid (∀x∈abv es,x<2 ^ wdt es):=ha1
             have HBB:Hid (blkB es=Um.uv (zig (lows es))++(Um.bt (wdt es:Nat) :: Um.lit (Um.num (wdt es) (abv es)) ((m*wdt es+7) / 8))):=by show _=_;rw[HP.out];rfl
             have HWD:Hid (wdt es=Lib.bitLen ((abv es).foldl max 0)):=by show _=_;rw[abv_most hpos];rfl
             have hmo:(abv es).foldl max 0<18446744073709551616:=by rw[abv_most hpos];omega
             have HAB:Hid (∀k (h:k<es.length),lows es<=es[k]/\es[k]<=9223372036854775807/\(abv es)[k]? = some (es[k]-lows es).toNat):=fun k h=>⟨lows_le (List.getElem_mem h),(HEX.out _ (List.getElem_mem h)).2,by simp[abv,h]⟩
             have hal:(abv es).length=m:=by rw[abv_len,←HP.out]
             clear ha1 HLO hpos
             generalize abv es=us at *
             generalize wdt es=wd at *
             generalize lows es=lo at *
             go_wp2
             go_loopw [9,10,11] (fun u mo k wq=>∃q:Nat,q<=m/\k=.int .i64 q/\mo=.int .u64 (((us.take q).foldl max 0:Nat):Int)/\Hid (wq.ownsRow w.heap.size 98 1 u (u64s (us.take q)).length (u64s (us.take q)))/\Hid (wq.ownsRow w.heap.size 2 1 (.slice (some ⟨g,0,none⟩) m cd) m (i64s es))/\Below w.heap.size w wq) (fun _ _ k _=>m-(intOf k).toNat)
             case atStart=>exact⟨0,Nat.zero_le _,rfl,rfl,World.ownsRow_nil _ _ _ _,HO,hb⟩
             case round =>
              clear HO hb
              obtain⟨q,hqm,rfl,rfl,HU,HO,hb⟩:=hrel
              by_cases hq2:q<m
              · have hec:=HLd.out _ HO.out q (by rw[←HP.out];exact hq2)
                obtain⟨hy1,hy2,hy3⟩:=HAB.out q (by rw[←HP.out];exact hq2)
                obtain⟨hq3,hy4⟩:=List.getElem?_eq_some_iff.1 hy3
                have HTM:Hid ((us.take (q+1)).foldl max 0=max ((us.take q).foldl max 0) us[q]):=take_max us q hq3
                have HUQ:Hid (u64s (us.take (q+1))=u64s (us.take q)++[.int .u64 (us[q]:Nat)]):=by
                 show _=_
                 rw[List.take_succ_eq_append_getElem hq3]
                 unfold u64s
                 rw[List.map_append]
                 rfl
                have hul:(u64s (us.take q)).length<=20000:=by rw[u64s_len,List.length_take];omega
                generalize es[q]'(by rw[←HP.out];exact hq2)=y at *
                have hx1:((us[q]:Nat):Int)=y-lo:=by rw[hy4];omega
                obtain⟨x,hx⟩:∃x,us[q]=x:=⟨_,rfl⟩
                rw[hx] at HTM HUQ hx1
                have HX1:Hid ((x:Int)=y-lo):=hx1
                rw[hx1] at HUQ
                clear hx hy3 hy4 hx1
                generalize (us.take q).foldl max 0=mo at *
                generalize u64s (us.take q)=cu at *
                have hcv:IntKind.u64.wrap (wrap64 (y-lo))=y-lo:=by
                 rw[IntKind.wrap_u64]
                 unfold wrap64
                 omega
                by_cases hmo2:(mo:Int)<y-lo
                · go_wp2_with (at_builtin;refine wpList_append_own _ rfl _ _ 142 rfl w.heap.size 98 iu (.int .u64 0) 1 8 Tryz.underlyingU64s hiu hu0 hu1 hu2 rfl (by decide) _ cu.length cu rfl (HU.out.alloc _) ⟨_,0,none⟩ 1 1 [.int .u64 (y-lo)] rfl rfl (cell_one_new _ _ _) (by intro u hu;simp at hu;subst hu;rfl) (by unfold maxLen;omega) (by omega) (by have:=hb.size;simp;omega) ?_;intro v' w3 hown3 hgrow3 _;have HO3:Hid _:=hown3;have HD3:Hid _:=own_two (HU.out.alloc _) (HO.out.alloc _) (by decide) hgrow3;have hb3:Below w.heap.size w w3:=(hb.alloc hb.size _).grown hgrow3 (by have:=hb.size;simp;omega) (fun k hk=>(HU.out.lt k hk).1))
                  go_roundw
                  case rel=>exact⟨q+1,by omega,by go_num,by rw[HTM.out,←HX1.out,Nat.max_eq_right (by have:=HX1.out;omega)],by rw[HUQ.out,List.length_append];exact HO3,HD3,hb3⟩
                  case measure=>simp[intOf];omega
                · go_wp2_with (at_builtin;refine wpList_append_own _ rfl _ _ 142 rfl w.heap.size 98 iu (.int .u64 0) 1 8 Tryz.underlyingU64s hiu hu0 hu1 hu2 rfl (by decide) _ cu.length cu rfl (HU.out.alloc _) ⟨_,0,none⟩ 1 1 [.int .u64 (y-lo)] rfl rfl (cell_one_new _ _ _) (by intro u hu;simp at hu;subst hu;rfl) (by unfold maxLen;omega) (by omega) (by have:=hb.size;simp;omega) ?_;intro v' w3 hown3 hgrow3 _;have HO3:Hid _:=hown3;have HD3:Hid _:=own_two (HU.out.alloc _) (HO.out.alloc _) (by decide) hgrow3;have hb3:Below w.heap.size w w3:=(hb.alloc hb.size _).grown hgrow3 (by have:=hb.size;simp;omega) (fun k hk=>(HU.out.lt k hk).1))
                  go_roundw
                  case rel=>exact⟨q+1,by omega,by go_num,by rw[HTM.out,Nat.max_eq_left (by have:=HX1.out;omega)],by rw[HUQ.out,List.length_append];exact HO3,HD3,hb3⟩
                  case measure=>simp[intOf];omega
              · obtain rfl:q=m:=by omega
                have htk:us.take q=us:=List.take_of_length_le (by omega)
                rw[htk] at HU ⊢
                clear htk
                have hlu:(u64s us).length=q:=by rw[u64s_len,hal]
                obtain⟨gu,cu,hsl,hlu2⟩:=own_lies HU.out (by rw[hlu];omega)
                rw[hlu] at hsl
                subst hsl
                have HLU:Hid (Lies wr (some ⟨gu,0,none⟩) (u64s us)):=hlu2
                clear hlu2 HU HO
                have hmo2:=hmo
                obtain⟨mo,HMO⟩:∃mo,Hid (mo=us.foldl max 0):=⟨_,rfl⟩
                rw[←HMO.out] at hmo2 HWD ⊢
                clear hmo
                go_wp2_with fail
                refine (widthOf_any mo _ hmo2).mono ?_
                rw[←HWD.out]
                rintro e w2 ⟨rfl,hw⟩
                obtain rfl:=hw.symm
                go_wp2_with fail
                refine (signedOf_any lo _ hlo.1 hlo.2).mono ?_
                rintro e w3 ⟨rfl,hb3⟩
                have hbw3:=hb.trans (hb3.mono hb.size)
                have hu1:=Um.uv_ten (zig_lt hlo.1 hlo.2)
                have hob:=hroom
                have HFin:Hid (m1++stepsB ds (j+1)=m1++stepsB ds j++Um.uv (zig lo)++[Um.bt (wd:Nat)]++Um.lit (Um.num wd us) ((wd*q+7) / 8)):=by
                 show _=_
                 rw[HSB.out,HBB.out,Nat.mul_comm wd q]
                 simp
                have hpk:=fun W h=>packOf_any (some ⟨gu,0,none⟩) cu us wd W (by omega) ha2 HA1.out h
                rw[hal] at hpk
                have hll:(Um.lit (Um.num wd us) ((wd*q+7) / 8)).length<=300:=by
                 rw[Um.lit_len]
                 have:=Nat.mul_le_mul ha2 hp.1
                 omega
                have hjb:j<=700:=by omega
                generalize Um.lit (Um.num wd us) ((wd*q+7) / 8)=lt at *
                generalize Um.uv (zig lo)=ub at *
                have HFL:Hid ((m1++stepsB ds (j+1)).length<=10+300*(j+1)):=by show _<=_;rw[HSB.out,List.length_append];omega
                generalize m1++stepsB ds j=ob at *
                have hs1:(⟨ob.toArray⟩:ByteArray).size<=300000:=by simp[ByteArray.size];omega
                have hs2:(⟨ub.toArray⟩:ByteArray).size<=10:=by simpa [ByteArray.size] using hu1
                have hs3:(⟨lt.toArray⟩:ByteArray).size<=300:=by simpa [ByteArray.size] using hll
                have HCat:Hid ((⟨ob.toArray⟩:ByteArray)++⟨ub.toArray⟩++⟨#[Um.bt (wd:Nat)]⟩++⟨lt.toArray⟩=⟨(m1++stepsB ds (j+1)).toArray⟩):=by
                 show _=_
                 rw[HFin.out,←cat4]
                clear hroom hob hu1 hll
                generalize (⟨ob.toArray⟩:ByteArray)=sb at *
                generalize (⟨ub.toArray⟩:ByteArray)=su at *
                generalize (⟨lt.toArray⟩:ByteArray)=sl at *
                have hc1:∀W:World,(Op.stringOp .add sb su).run Tryz.prog W=.ok (.string (sb++su)) W:=fun W=>run_string_add_sum _ _ _ (by omega)
                go_wp2_with fail
                refine (byte_any (wd:Int) _ (by omega) (by omega)).mono ?_
                rintro e w4 ⟨rfl,hb4⟩
                have hbw4:=hbw3.trans (hb4.mono hbw3.size)
                have hs4:(⟨#[Um.bt (wd:Int)]⟩:ByteArray).size=1:=rfl
                have HCat2:Hid (sb++su++⟨#[Um.bt (wd:Int)]⟩++sl=⟨(m1++stepsB ds (j+1)).toArray⟩):=HCat.out
                generalize (⟨#[Um.bt (wd:Int)]⟩:ByteArray)=sw at hs4 HCat2 ⊢
                have hc2:∀W:World,(Op.stringOp .add (sb++su) sw).run Tryz.prog W=.ok (.string (sb++su++sw)) W:=fun W=>run_string_add_sum _ _ _ (by rw[ByteArray.size_append];omega)
                have hc3:∀W:World,(Op.stringOp .add (sb++su++sw) sl).run Tryz.prog W=.ok (.string (sb++su++sw++sl)) W:=fun W=>run_string_add_sum _ _ _ (by rw[ByteArray.size_append,ByteArray.size_append];omega)
                have HL4:Hid _:=Lies.keep (Lies.keep HLU.out hb3) hb4
                go_wp2_with fail
                refine (hpk _ HL4.out).mono ?_
                rintro e w5 ⟨rfl,hb5⟩
                have hbw5:=hbw4.trans (hb5.mono hbw4.size)
                go_wp2
                go_roundw
                case rel =>
                 refine⟨j+1,by have:=HJ.out;omega,?_,by rw[HCat2.out],HFL.out,hbw5⟩
                 rw[HJ.out]
                 go_num
                case measure=>simp[intOf];omega
    · have HJ2:Hid (j=(n+31) / 32):=by show _=_;omega
      have HD2:Hid (m1++stepsB ds j=deltaB vs):=by show _=_;rw[HD.out,HJ2.out]
      rw[HD2.out]
      have hlt2:¬ ((32*j:Nat):Int)<(n:Int):=by omega
      go_wp2
      go_ret
      exact⟨rfl,hb⟩
structure BsAt (s:ByteArray) (kd:Int) (many:Nat) (b:UInt8) (n k:Nat) (vs:List Vl):Prop where
 code:∃r,s.data.toList=b :: r
 tx:LtAt (s.extract 1 s.size) n k
 has:HasC kd b.toNat
 is:IsBs kd b.toNat ((s.extract 1 s.size).extract k (k+n)).data.toList many vs
def VlsR (N R:Nat)(s:ByteArray)(f:Bool)(kd:Int)(many:Nat)(e:Ending)(w':World):Prop :=
 (∃b n k vs a c,BsAt s kd many b n k vs/\e=.returned (.slice a many c)/\LiesV w' a vs/\many<=c/\Fsh N a/\Rdr 188 w' R ((s.extract 1 s.size).extract (k+n) (s.extract 1 s.size).size) f) ∨
 ((¬ ∃b n k vs,BsAt s kd many b n k vs)/\∃a l c s',e=.returned (.slice a l c)/\s'.size<=s.size/\Rdr 188 w' R s' true)
theorem pvals_any (R:Nat)(s:ByteArray)(f:Bool)(kd:Int)(many:Nat)(W:World)(hR:Rdr 188 W R s f)(hs:s.size<=1000000)(hk1:1<=kd)(hk5:kd<=5)(hn:many<=20000)(st kt ht:TypeId)(sp kp hp:Value)(hg:W.cell? ⟨2,0,none⟩=some (.iface st sp))(hgk:W.cell? ⟨3,0,none⟩=some (.iface kt kp))(hgs:W.cell? ⟨0,0,none⟩=some (.iface ht hp)) :
    Calls Tryz.prog (122) #[.pointer (some ⟨R,0,none⟩),.int .i64 kd,.int .i64 many] W fun e w'=>VlsR W.heap.size R s f kd many e w'/\PFr R W w':=by
 have ck:∀{g:Nat} {a:TypeId} {b:Value},W.cell? ⟨g,0,none⟩=some (.iface a b)->∀X,PFr R W X->X.cell? ⟨g,0,none⟩=some (.iface a b):=fun {g a b} h X hX=>hX.cell h (fun e=>by
  subst e
  rw[hR.cells.1.1] at h
  cases h)
 have HG:Hid (∀X,PFr R W X->X.cell? ⟨2,0,none⟩=some (.iface st sp)):=ck hg
 have HGK:Hid (∀X,PFr R W X->X.cell? ⟨3,0,none⟩=some (.iface kt kp)):=ck hgk
 have HGS:Hid (∀X,PFr R W X->X.cell? ⟨0,0,none⟩=some (.iface ht hp)):=ck hgs
 obtain⟨⟨c0,c1⟩,c2,c3⟩:=hR.cells
 have HR:Hid (Rdr 188 W R s f):=hR
 clear hR ck hg hgk hgs
 by_cases h0:s.size=0
 · have hse : s = ⟨#[]⟩ := by
     cases s with
     | mk d=>simp[ByteArray.size] at h0;subst h0;rfl
   subst hse
   have HM:Hid (¬ ∃b n k vs,BsAt ⟨#[]⟩ kd many b n k vs):=fun ⟨b,n,k,vs,h⟩=>by obtain⟨r,h1⟩:=h.code;cases h1
   go_enter Tryz.func122,Tryz.ntmps122
   go_wp2
   go_ret
   exact⟨.inr ⟨HM.out,_,_,_,_,rfl,Nat.le_refl _,HR.out.fail⟩,(PFr.refl _ _).set⟩
 have hpos:0<s.size:=by omega
 have hE:s.toList.isEmpty=false:=by
  cases hh:s.toList with
  | nil => exact absurd (by have h2 : s.toList.length = 0 := by rw [hh]; rfl
                            rw[ByteArray.toList_eq,Array.length_toList] at h2;exact h2) h0
  | cons _ _=>rfl
 have HC0:Hid (s.data.toList=s[0] :: s.data.toList.drop 1):=(by
  show _=_
  have:=drop_cons s 0 hpos
  rw[List.drop_zero] at this
  exact this)
 obtain⟨b,hidx⟩:∃b,s[0]=b:=⟨_,rfl⟩
 rw[hidx] at HC0
 have hb8:=b.toNat_lt
 have hw:wrap64 (b.toNat:Int)=(b.toNat:Int):=by unfold wrap64;omega
 have h1s:(1:Int)<=(s.size:Int):=by omega
 obtain⟨q,HQ⟩:∃q,Hid (s.extract 1 s.size=q):=⟨_,rfl⟩
 have hqs:q.size<=s.size:=by rw[←HQ.out,ByteArray.size_extract];omega
 have HRq:Hid (Rdr 188 (W.setCell ⟨R,0,none⟩ (.string q)) R q f):=HR.out.rest q
 have HFq:Hid (PFr R W (W.setCell ⟨R,0,none⟩ (.string q))):=(PFr.refl _ _).set
 have hex:s.extract 1 s.size=q:=HQ.out
 go_enter Tryz.func122,Tryz.ntmps122
 go_upto_region 6 with fail
 (try rw[hex])
 generalize W.setCell ⟨R,0,none⟩ (.string q)=w1 at HRq HFq ⊢
 clear c0 c1 c2 c3
 go_wp2_with fail
 refine Calls.mono (rtext_any R q f w1 HRq.out (by omega) st sp (HG.out w1 HFq.out)) ?_
 rintro e w2 ⟨hx,hfr⟩
 obtain⟨tx,s1,f1,rfl,hR1,hz1,hzt,hT1⟩:∃(tx s1:ByteArray) (f1:Bool),e=.returned (.string tx)/\Rdr 188 w2 R s1 f1/\s1.size<=s.size/\tx.size<=s.size/\((f1=true/\¬ ∃n k,LtAt q n k)\/(f1=f/\∃n k,LtAt q n k/\tx=q.extract k (k+n)/\s1=q.extract (k+n) q.size)):=by
  rcases hx with ⟨n,k,h1,h2,h3⟩|⟨h1,h2,h3⟩
  · have hsz:(q.extract k (k+n)).size=n:=by rw[ByteArray.size_extract];have:=h1.fit;omega
    exact⟨_,_,_,h2,h3,by rw[ByteArray.size_extract];omega,by rw[hsz];have:=h1.fit;omega,.inr ⟨rfl,n,k,h1,rfl,rfl⟩⟩
  · exact⟨_,_,_,h2,h3,hqs,Nat.zero_le _,.inl ⟨rfl,h1⟩⟩
 have HF2:Hid (PFr R W w2):=HFq.out.trans hfr
 have HR2:Hid (Rdr 188 w2 R s1 f1):=hR1
 have HT2:Hid ((f1=true/\¬ ∃n k,LtAt q n k)\/(f1=f/\∃n k,LtAt q n k/\tx=q.extract k (k+n)/\s1=q.extract (k+n) q.size)):=hT1
 clear hx hfr hR1 hT1 HRq HFq hex
 by_cases hc:HasC kd b.toNat
 · have HC:Hid (HasC kd b.toNat):=hc
   have HRd:Hid (Calls Tryz.prog 151 #[.int .i64 kd,.int .i64 b.toNat,.string tx,.int .i64 (many:Nat)] w2 fun e w'=>RetRdC w2.heap.size (IsBs kd b.toNat tx.data.toList many) many (.iface st sp) e w'/\Below w2.heap.size w2 w'):=readBestX_c kd b.toNat tx many w2 st kt sp kp (HG.out w2 HF2.out) (HGK.out w2 HF2.out) (by omega) hn hk1 hk5 hc
   clear hc
   go_wp2_with fail
   refine Calls.mono HRd.out ?_
   rintro e w3 ⟨hr,hb3⟩
   have HF3:Hid (PFr R W w3):=HF2.out.trans (.of_below hb3)
   have HR3:Hid (Rdr 188 w3 R s1 f1):=HR2.out.keep hb3
   have hz2:W.heap.size<=w2.heap.size:=HF2.out.size
   clear hb3 HR2 HF2 HRd
   obtain⟨⟨c0,c1⟩,c2,c3⟩:=HR3.out.cells
   rcases hr with ⟨vs,a,c,hp,rfl,hl,hcp,hfs⟩|⟨hr,rfl⟩
   · have HO : Hid (VlsR W.heap.size R s f kd many (.returned (.slice a many c)) w3) := (by
       rcases HT2.out with ⟨rfl,h2⟩|⟨rfl,n,k,h2,h3,h4⟩
       · exact .inr ⟨fun ⟨b',n,k,vs',h⟩=>h2 ⟨n,k,by have:=h.tx;rw[HQ.out] at this;exact this⟩,_,_,_,_,rfl,hz1,HR3.out⟩
       · refine .inl ⟨b,n,k,vs,a,c,⟨⟨_,HC0.out⟩,by rw[HQ.out];exact h2,HC.out,by rw[HQ.out,←h3];exact hp⟩,rfl,hl,hcp,hfs.low hz2,?_⟩
         rw[HQ.out,←h4]
         exact HR3.out)
     clear hp hl hcp hfs
     go_wp2
     go_ret
     exact⟨HO.out,HF3.out⟩
   · have HM : Hid (¬ ∃ b n k vs, BsAt s kd many b n k vs) := fun ⟨b', n, k, vs, h⟩ => by
       obtain⟨r,h1⟩:=h.code
       rw[HC0.out] at h1
       cases h1
       have h5:=h.tx
       have h6:=h.is
       rw[HQ.out] at h5 h6
       rcases HT2.out with ⟨_,h2⟩|⟨_,n',k',h2,h3,_⟩
       · exact h2 ⟨n,k,h5⟩
       · obtain⟨rfl,rfl⟩:=h5.fn h2
         rw[←h3] at h6
         exact hr ⟨vs,h6⟩
     clear hr
     go_wp2
     go_ret
     exact⟨.inr ⟨HM.out,_,_,_,_,rfl,hz1,HR3.out.fail⟩,HF3.out.set⟩
 · have HRd:Hid (Calls Tryz.prog 151 #[.int .i64 kd,.int .i64 b.toNat,.string tx,.int .i64 (many:Nat)] w2 fun e w'=>e=.returned (.tuple #[.slice none 0 0,.iface ht hp])/\Below w2.heap.size w2 w'):=readBestX_shape kd b.toNat tx many w2 ht hp (HGS.out w2 HF2.out) hn hk1 hk5 hc
   have HM:Hid (¬ ∃b n k vs,BsAt s kd many b n k vs):=fun ⟨b',n,k,vs,h⟩=>by
    obtain⟨r,h1⟩:=h.code
    rw[HC0.out] at h1
    cases h1
    exact hc h.has
   clear hc
   go_wp2_with fail
   refine Calls.mono HRd.out ?_
   rintro e w3 ⟨rfl,hb3⟩
   have HF3:Hid (PFr R W w3):=HF2.out.trans (.of_below hb3)
   have HR3:Hid (Rdr 188 w3 R s1 f1):=HR2.out.keep hb3
   clear hb3 HR2 HF2 HRd
   obtain⟨⟨c0,c1⟩,c2,c3⟩:=HR3.out.cells
   go_wp2
   go_ret
   exact⟨.inr ⟨HM.out,_,_,_,_,rfl,hz1,HR3.out.fail⟩,HF3.out.set⟩
end Go.Proofs.YtoeiahdjamkdgaaGreatDoor
