/-
  enc.prefixValues: the texts of values, by what they have in common.
  enc.readBehind: a text read behind the one ahead.
  enc.ReadPrefix: the texts that bytes are, each behind the one ahead.
  enc.readPrefixValues: the values that bytes are, by what texts have in common.
-/
import Derived.Test.YtoeiahdjamkdgaaGreatDoorWBPref
import Derived.Test.YtoeiahdjamkdgaaGreatDoorWBWordsMath
set_option maxRecDepth 100000
set_option maxHeartbeats 1600000
namespace Go.Proofs.YtoeiahdjamkdgaaGreatDoor
open Go.RowKit
def vtx (vs:List Vl):List ByteArray:=vs.map (·.s)
theorem vtx_len (vs:List Vl):(vtx vs).length=vs.length:=by simp[vtx]
theorem prefixValues_any (a:Option Addr)(vs:List Vl)(c:Nat)(kd:Int)(w:World)(ev:Value)(hg:w.cell? ⟨1,0,none⟩=some ev)(hn:vs.length<=20000)(hl:LiesV w a vs)(hx:∀v∈vs,v.s.size<=100) :
    Calls Tryz.prog 106 #[.int .i64 kd,.slice a vs.length c] w fun e w'=>e=.returned (.tuple #[.string ⟨(Um.prefs [] (bys (vtx vs))).toArray⟩,.nilIface])/\Below w.heap.size w w':=by
 obtain⟨iv,hvi,hv0,hv1,hv2⟩:=info_parts Tryz.infoS
 have HL:Hid (LiesV w a vs):=hl
 have HX:Hid (∀t∈vtx vs,t.size<=100):=fun t ht=>by obtain⟨v,hv,rfl⟩:=List.mem_map.1 ht;exact hx v hv
 have HG:Hid _:=hg
 obtain⟨n,hvn⟩:∃n,vs.length=n:=⟨_,rfl⟩
 have HVN:Hid (vs.length=n):=hvn
 rw[hvn] at hn ⊢
 clear hl hx hg hvn
 obtain⟨M,hM⟩:∃M,M=madeCells (Value.string ⟨#[]⟩).cells (((n:Nat):Int).toNat*iv.size):=⟨_,rfl⟩
 have hMs:M.size=n:=by rw[hM,size_madeCells,hv1];simp
 have hmk:∀W:World,(Instr.makeSlice 138 (.int .i64 (n:Int)) (.int .i64 (n:Int))).run Tryz.prog W=.ok (.slice (some ⟨W.heap.size,0,none⟩) n n) (W.alloc (.cells M 9)):=fun W=>by
  have h:=run_make (P:=Tryz.prog) W 138 9 iv (.string ⟨#[]⟩) Tryz.underlying138 hvi hv0 .i64 .i64 (n:Int) (n:Int) (by omega) (by omega) (by rw[hv2];omega) (by omega)
  rw[←hM] at h
  simpa using h
 have HS:Hid (GRow (fun j=>.string ((vtx vs).getD j ⟨#[]⟩)) n w.heap.size w (w.alloc (.cells M 9)) 0):=GRow.start _ _ _ _ _ hMs
 clear hM hMs
 go_enter Tryz.func106,Tryz.ntmps106
 go_wp2
 clear hmk
 go_loopw [14] (fun x wr=>∃i:Nat,i<=n/\x=.int .i64 i/\w.heap.size<wr.heap.size/\Hid (GRow (fun j=>.string ((vtx vs).getD j ⟨#[]⟩)) n w.heap.size w wr i)) (fun x _=>n-(intOf x).toNat)
 case atStart=>exact⟨0,Nat.zero_le _,rfl,by simp,HS⟩
 case round =>
  clear HS
  obtain⟨i,hik,rfl,hsl,HV⟩:=hrel
  have hb:=HV.out.old
  by_cases hlt:i<n
  · obtain⟨b,o,rfl,hc0,hc1,hc2⟩:=(HL.out.keep hb) i (by rw[HVN.out];exact hlt)
    have HE:Hid ((vtx vs).getD i ⟨#[]⟩=(vs[i]'(by rw[HVN.out];exact hlt)).s):=by
     show _=_
     simp[vtx,List.getD,show i<vs.length by rw[HVN.out];exact hlt]
    generalize vs[i]'(by rw[HVN.out];exact hlt)=v at *
    obtain⟨k0,n0,s0⟩:=v
    simp only at hc0 hc1 hc2 HE
    obtain⟨y0,g0⟩:=HV.out.any i hlt
    have f0:=HV.out.froz i hlt
    go_wp2
    go_roundw
    case rel =>
     exact⟨i+1,by omega,by go_num,by simp;omega,(HV.out.next (Nat.le_refl _) hlt (by rw[HE.out])).keep (by simpa using hsl) ((Below.refl _ _).alloc (Nat.le_refl _) _)⟩
    case measure=>simp[intOf];omega
  · obtain rfl:i=n:=by omega
    have HLS:Hid (LiesS wr (some ⟨w.heap.size,0,none⟩) (vtx vs)):=fun j hj=>by
     rw[vtx_len,HVN.out] at hj
     refine⟨w.heap.size,0,rfl,?_⟩
     rw[Nat.zero_add,HV.out.done j hj]
     simp[List.getD,show j<(vtx vs).length by rw[vtx_len,HVN.out];exact hj]
    have hgr:=(hb.cell (World.block_lt_of_cell? w _ HG.out)).trans HG.out
    have hp:=prefix_right (some ⟨w.heap.size,0,none⟩) (vtx vs) i wr ev hgr (by rw[vtx_len,HVN.out];omega) HLS.out HX.out
    rw[vtx_len,HVN.out] at hp
    go_wp2_with fail
    refine hp.mono ?_
    clear hp
    rintro e w2 ⟨rfl,hb2⟩
    go_wp2
    go_ret2
    exact⟨rfl,hb.trans (hb2.mono hb.size)⟩
def ansB (o:Option (List UInt8 × Nat))(ev:Value):Value :=
 match o with
 | some p=>.tuple #[.string (mk p.1),.int .i64 p.2,.nilIface]
 | none=>.tuple #[.string ⟨#[]⟩,.int .i64 0,ev]
theorem ansB_none {o:Option (List UInt8 × Nat)}{ev:Value}(h:o=none):Ending.returned (.tuple #[.string ⟨#[]⟩,.int .i64 0,ev])=.returned (ansB o ev):=by rw[h];rfl
theorem readBehind_any (a s:ByteArray)(w:World)(st:TypeId)(sp:Value)(hg:w.cell? ⟨2,0,none⟩=some (.iface st sp))(ha:a.size<=100)(hs:s.size<=1000000) :
    Calls Tryz.prog 187 #[.string a,.string s] w fun e w'=>e=.returned (ansB (Um.rdb a.data.toList s.data.toList) (.iface st sp))/\Below w.heap.size w w':=by
 have hm:s.size<=maxLen:=by unfold maxLen;omega
 generalize hp:Um.rdv s.data.toList 0 0=p
 obtain⟨m,i⟩:=p
 have hroom:=Um.rdv_room s.data.toList 0 0 (by simp)
 rw[hp] at hroom
 have hm64:m<18446744073709551616:=hroom.1
 have hi10:i<=10:=hroom.2.1
 have hil:i<=s.size:=by have:=hroom.2.2;simpa using this
 clear hroom
 generalize hq:Um.rdv (s.data.toList.drop i) 0 0=q
 obtain⟨m2,j⟩:=q
 have HRB:Hid (Um.rdb a.data.toList s.data.toList=if 0<i/\m<=a.size/\0<j/\i+j+m2<=s.size/\(a.data.toList.take m++((s.data.toList.drop (i+j)).take m2)).length<=100/\Um.lcp a.data.toList (a.data.toList.take m++((s.data.toList.drop (i+j)).take m2))=m then some (a.data.toList.take m++((s.data.toList.drop (i+j)).take m2),i+j+m2) else none):=by
  show _=_
  unfold Um.rdb
  simp only[hp,hq]
  rfl
 have HP:Hid (Um.rdv s.data.toList 0 0=(m,i)):=hp
 have HQ:Hid (Um.rdv (s.data.toList.drop i) 0 0=(m2,j)):=hq
 clear hp hq
 by_cases hi:0<i
 · by_cases hma:m<=a.size
   · have hsx:(s.extract i s.size).size<=1000000:=by rw[ByteArray.size_extract];omega
     have HX:Hid (Um.rdv (s.extract i s.size).data.toList 0 0=(m2,j)):=by
      show _=_
      rw[drop_ext s i];exact HQ.out
     go_enter Tryz.func187,Tryz.ntmps187
     go_wp2_with fail
     refine (readU_hit s _ _ m i hm hg HP.out hi).mono ?_
     rintro e w1 ⟨rfl,hb1⟩
     have hg1:=(hb1.cell (World.block_lt_of_cell? w _ hg)).trans hg
     go_wp2_with fail
     by_cases hj:0<j
     · by_cases hf:j+m2<=(s.extract i s.size).size/\m2<=200000
       · obtain⟨hf,h2⟩:=hf
         refine (readT_hit (s.extract i s.size) _ _ m2 j (by omega) hg1 HX.out hj h2 hf).mono ?_
         rintro e w2 ⟨rfl,hb2⟩
         have hg2:=(hb2.cell (World.block_lt_of_cell? w1 _ hg1)).trans hg1
         have hb:Below w.heap.size w w2:=hb1.trans (hb2.mono hb1.size)
         have hxz:((s.extract i s.size).extract j (j+m2)).size=m2:=by rw[ByteArray.size_extract];omega
         have HXL:Hid (((s.extract i s.size).extract j (j+m2)).data.toList=(s.data.toList.drop (i+j)).take m2):=by
          show _=_
          rw[ext_take,drop_ext,List.drop_drop]
         have hsi:i+j+m2<=s.size:=by rw[ByteArray.size_extract] at hf;omega
         generalize (s.extract i s.size).extract j (j+m2)=x at *
         rw[←HXL.out] at HRB
         clear HXL
         have HT:Hid ((a.extract 0 m++x).data.toList=a.data.toList.take m++x.data.toList):=by
          show _=_
          rw[ByteArray.data_append,Array.toList_append]
          congr 1
          have h:=ext_take a 0 m
          rwa [Nat.zero_add,List.drop_zero] at h
         have htz:(a.extract 0 m++x).size=m+m2:=by rw[ByteArray.size_append,ByteArray.size_extract,hxz];omega
         have HTL:Hid ((a.data.toList.take m++x.data.toList).length=m+m2):=by
          show _=_
          rw[←HT.out,Array.length_toList];exact htz
         by_cases h100:m+m2<=100
         · have hd:decide (100<(m:Int)+(m2:Int))=false:=by simp;omega
           obtain⟨c,HC⟩:∃c,Hid (c=Um.lcp a.data.toList (a.extract 0 m++x).data.toList):=⟨_,rfl⟩
           have hc100:c<=100:=by
            rw[HC.out]
            refine Nat.le_trans (Um.lcp_le _ _).1 ?_
            rw[Array.length_toList];exact ha
           by_cases hcm:c=m
           · subst hcm
             have HY:Hid (Um.rdb a.data.toList s.data.toList=some ((a.extract 0 c++x).data.toList,i+j+m2)):=by
              show _=_
              rw[HRB.out,if_pos ⟨hi,hma,hj,hsi,by rw[HTL.out];exact h100,by rw[←HT.out];exact HC.out.symm⟩,HT.out]
             go_wp2_with (first|(go_at_call 159;refine (inCommon_any a (a.extract 0 c++x) _ ha (by omega)).mono ?_;rw[←HC.out];rintro e w3 ⟨rfl,hb3⟩)|fail)
             go_ret3
             refine⟨?_,hb.trans (hb3.mono hb.size)⟩
             rw[HY.out]
             show Ending.returned _=Ending.returned (.tuple #[.string (mk (a.extract 0 c++x).data.toList),.int .i64 ((i+j+m2:Nat):Int),.nilIface])
             rw[mk_bytes,show ((i+j+m2:Nat):Int)=(i:Int)+((j:Int)+(m2:Int)) by omega]
             rfl
           · have HNo : Hid (Um.rdb a.data.toList s.data.toList = none) := by
               show _=_
               rw[HRB.out,if_neg]
               rintro ⟨c1,c2,c3,c4,c5,c6⟩
               rw[←HT.out] at c6
               exact hcm (HC.out.trans c6)
             go_wp2_with (first|(go_at_call 159;refine (inCommon_any a (a.extract 0 m++x) _ ha (by omega)).mono ?_;rw[←HC.out];rintro e w3 ⟨rfl,hb3⟩;have hg3:=(hb3.cell (World.block_lt_of_cell? w2 _ hg2)).trans hg2)|fail)
             go_region
             all_goals (try go_wp2)
             all_goals go_ret3
             all_goals exact⟨ansB_none HNo.out,(hb.trans (hb3.mono hb.size)).drew⟩
         · have HNo : Hid (Um.rdb a.data.toList s.data.toList = none) := by
             show _=_
             rw[HRB.out,if_neg]
             rintro ⟨c1,c2,c3,c4,c5,c6⟩
             rw[HTL.out] at c5
             exact h100 c5
           have hd:decide (100<(m:Int)+(m2:Int))=true:=by simp;omega
           go_wp2_with fail
           go_region
           all_goals (try go_wp2)
           all_goals go_ret3
           all_goals exact⟨ansB_none HNo.out,hb.drew⟩
       · have HNo : Hid (Um.rdb a.data.toList s.data.toList = none) := by
           show _=_
           rw[HRB.out,if_neg]
           rintro ⟨c1,c2,c3,c4,c5,c6⟩
           rw[List.length_append,List.length_take,List.length_take,List.length_drop,Array.length_toList,Array.length_toList] at c5
           rw[ByteArray.size_extract] at hf
           have e1:a.data.size=a.size:=rfl
           have e2:s.data.size=s.size:=rfl
           omega
         refine (readT_long (s.extract i s.size) _ _ m2 j hsx hg1 HX.out hj (by omega)).mono ?_
         rintro e w2 ⟨rfl,hb2⟩
         go_wp2
         go_ret3
         exact⟨ansB_none HNo.out,hb1.trans (hb2.mono hb1.size)⟩
     · obtain rfl:j=0:=by omega
       have HNo:Hid (Um.rdb a.data.toList s.data.toList=none):=by show _=_;rw[HRB.out,if_neg (by omega)]
       have HX0:Hid (Um.rdv (s.extract i s.size).data.toList 0 0=(0,0)):=by
        show _=_
        rw[HX.out,Um.rdv_zero HX.out]
       refine (readT_none (s.extract i s.size) _ st sp (by unfold maxLen;omega) hg1 HX0.out).mono ?_
       rintro e w2 ⟨rfl,hb2⟩
       go_wp2
       go_ret3
       exact⟨ansB_none HNo.out,hb1.trans (hb2.mono hb1.size)⟩
   · go_enter Tryz.func187,Tryz.ntmps187
     have HNo:Hid (Um.rdb a.data.toList s.data.toList=none):=by show _=_;rw[HRB.out,if_neg (by omega)]
     go_wp2_with fail
     refine (readU_hit s _ _ m i hm hg HP.out hi).mono ?_
     rintro e w1 ⟨rfl,hb1⟩
     have hg1:=(hb1.cell (World.block_lt_of_cell? w _ hg)).trans hg
     go_wp2_with fail
     go_region
     all_goals (try go_wp2)
     all_goals go_ret3
     all_goals exact⟨ansB_none HNo.out,hb1.drew⟩
 · obtain rfl:i=0:=by omega
   have HNo:Hid (Um.rdb a.data.toList s.data.toList=none):=by show _=_;rw[HRB.out,if_neg (by omega)]
   have HP0:Hid (Um.rdv s.data.toList 0 0=(0,0)):=by
    show _=_
    rw[HP.out,Um.rdv_zero HP.out]
   go_enter Tryz.func187,Tryz.ntmps187
   go_wp2_with fail
   refine (readU_miss s _ (.iface st sp) hm hg HP0.out).mono ?_
   rintro e w1 ⟨rfl,hb1⟩
   go_wp2
   go_ret3
   exact⟨ansB_none HNo.out,hb1⟩
theorem Tryz.underlyingSS:Tryz.prog.underlying 138=some (.slice 9):=by kernel_rfl
theorem GRow.congr {f f':Nat->Value}{n g:Nat}{w wr:World}{i:Nat}(h:GRow f n g w wr i)(he:∀j,j<i->f j=f' j):GRow f' n g w wr i :=
 ⟨fun j hj=>by rw[←he j hj];exact h.done j hj,h.any,h.froz,h.old⟩
def RetSs (o:Option (List (List UInt8)))(n:Nat)(ev:Value)(e:Ending)(w':World):Prop :=
 (∃ss a c,o=some ss/\e=.returned (.tuple #[.slice a n c,.nilIface])/\LiesS w' a (ss.map mk))\/(o=none/\e=.returned (.tuple #[.slice none 0 0,ev]))
theorem readPrefix_any (s:ByteArray)(n:Nat)(w:World)(st:TypeId)(sp:Value)(hg:w.cell? ⟨2,0,none⟩=some (.iface st sp))(hs:s.size<=1000000)(hn:n<=20000) :
    Calls Tryz.prog 179 #[.string s,.int .i64 n] w fun e w'=>RetSs (Um.rdp n [] s.data.toList) n (.iface st sp) e w'/\Below w.heap.size w w':=by
 obtain⟨iv,hvi,hv0,hv1,hv2⟩:=info_parts Tryz.infoS
 obtain⟨M,hM⟩:∃M,M=madeCells (Value.string ⟨#[]⟩).cells (((n:Nat):Int).toNat*iv.size):=⟨_,rfl⟩
 have hMs:M.size=n:=by rw[hM,size_madeCells,hv1];simp
 have hmk:∀W:World,(Instr.makeSlice 138 (.int .i64 (n:Int)) (.int .i64 (n:Int))).run Tryz.prog W=.ok (.slice (some ⟨W.heap.size,0,none⟩) n n) (W.alloc (.cells M 9)):=fun W=>by
  have h:=run_make (P:=Tryz.prog) W 138 9 iv (.string ⟨#[]⟩) Tryz.underlyingSS hvi hv0 .i64 .i64 (n:Int) (n:Int) (by omega) (by omega) (by rw[hv2];omega) (by omega)
  rw[←hM] at h
  simpa using h
 have HS:Hid (GRow (fun j=>.string (mk (([]:List (List UInt8)).getD j []))) n w.heap.size w (w.alloc (.cells M 9)) 0):=GRow.start _ _ _ _ _ hMs
 have HG:Hid _:=hg
 have hd:decide (0<=(n:Int)/\(n:Int)<=20000)=true:=by simp;omega
 clear hM hMs hg
 go_enter Tryz.func179,Tryz.ntmps179
 go_wp2_with (go_at_call 158;refine (isCountE_any _ _).mono ?_;rw[hd];rintro e w1 ⟨rfl,hw⟩;obtain rfl:=hw.symm)
 clear hmk
 go_loopw [0,7,20] (fun y h x wr=>∃(i:Nat) (r a:ByteArray) (ss:List (List UInt8)),i<=n/\x=.int .i64 i/\y=.string r/\h=.string a/\r.size<=s.size/\a.size<=100/\w.heap.size<wr.heap.size/\Hid (ss.length=i)/\Hid (Um.rdp n [] s.data.toList=(Um.rdp (n-i) a.data.toList r.data.toList).map fun q=>ss++q)/\Hid (GRow (fun j=>.string (mk (ss.getD j []))) n w.heap.size w wr i)) (fun _ _ x _=>n-(intOf x).toNat)
 case atStart=>exact⟨0,s,⟨#[]⟩,[],Nat.zero_le _,rfl,rfl,rfl,Nat.le_refl _,by decide,by simp,rfl,by show _=_;simp,HS⟩
 case round =>
  clear HS
  obtain⟨i,r,a,ss,hik,rfl,rfl,rfl,hrs,has,hsl,HSL,HRD,HV⟩:=hrel
  have hb:=HV.out.old
  have hgr:=(hb.cell (World.block_lt_of_cell? w _ HG.out)).trans HG.out
  by_cases hlt:i<n
  · have HSt : Hid (Um.rdp (n - i) a.data.toList r.data.toList = (Um.rdb a.data.toList r.data.toList).bind fun p => (Um.rdp (n - (i + 1)) p.1 (r.data.toList.drop p.2)).map fun r => p.1 :: r) := by
      show _=_
      rw[show n-i=(n-(i+1))+1 by omega,Um.rdp]
    go_wp2_with fail
    refine (readBehind_any a r _ st sp hgr has (by omega)).mono ?_
    rintro e w1 ⟨rfl,hb1⟩
    generalize ho:Um.rdb a.data.toList r.data.toList=o at *
    have HO:Hid (Um.rdb a.data.toList r.data.toList=o):=ho
    clear ho
    cases o with
    | none =>
     have HNo:Hid (Um.rdp n [] s.data.toList=none):=by
      show _=_
      rw[HRD.out,HSt.out];rfl
     show _
     unfold ansB
     go_wp2
     go_ret2
     exact⟨Or.inr ⟨HNo.out,rfl⟩,hb.trans (hb1.mono hb.size)⟩
    | some p =>
     obtain⟨t,k⟩:=p
     obtain⟨ht,hkr,_⟩:=Um.rdb_some HO.out
     rw[Array.length_toList] at hkr
     have hkr:k<=r.size:=hkr
     have HV1:Hid _:=HV.out.keep hsl hb1
     obtain⟨y0,g0⟩:=HV1.out.any i hlt
     have f0:=HV1.out.froz i hlt
     have HV2:Hid (GRow (fun j=>.string (mk ((ss++[t]).getD j []))) n w.heap.size w (w1.setCell ⟨w.heap.size,i,none⟩ (.string (mk t))) (i+1)):=by
      have hc:GRow (fun j=>.string (mk ((ss++[t]).getD j []))) n w.heap.size w w1 i:=HV1.out.congr fun j hj=>by
       have hj':j<ss.length:=by rw[HSL.out];exact hj
       simp[List.getD,List.getElem?_append_left hj']
      refine hc.next (Nat.le_refl _) hlt ?_
      rw[←HSL.out];simp[List.getD]
     have hrx:(r.extract k r.size).size<=s.size:=by rw[ByteArray.size_extract];omega
     have HRX:Hid ((r.extract k r.size).data.toList=r.data.toList.drop k):=drop_ext r k
     have hsl1:w.heap.size<w1.heap.size:=Nat.lt_of_lt_of_le hsl hb1.size
     have htz:(mk t).size<=100:=by rw[mk_size];exact ht
     have HTL:Hid ((mk t).data.toList=t):=mk_list t
     unfold ansB
     simp only
     generalize mk t=T at *
     go_wp2
     go_roundw
     case rel =>
      refine⟨i+1,r.extract k r.size,T,ss++[t],by omega,by go_num,rfl,rfl,hrx,htz,by simpa using hsl1,by show _=_;rw[List.length_append,HSL.out];rfl,?_,HV2⟩
      show _=_
      rw[HRD.out,HSt.out,HRX.out,HTL.out]
      show Option.map _ (Option.map _ _)=_
      rw[Option.map_map]
      congr 1
      funext q
      simp
     case measure=>simp[intOf];omega
  · obtain rfl:i=n:=by omega
    have hrd:=HRD.out
    rw[Nat.sub_self,Um.rdp] at hrd
    by_cases he:r.data.toList=[]
    · have HI:Hid (Um.rdp i [] s.data.toList=some ss):=by show _=_;rw[hrd,if_pos he];simp
      have hz:r.toList=[]:=by rw[Lib.toList_data];exact he
      have HLV:Hid (LiesS wr (some ⟨w.heap.size,0,none⟩) (ss.map mk)):=fun j hj=>by
       rw[List.length_map] at hj
       refine⟨w.heap.size,0,rfl,?_⟩
       rw[Nat.zero_add,HV.out.done j (by rw[←HSL.out];exact hj)]
       simp[List.getD,hj]
      clear hrd he
      go_wp2
      go_ret2
      exact⟨Or.inl ⟨ss,_,_,HI.out,rfl,HLV.out⟩,hb⟩
    · have HNo:Hid (Um.rdp i [] s.data.toList=none):=by show _=_;rw[hrd,if_neg he];rfl
      have hz:r.toList.isEmpty=false:=by rw[Lib.toList_data,List.isEmpty_eq_false_iff];exact he
      clear hrd he
      go_wp2
      go_region
      all_goals (try go_wp2)
      all_goals go_ret2
      all_goals exact⟨Or.inr ⟨HNo.out,rfl⟩,hb.drew⟩
def pvs (ss:List (List UInt8)):List Vl:=ss.map fun t=>⟨4,0,mk t⟩
theorem pvs_len (ss:List (List UInt8)):(pvs ss).length=ss.length:=by simp[pvs]
def IsPr (s:List UInt8)(n:Nat)(vs:List Vl):Prop:=∃ss,Um.rdp n [] s=some ss/\vs=pvs ss
theorem readPrefixValues_c (s:ByteArray)(n:Nat)(w:World)(st:TypeId)(sp:Value)(hg:w.cell? ⟨2,0,none⟩=some (.iface st sp))(hs:s.size<=1000000)(hn:n<=20000) :
    Calls Tryz.prog 168 #[.string s,.int .i64 n] w fun e w'=>RetRdC w.heap.size (IsPr s.data.toList n) n (.iface st sp) e w'/\Below w.heap.size w w':=by
 obtain⟨iv,hvi,hv0,hv1,hv2⟩:=info_parts Tryz.infoV
 obtain⟨M,hM⟩:∃M,M=madeCells (Value.agg #[.int .i64 0,.int .i64 0,.string ⟨#[]⟩]).cells (((n:Nat):Int).toNat*iv.size):=⟨_,rfl⟩
 have hMs:M.size=n*3:=by rw[hM,size_madeCells,hv1];simp
 have hmk:∀W:World,(Instr.makeSlice 25 (.int .i64 (n:Int)) (.int .i64 (n:Int))).run Tryz.prog W=.ok (.slice (some ⟨W.heap.size,0,none⟩) n n) (W.alloc (.cells M 46)):=fun W=>by
  have h:=run_make (P:=Tryz.prog) W 25 46 iv (.agg #[.int .i64 0,.int .i64 0,.string ⟨#[]⟩]) Tryz.underlying25 hvi hv0 .i64 .i64 (n:Int) (n:Int) (by omega) (by omega) (by rw[hv2];omega) (by omega)
  rw[←hM] at h
  simpa using h
 clear hM
 go_enter Tryz.func168,Tryz.ntmps168
 go_wp2_with fail
 refine (readPrefix_any s n w st sp hg hs hn).mono ?_
 rintro e w1 ⟨⟨ss,a,c,ho,rfl,hl⟩|⟨ho,rfl⟩,hb1⟩
 · have HO:Hid (Um.rdp n [] s.data.toList=some ss):=ho
   have HL:Hid (LiesS w1 a (ss.map mk)):=hl
   have hsl:ss.length=n:=(Um.rdp_some _ _ _ _ ho).1
   have HSL:Hid (ss.length=n):=hsl
   have HS:Hid (VRow (fun i=>(pvs ss).getD i ⟨0,0,⟨#[]⟩⟩) n w1.heap.size w1 (w1.alloc (.cells M 46)) 0):=VRow.start _ _ _ _ _ hMs
   clear ho hl hMs hsl hg
   go_wp2
   clear hmk
   go_loopw [24] (fun x wr=>∃i:Nat,i<=n/\x=.int .i64 i/\w1.heap.size<wr.heap.size/\Hid (VRow (fun i=>(pvs ss).getD i ⟨0,0,⟨#[]⟩⟩) n w1.heap.size w1 wr i)) (fun x _=>n-(intOf x).toNat)
   case atStart=>exact⟨0,Nat.zero_le _,rfl,by simp,HS⟩
   case round =>
    clear HS
    obtain⟨i,hik,rfl,hsz,HV⟩:=hrel
    have hb:=HV.out.old
    by_cases hlt:i<n
    · obtain⟨b,o,rfl,hc⟩:=(LiesS.keep HL.out hb) i (by rw[List.length_map,HSL.out];exact hlt)
      have HE:Hid ((pvs ss).getD i ⟨0,0,⟨#[]⟩⟩=⟨4,0,(ss.map mk)[i]'(by rw[List.length_map,HSL.out];exact hlt)⟩):=by
       show _=_
       simp[pvs,List.getD,show i<ss.length by rw[HSL.out];exact hlt]
      generalize (ss.map mk)[i]'(by rw[List.length_map,HSL.out];exact hlt)=t at *
      obtain⟨y0,g0⟩:=HV.out.any (i*3) (by omega)
      obtain⟨y1,g1⟩:=HV.out.any (i*3+1) (by omega)
      obtain⟨y2,g2⟩:=HV.out.any (i*3+2) (by omega)
      have f0:=HV.out.froz (i*3) (by omega)
      have f1:=HV.out.froz (i*3+1) (by omega)
      have f2:=HV.out.froz (i*3+2) (by omega)
      have hN:=HV.out.next (Nat.le_refl _) hlt
      rw[HE.out] at hN
      have HN:Hid _:=hN
      clear hN
      go_wp2
      go_roundw
      case rel=>exact⟨i+1,by omega,by go_num,by simpa using hsz,HN⟩
      case measure=>simp[intOf];omega
    · obtain rfl:i=n:=by omega
      have hlv:=HV.out.lies
      have hmp:(List.range i).map (fun i=>(pvs ss).getD i ⟨0,0,⟨#[]⟩⟩)=pvs ss:=by
       apply List.ext_getElem
       · rw[List.length_map,List.length_range,pvs_len,HSL.out]
       · intro j h1 h2
         simp[List.getD,h2]
      rw[hmp] at hlv
      have HLV:Hid _:=hlv
      clear hlv hmp
      go_wp2
      go_ret2
      exact⟨Or.inl ⟨pvs ss,_,_,⟨ss,HO.out,rfl⟩,rfl,HLV.out,Nat.le_refl _,.at hb1.size⟩,hb1.trans (hb.mono hb1.size)⟩
 · have HI:Hid (¬ ∃vs,IsPr s.data.toList n vs):=fun ⟨vs,ss,h,_⟩=>by rw[ho] at h;cases h
   clear ho
   go_wp2
   go_ret2
   exact⟨Or.inr ⟨HI.out,rfl⟩,hb1⟩
end Go.Proofs.YtoeiahdjamkdgaaGreatDoor
