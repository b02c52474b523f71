/-
  enc.Delta: the first number, then the differences by blocks.
  enc.readBlock: a block of differences read.
-/
import Derived.Test.YtoeiahdjamkdgaaGreatDoorWBAppBlock
import Derived.Test.YtoeiahdjamkdgaaGreatDoorWBWordsMath
set_option maxRecDepth 100000
set_option maxHeartbeats 1600000
namespace Go.Proofs.YtoeiahdjamkdgaaGreatDoor
open Go.RowKit
def stepB (ds:List Int)(j:Nat):List UInt8:=blkB ((ds.drop (32*j)).take 32)
def stepsB (ds:List Int)(j:Nat):List UInt8:=(List.range j).flatMap (stepB ds)
theorem stepsB_succ (ds:List Int)(j:Nat):stepsB ds (j+1)=stepsB ds j++stepB ds j:=by simp[stepsB,List.range_succ]
def deltaB (vs:List Vl):List UInt8:=if vs.length=0 then [] else Um.uv (zig ((vns vs).getD 0 0))++stepsB (difs vs) ((vs.length-1+31) / 32)
theorem hasDelta_any (kd:Int)(w:World):Calls Tryz.prog 103 #[.int .i64 kd] w fun e w'=>e=.returned (.bool (decide (kd=2\/kd=3)))/\w'=w:=by
 by_cases h2:kd=2
 · subst h2
   go_enter Tryz.func103,Tryz.ntmps103
   go_wp2
   go_ret
   exact⟨rfl,rfl⟩
 · by_cases h3:kd=3
   · subst h3
     go_enter Tryz.func103,Tryz.ntmps103
     go_wp2
     go_ret
     exact⟨rfl,rfl⟩
   · have e:decide (kd=2\/kd=3)=false:=by simp[h2,h3]
     have e2:(kd == 2 || kd == 3)=false:=by simp[h2,h3]
     rw[e]
     go_enter Tryz.func103,Tryz.ntmps103
     go_wp2
     go_ret
     refine⟨?_,rfl⟩
     rw[←e2]
     rfl
theorem difs_ok {vs:List Vl}:∀d∈difs vs,-9223372036854775808<=d/\d<=9223372036854775807:=fun d hd=>by
 obtain⟨j,_,rfl⟩:=List.mem_map.1 hd
 unfold dif wrap64
 omega
theorem blkB_len {ds:List Int}(h0:0<ds.length)(h:ds.length<=32)(hx:∀d∈ds,-9223372036854775808<=d/\d<=9223372036854775807):(blkB ds).length<=300:=by
 have hlo:=hx _ (lows_in h0)
 have h1:=Um.uv_ten (zig_lt hlo.1 hlo.2)
 have h2:wdt ds<=64:=bitLen_64 _
 have h3:=Nat.mul_le_mul h h2
 unfold blkB
 rw[List.length_append,List.length_cons,Um.lit_len]
 omega
def slLen:Value->Nat
 | .slice _ k _=>k
 | _=>0
theorem OwnM.conv {w:World}{B:Nat}{v:Value}{l:List UInt8}(h:OwnM w B v l):(convert 58 9 v).run Tryz.prog w=.ok (.string ⟨l.toArray⟩) w:=by
 have h0:=h
 obtain⟨g,cap,cur,z,rfl,_⟩:=h
 exact run_convert_bytes_back w 58 9 5 ⟨g,0,none⟩ cap l Tryz.underlying58 Tryz.underlying5 Tryz.underlying9 (fun j hj=>by rw[addr_add,Nat.zero_add];exact h0.cells j hj)
structure DAt (g n:Nat) (m1:List UInt8) (ds:List Int) (B:Nat) (w4:World) (v d:Value) (wr:World) (j k:Nat) (q:Option Addr) (c:Nat):Prop where
 hd:d=.slice q k c
 more:0<k->q=some ⟨g,32*j,none⟩/\c=k/\32*j+k=n
 done:k=0->j=(n+31) / 32
 room:(m1++stepsB ds j).length<=10+300*j
 own:OwnM wr B v (m1++stepsB ds j)
 stand:Stand w4 wr
theorem delta_right (a:Option Addr)(vs:List Vl)(c:Nat)(kd:Int)(w:World)(kt:TypeId)(kp:Value)(hgk:w.cell? ⟨3,0,none⟩=some (.iface kt kp))(hn:vs.length<=20000)(hk:kd=2\/kd=3)(hl:LiesV w a vs)(hok:∀j (h:j<vs.length),vs[j].Ok kd)
    (hx:∀j (h:j<vs.length),-9223372036854775808<=vs[j].n/\vs[j].n<=9223372036854775807) :
    Calls Tryz.prog 104 #[.int .i64 kd,.slice a vs.length c] w fun e w'=>e=.returned (.tuple #[.string ⟨(deltaB vs).toArray⟩,.nilIface])/\Below w.heap.size w w':=by
 have HL:Hid (LiesV w a vs):=hl
 have HK:Hid (∀j (h:j<vs.length),vs[j].Ok kd):=hok
 have HX:Hid (∀j (h:j<vs.length),-9223372036854775808<=vs[j].n/\vs[j].n<=9223372036854775807):=hx
 have HGK:Hid _:=hgk
 have hd:decide (kd=2\/kd=3)=true:=by simp[hk]
 have hk1:1<=kd/\kd<=5:=by omega
 clear hl hok hx hgk
 go_enter Tryz.func104,Tryz.ntmps104
 go_wp2_with fail
 refine (checkE_any a vs c kd w kt kp hn hk1.1 hk1.2 HGK.out HL.out).mono ?_
 rintro e w1 ⟨⟨rfl,_⟩|⟨i,p,hi,rfl,_,hN,_,_⟩,hb1⟩
 · have HL1:Hid _:=HL.out.keep hb1
   go_wp2_with fail
   refine (hasDelta_any kd _).mono ?_
   rw[hd]
   rintro e w2 ⟨rfl,hw⟩
   obtain rfl:=hw.symm
   by_cases h0:vs.length=0
   · have HD:Hid (deltaB vs=[]):=by show _=_;unfold deltaB;rw[if_pos h0]
     rw[h0]
     go_wp2
     go_ret2
     exact⟨by rw[HD.out];rfl,hb1⟩
   · obtain⟨b,o,rfl,hc0,hc1,hc2⟩:=HL1.out 0 (by omega)
     have hx0:=HX.out 0 (by omega)
     have HD:Hid (deltaB vs=Um.uv (zig vs[0].n)++stepsB (difs vs) ((vs.length-1+31) / 32)):=by
      show _=_
      unfold deltaB
      rw[if_neg h0]
      simp[vns,List.getD,show 0<vs.length by omega]
     have hpos:0<vs.length:=by omega
     generalize vs[0]=v0 at *
     obtain⟨k0,n0,s0⟩:=v0
     simp only[Nat.zero_mul,Nat.add_zero] at hc0 hc1 hc2 hx0 HD
     go_wp2_with fail
     refine (varint_any n0 _ hx0.1 hx0.2).mono ?_
     rintro e w2 ⟨rfl,hb2⟩
     have hb12:=hb1.trans (hb2.mono hb1.size)
     have hzl:=zig_lt hx0.1 hx0.2
     have huv:=Um.uv_ten hzl
     obtain⟨m1,hm1⟩:∃m1:List UInt8,m1=Um.uv (zig n0):=⟨_,rfl⟩
     rw[←hm1] at huv HD
     have htb:(⟨m1.toArray⟩:ByteArray).data.toList=m1:=by simp
     have hts:(⟨m1.toArray⟩:ByteArray).size=m1.length:=by simp[ByteArray.size]
     rw[←hm1]
     generalize (⟨m1.toArray⟩:ByteArray)=t at *
     obtain⟨v3,w3,hr3,hown3,hb3'⟩:=ownM_conv w2 w.heap.size t m1 htb (by omega) hb12.size
     have hb3:=hb12.trans (hb3'.mono hb12.size)
     have HL3:Hid _:=HL.out.keep hb3
     go_wp2_with fail
     refine (differences_any _ vs c _ HL3.out (by omega) hn).mono ?_
     rintro e w4 ⟨⟨g,rfl,hl4,hT4⟩,hb4⟩
     have hown4:=hown3.keep hb4
     have hb4w:=hb3.trans (hb4.mono hb3.size)
     have hdl:=difs_len vs
     have hdn:vs.length-1<=20000:=by omega
     obtain⟨n,HN⟩:∃n,Hid (n=vs.length-1):=⟨_,rfl⟩
     rw[←HN.out] at HD hdl hdn ⊢
     have HDO:Hid _:=difs_ok (vs:=vs)
     generalize difs vs=ds at *
     have HL4:Hid _:=hl4
     have HT4:Hid _:=hT4
     have HO4:Hid (OwnM w4 w.heap.size v3 m1):=hown4
     clear hown3 hb3' hts hm1 hl4 hT4 hown4 hr3 hc0 hc1 hc2
     go_wp2_with fail
     have HS:Hid (DAt g n m1 ds w.heap.size w4 v3 (.slice (some ⟨g,0,none⟩) n n) w4 0 n (some ⟨g,0,none⟩) n):=⟨rfl,fun _=>⟨rfl,rfl,by omega⟩,fun h=>by omega,by simpa [stepsB] using huv,by rw[show m1++stepsB ds 0=m1 by simp[stepsB]];exact HO4.out,Stand.refl _⟩
     go_loopw [7,8] (fun v d wr=>∃j k q c,Hid (DAt g n m1 ds w.heap.size w4 v d wr j k q c)/\Below w.heap.size w wr) (fun _ d _=>slLen d)
     case atStart=>exact⟨0,n,_,n,HS,hb4w⟩
     case round =>
      clear HS
      obtain⟨j,k,q,c',HR,hb⟩:=hrel
      obtain rfl:=HR.out.hd
      by_cases hk0:k=0
      · subst hk0
        have ho:=HR.out.own
        rw[HR.out.done rfl,←HD.out] at ho
        have hcv:=ho.conv
        clear ho
        go_wp2
        go_ret2
        exact⟨rfl,hb⟩
      · obtain⟨rfl,rfl,hjk⟩:=HR.out.more (by omega)
        obtain⟨es,HE⟩:∃es:List Int,Hid (es=(ds.drop (32*j)).take 32):=⟨_,rfl⟩
        have hel:es.length=min 32 c':=by rw[HE.out,List.length_take,List.length_drop,hdl];omega
        have HEX:Hid (∀d∈es,-9223372036854775808<=d/\d<=9223372036854775807):=fun d hd=>HDO.out d (List.mem_of_mem_drop (List.mem_of_mem_take (by rw[←HE.out];exact hd)))
        have HLr:Hid (Lies wr (some ⟨g,32*j,none⟩) (i64s es)):=fun i hi=>by
         have hi':i<es.length:=by simpa [i64s] using hi
         have hlr:=Stand.lies HR.out.stand (by decide) HT4.out HL4.out
         obtain⟨b',o',e',hc⟩:=hlr (32*j+i) (by rw[i64s_len,hdl];omega)
         obtain⟨rfl,rfl⟩:g=b'/\0=o':=by simpa using e'
         refine⟨g,32*j,rfl,?_⟩
         rw[Nat.zero_add] at hc
         rw[hc]
         simp[i64s,HE.out]
        have hroom:=HR.out.room
        have hjb:j<=20000:=by omega
        have HSB:Hid (m1++stepsB ds (j+1)=m1++stepsB ds j++blkB es):=by
         show _=_
         rw[stepsB_succ,stepB,←HE.out,List.append_assoc]
        have hbl:=blkB_len (ds:=es) (by omega) (by omega) HEX.out
        have HOr:Hid (OwnM wr w.heap.size u7 (m1++stepsB ds j)):=HR.out.own
        have HSt:Hid (Stand w4 wr):=HR.out.stand
        obtain⟨p,HP⟩:∃p,Hid (p=es.length):=⟨_,rfl⟩
        have hpi:min 32 (c':Int)=(p:Int):=by rw[HP.out,hel];omega
        have hpc:p<=c'/\p<=32/\0<p:=by rw[HP.out,hel];omega
        have HPL:Hid (p<32->p=c'):=fun h=>by rw[HP.out,hel] at *;omega
        have HAB:=fun W h1 h2 h3 h4=>appendBlock_any w.heap.size g (32*j) c' u7 (m1++stepsB ds j) es W h1 h2 h3 (by omega) (by omega) HEX.out h4
        rw[←HP.out] at HAB
        clear hel
        go_wp2_with fail
        refine (HAB wr HOr.out hb.size HLr.out (by omega)).mono ?_
        rintro e w5 ⟨v5,rfl,hown5,hb5,hst5⟩
        rw[←HSB.out] at hown5
        have HO5:Hid (OwnM w5 w.heap.size v5 (m1++stepsB ds (j+1))):=hown5
        have HS5:Hid (Stand w4 w5):=Stand.trans HSt.out hst5
        have hb5w:=hb.trans hb5
        clear hown5 hst5 HAB
        go_wp2_with fail
        have hpl:=HPL.out
        refine⟨⟨j+1,c'-p,_,c'-p,⟨rfl,fun h=>?_,fun h=>by omega,?_,HO5.out,HS5.out⟩,hb5w⟩,by simp only[slLen];omega⟩
        · have h32:p=32:=by omega
          refine⟨?_,rfl,by omega⟩
          rw[if_neg (by omega),h32,Nat.mul_add]
        · rw[HSB.out,List.length_append];omega
 · exact absurd (HK.out i hi) hN
theorem delta_fault (a:Option Addr)(vs:List Vl)(c:Nat)(kd:Int)(w:World)(kt:TypeId)(kp:Value)(hgk:w.cell? ⟨3,0,none⟩=some (.iface kt kp))(hn:vs.length<=20000)(hk1:1<=kd/\kd<=5)(hl:LiesV w a vs)(hno:¬ ∀j (h:j<vs.length),vs[j].Ok kd) :
    Calls Tryz.prog 104 #[.int .i64 kd,.slice a vs.length c] w fun e w'=>(∃i p,∃hi:i<vs.length,e=.returned (.tuple #[.string ⟨#[]⟩,.iface 83 (.pointer (some ⟨p,0,none⟩))])/\(∀j (h:j<vs.length),j<i->vs[j].Ok kd)/\¬ vs[i].Ok kd/\w'.cell? ⟨p,0,none⟩=some (.int .i64 i)/\w'.cell? ⟨p,1,none⟩=some (.iface kt kp))/\Below w.heap.size w w':=by
 have HL:Hid (LiesV w a vs):=hl
 have HK:Hid (¬ ∀j (h:j<vs.length),vs[j].Ok kd):=hno
 have HGK:Hid _:=hgk
 clear hl hno hgk
 go_enter Tryz.func104,Tryz.ntmps104
 go_wp2_with fail
 refine (checkE_any a vs c kd w kt kp hn hk1.1 hk1.2 HGK.out HL.out).mono ?_
 rintro e w1 ⟨⟨rfl,hN⟩|⟨i,p,hi,rfl,h1,h2,h3,h4⟩,hb1⟩
 · exact absurd hN HK.out
 · have HR:Hid (∃i' p',∃hi:i'<vs.length,Ending.returned (.tuple #[.string ⟨#[]⟩,.iface 83 (.pointer (some ⟨p,0,none⟩))])=.returned (.tuple #[.string ⟨#[]⟩,.iface 83 (.pointer (some ⟨p',0,none⟩))])/\(∀j (h:j<vs.length),j<i'->vs[j].Ok kd)/\¬ vs[i'].Ok kd/\w1.cell? ⟨p',0,none⟩=some (.int .i64 i')/\w1.cell? ⟨p',1,none⟩=some (.iface kt kp)):=⟨i,p,hi,rfl,h1,h2,h3,h4⟩
   clear h1 h2 h3 h4
   go_wp2
   go_ret2
   exact⟨HR.out,hb1⟩
def bkd (least:Int)(s:List UInt8)(wd n:Nat):List Int:=(unw s wd n).map fun x:Nat=>wrap64 (least+wrap64 (x:Int))
theorem bkd_len (least:Int)(s:List UInt8)(wd n:Nat):(bkd least s wd n).length=n:=by simp[bkd,unw_len]
def rdBk (s:List UInt8)(n:Nat):Option (List Int × Nat) :=
 let p:=Um.rdv s 0 0
 let wd:=(s.getD p.2 0).toNat
 if 0<p.2/\p.2<s.length/\wd<=64/\p.2+1+(n*wd+7) / 8<=s.length then
  some (bkd (unz p.1) ((s.drop (p.2+1)).take ((n*wd+7) / 8)) wd n,p.2+1+(n*wd+7) / 8)
 else none
theorem Typed.apart {g g' ty ty':Nat}{w:World}(h:Typed g ty w)(h':Typed g' ty' w)(hne:ty≠ty'):g≠g':=by
 rintro rfl
 obtain⟨cs,z,e⟩:=h
 obtain⟨cs',z',e'⟩:=h'
 rw[e] at e'
 injection e' with e'
 injection e' with _ e' _
 exact hne e'
theorem Lies.set {w:World}{g g' i o:Nat}{cs:List Value}(h:Lies w (some ⟨g,o,none⟩) cs)(hne:g≠g')(v:Value):Lies (w.setCell ⟨g',i,none⟩ v) (some ⟨g,o,none⟩) cs:=fun j hj=>by
 obtain⟨b,o',e,hc⟩:=h j hj
 refine⟨b,o',e,?_⟩
 injection e with e
 injection e with e1 e2 _
 subst e1
 rw[World.cell?_setCell_other _ _ _ _ (fun e'=>hne (by injection e' with e' _;exact e'.symm))]
 exact hc
def RetBk (o:Option (List Int × Nat))(n:Nat)(ev:Value)(e:Ending)(w':World):Prop :=
 (∃ds k g,o=some (ds,k)/\e=.returned (.tuple #[.slice (some ⟨g,0,none⟩) n n,.int .i64 (k:Nat),.nilIface])/\Lies w' (some ⟨g,0,none⟩) (i64s ds)/\Typed g 2 w')\/(o=none/\e=.returned (.tuple #[.slice none 0 0,.int .i64 0,ev]))
theorem readBlock_any (s:ByteArray)(n:Nat)(w:World)(st:TypeId)(sp:Value)(hg:w.cell? ⟨2,0,none⟩=some (.iface st sp))(hs:s.size<=1000000)(hn:n<=32) :
    Calls Tryz.prog 186 #[.string s,.int .i64 n] w fun e w'=>RetBk (rdBk s.data.toList n) n (.iface st sp) e w'/\Below w.heap.size w w':=by
 have hm:s.size<=maxLen:=by unfold maxLen;omega
 generalize hp:Um.rdv s.data.toList 0 0=p
 obtain⟨m,i⟩:=p
 have HP:Hid (Um.rdv s.data.toList 0 0=(m,i)):=hp
 have hroom:=Um.rdv_room s.data.toList 0 0 (by simp)
 rw[hp] at hroom
 have hi10:i<=10:=hroom.2.1
 have hil:i<=s.size:=by have:=hroom.2.2;simpa using this
 have hz:s.data.toList.length=s.size:=Array.length_toList
 have HRB:Hid (rdBk s.data.toList n=if 0<i/\i<s.size/\(s.data.toList.getD i 0).toNat<=64/\i+1+(n*(s.data.toList.getD i 0).toNat+7) / 8<=s.size then some (bkd (unz m) ((s.data.toList.drop (i+1)).take ((n*(s.data.toList.getD i 0).toNat+7) / 8)) (s.data.toList.getD i 0).toNat n,i+1+(n*(s.data.toList.getD i 0).toNat+7) / 8) else none):=by
  show _=_
  unfold rdBk
  simp only[hp,hz]
 clear hp hroom hz
 by_cases hi:0<i
 · by_cases his:i<s.size
   · have hgd : (s.data.toList.getD i 0).toNat = s[i].toNat := by
       have h1:i<s.data.toList.length:=by rw[Array.length_toList];exact his
       rw[List.getD_eq_getElem?_getD,List.getElem?_eq_getElem h1]
       rfl
     rw[hgd] at HRB
     clear hgd
     obtain⟨wd,hwd⟩:∃wd,s[i].toNat=wd:=⟨_,rfl⟩
     have HWD:Hid (s[i].toNat=wd):=hwd
     clear hwd
     have hne:((i:Int) == (s.size:Int))=false:=by simp;omega
     have hwdi:(s[i].toNat:Int)=(wd:Int):=by rw[HWD.out]
     rw[HWD.out] at HRB
     by_cases hw64:wd<=64
     · have hw2:decide (64<(wd:Int))=false:=by simp;omega
       go_enter Tryz.func186,Tryz.ntmps186
       go_wp2_with fail
       refine (readV_hit s _ _ m i hm hg HP.out hi).mono ?_
       rintro e w1 ⟨rfl,hb1⟩
       have hg1:=(hb1.cell (World.block_lt_of_cell? w _ hg)).trans hg
       go_wp2_with fail
       refine (bytesOf_any n wd _ (by omega) hw64).mono ?_
       rintro e w2 ⟨rfl,hw⟩
       obtain rfl:=hw.symm
       have hnm:=Nat.mul_le_mul hn hw64
       obtain⟨k,HK⟩:∃k,Hid (k=(n*wd+7) / 8):=⟨_,rfl⟩
       have hk300:k<=300:=by rw[HK.out];omega
       have HKS:Hid (n*wd<=8*k):=by show _<=_;rw[HK.out];omega
       rw[←HK.out] at HRB ⊢
       clear hnm
       by_cases hf:i+1+k<=s.size
       · obtain⟨f,HF⟩:∃f,Hid (f=i+1+k):=⟨_,rfl⟩
         have hfi:(i:Int)+1+(k:Int)=(f:Int):=by rw[HF.out];omega
         obtain⟨iv,hvi,hv0,hv1,hv2⟩:=info_parts Tryz.infoI64
         obtain⟨M,hM⟩:∃M,M=madeCells (Value.int .i64 0).cells (((n:Nat):Int).toNat*iv.size):=⟨_,rfl⟩
         have hMs:M.size=n:=by rw[hM,size_madeCells,hv1];simp
         have hmk:∀W:World,(Instr.makeSlice 178 (.int .i64 (n:Int)) (.int .i64 (n:Int))).run Tryz.prog W=.ok (.slice (some ⟨W.heap.size,0,none⟩) n n) (W.alloc (.cells M 2)):=fun W=>by
          have h:=run_make (P:=Tryz.prog) W 178 2 iv (.int .i64 0) Tryz.underlyingI64s hvi hv0 .i64 .i64 (n:Int) (n:Int) (by omega) (by omega) (by rw[hv2];omega) (by omega)
          rw[←hM] at h
          simpa using h
         have hfs:f<=s.size:=by rw[HF.out];exact hf
         have hif:i+1<=f:=by rw[HF.out];omega
         have hxz:(s.extract (i+1) f).size=k:=by rw[ByteArray.size_extract,HF.out];omega
         have HXL:Hid ((s.extract (i+1) f).data.toList=(s.data.toList.drop (i+1)).take k):=by
          show _=_
          rw[HF.out,ext_take]
         have HY:Hid (rdBk s.data.toList n=some (bkd (unz m) (s.extract (i+1) f).data.toList wd n,f)):=by
          show _=_
          rw[HRB.out,if_pos ⟨hi,his,hw64,hf⟩,HXL.out,HF.out]
         obtain⟨g,hg0⟩:∃g,g=w1.heap.size:=⟨_,rfl⟩
         have HS:Hid (GRow (fun j=>.int .i64 ((bkd (unz m) (s.extract (i+1) f).data.toList wd n).getD j 0)) n w1.heap.size w1 (w1.alloc (.cells M 2)) 0):=GRow.start _ _ _ _ _ hMs
         clear hM hMs hg0
         go_wp2_with fail
         refine (unpackWide_any (s.extract (i+1) f) wd n _ hw64 (by omega) (by rw[hxz];exact HKS.out) (by omega)).mono ?_
         rintro e w2 ⟨⟨g2,rfl,hl2,hT2⟩,hb2⟩
         have HS2:Hid _:=HS.out.keep (by simp) hb2
         have HL2:Hid _:=hl2
         have HT2:Hid (Typed w1.heap.size 2 w2):=Typed.keep (Typed.new w1 M 2) hb2
         have hap:g2≠w1.heap.size:=Typed.apart hT2 (Typed.keep (Typed.new w1 M 2) hb2) (by decide)
         have hsl2:w1.heap.size<w2.heap.size:=Nat.lt_of_lt_of_le (by simp) hb2.size
         have HBK:Hid (∀j (h:j<(unw (s.extract (i+1) f).data.toList wd n).length),(bkd (unz m) (s.extract (i+1) f).data.toList wd n).getD j 0=wrap64 (unz m+wrap64 ((unw (s.extract (i+1) f).data.toList wd n)[j]:Nat))):=fun j h=>by
          unfold bkd
          rw[List.getD_eq_getElem?_getD,List.getElem?_map,List.getElem?_eq_getElem h]
          rfl
         have hul:=unw_len (s.extract (i+1) f).data.toList wd n
         have hbl:=bkd_len (unz m) (s.extract (i+1) f).data.toList wd n
         have HBL:Hid _:=hbl
         clear HS hmk hl2 hT2 hbl
         generalize bkd (unz m) (s.extract (i+1) f).data.toList wd n=bs at *
         generalize unw (s.extract (i+1) f).data.toList wd n=us at *
         go_wp2_with fail
         go_loopw [58] (fun x wr=>∃q:Nat,q<=n/\x=.int .i64 q/\w1.heap.size<wr.heap.size/\Hid (GRow (fun j=>.int .i64 (bs.getD j 0)) n w1.heap.size w1 wr q)/\Hid (Lies wr (some ⟨g2,0,none⟩) (u64s us))/\Hid (Typed w1.heap.size 2 wr)) (fun x _=>n-(intOf x).toNat)
         case atStart=>exact⟨0,Nat.zero_le _,rfl,hsl2,HS2,HL2,HT2⟩
         case round =>
          clear HS2 HL2 HT2 hsl2
          obtain⟨q,hqn,rfl,hsl,HV,HU,HTy⟩:=hrel
          have hb:=HV.out.old
          by_cases hlt:q<n
          · obtain⟨b',o',e',hc⟩:=lies_u64s HU.out q (by omega)
            obtain⟨rfl,rfl⟩:g2=b'/\0=o':=by simpa using e'
            clear e'
            rw[Nat.zero_add] at hc
            have HE:=HBK.out q (by omega)
            generalize us[q]'(by omega)=u at *
            have HE2:Hid _:=HE
            clear HE
            obtain⟨y0,q0⟩:=HV.out.any q hlt
            have f0:=HV.out.froz q hlt
            go_wp2
            refine⟨⟨q+1,by omega,by go_num,by simpa using hsl,?_,?_,HTy.out.set _ _⟩,by simp[intOf];omega⟩
            · exact HV.out.next (Nat.le_refl _) hlt (by rw[HE2.out])
            · exact Lies.set HU.out hap _
          · obtain rfl:q=n:=by omega
            have HLV:Hid (Lies wr (some ⟨w1.heap.size,0,none⟩) (i64s bs)):=fun j hj=>by
             rw[i64s_len,HBL.out] at hj
             refine⟨w1.heap.size,0,rfl,?_⟩
             have hj':j<bs.length:=by rw[HBL.out];exact hj
             rw[Nat.zero_add,HV.out.done j hj]
             simp[i64s,List.getD,hj']
            go_wp2
            go_ret3
            exact⟨Or.inl ⟨bs,f,_,HY.out,rfl,HLV.out,HTy.out⟩,hb1.trans (hb.mono hb1.size)⟩
       · have HNo:Hid (rdBk s.data.toList n=none):=by show _=_;rw[HRB.out,if_neg (by omega)]
         go_wp2
         go_region
         all_goals (try go_wp2)
         all_goals go_ret3
         all_goals exact⟨Or.inr ⟨HNo.out,rfl⟩,hb1.drew⟩
     · have HNo:Hid (rdBk s.data.toList n=none):=by show _=_;rw[HRB.out,if_neg (by omega)]
       have hw2:decide (64<(wd:Int))=true:=by simp;omega
       go_enter Tryz.func186,Tryz.ntmps186
       go_wp2_with fail
       refine (readV_hit s _ _ m i hm hg HP.out hi).mono ?_
       rintro e w1 ⟨rfl,hb1⟩
       have hg1:=(hb1.cell (World.block_lt_of_cell? w _ hg)).trans hg
       go_wp2
       go_region
       all_goals (try go_wp2)
       all_goals go_ret3
       all_goals exact⟨Or.inr ⟨HNo.out,rfl⟩,hb1.drew⟩
   · have HNo:Hid (rdBk s.data.toList n=none):=by show _=_;rw[HRB.out,if_neg (by omega)]
     obtain rfl:i=s.size:=by omega
     go_enter Tryz.func186,Tryz.ntmps186
     go_wp2_with fail
     refine (readV_hit s _ _ m s.size hm hg HP.out hi).mono ?_
     rintro e w1 ⟨rfl,hb1⟩
     have hg1:=(hb1.cell (World.block_lt_of_cell? w _ hg)).trans hg
     go_wp2
     go_region
     all_goals (try go_wp2)
     all_goals go_ret3
     all_goals exact⟨Or.inr ⟨HNo.out,rfl⟩,hb1.drew⟩
 · obtain rfl:i=0:=by omega
   have HNo:Hid (rdBk s.data.toList n=none):=by show _=_;rw[HRB.out,if_neg (by omega)]
   have HP0:Hid (Um.rdv s.data.toList 0 0=(0,0)):=by
    show _=_
    rw[HP.out,Um.rdv_zero HP.out]
   go_enter Tryz.func186,Tryz.ntmps186
   go_wp2_with fail
   refine (readV_miss s _ st sp hm hg HP0.out).mono ?_
   rintro e w1 ⟨rfl,hb1⟩
   go_wp2
   go_ret3
   exact⟨Or.inr ⟨HNo.out,rfl⟩,hb1⟩
end Go.Proofs.YtoeiahdjamkdgaaGreatDoor
