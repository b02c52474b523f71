/-
  enc.plainTexts and enc.plainBools: the bytes of texts; of numbers 0 or 1.
  enc.plainBools and enc.Plain: the bytes of values.
  A row of the call's own with its cells' type: it stands where bytes are appended.
  enc.differences: each number less the one ahead of it.
  enc.packWide: numbers of up to 64 bits, as bitrun.Pack fills bytes.
-/
import Derived.Test.YtoeiahdjamkdgaaGreatDoorWBOwn
import Derived.Test.YtoeiahdjamkdgaaGreatDoorWBPack
import Derived.Test.YtoeiahdjamkdgaaGreatDoorWBClone
set_option maxRecDepth 100000
set_option maxHeartbeats 1600000
namespace Go.Proofs.YtoeiahdjamkdgaaGreatDoor
open Go.RowKit
theorem text_bytes (s:ByteArray):((⟨(Um.uv s.size).toArray⟩:ByteArray)++s).data.toList=Um.txt s.data.toList:=by
 rw[ByteArray.data_append,Array.toList_append]
 show _=Um.uv s.data.toList.length++_
 rw[Array.length_toList];rfl
theorem plainTexts_any (a:Option Addr)(vs:List Vl)(c:Nat)(w:World)(hn:vs.length<=20000)(hl:LiesV w a vs)(hx:∀s∈vss vs,s.length<=100) :
    Calls Tryz.prog 136 #[.slice a vs.length c] w fun e w'=>e=.returned (.string ⟨(Um.txts (vss vs)).toArray⟩)/\Below w.heap.size w w':=by
 obtain⟨i0,hi,hz0,hz1,hz2⟩:=info_parts Tryz.info5
 have HL:Hid (LiesV w a vs):=hl
 have HX:Hid (∀s∈vss vs,s.length<=100):=hx
 clear hl hx
 go_enter Tryz.func136,Tryz.ntmps136
 go_wp2
 go_loopw [3,8] (fun b x wr=>∃i:Nat,i<=vs.length/\x=.int .i64 i/\Hid (wr.ownsRow w.heap.size 5 1 b (Um.txts ((vss vs).take i)).length (cellsOf (Um.txts ((vss vs).take i))))/\Below w.heap.size w wr) (fun _ x _=>vs.length-(intOf x).toNat)
 case atStart=>exact⟨0,Nat.zero_le _,rfl,World.ownsRow_nil w w.heap.size 5 1,Below.refl _ _⟩
 case round =>
  obtain⟨i,hik,rfl,HO,hb⟩:=hrel
  generalize hwr0:wr=wr0 at *
  by_cases hlt:i<vs.length
  · obtain⟨b,o,rfl,hc0,hc1,hc2⟩:=(HL.out.keep hb) i hlt
    have hlv:i<(vss vs).length:=by rw[vss_len];exact hlt
    have HN:Hid (Um.txts ((vss vs).take (i+1))=Um.txts ((vss vs).take i)++Um.txt vs[i].s.data.toList):=by
     show _=_
     rw[Um.txts_take (vss vs) i hlv]
     simp[vss]
    have hsl:vs[i].s.size<=100:=by
     have h:=HX.out (vss vs)[i] (List.getElem_mem hlv)
     simpa [vss] using h
    have hnl:(Um.txts ((vss vs).take i)).length<=110*20000:=by
     refine Nat.le_trans (Um.txts_len _ (fun s hs=>HX.out s (List.mem_of_mem_take hs))) (Nat.mul_le_mul_left _ ?_)
     rw[List.length_take];omega
    have htl:=Um.txt_len vs[i].s.data.toList (by rw[Array.length_toList];show vs[i].s.size<_;omega)
    rw[Array.length_toList] at htl
    clear hlv
    generalize Um.txts ((vss vs).take i)=l at *
    generalize vs[i]=v at *
    obtain⟨k,n,s⟩:=v
    simp only at hc0 hc1 hc2 HN hsl htl
    change (Um.txt s.data.toList).length<=s.size+10 at htl
    go_wp2_with fail
    refine (text_any s _ (by omega)).mono ?_
    rintro e w1 ⟨rfl,hb1⟩
    have hob:=hb.alloc hb.size (.cells #[.int .i64 k,.int .i64 n,.string s] 46)
    have hb2:=hob.trans (hb1.mono hob.size)
    have hown:=ow_kept (HO.out.alloc (.cells #[.int .i64 k,.int .i64 n,.string s] 46)) hb1
    have htb:=text_bytes s
    generalize (⟨(Um.uv s.size).toArray⟩:ByteArray)++s=t at htb
    have hts:t.size=(Um.txt s.data.toList).length:=by rw[←htb,Array.length_toList];rfl
    obtain⟨v',w',hr,hown',hgrow,_⟩:=Lib.run_append_own_string (P:=Tryz.prog) w1 w.heap.size 58 9 58 5 i0 Tryz.underlying58 Tryz.underlying9 hi hz0 hz1 hz2 _ _ _ hown t (by unfold maxLen;omega) (by omega) hb2.size
    have hown2:=ow_str hown'
    rw[htb,←HN.out] at hown2
    have hb3:=below_grown hb2 (Nat.le_refl _) hown hgrow
    clear hown hown' hgrow hts htb hc0 hc1 hc2
    go_wp2_with (at_builtin;refine Lib.wpList_append_run _ rfl _ _ 58 9 rfl _ _ rfl rfl _ _ hr ?_)
    go_roundw
    case rel=>exact⟨i+1,by omega,by go_num,hown2,hb3⟩
    case measure=>simp[intOf];omega
  · obtain rfl:i=vs.length:=by omega
    have ho:=HO.out
    rw[←vss_len,List.take_length] at ho
    have hcv:=ow_conv rfl ho
    go_wp2
    go_ret
    exact⟨rfl,hb⟩
theorem GRow.keep {f:Nat->Value}{k g:Nat}{w wr w':World}{i:Nat}(h:GRow f k g w wr i)(hg:g<wr.heap.size)(hb:Below wr.heap.size wr w'):GRow f k g w w' i :=
 ⟨fun j hj=>(hb.cell hg).trans (h.done j hj),fun j hj=>(h.any j hj).imp fun _ hv=>(hb.cell hg).trans hv,fun j hj=>(hb.frozen hg).trans (h.froz j hj),h.old.trans (hb.mono h.old.size)⟩
theorem room_one {n:Int}(h:n=0\/n=1):Room 1 n:=by unfold Room;omega
theorem packF_right (a:Option Addr)(xs:List Int)(m c k:Nat)(w:World)(st:TypeId)(sp:Value)(hm:xs.length=m)(hn:m<=20000)(hk:k<=32)(hg:w.cell? ⟨0,0,none⟩=some (.iface st sp))
    (hr:∀x∈xs,Room k x) (ha:∀j (h:j<xs.length),∃b o,a=some ⟨b,o,none⟩/\w.cell? ⟨b,o+j,none⟩=some (.int .i64 xs[j])) :
    Calls Tryz.prog 154 #[.slice a m c,.int .i64 k] w fun e w'=>e=.returned (.tuple #[.string ⟨(packed k xs).toArray⟩,.nilIface])/\Below w.heap.size w w':=by
 subst hm
 refine (packF_any a xs c k w st sp hn hk hg (fun j h=>?_) ha).mono ?_
 · have h1:=hr _ (List.getElem_mem h)
   have h2:(2:Int) ^ k<=2 ^ 32:=by
    have e:∀m:Nat,((2 ^ m:Nat):Int)=(2:Int) ^ m:=fun m=>by simp
    rw[←e k,←e 32]
    exact Int.ofNat_le.2 (Nat.pow_le_pow_right (by omega) hk)
   unfold Room at h1
   omega
 · rintro e w1 ⟨⟨rfl,_⟩|⟨i,p,hi,rfl,_,hN,_,_⟩,hb1⟩
   · exact⟨rfl,hb1⟩
   · exact absurd (hr _ (List.getElem_mem hi)) hN
theorem plainBools_any (a:Option Addr)(vs:List Vl)(c:Nat)(w:World)(st:TypeId)(sp:Value)(hg:w.cell? ⟨0,0,none⟩=some (.iface st sp))(hn:vs.length<=20000)(hl:LiesV w a vs)(hx:∀n∈vns vs,n=0\/n=1) :
    Calls Tryz.prog 135 #[.slice a vs.length c] w fun e w'=>e=.returned (.tuple #[.string ⟨(packed 1 (vns vs)).toArray⟩,.nilIface])/\Below w.heap.size w w':=by
 obtain⟨i0,hi,hz0,hz1,hz2⟩:=info_parts Tryz.info3
 obtain⟨M,hM⟩:∃M,M=madeCells (Value.int .i64 0).cells (((vs.length:Nat):Int).toNat*i0.size):=⟨_,rfl⟩
 have hMs:M.size=vs.length:=by rw[hM,size_madeCells,hz1];simp
 have hmk:∀W:World,(Instr.makeSlice 22 (.int .i64 (vs.length:Int)) (.int .i64 (vs.length:Int))).run Tryz.prog W=.ok (.slice (some ⟨W.heap.size,0,none⟩) vs.length vs.length) (W.alloc (.cells M 3)):=fun W=>by
  have h:=run_make (P:=Tryz.prog) W 22 3 i0 (.int .i64 0) Tryz.underlying22 hi hz0 .i64 .i64 (vs.length:Int) (vs.length:Int) (by omega) (by omega) (by rw[hz2];omega) (by omega)
  rw[←hM] at h
  simpa using h
 have HS:Hid (GRow (fun j=>.int .i64 ((vns vs).getD j 0)) vs.length w.heap.size w (w.alloc (.cells M 3)) 0):=GRow.start _ _ _ _ _ hMs
 have HL:Hid (LiesV w a vs):=hl
 have HX:Hid (∀n∈vns vs,n=0\/n=1):=hx
 have HG:Hid _:=hg
 clear hl hx hM hMs hg
 go_enter Tryz.func135,Tryz.ntmps135
 go_wp2
 clear hmk
 go_loopw [12] (fun x wr=>∃i:Nat,i<=vs.length/\x=.int .i64 i/\Hid (GRow (fun j=>.int .i64 ((vns vs).getD j 0)) vs.length w.heap.size w wr i)/\w.heap.size<wr.heap.size) (fun x _=>vs.length-(intOf x).toNat)
 case atStart=>exact⟨0,Nat.zero_le _,rfl,HS,by simp⟩
 case round =>
  obtain⟨i,hik,rfl,HO,hsz⟩:=hrel
  have hb:=HO.out.old
  by_cases hlt:i<vs.length
  · obtain⟨b,o,rfl,hc0,hc1,hc2⟩:=(HL.out.keep hb) i hlt
    have HV:Hid ((vns vs).getD i 0=vs[i].n):=by show _=_;simp[vns,List.getD,hlt]
    generalize vs[i]=v at *
    obtain⟨k,n,s⟩:=v
    simp only at hc0 hc1 hc2 HV
    have HO2:Hid _:=HO.out.keep hsz ((Below.refl wr.heap.size wr).alloc (Nat.le_refl _) (.cells #[.int .i64 k,.int .i64 n,.string s] 46))
    obtain⟨y,hy⟩:=HO2.out.any i hlt
    have hf:=HO2.out.froz i hlt
    have hq:=World.block_lt_of_cell? wr _ hc0
    simp only at hq
    go_wp2
    go_roundw
    case rel=>exact⟨i+1,by omega,by go_num,(HO.out.next (v:=.int .i64 n) (Nat.le_refl _) hlt (by rw[HV.out])).keep (by simpa using hsz) ((Below.refl _ _).alloc (Nat.le_refl _) _),by simp;omega⟩
    case measure=>simp[intOf];omega
  · obtain rfl:i=vs.length:=by omega
    have hg:=(hb.cell (World.block_lt_of_cell? w _ HG.out)).trans HG.out
    go_wp2_with fail
    refine (packF_right (some ⟨w.heap.size,0,none⟩) (vns vs) vs.length vs.length 1 wr st sp (vns_len vs) hn (by omega) hg (fun x hx=>room_one (HX.out x hx))
     (fun j h=>⟨w.heap.size,0,rfl,by rw[Nat.zero_add,HO.out.done j (by rw[←vns_len vs];exact h)];simp[List.getD,h]⟩)).mono ?_
    rintro e w1 ⟨rfl,hb1⟩
    go_wp2_with fail
    go_ret2
    exact⟨rfl,hb.trans (hb1.mono hb.size)⟩
theorem ret_pl {a b:List UInt8}{x:Value}(h:a=b):Ending.returned (.tuple #[.string ⟨b.toArray⟩,x])=.returned (.tuple #[.string ⟨a.toArray⟩,x]):=by rw[h]
def plainB (kd:Int)(vs:List Vl):List UInt8:=if kd=1 then packed 1 (vns vs) else if kd=4 then Um.txts (vss vs) else Um.nums (if kd=2 then 4 else 8) (vns vs)
theorem plain_right (a:Option Addr)(vs:List Vl)(c:Nat)(kd:Int)(w:World)(kt st:TypeId)(kp sp:Value)(hgk:w.cell? ⟨3,0,none⟩=some (.iface kt kp))(hgs:w.cell? ⟨0,0,none⟩=some (.iface st sp))(hn:vs.length<=20000)(hk:1<=kd)(hk5:kd<=5)(hl:LiesV w a vs)(hok:∀j (h:j<vs.length),vs[j].Ok kd)
    (hx:∀j (h:j<vs.length),-9223372036854775808<=vs[j].n/\vs[j].n<=9223372036854775807) :
    Calls Tryz.prog 100 #[.int .i64 kd,.slice a vs.length c] w fun e w'=>e=.returned (.tuple #[.string ⟨(plainB kd vs).toArray⟩,.nilIface])/\Below w.heap.size w w':=by
 have HL:Hid (LiesV w a vs):=hl
 have HK:Hid (∀j (h:j<vs.length),vs[j].Ok kd):=hok
 have HX:Hid (∀j (h:j<vs.length),-9223372036854775808<=vs[j].n/\vs[j].n<=9223372036854775807):=hx
 have HGK:Hid _:=hgk
 have HGS:Hid _:=hgs
 clear hl hok hx hgk hgs
 go_enter Tryz.func100,Tryz.ntmps100
 go_wp2_with fail
 refine (checkE_any a vs c kd w kt kp hn hk hk5 HGK.out HL.out).mono ?_
 rintro e w1 ⟨⟨rfl,_⟩|⟨i,p,hi,rfl,_,hN,_,_⟩,hb1⟩
 · have hl1:Hid _:=HL.out.keep hb1
   by_cases h1:kd=1
   · subst h1
     have HE:Hid (plainB 1 vs=packed 1 (vns vs)):=rfl
     go_wp2_with fail
     refine (plainBools_any a vs c w1 st sp ((hb1.cell (World.block_lt_of_cell? w _ HGS.out)).trans HGS.out) hn hl1.out ?_).mono ?_
     · intro n hm
       obtain⟨v,hv,rfl⟩:=List.mem_map.1 hm
       obtain⟨j,hj,rfl⟩:=List.getElem_of_mem hv
       have:=HK.out j hj
       unfold Vl.Ok OkV at this
       omega
     rintro e w2 ⟨rfl,hb2⟩
     go_wp2_with fail
     go_ret2
     exact⟨ret_pl HE.out,hb1.trans (hb2.mono hb1.size)⟩
   · by_cases h4:kd=4
     · subst h4
       have HE:Hid (plainB 4 vs=Um.txts (vss vs)):=rfl
       go_wp2_with fail
       refine (plainTexts_any a vs c w1 hn hl1.out ?_).mono ?_
       · intro s hm
         obtain⟨v,hv,rfl⟩:=List.mem_map.1 hm
         obtain⟨j,hj,rfl⟩:=List.getElem_of_mem hv
         have h:=HK.out j hj
         unfold Vl.Ok OkV at h
         rw[Array.length_toList]
         show vs[j].s.size<=100
         omega
       rintro e w2 ⟨rfl,hb2⟩
       go_wp2_with fail
       go_ret2
       exact⟨ret_pl HE.out,hb1.trans (hb2.mono hb1.size)⟩
     · by_cases h2:kd=2
       · subst h2
         have HE:Hid (plainB 2 vs=Um.nums 4 (vns vs)):=rfl
         go_wp2_with fail
         refine (sizeOf_int _).mono ?_
         rintro e w2 ⟨rfl,hw⟩
         obtain rfl:=hw.symm
         go_wp2_with fail
         refine (plainNumbers_any a vs c 4 _ hn (by omega) hl1.out HX.out).mono ?_
         rintro e w2 ⟨rfl,hb2⟩
         go_wp2_with fail
         go_ret2
         exact⟨ret_pl HE.out,hb1.trans (hb2.mono hb1.size)⟩
       · have HE:Hid (plainB kd vs=Um.nums 8 (vns vs)):=by show _=_;simp[plainB,h1,h4,h2]
         go_wp2_with fail
         refine (sizeOf_long _ _ h2).mono ?_
         rintro e w2 ⟨rfl,hw⟩
         obtain rfl:=hw.symm
         go_wp2_with fail
         refine (plainNumbers_any a vs c 8 _ hn (by omega) hl1.out HX.out).mono ?_
         rintro e w2 ⟨rfl,hb2⟩
         go_wp2_with fail
         go_ret2
         exact⟨ret_pl HE.out,hb1.trans (hb2.mono hb1.size)⟩
 · exact absurd (HK.out i hi) hN
def Typed (g ty:Nat)(w:World):Prop:=∃cs z,w.heap[g]? = some (.cells cs ty z)
theorem Typed.set {g ty:Nat}{w:World}(h:Typed g ty w)(i:Nat)(v:Value):Typed g ty (w.setCell ⟨g,i,none⟩ v):=by
 obtain⟨cs,z,h⟩:=h
 simp[Typed,World.setCell,Array.getElem?_modify,h]
theorem Typed.keep {g ty:Nat}{w w':World}(h:Typed g ty w)(hb:Below w.heap.size w w'):Typed g ty w':=by
 obtain⟨cs,z,h⟩:=h
 exact⟨cs,z,blk_keep hb h⟩
theorem Typed.new (w:World)(cs:Array Value)(ty:Nat):Typed w.heap.size ty (w.alloc (.cells cs ty)):=⟨cs,(0,0),heap_alloc_new w _⟩
def RetT (e:Ending)(w':World)(n ty:Nat)(cs:List Value):Prop:=∃g,e=.returned (.slice (some ⟨g,0,none⟩) n n)/\Lies w' (some ⟨g,0,none⟩) cs/\Typed g ty w'
def Stand (w w':World):Prop:=∀g ty,ty≠5->Typed g ty w->w'.heap[g]? = w.heap[g]?
theorem Stand.refl (w:World):Stand w w:=fun _ _ _ _=>rfl
theorem Stand.typed {w w':World}(h:Stand w w'){g ty:Nat}(hty:ty≠5)(ht:Typed g ty w):Typed g ty w':=by
 obtain⟨cs,z,hh⟩:=ht
 exact⟨cs,z,(h g ty hty ⟨cs,z,hh⟩).trans hh⟩
theorem Stand.trans {w w' w'':World}(h:Stand w w')(h':Stand w' w''):Stand w w'':=fun g ty hty ht=>(h' g ty hty (h.typed hty ht)).trans (h g ty hty ht)
theorem Stand.below {w w':World}(hb:Below w.heap.size w w'):Stand w w':=fun g ty _ ht=>by
 obtain⟨cs,z,h⟩:=ht
 exact hb.block g (lt_of_block h)
theorem Stand.grown {w w':World}{B n:Nat}{v:Value}{xs:List Value}(hown:w.ownsRow B 5 1 v n xs)(hg:w.grownBy w' v.ownBlock):Stand w w':=fun g ty hty ht=>by
 obtain⟨cs,z,h⟩:=ht
 rw[ow_block hown h hty hg,h]
theorem Stand.cell {w w':World}(h:Stand w w'){g ty:Nat}(hty:ty≠5)(ht:Typed g ty w)(j:Nat):w'.cell? ⟨g,j,none⟩=w.cell? ⟨g,j,none⟩:=by
 have e:=h g ty hty ht
 simp[World.cell?,e]
theorem Stand.lies {w w':World}(h:Stand w w'){g ty o:Nat}{cs:List Value}(hty:ty≠5)(ht:Typed g ty w)(hl:Lies w (some ⟨g,o,none⟩) cs):Lies w' (some ⟨g,o,none⟩) cs:=fun j hj=>by
 obtain⟨b,o',e,hc⟩:=hl j hj
 refine⟨b,o',e,?_⟩
 injection e with e
 injection e with e1 e2 _
 subst e1
 rw[h.cell hty ht];exact hc
theorem Tryz.infoI64:(Tryz.prog.info? 2).map (fun i=>(i.zero,i.size,i.bytes))=some (some (.int .i64 0),1,8):=by kernel_rfl
theorem Tryz.underlyingI64s:Tryz.prog.underlying 178=some (.slice 2):=by kernel_rfl
def dif (vs:List Vl)(j:Nat):Int:=wrap64 ((vns vs).getD (j+1) 0-(vns vs).getD j 0)
def difs (vs:List Vl):List Int:=(List.range (vs.length-1)).map (dif vs)
theorem difs_len (vs:List Vl):(difs vs).length=vs.length-1:=by simp[difs]
theorem differences_any (a:Option Addr)(vs:List Vl)(c:Nat)(w:World)(hl:LiesV w a vs)(h1:1<=vs.length)(hn:vs.length<=20000) :
    Calls Tryz.prog 142 #[.slice a vs.length c] w fun e w'=>RetT e w' (vs.length-1) 2 (i64s (difs vs))/\Below w.heap.size w w':=by
 obtain⟨k,hk⟩:∃k,vs.length=k+1:=⟨vs.length-1,by omega⟩
 obtain⟨iv,hvi,hv0,hv1,hv2⟩:=info_parts Tryz.infoI64
 obtain⟨M,hM⟩:∃M,M=madeCells (Value.int .i64 0).cells (((k:Nat):Int).toNat*iv.size):=⟨_,rfl⟩
 have hMs:M.size=k:=by rw[hM,size_madeCells,hv1];simp
 have hmk:∀W:World,(Instr.makeSlice 178 (.int .i64 (k:Int)) (.int .i64 (k:Int))).run Tryz.prog W=.ok (.slice (some ⟨W.heap.size,0,none⟩) k k) (W.alloc (.cells M 2)):=fun W=>by
  have h:=run_make (P:=Tryz.prog) W 178 2 iv (.int .i64 0) Tryz.underlyingI64s hvi hv0 .i64 .i64 (k:Int) (k:Int) (by omega) (by omega) (by rw[hv2];omega) (by omega)
  rw[←hM] at h
  simpa using h
 have HS:Hid (GRow (fun j=>.int .i64 (dif vs j)) k w.heap.size w (w.alloc (.cells M 2)) 0):=GRow.start _ _ _ _ _ hMs
 have HST:Hid (Typed w.heap.size 2 (w.alloc (.cells M 2))):=Typed.new _ _ _
 have HL:Hid (LiesV w a vs):=hl
 have HK:Hid (vs.length=k+1):=hk
 have hk2:k<=20000:=by omega
 rw[hk]
 clear hM hMs hl h1 hn hk
 go_enter Tryz.func142,Tryz.ntmps142
 go_wp2
 clear hmk
 go_loopw [11] (fun x wr=>∃i:Nat,i<=k/\x=.int .i64 i/\w.heap.size<wr.heap.size/\Hid (GRow (fun j=>.int .i64 (dif vs j)) k w.heap.size w wr i)/\Hid (Typed w.heap.size 2 wr)) (fun x _=>k-(intOf x).toNat)
 case atStart=>exact⟨0,Nat.zero_le _,rfl,by simp,HS,HST⟩
 case round =>
  clear HS HST
  obtain⟨i,hik,rfl,hsl,HV,HTy⟩:=hrel
  have hb:=HV.out.old
  by_cases hlt:i<k
  · obtain⟨b,o,rfl,_,hc,_⟩:=(HL.out.keep hb) i (by rw[HK.out];omega)
    obtain⟨b',o',e',_,hc',_⟩:=(HL.out.keep hb) (i+1) (by rw[HK.out];omega)
    obtain⟨rfl,rfl⟩:b=b'/\o=o':=by simpa using e'
    clear e'
    have HD:Hid (dif vs i=wrap64 ((vs[i+1]'(by rw[HK.out];omega)).n-(vs[i]'(by rw[HK.out];omega)).n)):=by
     have hi1:i+1<vs.length:=by rw[HK.out];omega
     have hi0:i<vs.length:=by omega
     show _=_
     simp[dif,vns,List.getD,hi1,hi0]
    generalize (vs[i+1]'(by rw[HK.out];omega)).n=x1 at *
    generalize (vs[i]'(by rw[HK.out];omega)).n=x0 at *
    obtain⟨y0,g0⟩:=HV.out.any i hlt
    have f0:=HV.out.froz i hlt
    go_wp2
    go_region
    all_goals go_wp2
    all_goals go_roundw
    case rel =>
     refine⟨i+1,by omega,by go_num,by simpa using hsl,?_,(HTy.out.set _ _).keep (Below.refl _ _).drew⟩
     exact (HV.out.next (Nat.le_refl _) hlt (by show _=Value.int .i64 (dif vs i);rw[HD.out])).keep (by simpa using hsl) (Below.refl _ _).drew
    case measure=>simp[intOf];omega
  · obtain rfl:i=k:=by omega
    have HLV:Hid (Lies wr (some ⟨w.heap.size,0,none⟩) (i64s (difs vs))):=fun j hj=>by
     rw[i64s_len,difs_len,HK.out] at hj
     refine⟨w.heap.size,0,rfl,?_⟩
     rw[Nat.zero_add,HV.out.done j (by omega)]
     simp[i64s,difs]
    go_wp2
    go_ret
    exact⟨⟨_,rfl,HLV.out,HTy.out⟩,hb⟩
structure BRow (N nb g:Nat) (w wr:World):Prop where
 cell:∀j,j<nb->wr.cell? ⟨g,j,none⟩=some (.int .u8 (Um.by_ N j:Nat))
 froz:∀j,j<nb->wr.frozen? ⟨g,j,none⟩=false
 old:Below w.heap.size w wr
theorem BRow.put {N N' nb g q:Nat}{w wr:World}(h:BRow N nb g w wr)(hg:w.heap.size<=g)(hq:q<nb)(ho:∀j,j≠q->Um.by_ N' j=Um.by_ N j):BRow N' nb g w (wr.setCell ⟨g,q,none⟩ (.int .u8 (Um.by_ N' q:Nat))):=by
 refine⟨fun j hj=>?_,fun j hj=>by simpa using h.froz j hj,h.old.setCell hg _⟩
 by_cases e:j=q
 · subst e;exact World.cell?_setCell_same _ _ _ (h.cell j hj)
 · rw[World.cell?_setCell_other _ _ _ _ (fun e'=>e (by injection e' with _ e';exact e'.symm)),h.cell j hj,ho j e]
theorem BRow.keep {N nb g:Nat}{w wr w':World}(h:BRow N nb g w wr)(hg:g<wr.heap.size)(hb:Below wr.heap.size wr w'):BRow N nb g w w' :=
 ⟨fun j hj=>(hb.cell hg).trans (h.cell j hj),fun j hj=>(hb.frozen hg).trans (h.froz j hj),h.old.trans (hb.mono h.old.size)⟩
theorem bytesOf_any (n wd:Nat)(w:World)(hn:n<=20000)(hwd:wd<=64) :
    Calls Tryz.prog 169 #[.int .i64 n,.int .i64 wd] w fun e w'=>e=.returned (.int .i64 ((n*wd+7) / 8:Nat))/\w'=w:=by
 have hm:n*wd<=20000*64:=Nat.mul_le_mul hn hwd
 obtain⟨p,hp⟩:∃p,p=n*wd:=⟨_,rfl⟩
 have e:(n:Int)*(wd:Int)=(p:Int):=by rw[hp];simp
 rw[←hp] at hm ⊢
 clear hp
 go_enter Tryz.func169,Tryz.ntmps169
 go_wp2
 go_ret
 refine⟨?_,rfl⟩
 rw[show (((p+7) / 8:Nat):Int)=((p:Int)+7) / 8 by omega]
 rfl
theorem BRow.start (nb ty:Nat)(w:World)(M:Array Value)(hM:M=madeCells #[.int .u8 0] nb):BRow 0 nb w.heap.size w (w.alloc (.cells M ty)):=by
 subst hM
 refine⟨fun j hj=>?_,fun j _=>frozen_of_row _ w.heap.size j _ ty (heap_alloc_new w _),(Below.refl _ _).alloc (Nat.le_refl _) _⟩
 rw[cell_of_row _ w.heap.size j _ ty (0,0) (heap_alloc_new w _)]
 rw[Array.getElem?_eq_getElem (by rw[size_madeCells];exact hj)]
 simp[madeCells,Um.by_,Nat.mod_one]
theorem u8_or {a b:Nat}(ha:a<256)(hb:b<256):bits .or .u8 (a:Int) (b:Int)=((a ||| b:Nat):Int):=by
 exact u8_or_nat a b ha hb
theorem or_byte {N P n l:Nat}{q h:Nat}(hq:P / 8=q)(hh:P % 8=h)(hN:N<2 ^ P)(hn:n<2 ^ l):bits .or .u8 (Um.by_ N q:Nat) (IntKind.u64.wrap ((n:Int)*2 ^ h) % 256)=((Um.by_ (Um.putN N P n l) q:Nat):Int):=by
 have e:IntKind.u64.wrap ((n:Int)*2 ^ h) % 256=((n*2 ^ h % 256:Nat):Int):=by
  have e1:(n:Int)*2 ^ h=((n*2 ^ h:Nat):Int):=by simp
  rw[e1,IntKind.wrap_u64]
  omega
 have h1:=Um.putN_at hN hn
 rw[hq,hh] at h1
 rw[e,u8_or (by unfold Um.by_;omega) (by omega),h1]
theorem putN_eq {N x d at0 P n l t:Nat}(hP:at0+d=P)(hn:x / 2 ^ d=n)(ht:Um.tk P l=t):N+x % 2 ^ (d+t)*2 ^ at0=Um.putN (N+x % 2 ^ d*2 ^ at0) P n l:=by
 unfold Um.putN
 rw[ht,Um.low_more,hn,←hP,Nat.add_mul,Nat.pow_add 2 at0 d,Nat.mul_comm (2 ^ at0) (2 ^ d),Nat.mul_assoc,Nat.add_assoc]
theorem lies_u64s {w:World}{a:Option Addr}{xs:List Nat}(h:Lies w a (u64s xs)):∀j (h:j<xs.length),∃b o,a=some ⟨b,o,none⟩/\w.cell? ⟨b,o+j,none⟩=some (.int .u64 (xs[j]:Nat)):=fun j hj=>by
 obtain⟨b,o,e,hc⟩:=h j (by rw[u64s_len];exact hj)
 refine⟨b,o,e,?_⟩
 rw[hc];simp[u64s]
def RetRow (e:Ending)(w':World)(n:Nat)(cs:List Value):Prop:=∃g,e=.returned (.slice (some ⟨g,0,none⟩) n n)/\Lies w' (some ⟨g,0,none⟩) cs
theorem packWide_any (a:Option Addr)(xs:List Nat)(c wd:Nat)(w:World)(hl:Lies w a (u64s xs))(hn:xs.length<=20000)(hwd:wd<=64)(hx:∀x∈xs,x<2 ^ wd) :
    Calls Tryz.prog 157 #[.slice a xs.length c,.int .i64 wd] w fun e w'=>RetRow e w' ((xs.length*wd+7) / 8) (cellsOf (Um.lit (Um.num wd xs) ((xs.length*wd+7) / 8)))/\Below w.heap.size w w':=by
 obtain⟨k,hk⟩:∃k,k=(xs.length*wd+7) / 8:=⟨_,rfl⟩
 have hm:xs.length*wd<=20000*64:=Nat.mul_le_mul hn hwd
 have hkb:k<=200000:=by omega
 have HKB:Hid (xs.length*wd<=8*k):=by show _<=_;omega
 obtain⟨iv,hvi,hv0,hv1,hv2⟩:=info_parts Tryz.info5
 obtain⟨M,hM⟩:∃M,M=madeCells (Value.int .u8 0).cells (((k:Nat):Int).toNat*iv.size):=⟨_,rfl⟩
 have hMs:M=madeCells #[.int .u8 0] k:=by rw[hM,hv1];simp[Value.cells]
 have hmk:∀W:World,(Instr.makeSlice 58 (.int .i64 (k:Int)) (.int .i64 (k:Int))).run Tryz.prog W=.ok (.slice (some ⟨W.heap.size,0,none⟩) k k) (W.alloc (.cells M 5)):=fun W=>by
  have h:=run_make (P:=Tryz.prog) W 58 5 iv (.int .u8 0) Tryz.underlying58 hvi hv0 .i64 .i64 (k:Int) (k:Int) (by omega) (by omega) (by rw[hv2];omega) (by omega)
  rw[←hM] at h
  simpa using h
 have HS:Hid (BRow 0 k w.heap.size w (w.alloc (.cells M 5))):=BRow.start _ _ _ _ hMs
 have HL:Hid (Lies w a (u64s xs)):=hl
 have HX:Hid (∀x∈xs,x<2 ^ wd):=hx
 have HC:=fun W=>bytesOf_any xs.length wd W hn hwd
 rw[←hk] at HC ⊢
 clear hM hMs hl hx hk hm
 go_enter Tryz.func157,Tryz.ntmps157
 go_wp2_with (go_at_call 169;refine (HC _).mono ?_;rintro e w1 ⟨rfl,hw⟩;obtain rfl:=hw.symm)
 clear hmk HC
 go_loopw [6,18] (fun p x wr=>∃i:Nat,i<=xs.length/\x=.int .i64 i/\p=.int .i64 ((wd*i:Nat):Int)/\w.heap.size<wr.heap.size/\Hid (BRow (Um.num wd (xs.take i)) k w.heap.size w wr)) (fun _ x _=>xs.length-(intOf x).toNat)
 case atStart=>exact⟨0,Nat.zero_le _,rfl,rfl,by simp,HS⟩
 case round =>
  clear HS
  obtain⟨i,hik,rfl,rfl,hsl,HV⟩:=hrel
  have hb:=HV.out.old
  by_cases hlt:i<xs.length
  · obtain⟨b,o,rfl,hc⟩:=lies_u64s (HL.out.keep hb) i hlt
    have hx:=HX.out xs[i] (List.getElem_mem hlt)
    have HN:Hid (Um.num wd (xs.take (i+1))=Um.num wd (xs.take i)+xs[i]*2 ^ (wd*i)):=Um.num_take wd xs i hlt
    have HB:Hid (Um.num wd (xs.take i)<2 ^ (wd*i)):=Um.num_take_lt wd xs i HX.out hik
    have HW:Hid (wd*i+wd<=8*k):=by
     have h1:wd*(i+1)<=wd*xs.length:=Nat.mul_le_mul_left _ hlt
     have h2:=HKB.out
     rw[Nat.mul_comm] at h2
     show _<=_
     rw[Nat.mul_add,Nat.mul_one] at h1
     omega
    generalize xs[i]=x at *
    generalize Um.num wd (xs.take i)=N at *
    generalize ha:wd*i=at0 at *
    have HA:Hid (wd*i=at0):=ha
    clear ha
    go_wp2
    go_loopw [6,8,9] (fun p n l wq=>∃(d:Nat),d<=wd/\p=.int .i64 ((at0+d:Nat):Int)/\n=.int .u64 ((x / 2 ^ d:Nat):Int)/\l=.int .i64 ((wd-d:Nat):Int)/\w.heap.size<wq.heap.size/\Hid (BRow (N+x % 2 ^ d*2 ^ at0) k w.heap.size w wq)) (fun _ _ l _=>(intOf l).toNat)
    case atStart=>exact⟨0,Nat.zero_le _,rfl,by simp,rfl,hsl,by simpa [Nat.mod_one] using HV⟩
    case round =>
     clear HV hsl hb hc
     obtain⟨d,hdw,rfl,rfl,rfl,hsl,HV⟩:=hrel
     by_cases hdl:d<wd
     · have HBN : Hid (N + x % 2 ^ d * 2 ^ at0 < 2 ^ (at0 + d)) := by
         have h1:=Nat.mod_lt x (Nat.two_pow_pos d)
         have h2:(x % 2 ^ d+1)*2 ^ at0<=2 ^ d*2 ^ at0:=Nat.mul_le_mul_right _ h1
         have h3:=HB.out
         rw[Nat.add_mul] at h2
         show _<_
         rw[Nat.pow_add,Nat.mul_comm (2 ^ at0)]
         omega
       have HNL:Hid (x / 2 ^ d<2 ^ (wd-d)):=by
        show _<_
        rw[Nat.div_lt_iff_lt_mul (Nat.two_pow_pos d),←Nat.pow_add,show wd-d+d=wd by omega]
        exact hx
       have hP:at0+d<8*k:=by have:=HW.out;omega
       generalize hPe:at0+d=P at *
       have HP:Hid (at0+d=P):=hPe
       clear hPe
       generalize hne:x / 2 ^ d=n at *
       have HNE:Hid (x / 2 ^ d=n):=hne
       clear hne
       generalize hle:wd-d=l at *
       have HLE:Hid (wd-d=l):=hle
       have hl64:l<=64:=by omega
       have hl0:0<l:=by omega
       clear hle
       have hn64:n<18446744073709551616:=Nat.lt_of_lt_of_le HNL.out (Nat.le_trans (Nat.pow_le_pow_right (by omega) hl64) (by decide))
       have HPE:Hid (∀t,Um.tk P l=t->N+x % 2 ^ (d+t)*2 ^ at0=Um.putN (N+x % 2 ^ d*2 ^ at0) P n l):=fun t ht=>putN_eq HP.out HNE.out ht
       generalize N+x % 2 ^ d*2 ^ at0=N1 at *
       obtain⟨q,HQ⟩:∃q,Hid (P / 8=q):=⟨P / 8,rfl⟩
       obtain⟨h,HH⟩:∃h,Hid (P % 8=h):=⟨P % 8,rfl⟩
       have hq:q<k:=by rw[←HQ.out];omega
       have hh:h<8:=by rw[←HH.out];omega
       have hqi:(P:Int) / 8=(q:Int):=by rw[←HQ.out];omega
       have hhi:(P:Int) % 8=(h:Int):=by rw[←HH.out];omega
       have hcq:=HV.out.cell q hq
       have hfq:=HV.out.froz q hq
       have HOR:Hid _:=or_byte HQ.out HH.out HBN.out HNL.out
       have HV2:Hid _:=HV.out.put (Nat.le_refl _) hq (N':=Um.putN N1 P n l) fun j hj=>Um.putN_other HBN.out (by rw[HQ.out];exact hj)
       obtain⟨t,ht⟩:∃t,Um.tk P l=t:=⟨_,rfl⟩
       have htl:t=min l (8-h):=by rw[←ht,Um.tk,HH.out]
       have HT:Hid (Um.tk P l=t):=ht
       clear ht
       have HV3:Hid (BRow (N+x % 2 ^ (d+t)*2 ^ at0) k w.heap.size w ((wr.setCell ⟨w.heap.size,q,none⟩ (Value.int IntKind.u8 (bits BinOp.or IntKind.u8 (Um.by_ N1 q:Nat) (IntKind.u64.wrap (↑n*2 ^ h) % 256)))).drew)):=by
        have h:=HV2.out
        rw[HOR.out,HPE.out t HT.out]
        exact h.keep (by simpa using hsl) (Below.refl _ _).drew
       have HDD:Hid (x / 2 ^ (d+t)=n / 2 ^ t):=by show _=_;rw[Nat.pow_add,←Nat.div_div_eq_div_mul,HNE.out]
       by_cases hm:8-h<l
       · have ht8:(8:Int)-(h:Int)=(t:Int):=by omega
         have hmi:t<l:=by omega
         have hml:l≠t:=by omega
         clear htl hm
         go_wp2
         go_region
         go_wp2
         go_roundw
         case rel =>
          have hp:=HP.out
          have hle:=HLE.out
          refine⟨d+t,by omega,?_,?_,?_,by simpa using hsl,HV3⟩
          · rw[show ((at0+(d+t):Nat):Int)=(P:Int)+(t:Int) by omega]
          · rw[HDD.out];simp
          · rw[show ((wd-(d+t):Nat):Int)=(l:Int)-(t:Int) by omega]
         case measure=>simp[intOf];omega
       · obtain rfl:t=l:=by omega
         have hmi:¬ ((8:Int)-(h:Int)<(t:Int)):=by omega
         clear htl hm
         go_wp2
         all_goals go_region
         all_goals go_wp2
         all_goals go_roundw
         case rel =>
          have hp:=HP.out
          have hle:=HLE.out
          refine⟨d+t,by omega,?_,?_,?_,by simpa using hsl,HV3⟩
          · rw[show ((at0+(d+t):Nat):Int)=(P:Int)+(t:Int) by omega]
          · rw[HDD.out];simp
          · rw[show ((wd-(d+t):Nat):Int)=0 by omega]
         case measure=>simp[intOf];omega
     · obtain rfl:d=wd:=by omega
       have HV2:=HV.out
       rw[Nat.mod_eq_of_lt hx,←HN.out] at HV2
       have HV3:Hid _:=HV2
       clear HV2
       go_wp2
       refine⟨⟨i+1,by omega,by go_num,?_,hsl,HV3.out⟩,by simp[intOf];omega⟩
       rw[Nat.mul_add,Nat.mul_one,HA.out]
  · obtain rfl:i=xs.length:=by omega
    have HLV:Hid (Lies wr (some ⟨w.heap.size,0,none⟩) (cellsOf (Um.lit (Um.num wd xs) k))):=fun j hj=>by
     simp[cellsOf,Um.lit_len] at hj
     refine⟨w.heap.size,0,rfl,?_⟩
     rw[Nat.zero_add,HV.out.cell j hj,List.take_length]
     simp[cellsOf,Um.lit,Um.bt,Um.by_]
     generalize ((Um.num wd xs:Nat):Int) / 2 ^ (8*j)=z
     omega
    go_wp2
    go_ret
    exact⟨⟨_,rfl,HLV.out⟩,hb⟩
end Go.Proofs.YtoeiahdjamkdgaaGreatDoor
