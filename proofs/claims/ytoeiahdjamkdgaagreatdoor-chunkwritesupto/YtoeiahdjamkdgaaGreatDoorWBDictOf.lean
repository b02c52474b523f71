/-
  The reference's placeWidth and DictOf: what they answer of right values.
  The reference's TextsOf: the texts of values.
  The reference's BestOf.
-/
import Derived.Test.YtoeiahdjamkdgaaGreatDoorWRunsOf
import Derived.Test.YtoeiahdjamkdgaaGreatDoorWBRdBest
set_option maxRecDepth 100000
set_option maxHeartbeats 3200000
namespace Go.Proofs.YtoeiahdjamkdgaaGreatDoor
open Go.RowKit
theorem placeWidthR_any (n:Nat)(w:World)(hn:n<=20000) :
    Calls Tryz.prog 114 #[.int .i64 n] w fun e w'=>e=.returned (.int .i64 (Um.pw n:Nat))/\w'=w:=by
 by_cases h:n<2
 · have e:Um.pw n=0:=by unfold Um.pw;rw[show n-1=0 by omega];rfl
   rw[e]
   go_enter Tryz.func114,Tryz.ntmps114
   go_wp2
   go_ret
   exact⟨rfl,rfl⟩
 · obtain⟨m,rfl⟩:∃m,n=m+1:=⟨n-1,by omega⟩
   have e:Um.pw (m+1)=Lib.bitLen m:=rfl
   rw[e]
   go_enter Tryz.func114,Tryz.ntmps114
   go_wp2_with (go_at_call 45;refine (widthOf_any m _ (by omega)).mono ?_;rintro e w1 ⟨rfl,hw⟩;obtain rfl:=hw.symm)
   go_ret
   exact⟨rfl,rfl⟩
theorem dictOf_any (a:Option Addr)(vs:List Vl)(c:Nat)(kd:Int)(w:World)(hn:vs.length<=700)(hl:LiesV w a vs)(hr:Right kd vs)(us:List Vl)(ps:List Nat)(hu:Uq vs us ps) :
    Calls Tryz.prog 75 #[.int .i64 kd,.slice a vs.length c] w fun e w'=>e=.returned (.string ⟨(dictB kd us ps).toArray⟩)/\Below w.heap.size w w':=by
 have HL:Hid (LiesV w a vs):=hl
 have HU:Hid (Uq vs us ps):=hu
 have hul:=hu.len.2
 have HPS:Hid (ps.length=vs.length):=hu.len.1
 have HRU:Hid (Right kd us):=right_sub hr hu.sub
 clear hl hu hr
 go_enter Tryz.func75,Tryz.ntmps75
 go_wp2_with fail
 refine (unlikeOf_any a vs c w (by omega) HL.out).mono ?_
 rintro e w1 ⟨⟨us',ps',a2,c2,a3,c3,hu',rfl,hl2,hl3⟩,hb1⟩
 obtain⟨rfl,rfl⟩:=HU.out.fn us' ps' hu'
 have HL2:Hid (LiesV w1 a2 us):=hl2
 have HL3:Hid (Lies w1 a3 (i64s (pints ps))):=by
  show Lies _ _ _
  have e:i64s (pints ps)=pcells ps:=by simp[i64s,pints,pcells,List.map_map]
  rw[e];exact hl3
 clear hl2 hl3 hu'
 go_wp2_with fail
 refine (seven_any us.length _ (by omega)).mono ?_
 rintro e w2 ⟨rfl,hb2⟩
 have hb12:=hb1.trans (hb2.mono hb1.size)
 go_wp2_with fail
 refine (plainOf_any a2 us c2 kd w2 (by omega) (HL2.out.keep hb2) HRU.out).mono ?_
 rintro e w3 ⟨rfl,hb3⟩
 have hb13:=hb12.trans (hb3.mono hb12.size)
 have hpl:=plainB_len HRU.out
 obtain⟨pb,HPB⟩:∃pb,Hid (pb=plainB kd us):=⟨_,rfl⟩
 rw[←HPB.out] at hpl ⊢
 have hsz:(⟨pb.toArray⟩:ByteArray).size=pb.length:=by simp[ByteArray.size]
 go_wp2_with fail
 refine (long_any ⟨pb.toArray⟩ _ (by omega)).mono ?_
 rw[txt_arr,show (⟨pb.toArray⟩:ByteArray).data.toList=pb from rfl]
 rintro e w4 ⟨rfl,hb4⟩
 have hb14:=hb13.trans (hb4.mono hb13.size)
 have htl:=Um.txt_len pb (by omega)
 have hul2:=Um.uv_ten (n:=us.length) (by omega)
 have HD:Hid (dictB kd us ps=Um.uv us.length++Um.txt pb++Um.wrs (Um.pw us.length) [] (pints ps)):=by show _=_;rw[HPB.out];rfl
 generalize Um.txt pb=tb at *
 generalize Um.uv us.length=ub at *
 clear hsz
 go_wp2_with fail
 refine (placeWidthR_any us.length _ (by omega)).mono ?_
 rintro e w5 ⟨rfl,hw⟩
 obtain rfl:=hw.symm
 have hroom:=pints_room HU.out (by omega)
 have hro:=runsOf_any a3 c3 (pints ps) (Um.pw us.length) w4 (by rw[pints_len,HPS.out];omega) (Um.pw_le (by omega)) hroom (((HL3.out.keep hb2).keep hb3).keep hb4)
 rw[pints_len] at hro
 have hwl:=Um.wrs_len (Um.pw us.length) (Um.pw_le (by omega)) (pints ps) (by rw[pints_len,HPS.out];omega)
 clear hroom
 go_wp2_with fail
 refine hro.mono ?_
 clear hro
 rintro e w6 ⟨rfl,hb6⟩
 have hb16:=hb14.trans (hb6.mono hb14.size)
 generalize Um.wrs (Um.pw us.length) [] (pints ps)=wl at *
 go_wp2
 go_ret
 exact⟨by rw[HD.out,←cat3];rfl,hb16⟩
def scells (ts:List ByteArray):List Value:=ts.map .string
theorem scells_len (ts:List ByteArray):(scells ts).length=ts.length:=by simp[scells]
theorem liesS_own {w:World}{B e:Nat}{v:Value}{ts:List ByteArray}(h:w.ownsRow B e 1 v (scells ts).length (scells ts)):∃a c,v=.slice a ts.length c/\LiesS w a ts:=by
 by_cases h0:0<(scells ts).length
 · obtain⟨g,c,rfl,hl⟩:=own_lies h h0
   refine⟨_,c,by rw[scells_len],fun j hj=>?_⟩
   obtain⟨b,o,e,hc⟩:=hl j (by rw[scells_len];exact hj)
   exact⟨b,o,e,by rw[hc];simp[scells]⟩
 · rw[scells_len] at h0
   have hz:ts.length=0:=by omega
   rw[scells_len,hz] at h
   rcases h.2 with ⟨rfl,_⟩|⟨g,cap,cur,rfl,_⟩
   · exact⟨none,0,by rw[hz],fun j hj=>absurd hj (by omega)⟩
   · exact⟨_,cap,by rw[hz],fun j hj=>absurd hj (by omega)⟩
theorem textsOf_any (a:Option Addr)(vs:List Vl)(c:Nat)(w:World)(hn:vs.length<=20000)(hl:LiesV w a vs) :
    Calls Tryz.prog 78 #[.slice a vs.length c] w fun e w'=>(∃a' c',e=.returned (.slice a' vs.length c')/\LiesS w' a' (vtx vs))/\Below w.heap.size w w':=by
 obtain⟨iv,hvi,hv0,hv1,hv2⟩:=info_parts Tryz.infoS
 have HL:Hid (LiesV w a vs):=hl
 clear hl
 go_enter Tryz.func78,Tryz.ntmps78
 go_wp2
 go_loopw [3,4] (fun o x wr=>∃i:Nat,i<=vs.length/\x=.int .i64 i/\Hid (wr.ownsRow w.heap.size 9 1 o (scells (vtx (vs.take i))).length (scells (vtx (vs.take i))))/\Below w.heap.size w wr) (fun _ x _=>vs.length-(intOf x).toNat)
 case atStart=>exact⟨0,Nat.zero_le _,rfl,World.ownsRow_nil _ _ _ _,Below.refl _ _⟩
 case round =>
  obtain⟨i,hik,rfl,HO,hb⟩:=hrel
  by_cases hlt:i<vs.length
  · obtain⟨b,o,rfl,_,_,hc⟩:=(HL.out.keep hb) i hlt
    have HQ:Hid (scells (vtx (vs.take (i+1)))=scells (vtx (vs.take i))++[.string vs[i].s]):=by
     show _=_
     rw[List.take_succ_eq_append_getElem hlt]
     simp only[scells,vtx,List.map_append]
     rfl
    have hcl:(scells (vtx (vs.take i))).length<=20000:=by rw[scells_len,vtx_len,List.length_take];omega
    generalize scells (vtx (vs.take i))=cs at *
    generalize vs[i].s=t at *
    go_wp2_with (at_builtin;refine wpList_append_own _ rfl _ _ 138 rfl w.heap.size 9 iv (.string ⟨#[]⟩) 1 16 Tryz.underlying138 hvi hv0 hv1 hv2 rfl (by decide) _ cs.length cs rfl (HO.out.alloc _) ⟨_,0,none⟩ 1 1 [.string t] rfl rfl (cell_one_new _ _ _) (by intro u hu;simp at hu;subst hu;rfl) (by unfold maxLen;omega) (by omega) (by have:=hb.size;simp;omega) ?_;intro v' w3 hown3 hgrow3 _;have HO3:Hid _:=hown3;have hb3:Below w.heap.size w w3:=(hb.alloc hb.size _).grown hgrow3 (by have:=hb.size;simp;omega) (fun k hk=>(HO.out.lt k hk).1))
    go_roundw
    case rel=>exact⟨i+1,by omega,by go_num,by rw[HQ.out,List.length_append];exact HO3,hb3⟩
    case measure=>simp[intOf];omega
  · obtain rfl:i=vs.length:=by omega
    rw[List.take_length] at HO
    obtain⟨a',c',rfl,hl'⟩:=liesS_own HO.out
    have HL':Hid _:=hl'
    clear hl'
    rw[vtx_len]
    go_wp2
    go_ret
    exact⟨⟨a',c',rfl,HL'.out⟩,hb⟩
theorem bestOf_any (a:Option Addr)(vs:List Vl)(c:Nat)(kd:Int)(w:World)(hn:vs.length<=700)(hl:LiesV w a vs)(hr:Right kd vs)(us:List Vl)(ps:List Nat)(hu:Uq vs us ps) :
    Calls Tryz.prog 40 #[.int .i64 kd,.slice a vs.length c] w fun e w'=>e=.returned (.tuple #[.int .i64 (bestP kd vs us ps).1,.string (bestP kd vs us ps).2])/\Below w.heap.size w w':=by
 have HL:Hid (LiesV w a vs):=hl
 have HR:Hid (Right kd vs):=hr
 obtain⟨pb,HPB⟩:∃pb:ByteArray,Hid (pb=⟨(plainB kd vs).toArray⟩):=⟨_,rfl⟩
 obtain⟨db,HDB⟩:∃db:ByteArray,Hid (db=⟨(dictB kd us ps).toArray⟩):=⟨_,rfl⟩
 have HPF:Hid (∀W,Below w.heap.size w W->Calls Tryz.prog 74 #[.int .i64 kd,.slice a vs.length c] W fun e w'=>e=.returned (.string pb)/\Below W.heap.size W w'):=fun W hW=>by
  rw[HPB.out]
  exact plainOf_any a vs c kd W (by omega) (hl.keep hW) hr
 have HDF:Hid (∀W,Below w.heap.size w W->Calls Tryz.prog 75 #[.int .i64 kd,.slice a vs.length c] W fun e w'=>e=.returned (.string db)/\Below W.heap.size W w'):=fun W hW=>by
  rw[HDB.out]
  exact dictOf_any a vs c kd W hn (hl.keep hW) hr us ps hu
 clear hl hr hu
 have hcs:kd=1\/kd=2\/kd=3\/kd=4\/kd=5:=by have:=HR.out.1;omega
 rcases hcs with rfl|rfl|rfl|rfl|rfl
 · have HB : Hid (bestP 1 vs us ps = bst (0, pb) 1 db) := by
     show _=_
     rw[HPB.out,HDB.out]
     rfl
   go_enter Tryz.func40,Tryz.ntmps40
   go_wp2_with fail
   refine (HPF.out w (Below.refl _ _)).mono ?_
   rintro e w1 ⟨rfl,hb1⟩
   go_wp2_with fail
   refine (HDF.out w1 hb1).mono ?_
   rintro e w2 ⟨rfl,hb2⟩
   have hb12:=hb1.trans (hb2.mono hb1.size)
   by_cases h1:db.size<pb.size
   · go_wp2
     go_ret2
     exact⟨by rw[HB.out];simp[bst,h1],hb12⟩
   · go_wp2
     go_ret2
     exact⟨by rw[HB.out];simp[bst,h1],hb12⟩
 · obtain⟨tb,HTB⟩:∃tb:ByteArray,Hid (tb=⟨(deltaB vs).toArray⟩):=⟨_,rfl⟩
   have HB:Hid (bestP 2 vs us ps=bst (bst (0,pb) 1 db) 2 tb):=by
    show _=_
    rw[HPB.out,HDB.out,HTB.out]
    rfl
   have HTF:Hid (∀W,Below w.heap.size w W->Calls Tryz.prog 76 #[.slice a vs.length c] W fun e w'=>e=.returned (.string tb)/\Below W.heap.size W w'):=fun W hW=>by
    rw[HTB.out]
    exact deltaOf_any a vs c W (by omega) (HL.out.keep hW) (fun j h=>(HR.out.2 _ (List.getElem_mem h)).2.2.1)
   go_enter Tryz.func40,Tryz.ntmps40
   go_wp2_with fail
   refine (HPF.out w (Below.refl _ _)).mono ?_
   rintro e w1 ⟨rfl,hb1⟩
   go_wp2_with fail
   refine (HDF.out w1 hb1).mono ?_
   rintro e w2 ⟨rfl,hb2⟩
   have hb12:=hb1.trans (hb2.mono hb1.size)
   by_cases h1:db.size<pb.size
   · go_wp2_with fail
     refine (HTF.out w2 hb12).mono ?_
     rintro e w3 ⟨rfl,hb3⟩
     have hb13:=hb12.trans (hb3.mono hb12.size)
     by_cases h2:tb.size<db.size
     · go_wp2
       go_ret2
       exact⟨by rw[HB.out];simp[bst,h1,h2],hb13⟩
     · go_wp2
       go_ret2
       exact⟨by rw[HB.out];simp[bst,h1,h2],hb13⟩
   · go_wp2_with fail
     refine (HTF.out w2 hb12).mono ?_
     rintro e w3 ⟨rfl,hb3⟩
     have hb13:=hb12.trans (hb3.mono hb12.size)
     by_cases h2:tb.size<pb.size
     · go_wp2
       go_ret2
       exact⟨by rw[HB.out];simp[bst,h1,h2],hb13⟩
     · go_wp2
       go_ret2
       exact⟨by rw[HB.out];simp[bst,h1,h2],hb13⟩
 · obtain⟨tb,HTB⟩:∃tb:ByteArray,Hid (tb=⟨(deltaB vs).toArray⟩):=⟨_,rfl⟩
   have HB:Hid (bestP 3 vs us ps=bst (bst (0,pb) 1 db) 2 tb):=by
    show _=_
    rw[HPB.out,HDB.out,HTB.out]
    rfl
   have HTF:Hid (∀W,Below w.heap.size w W->Calls Tryz.prog 76 #[.slice a vs.length c] W fun e w'=>e=.returned (.string tb)/\Below W.heap.size W w'):=fun W hW=>by
    rw[HTB.out]
    exact deltaOf_any a vs c W (by omega) (HL.out.keep hW) (fun j h=>(HR.out.2 _ (List.getElem_mem h)).2.2.1)
   go_enter Tryz.func40,Tryz.ntmps40
   go_wp2_with fail
   refine (HPF.out w (Below.refl _ _)).mono ?_
   rintro e w1 ⟨rfl,hb1⟩
   go_wp2_with fail
   refine (HDF.out w1 hb1).mono ?_
   rintro e w2 ⟨rfl,hb2⟩
   have hb12:=hb1.trans (hb2.mono hb1.size)
   by_cases h1:db.size<pb.size
   · go_wp2_with fail
     refine (HTF.out w2 hb12).mono ?_
     rintro e w3 ⟨rfl,hb3⟩
     have hb13:=hb12.trans (hb3.mono hb12.size)
     by_cases h2:tb.size<db.size
     · go_wp2
       go_ret2
       exact⟨by rw[HB.out];simp[bst,h1,h2],hb13⟩
     · go_wp2
       go_ret2
       exact⟨by rw[HB.out];simp[bst,h1,h2],hb13⟩
   · go_wp2_with fail
     refine (HTF.out w2 hb12).mono ?_
     rintro e w3 ⟨rfl,hb3⟩
     have hb13:=hb12.trans (hb3.mono hb12.size)
     by_cases h2:tb.size<pb.size
     · go_wp2
       go_ret2
       exact⟨by rw[HB.out];simp[bst,h1,h2],hb13⟩
     · go_wp2
       go_ret2
       exact⟨by rw[HB.out];simp[bst,h1,h2],hb13⟩
 · obtain⟨tb,HTB⟩:∃tb:ByteArray,Hid (tb=⟨(Um.prefs [] (bys (vtx vs))).toArray⟩):=⟨_,rfl⟩
   have HB:Hid (bestP 4 vs us ps=bst (bst (0,pb) 1 db) 3 tb):=by
    show _=_
    rw[HPB.out,HDB.out,HTB.out]
    rfl
   go_enter Tryz.func40,Tryz.ntmps40
   go_wp2_with fail
   refine (HPF.out w (Below.refl _ _)).mono ?_
   rintro e w1 ⟨rfl,hb1⟩
   go_wp2_with fail
   refine (HDF.out w1 hb1).mono ?_
   rintro e w2 ⟨rfl,hb2⟩
   have hb12:=hb1.trans (hb2.mono hb1.size)
   by_cases h1:db.size<pb.size
   · go_wp2_with fail
     refine (textsOf_any a vs c w2 (by omega) (HL.out.keep hb12)).mono ?_
     rintro e w3 ⟨⟨a3,c3,rfl,hl3⟩,hb3⟩
     have hb23:=hb12.trans (hb3.mono hb12.size)
     have HPX:=prefixOf_any a3 (vtx vs) c3 w3 (by rw[vtx_len];omega) hl3 (fun t ht=>by obtain⟨v,hv,rfl⟩:=List.mem_map.1 ht;exact ok_bytes rfl (HR.out.2 v hv).1)
     rw[vtx_len,show mk (Um.prefs [] (bys (vtx vs)))=tb from HTB.out.symm] at HPX
     clear hl3
     go_wp2_with fail
     refine HPX.mono ?_
     clear HPX
     rintro e w4 ⟨rfl,hb4⟩
     have hb13:=hb23.trans (hb4.mono hb23.size)
     by_cases h2:tb.size<db.size
     · go_wp2
       go_ret2
       exact⟨by rw[HB.out];simp[bst,h1,h2],hb13⟩
     · go_wp2
       go_ret2
       exact⟨by rw[HB.out];simp[bst,h1,h2],hb13⟩
   · go_wp2_with fail
     refine (textsOf_any a vs c w2 (by omega) (HL.out.keep hb12)).mono ?_
     rintro e w3 ⟨⟨a3,c3,rfl,hl3⟩,hb3⟩
     have hb23:=hb12.trans (hb3.mono hb12.size)
     have HPX:=prefixOf_any a3 (vtx vs) c3 w3 (by rw[vtx_len];omega) hl3 (fun t ht=>by obtain⟨v,hv,rfl⟩:=List.mem_map.1 ht;exact ok_bytes rfl (HR.out.2 v hv).1)
     rw[vtx_len,show mk (Um.prefs [] (bys (vtx vs)))=tb from HTB.out.symm] at HPX
     clear hl3
     go_wp2_with fail
     refine HPX.mono ?_
     clear HPX
     rintro e w4 ⟨rfl,hb4⟩
     have hb13:=hb23.trans (hb4.mono hb23.size)
     by_cases h2:tb.size<pb.size
     · go_wp2
       go_ret2
       exact⟨by rw[HB.out];simp[bst,h1,h2],hb13⟩
     · go_wp2
       go_ret2
       exact⟨by rw[HB.out];simp[bst,h1,h2],hb13⟩
 · have HB : Hid (bestP 5 vs us ps = bst (0, pb) 1 db) := by
     show _=_
     rw[HPB.out,HDB.out]
     rfl
   go_enter Tryz.func40,Tryz.ntmps40
   go_wp2_with fail
   refine (HPF.out w (Below.refl _ _)).mono ?_
   rintro e w1 ⟨rfl,hb1⟩
   go_wp2_with fail
   refine (HDF.out w1 hb1).mono ?_
   rintro e w2 ⟨rfl,hb2⟩
   have hb12:=hb1.trans (hb2.mono hb1.size)
   by_cases h1:db.size<pb.size
   · go_wp2
     go_ret2
     exact⟨by rw[HB.out];simp[bst,h1],hb12⟩
   · go_wp2
     go_ret2
     exact⟨by rw[HB.out];simp[bst,h1],hb12⟩
end Go.Proofs.YtoeiahdjamkdgaaGreatDoor
