/-
  enc.Best: the shortest of all ways.
  enc.Best of right values, and of those that are not.
-/
import Derived.Test.YtoeiahdjamkdgaaGreatDoorWBPrefV
import Derived.Test.YtoeiahdjamkdgaaGreatDoorWBDelta
import Derived.Test.YtoeiahdjamkdgaaGreatDoorWBDict
set_option maxRecDepth 100000
set_option maxHeartbeats 3200000
namespace Go.Proofs.YtoeiahdjamkdgaaGreatDoor
open Go.RowKit
structure BI (w0:World) (kd:Int) (v:Value) (wx:World) (code:Int) (s:ByteArray):Prop where
 hk:wx.cell? ⟨w0.heap.size,0,none⟩=some (.int .i64 kd)
 hl:wx.cell? ⟨w0.heap.size+1,0,none⟩=some v
 hc:wx.cell? ⟨w0.heap.size+2,0,none⟩=some (.int .i64 code)
 hs:wx.cell? ⟨w0.heap.size+3,0,none⟩=some (.string s)
 fc:wx.frozen? ⟨w0.heap.size+2,0,none⟩=false
 fs:wx.frozen? ⟨w0.heap.size+3,0,none⟩=false
 size:w0.heap.size+4<=wx.heap.size
 old:Below w0.heap.size w0 wx
theorem BI.keep {w0:World}{kd:Int}{v:Value}{wx w':World}{code:Int}{s:ByteArray}(h:BI w0 kd v wx code s)(hb:Below wx.heap.size wx w'):BI w0 kd v w' code s:=by
 have hz:=h.size
 have h0:w0.heap.size<wx.heap.size:=by omega
 have h1:w0.heap.size+1<wx.heap.size:=by omega
 have h2:w0.heap.size+2<wx.heap.size:=by omega
 have h3:w0.heap.size+3<wx.heap.size:=by omega
 exact⟨(hb.cell h0).trans h.hk,(hb.cell h1).trans h.hl,(hb.cell h2).trans h.hc,(hb.cell h3).trans h.hs,(hb.frozen h2).trans h.fc,(hb.frozen h3).trans h.fs,Nat.le_trans hz hb.size,h.old.trans (hb.mono h.old.size)⟩
theorem BI.put {w0:World}{kd:Int}{v:Value}{wx:World}{code:Int}{s:ByteArray}(h:BI w0 kd v wx code s)(c':Int)(t:ByteArray):BI w0 kd v ((wx.setCell ⟨w0.heap.size+2,0,none⟩ (.int .i64 c')).setCell ⟨w0.heap.size+3,0,none⟩ (.string t)) c' t:=by
 have ne:∀(W:World) (x j:Nat) (u:Value),j≠x->(W.setCell ⟨x,0,none⟩ u).cell? ⟨j,0,none⟩=W.cell? ⟨j,0,none⟩:=fun W x j u hj =>
  World.cell?_setCell_other _ _ _ _ (fun e=>hj (by injection e with e _;exact e.symm))
 refine⟨?_,?_,?_,?_,by simpa using h.fc,by simpa using h.fs,by simpa using h.size,(h.old.setCell (show w0.heap.size<=w0.heap.size+2 by omega) _).setCell (show w0.heap.size<=w0.heap.size+3 by omega) _⟩
 · rw[ne _ _ _ _ (by omega),ne _ _ _ _ (by omega)];exact h.hk
 · rw[ne _ _ _ _ (by omega),ne _ _ _ _ (by omega)];exact h.hl
 · rw[ne _ _ _ _ (by omega)];exact World.cell?_setCell_same _ _ _ h.hc
 · exact World.cell?_setCell_same _ _ _ ((ne _ _ _ _ (by omega)).trans h.hs)
theorem best1_dict (w0:World)(kd:Int)(v:Value)(w:World)(code nc:Int)(s t:ByteArray)(hI:BI w0 kd v w code s)
    (hF:Calls Tryz.prog 102 #[.int .i64 kd,v] w fun e W'=>e=.returned (.tuple #[.string t,.nilIface])/\Below w.heap.size w W') :
    Calls Tryz.prog 101 #[.int .i64 nc,.func (.func 102) #[] #[],.pointer (some ⟨w0.heap.size,0,none⟩),.pointer (some ⟨w0.heap.size+1,0,none⟩),.pointer (some ⟨w0.heap.size+3,0,none⟩),.pointer (some ⟨w0.heap.size+2,0,none⟩)] w fun e w'=>e=.returned (.tuple #[])/\BI w0 kd v w' (if t.size<s.size then nc else code) (if t.size<s.size then t else s):=by
 have hk:=hI.hk
 have hl:=hI.hl
 have HI:Hid _:=hI
 have HF:Hid _:=hF
 clear hI hF
 go_enter Tryz.func101,Tryz.ntmps101
 go_wp2_with fail
 refine Calls.mono HF.out ?_
 rintro e w1 ⟨rfl,hb1⟩
 have HI1:Hid _:=HI.out.keep hb1
 clear hk hl
 have hc:=HI1.out.hc
 have hs1:=HI1.out.hs
 have fc:=HI1.out.fc
 have fs:=HI1.out.fs
 by_cases hlt:t.size<s.size
 · have HP:Hid _:=HI1.out.put nc t
   go_wp2
   go_end0
   exact⟨rfl,HP.out⟩
 · go_wp2
   go_end0
   exact⟨rfl,HI1.out⟩
theorem best1_delta (w0:World)(kd:Int)(v:Value)(w:World)(code nc:Int)(s t:ByteArray)(hI:BI w0 kd v w code s)
    (hF:Calls Tryz.prog 104 #[.int .i64 kd,v] w fun e W'=>e=.returned (.tuple #[.string t,.nilIface])/\Below w.heap.size w W') :
    Calls Tryz.prog 101 #[.int .i64 nc,.func (.func 104) #[] #[],.pointer (some ⟨w0.heap.size,0,none⟩),.pointer (some ⟨w0.heap.size+1,0,none⟩),.pointer (some ⟨w0.heap.size+3,0,none⟩),.pointer (some ⟨w0.heap.size+2,0,none⟩)] w fun e w'=>e=.returned (.tuple #[])/\BI w0 kd v w' (if t.size<s.size then nc else code) (if t.size<s.size then t else s):=by
 have hk:=hI.hk
 have hl:=hI.hl
 have HI:Hid _:=hI
 have HF:Hid _:=hF
 clear hI hF
 go_enter Tryz.func101,Tryz.ntmps101
 go_wp2_with fail
 refine Calls.mono HF.out ?_
 rintro e w1 ⟨rfl,hb1⟩
 have HI1:Hid _:=HI.out.keep hb1
 clear hk hl
 have hc:=HI1.out.hc
 have hs1:=HI1.out.hs
 have fc:=HI1.out.fc
 have fs:=HI1.out.fs
 by_cases hlt:t.size<s.size
 · have HP:Hid _:=HI1.out.put nc t
   go_wp2
   go_end0
   exact⟨rfl,HP.out⟩
 · go_wp2
   go_end0
   exact⟨rfl,HI1.out⟩
theorem best1_prefix (w0:World)(kd:Int)(v:Value)(w:World)(code nc:Int)(s t:ByteArray)(hI:BI w0 kd v w code s)
    (hF:Calls Tryz.prog 106 #[.int .i64 kd,v] w fun e W'=>e=.returned (.tuple #[.string t,.nilIface])/\Below w.heap.size w W') :
    Calls Tryz.prog 101 #[.int .i64 nc,.func (.func 106) #[] #[],.pointer (some ⟨w0.heap.size,0,none⟩),.pointer (some ⟨w0.heap.size+1,0,none⟩),.pointer (some ⟨w0.heap.size+3,0,none⟩),.pointer (some ⟨w0.heap.size+2,0,none⟩)] w fun e w'=>e=.returned (.tuple #[])/\BI w0 kd v w' (if t.size<s.size then nc else code) (if t.size<s.size then t else s):=by
 have hk:=hI.hk
 have hl:=hI.hl
 have HI:Hid _:=hI
 have HF:Hid _:=hF
 clear hI hF
 go_enter Tryz.func101,Tryz.ntmps101
 go_wp2_with fail
 refine Calls.mono HF.out ?_
 rintro e w1 ⟨rfl,hb1⟩
 have HI1:Hid _:=HI.out.keep hb1
 clear hk hl
 have hc:=HI1.out.hc
 have hs1:=HI1.out.hs
 have fc:=HI1.out.fc
 have fs:=HI1.out.fs
 by_cases hlt:t.size<s.size
 · have HP:Hid _:=HI1.out.put nc t
   go_wp2
   go_end0
   exact⟨rfl,HP.out⟩
 · go_wp2
   go_end0
   exact⟨rfl,HI1.out⟩
theorem BI.puts {w0:World}{kd:Int}{v:Value}{wx:World}{code:Int}{s:ByteArray}(h:BI w0 kd v wx code s)(t:ByteArray):BI w0 kd v (wx.setCell ⟨w0.heap.size+3,0,none⟩ (.string t)) code t:=by
 have ne:∀(W:World) (x j:Nat) (u:Value),j≠x->(W.setCell ⟨x,0,none⟩ u).cell? ⟨j,0,none⟩=W.cell? ⟨j,0,none⟩:=fun W x j u hj =>
  World.cell?_setCell_other _ _ _ _ (fun e=>hj (by injection e with e _;exact e.symm))
 refine⟨?_,?_,?_,?_,by simpa using h.fc,by simpa using h.fs,by simpa using h.size,h.old.setCell (show w0.heap.size<=w0.heap.size+3 by omega) _⟩
 · rw[ne _ _ _ _ (by omega)];exact h.hk
 · rw[ne _ _ _ _ (by omega)];exact h.hl
 · rw[ne _ _ _ _ (by omega)];exact h.hc
 · exact World.cell?_setCell_same _ _ _ h.hs
def bw (w:World)(kd:Int)(v:Value):World:=(((w.alloc (.cells #[.int .i64 kd] 3)).alloc (.cells #[v] 25)).alloc (.cells #[.int .i64 0] 3)).alloc (.cells #[.string ⟨#[]⟩] 9)
theorem bw_size (w:World)(kd:Int)(v:Value):(bw w kd v).heap.size=w.heap.size+4:=by simp[bw]
theorem bw_below (w:World)(kd:Int)(v:Value):Below w.heap.size w (bw w kd v) :=
 ((((Below.refl _ _).alloc (Nat.le_refl _) _).alloc (by simp) _).alloc (by simp;omega) _).alloc (by simp;omega) _
theorem bw_BI (w:World)(kd:Int)(v:Value):BI w kd v (bw w kd v) 0 ⟨#[]⟩:=by
 have h0:(bw w kd v).heap[w.heap.size]? = some (.cells #[.int .i64 kd] 3 (0,0)):=blk_alloc (blk_alloc (blk_alloc (heap_alloc_new w _)))
 have h1:(bw w kd v).heap[w.heap.size+1]? = some (.cells #[v] 25 (0,0)):=by
  have:=heap_alloc_new (w.alloc (.cells #[.int .i64 kd] 3)) (.cells #[v] 25)
  rw[show (w.alloc (.cells #[.int .i64 kd] 3)).heap.size=w.heap.size+1 by simp] at this
  exact blk_alloc (blk_alloc this)
 have h2:(bw w kd v).heap[w.heap.size+2]? = some (.cells #[.int .i64 0] 3 (0,0)):=by
  have:=heap_alloc_new ((w.alloc (.cells #[.int .i64 kd] 3)).alloc (.cells #[v] 25)) (.cells #[.int .i64 0] 3)
  rw[show ((w.alloc (.cells #[.int .i64 kd] 3)).alloc (.cells #[v] 25)).heap.size=w.heap.size+2 by simp] at this
  exact blk_alloc this
 have h3:(bw w kd v).heap[w.heap.size+3]? = some (.cells #[.string ⟨#[]⟩] 9 (0,0)):=by
  have:=heap_alloc_new (((w.alloc (.cells #[.int .i64 kd] 3)).alloc (.cells #[v] 25)).alloc (.cells #[.int .i64 0] 3)) (.cells #[.string ⟨#[]⟩] 9)
  rw[show (((w.alloc (.cells #[.int .i64 kd] 3)).alloc (.cells #[v] 25)).alloc (.cells #[.int .i64 0] 3)).heap.size=w.heap.size+3 by simp] at this
  exact this
 exact⟨cell_of_one h0,cell_of_one h1,cell_of_one h2,cell_of_one h3,free_of_one h2,free_of_one h3,by rw[bw_size];omega,bw_below w kd v⟩
def bst (b:Int × ByteArray)(nc:Int)(t:ByteArray):Int × ByteArray:=(if t.size<b.2.size then nc else b.1,if t.size<b.2.size then t else b.2)
def bestP (kd:Int)(vs us:List Vl)(ps:List Nat):Int × ByteArray :=
 if kd=2\/kd=3 then bst (bst (0,⟨(plainB kd vs).toArray⟩) 1 ⟨(dictB kd us ps).toArray⟩) 2 ⟨(deltaB vs).toArray⟩
 else if kd=4 then bst (bst (0,⟨(plainB kd vs).toArray⟩) 1 ⟨(dictB kd us ps).toArray⟩) 3 ⟨(Um.prefs [] (bys (vtx vs))).toArray⟩
 else bst (0,⟨(plainB kd vs).toArray⟩) 1 ⟨(dictB kd us ps).toArray⟩
theorem hasPrefix_any (kd:Int)(w:World):Calls Tryz.prog 105 #[.int .i64 kd] w fun e w'=>e=.returned (.bool (decide (kd=4)))/\w'=w:=by
 by_cases h4:kd=4
 · subst h4
   go_enter Tryz.func105,Tryz.ntmps105
   go_wp2
   go_ret
   exact⟨rfl,rfl⟩
 · have e:decide (kd=4)=false:=by simp[h4]
   have e2:(kd == 4)=false:=by simp[h4]
   rw[e]
   go_enter Tryz.func105,Tryz.ntmps105
   go_wp2
   go_ret
   exact⟨rfl,rfl⟩
theorem ok_bytes {kd:Int}{v:Vl}(h4:kd=4)(h:v.Ok kd):v.s.size<=100:=by
 subst h4
 unfold Vl.Ok OkV at h
 omega
theorem loadI {W:World}{g:Nat}{v:Value}(h:W.cell? ⟨g,0,none⟩=some v):(loadVar 3 ⟨g,0,none⟩).run Tryz.prog W=.ok v W:=by go_simp
theorem loadS {W:World}{g:Nat}{v:Value}(h:W.cell? ⟨g,0,none⟩=some v):(loadVar 9 ⟨g,0,none⟩).run Tryz.prog W=.ok v W:=by go_simp
theorem results_cct {P:Program}{fn:Func}{p q u:Tmp}{t1 t2:TypeId}(h:fn.results=#[.cell p t1,.cell q t2,.tmp u])(tmps:Array Value)(w:World)(a b:Addr)(x y:Value)
    (hp:tmps.getD p undef=.pointer (some a)) (hq:tmps.getD q undef=.pointer (some b)) (hx:(loadVar t1 a).run P w=.ok x w) (hy:(loadVar t2 b).run P w=.ok y w) :
    (results fn tmps).run P w=.ok (.tuple #[x,y,tmps.getD u undef]) w:=by
 have hp':tmps[p]?.getD undef=.pointer (some a):=by simpa using hp
 have hq':tmps[q]?.getD undef=.pointer (some b):=by simpa using hq
 simp[results,h,hp',hq',asAddr,Sem.run_bind,Result.andThen,hx,hy]
theorem best_right (a:Option Addr)(vs:List Vl)(c:Nat)(kd:Int)(w:World)(kt st bt:TypeId)(kp sp bp:Value)(hgk:w.cell? ⟨3,0,none⟩=some (.iface kt kp))(hgs:w.cell? ⟨0,0,none⟩=some (.iface st sp))(hgb:w.cell? ⟨1,0,none⟩=some (.iface bt bp))(hn:vs.length<=700)(hl:LiesV w a vs)(hr:Right kd vs)(us:List Vl)(ps:List Nat)(hu:Uq vs us ps) :
    Calls Tryz.prog 61 #[.int .i64 kd,.slice a vs.length c] w fun e w'=>e=.returned (.tuple #[.int .i64 (bestP kd vs us ps).1,.string (bestP kd vs us ps).2,.nilIface])/\Below w.heap.size w w':=by
 have HGK:Hid _:=hgk
 have HGS:Hid _:=hgs
 have HGB:Hid _:=hgb
 have HL:Hid (LiesV w a vs):=hl
 have HR:Hid (Right kd vs):=hr
 have HU:Hid (Uq vs us ps):=hu
 clear hgk hgs hgb hl hr hu
 have hbw:=bw_below w kd (.slice a vs.length c)
 have HP0:=plain_right a vs c kd (bw w kd (.slice a vs.length c)) kt st kp sp (ck' HGK.out hbw) (ck' HGS.out hbw) (by omega) HR.out.1.1 HR.out.1.2 (HL.out.keep hbw) (fun j h=>(HR.out.2 _ (List.getElem_mem h)).1) (fun j h=>(HR.out.2 _ (List.getElem_mem h)).2.2.1)
 have HB0:Hid _:=bw_BI w kd (.slice a vs.length c)
 have hmf:∀(fn:Fn) (first cap:Array Value) (W:World),(Instr.makeFunc fn first cap).run Tryz.prog W=.ok (.func fn first cap) W:=fun _ _ _ _=>rfl
 have hk0:=HB0.out.hk
 have hl0:=HB0.out.hl
 unfold bw at hk0 hl0
 obtain⟨pb,HPB⟩:∃pb:ByteArray,Hid (pb=⟨(plainB kd vs).toArray⟩):=⟨_,rfl⟩
 obtain⟨db,HDB⟩:∃db:ByteArray,Hid (db=⟨(dictB kd us ps).toArray⟩):=⟨_,rfl⟩
 rw[←HPB.out] at HP0
 have HDF:Hid (∀W,Below w.heap.size w W->Calls Tryz.prog 102 #[.int .i64 kd,.slice a vs.length c] W fun e w'=>e=.returned (.tuple #[.string db,.nilIface])/\Below W.heap.size W w'):=fun W hW=>by
  rw[HDB.out]
  exact dict_right a vs c kd W kt st kp sp (ck' HGK.out hW) (ck' HGS.out hW) hn (HL.out.keep hW) HR.out us ps HU.out
 go_enter Tryz.func61,Tryz.ntmps61
 go_wp2_with fail
 refine HP0.mono ?_
 clear HP0 hk0 hl0
 rintro e w1 ⟨rfl,hb1⟩
 have HI1:Hid _:=HB0.out.keep hb1
 have hs1:=HI1.out.hs
 have fs1:=HI1.out.fs
 have HI2:Hid _:=HI1.out.puts pb
 clear HB0
 go_wp2_with fail
 refine (best1_dict w kd _ _ 0 1 pb db HI2.out (HDF.out _ HI2.out.old)).mono ?_
 rintro e w2 ⟨rfl,hI3⟩
 obtain⟨cd,HC⟩:∃cd:Int,Hid (cd=if db.size<pb.size then 1 else 0):=⟨_,rfl⟩
 obtain⟨sb,HSb⟩:∃sb:ByteArray,Hid (sb=if db.size<pb.size then db else pb):=⟨_,rfl⟩
 rw[←HC.out,←HSb.out] at hI3
 have hk3:=hI3.hk
 have HI3:Hid _:=hI3
 clear hI3 hs1 fs1
 by_cases hd:kd=2\/kd=3
 · have hdd:decide (kd=2\/kd=3)=true:=by simp[hd]
   have hpp:decide (kd=4)=false:=by simp;omega
   obtain⟨tb,HTB⟩:∃tb:ByteArray,Hid (tb=⟨(deltaB vs).toArray⟩):=⟨_,rfl⟩
   have HB:Hid (bestP kd vs us ps=(if tb.size<sb.size then 2 else cd,if tb.size<sb.size then tb else sb)):=by
    show _=_
    unfold bestP
    rw[if_pos hd,←HPB.out,←HDB.out,←HTB.out,HC.out,HSb.out]
    rfl
   have hF:=delta_right a vs c kd w2 kt kp (ck' HGK.out HI3.out.old) (by omega) hd (HL.out.keep HI3.out.old) (fun j h=>(HR.out.2 _ (List.getElem_mem h)).1) (fun j h=>(HR.out.2 _ (List.getElem_mem h)).2.2.1)
   rw[←HTB.out] at hF
   have HF:Hid _:=hF
   clear hF hd
   go_wp2_with fail
   refine (hasDelta_any kd _).mono ?_
   rw[hdd]
   rintro e w3 ⟨rfl,hw⟩
   obtain rfl:=hw.symm
   clear hk3
   go_wp2_with fail
   refine (best1_delta w kd _ w2 cd 2 sb tb HI3.out HF.out).mono ?_
   rintro e w4 ⟨rfl,hI4⟩
   generalize (if tb.size<sb.size then (2:Int) else cd)=c4 at hI4 HB
   generalize (if tb.size<sb.size then tb else sb)=s4 at hI4 HB
   have hk4:=hI4.hk
   have HI4:Hid _:=hI4
   clear hI4
   go_wp2_with fail
   refine (hasPrefix_any kd _).mono ?_
   rw[hpp]
   rintro e w5 ⟨rfl,hw⟩
   obtain rfl:=hw.symm
   have hc9:=HI4.out.hc
   have hs9:=HI4.out.hs
   have fc9:=HI4.out.fc
   have fs9:=HI4.out.fs
   clear hk4
   go_wp2
   go_region
   all_goals (try go_wp2)
   all_goals
    (try simp only[Exit.inBlock,Exit.then])
    refine bodyPost_ret (results_cct rfl _ _ ⟨w.heap.size+2,0,none⟩ ⟨w.heap.size+3,0,none⟩ (.int .i64 c4) (.string s4) rfl rfl (loadI (HI4.out.put c4 s4).hc) (loadS (HI4.out.put c4 s4).hs)) rfl ?_
    exact⟨by rw[HB.out];rfl,(HI4.out.put c4 s4).old.drew⟩
 · have hdd:decide (kd=2\/kd=3)=false:=by simp only[decide_eq_false_iff_not];exact hd
   by_cases h4:kd=4
   · have hpp:decide (kd=4)=true:=by simp[h4]
     obtain⟨tb,HTB⟩:∃tb:ByteArray,Hid (tb=⟨(Um.prefs [] (bys (vtx vs))).toArray⟩):=⟨_,rfl⟩
     have HB:Hid (bestP kd vs us ps=(if tb.size<sb.size then 3 else cd,if tb.size<sb.size then tb else sb)):=by
      show _=_
      unfold bestP
      rw[if_neg hd,if_pos h4,←HPB.out,←HDB.out,←HTB.out,HC.out,HSb.out]
      rfl
     have hF:=prefixValues_any a vs c kd w2 (.iface bt bp) (ck' HGB.out HI3.out.old) (by omega) (HL.out.keep HI3.out.old) (fun v hv=>ok_bytes h4 (HR.out.2 v hv).1)
     rw[←HTB.out] at hF
     have HF:Hid _:=hF
     clear hF hd h4
     go_wp2_with fail
     refine (hasDelta_any kd _).mono ?_
     rw[hdd]
     rintro e w3 ⟨rfl,hw⟩
     obtain rfl:=hw.symm
     go_wp2_with fail
     refine (hasPrefix_any kd _).mono ?_
     rw[hpp]
     rintro e w5 ⟨rfl,hw⟩
     obtain rfl:=hw.symm
     clear hk3
     go_wp2_with fail
     refine (best1_prefix w kd _ w2 cd 3 sb tb HI3.out HF.out).mono ?_
     rintro e w4 ⟨rfl,hI4⟩
     generalize (if tb.size<sb.size then (3:Int) else cd)=c4 at hI4 HB
     generalize (if tb.size<sb.size then tb else sb)=s4 at hI4 HB
     have HI4:Hid _:=hI4
     clear hI4
     have hc9:=HI4.out.hc
     have hs9:=HI4.out.hs
     have fc9:=HI4.out.fc
     have fs9:=HI4.out.fs
     go_wp2
     go_region
     all_goals (try go_wp2)
     all_goals
      (try simp only[Exit.inBlock,Exit.then])
      refine bodyPost_ret (results_cct rfl _ _ ⟨w.heap.size+2,0,none⟩ ⟨w.heap.size+3,0,none⟩ (.int .i64 c4) (.string s4) rfl rfl (loadI (HI4.out.put c4 s4).hc) (loadS (HI4.out.put c4 s4).hs)) rfl ?_
      exact⟨by rw[HB.out];rfl,(HI4.out.put c4 s4).old.drew⟩
   · have hpp:decide (kd=4)=false:=by simp[h4]
     have HB:Hid (bestP kd vs us ps=(cd,sb)):=by
      show _=_
      unfold bestP
      rw[if_neg hd,if_neg h4,←HPB.out,←HDB.out,HC.out,HSb.out]
      rfl
     clear hd h4
     go_wp2_with fail
     refine (hasDelta_any kd _).mono ?_
     rw[hdd]
     rintro e w3 ⟨rfl,hw⟩
     obtain rfl:=hw.symm
     go_wp2_with fail
     refine (hasPrefix_any kd _).mono ?_
     rw[hpp]
     rintro e w5 ⟨rfl,hw⟩
     obtain rfl:=hw.symm
     clear hk3
     have hc9:=HI3.out.hc
     have hs9:=HI3.out.hs
     have fc9:=HI3.out.fc
     have fs9:=HI3.out.fs
     go_wp2
     go_region
     all_goals (try go_wp2)
     all_goals
      (try simp only[Exit.inBlock,Exit.then])
      refine bodyPost_ret (results_cct rfl _ _ ⟨w.heap.size+2,0,none⟩ ⟨w.heap.size+3,0,none⟩ (.int .i64 cd) (.string sb) rfl rfl (loadI (HI3.out.put cd sb).hc) (loadS (HI3.out.put cd sb).hs)) rfl ?_
      exact⟨by rw[HB.out];rfl,(HI3.out.put cd sb).old.drew⟩
end Go.Proofs.YtoeiahdjamkdgaaGreatDoor
