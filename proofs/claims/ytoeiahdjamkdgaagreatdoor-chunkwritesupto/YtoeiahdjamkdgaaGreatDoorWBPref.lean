/-
  enc.inCommon: how many bytes two texts begin with.
  What the program knows of the type string.
  The reference's PrefixOf: texts by what they have in common with the one ahead.
-/
import Derived.Test.YtoeiahdjamkdgaaGreatDoorWBOwn
import Derived.Test.YtoeiahdjamkdgaaGreatDoorWBClone
import Derived.Deep.QuietTactic
import Derived.BigQuiet
import Derived.Lib.AppendZeros
import Derived.Deep.RegionHeld3
set_option maxRecDepth 100000
set_option maxHeartbeats 3200000
namespace Go.Proofs.YtoeiahdjamkdgaaGreatDoor
open Go.RowKit
theorem below_dN {B:Nat}{a w:World}(h:Below B a w)(n:Nat):Below B a (w.drewN n):=h.trans ⟨rfl,rfl,rfl,Nat.le_refl _,fun _ _=>rfl⟩
theorem inCommon_any (s t:ByteArray)(w:World)(hs:s.size<=100)(ht:t.size<=100) :
    Calls Tryz.prog 159 #[.string s,.string t] w fun e w'=>e=.returned (.int .i64 (Um.lcp s.data.toList t.data.toList:Nat))/\Below w.heap.size w w':=by
 go_enter Tryz.func159,Tryz.ntmps159
 go_wp2
 go_loopw [5] (fun x wr=>∃k:Nat,k<=s.size/\k<=t.size/\x=.int .i64 k/\Hid (s.data.toList.take k=t.data.toList.take k)/\Below w.heap.size w wr) (fun x _=>s.size-(intOf x).toNat)
 case atStart=>exact⟨0,Nat.zero_le _,Nat.zero_le _,rfl,rfl,Below.refl _ _⟩
 case round =>
  obtain⟨k,h1,h2,rfl,HT,hb⟩:=hrel
  by_cases hlt:k<s.size/\k<t.size
  · obtain⟨hk1,hk2⟩:=hlt
    have g1:s.data.toList[k]? = some s[k]:=by rw[Array.getElem?_toList];exact Array.getElem?_eq_getElem hk1
    have g2:t.data.toList[k]? = some t[k]:=by rw[Array.getElem?_toList];exact Array.getElem?_eq_getElem hk2
    by_cases he:s[k].toNat=t[k].toNat
    · have HT2 : Hid (s.data.toList.take (k + 1) = t.data.toList.take (k + 1)) := by
        show _=_
        rw[List.take_add_one,List.take_add_one,HT.out,g1,g2,UInt8.toNat_inj.1 he]
      clear g1 g2
      by_cases hts:t.size<s.size
      all_goals
       go_wp2
       go_quiet (fail)
       go_wp2
       go_roundw
       case rel=>exact⟨k+1,by omega,by omega,by go_num,HT2,below_dN hb _⟩
       case measure=>simp[intOf];omega
    · have HE : Hid (Um.lcp s.data.toList t.data.toList = k) := Um.lcp_eq _ _ k (by rw [Array.length_toList]; exact h1) (by rw [Array.length_toList]; exact h2) HT.out (Or.inr (Or.inr (by
        rw[g1,g2]
        intro h
        exact he (by rw[Option.some.inj h]))))
      clear g1 g2
      by_cases hts:t.size<s.size
      all_goals
       go_wp2
       go_quiet (fail)
       go_wp2
       go_ret
       exact⟨by rw[HE.out];rfl,below_dN hb _⟩
  · have HE : Hid (Um.lcp s.data.toList t.data.toList = k) := Um.lcp_eq _ _ k (by rw [Array.length_toList]; exact h1) (by rw [Array.length_toList]; exact h2) HT.out (by
        rw[Array.length_toList,Array.length_toList]
        change k=s.size\/k=t.size\/_
        omega)
    by_cases hts:t.size<s.size
    · obtain rfl:k=t.size:=by omega
      go_wp2
      go_quiet (fail)
      go_wp2
      go_ret
      exact⟨by rw[HE.out];rfl,below_dN hb _⟩
    · obtain rfl:k=s.size:=by omega
      go_wp2
      go_quiet (fail)
      go_wp2
      go_ret
      exact⟨by rw[HE.out];rfl,below_dN hb _⟩
def LiesS (w:World)(a:Option Addr)(ts:List ByteArray):Prop:=∀j (h:j<ts.length),∃b o,a=some ⟨b,o,none⟩/\w.cell? ⟨b,o+j,none⟩=some (.string ts[j])
theorem LiesS.keep {w w':World}{a:Option Addr}{ts:List ByteArray}(h:LiesS w a ts)(hb:Below w.heap.size w w'):LiesS w' a ts:=fun j hj=>by
 obtain⟨b,o,e,hc⟩:=h j hj
 exact⟨b,o,e,(hb.cell (World.block_lt_of_cell? w _ hc)).trans hc⟩
def bys (ts:List ByteArray):List (List UInt8):=ts.map fun t=>t.data.toList
theorem bys_len (ts:List ByteArray):(bys ts).length=ts.length:=by simp[bys]
theorem bys_at (ts:List ByteArray)(i:Nat)(h:i<ts.length):(bys ts)[i]'(by rw[bys_len];exact h)=ts[i].data.toList:=by simp[bys]
theorem bys_le {ts:List ByteArray}(h:∀t∈ts,t.size<=100):∀l∈bys ts,l.length<=100:=fun l hl=>by
 obtain⟨t,ht,rfl⟩:=List.mem_map.1 hl
 rw[Array.length_toList];exact h t ht
theorem arr_cat (l m:List UInt8):(⟨l.toArray⟩:ByteArray)++⟨m.toArray⟩=⟨(l++m).toArray⟩:=by
 apply ByteArray.ext
 rw[ByteArray.data_append]
 simp
theorem ext_toList (t:ByteArray)(k:Nat):(t.extract k t.size).data.toList=t.data.toList.drop k:=by
 rw[ByteArray.data_extract,Array.toList_extract,List.extract_eq_take_drop,List.take_of_length_le]
 rw[List.length_drop,Array.length_toList]
 exact Nat.le_refl _
def mk (l:List UInt8):ByteArray:=⟨l.toArray⟩
theorem mk_bytes (t:ByteArray):mk t.data.toList=t:=by cases t;simp[mk]
theorem mk_list (l:List UInt8):(mk l).data.toList=l:=by simp[mk]
theorem mk_size (l:List UInt8):(mk l).size=l.length:=by simp[mk,ByteArray.size]
theorem tail_bytes (t:ByteArray)(m:Nat):((⟨(Um.uv (t.extract m t.size).size).toArray⟩:ByteArray)++t.extract m t.size).data.toList=Um.txt (t.data.toList.drop m):=by
 rw[ByteArray.data_append,Array.toList_append,ext_toList]
 unfold Um.txt
 rw[←ext_toList t m,Array.length_toList]
 rfl
theorem bys_take_le {ts:List ByteArray}{p i:Nat}(h:∀j (h:j<ts.length),j<p->ts[j].size<=100)(hi:i<=p):∀s∈(bys ts).take i,s.length<=100:=fun s hs=>by
 obtain⟨j,hj,rfl⟩:=List.getElem_of_mem hs
 rw[List.length_take,bys_len] at hj
 rw[List.getElem_take,bys_at ts j (by omega),Array.length_toList]
 exact h j (by omega) (by omega)
theorem prefix_gen (a:Option Addr)(ts:List ByteArray)(c p:Nat)(w:World)(ev:Value)(hg:w.cell? ⟨1,0,none⟩=some ev)(hn:ts.length<=20000)(hmx:∀t∈ts,t.size<=maxLen)(hl:LiesS w a ts)(hp:p<=ts.length)(hx:∀j (h:j<ts.length),j<p->ts[j].size<=100)(hlong:∀h:p<ts.length,100<ts[p].size) :
    Calls Tryz.prog 144 #[.slice a ts.length c] w fun e w'=>e=.returned (if p=ts.length then .tuple #[.string ⟨(Um.prefs [] (bys ts)).toArray⟩,.nilIface] else .tuple #[.string ⟨#[]⟩,ev])/\Below w.heap.size w w':=by
 obtain⟨i0,hi,hz0,hz1,hz2⟩:=info_parts Tryz.info5
 have HL:Hid (LiesS w a ts):=hl
 have HX:Hid (∀j (h:j<ts.length),j<p->ts[j].size<=100):=hx
 have HLO:Hid (∀h:p<ts.length,100<ts[p].size):=hlong
 have HMX:Hid (∀t∈ts,t.size<=maxLen):=hmx
 have HG:Hid _:=hg
 have hd:decide (0<=(ts.length:Int)/\(ts.length:Int)<=20000)=true:=by simp;omega
 clear hl hx hlong hmx hg
 go_enter Tryz.func144,Tryz.ntmps144
 go_wp2_with (go_at_call 158;refine (isCountE_any _ _).mono ?_;rw[hd];rintro e w1 ⟨rfl,hw⟩;obtain rfl:=hw.symm)
 go_loopw [4,5,16] (fun b h x wr=>∃i:Nat,i<=p/\x=.int .i64 i/\h=.string (mk (Um.ahd (bys ts) i))/\(Um.ahd (bys ts) i).length<=100/\Hid (wr.ownsRow w.heap.size 5 1 b (Um.prefs [] ((bys ts).take i)).length (cellsOf (Um.prefs [] ((bys ts).take i))))/\Below w.heap.size w wr) (fun _ _ x _=>ts.length-(intOf x).toNat)
 case atStart=>exact⟨0,Nat.zero_le _,rfl,by rw[Um.ahd_zero];rfl,by rw[Um.ahd_zero];simp,World.ownsRow_nil w w.heap.size 5 1,Below.refl _ _⟩
 case round =>
  obtain⟨i,hik,rfl,rfl,hah,HO,hb⟩:=hrel
  by_cases hip:i<p
  · have hlt:i<ts.length:=by omega
    obtain⟨b,o,rfl,hc⟩:=(HL.out.keep hb) i hlt
    have hsl:=HX.out i hlt hip
    have HN:Hid (Um.prefs [] ((bys ts).take (i+1))=Um.prefs [] ((bys ts).take i)++Um.one (Um.ahd (bys ts) i) ts[i].data.toList):=by
     show _=_
     rw[Um.prefs_take (bys ts) i (by rw[bys_len];exact hlt),bys_at ts i hlt]
    have HA:Hid (Um.ahd (bys ts) (i+1)=ts[i].data.toList):=by
     show _=_
     rw[Um.ahd_succ (bys ts) i (by rw[bys_len];exact hlt),bys_at ts i hlt]
    have hnl:(Um.prefs [] ((bys ts).take i)).length<=120*20000:=by
     refine Nat.le_trans (Um.prefs_len _ [] (by simp) (fun s hs=>bys_take_le HX.out hik s hs)) (Nat.mul_le_mul_left _ ?_)
     rw[List.length_take];omega
    generalize Um.prefs [] ((bys ts).take i)=l at *
    generalize Um.ahd (bys ts) i=ah at *
    generalize ts[i]=t at *
    go_wp2_with fail
    refine (inCommon_any (mk ah) t _ (by rw[mk_size];exact hah) hsl).mono ?_
    rw[mk_list]
    rintro e w1 ⟨rfl,hb1⟩
    have hlc:=Um.lcp_le ah t.data.toList
    rw[Array.length_toList] at hlc
    change _/\_<=t.size at hlc
    obtain⟨m,HM⟩:∃m,Hid (m=Um.lcp ah t.data.toList):=⟨_,rfl⟩
    rw[←HM.out] at hlc ⊢
    have hm:m<=100:=by omega
    have hmt:m<=t.size:=hlc.2
    clear hlc
    have hb01:=hb.trans (hb1.mono hb.size)
    go_wp2_with fail
    refine (uvarint_any m _ (by omega)).mono ?_
    rintro e w2 ⟨rfl,hb2⟩
    have hb02:=hb01.trans (hb2.mono hb01.size)
    have hown:=ow_kept (ow_kept HO.out hb1) hb2
    have hul:=Um.uv_ten (n:=m) (by omega)
    have hub:(⟨(Um.uv m).toArray⟩:ByteArray).data.toList=Um.uv m:=rfl
    generalize (⟨(Um.uv m).toArray⟩:ByteArray)=u at hub ⊢
    have hus:u.size=(Um.uv m).length:=by rw[←hub,Array.length_toList];rfl
    obtain⟨v3,w3,hr3,hown3,hgrow3,_⟩:=Lib.run_append_own_string (P:=Tryz.prog) w2 w.heap.size 58 9 58 5 i0 Tryz.underlying58 Tryz.underlying9 hi hz0 hz1 hz2 _ _ _ hown u (by unfold maxLen;omega) (by omega) hb02.size
    have hown3':=ow_str hown3
    have hb03:=below_grown hb02 (Nat.le_refl _) hown hgrow3
    rw[hub] at hown3'
    clear hown hown3 hgrow3 hub
    go_wp2_with (at_builtin;refine Lib.wpList_append_run _ rfl _ _ 58 9 rfl _ _ rfl rfl _ _ hr3 ?_)
    have hxs:(t.extract m t.size).size<=100:=by rw[ByteArray.size_extract];omega
    refine (text_any _ _ (by omega)).mono ?_
    rintro e w4 ⟨rfl,hb4⟩
    have hb04:=hb03.trans (hb4.mono hb03.size)
    have hown4:=ow_kept hown3' hb4
    have htb:=tail_bytes t m
    generalize (⟨(Um.uv (t.extract m t.size).size).toArray⟩:ByteArray)++t.extract m t.size=x at htb ⊢
    have htl:=Um.txt_len (t.data.toList.drop m) (by rw[List.length_drop,Array.length_toList];change t.size-m<_;omega)
    rw[←htb,Array.length_toList,List.length_drop,Array.length_toList] at htl
    change x.size<=t.size-m+10 at htl
    obtain⟨v5,w5,hr5,hown5,hgrow5,_⟩:=Lib.run_append_own_string (P:=Tryz.prog) w4 w.heap.size 58 9 58 5 i0 Tryz.underlying58 Tryz.underlying9 hi hz0 hz1 hz2 _ _ _ hown4 x (by rw[List.length_append];unfold maxLen;omega) (by rw[List.length_append];omega) hb04.size
    have hown5':=ow_str hown5
    have hb05:=below_grown hb04 (Nat.le_refl _) hown4 hgrow5
    have HQ:Hid (l++Um.uv m++x.data.toList=Um.prefs [] ((bys ts).take (i+1))):=by
     show _=_
     rw[htb,HN.out,Um.one,←HM.out,List.append_assoc]
    rw[HQ.out] at hown5'
    clear hown4 hown5 hgrow5 htb
    go_wp2_with (at_builtin;refine Lib.wpList_append_run _ rfl _ _ 58 9 rfl _ _ rfl rfl _ _ hr5 ?_)
    go_roundw
    case rel=>exact⟨i+1,by omega,by go_num,by rw[HA.out,mk_bytes],by rw[HA.out,Array.length_toList];exact hsl,hown5',hb05⟩
    case measure=>simp[intOf];omega
  · obtain rfl:i=p:=by omega
    by_cases hlt:i<ts.length
    · obtain⟨b,o,rfl,hc⟩:=(HL.out.keep hb) i hlt
      have hlo:=HLO.out hlt
      have hmm:=HMX.out _ (List.getElem_mem hlt)
      unfold maxLen at hmm
      have hge:w.cell? ⟨1,0,none⟩=some ev:=HG.out
      have hgr:=(hb.cell (World.block_lt_of_cell? w _ hge)).trans hge
      clear hge
      have HI:Hid (¬ i=ts.length):=by show ¬ _;omega
      generalize ts[i]=t at *
      go_wp2
      go_region
      all_goals (try go_wp2)
      all_goals go_ret2
      all_goals exact⟨rfl,hb.drew⟩
    · obtain rfl:i=ts.length:=by omega
      have ho:=HO.out
      rw[←bys_len,List.take_length] at ho
      have hcv:=ow_conv rfl ho
      go_wp2
      go_ret2
      exact⟨rfl,hb⟩
theorem prefix_right (a:Option Addr)(ts:List ByteArray)(c:Nat)(w:World)(ev:Value)(hg:w.cell? ⟨1,0,none⟩=some ev)(hn:ts.length<=20000)(hl:LiesS w a ts)(hx:∀t∈ts,t.size<=100) :
    Calls Tryz.prog 144 #[.slice a ts.length c] w fun e w'=>e=.returned (.tuple #[.string ⟨(Um.prefs [] (bys ts)).toArray⟩,.nilIface])/\Below w.heap.size w w':=by
 have h:=prefix_gen a ts c ts.length w ev hg hn (fun t ht=>Nat.le_trans (hx t ht) (by decide)) hl (Nat.le_refl _) (fun j h _=>hx _ (List.getElem_mem h)) (fun h=>absurd h (Nat.lt_irrefl _))
 rw[if_pos rfl] at h
 exact h
end Go.Proofs.YtoeiahdjamkdgaaGreatDoor
namespace Go.Proofs.YtoeiahdjamkdgaaGreatDoor
theorem Tryz.infoS:(Tryz.prog.info? 9).map (fun i=>(i.zero,i.size,i.bytes))=some (some (.string ⟨#[]⟩),1,16):=by kernel_rfl
end Go.Proofs.YtoeiahdjamkdgaaGreatDoor
namespace Go.Proofs.YtoeiahdjamkdgaaGreatDoor
open Go.RowKit
theorem below_t {B:Nat}{w1 W W':World}(h:Below B w1 W)(hB:B<=w1.heap.size)(hb:Below W.heap.size W W'):Below B w1 W':=h.trans (hb.mono (Nat.le_trans hB h.size))
theorem prefixOf_any (a:Option Addr)(ts:List ByteArray)(c:Nat)(w:World)(hn:ts.length<=20000)(hl:LiesS w a ts)(hx:∀t∈ts,t.size<=100) :
    Calls Tryz.prog 77 #[.slice a ts.length c] w fun e w'=>e=.returned (.string (mk (Um.prefs [] (bys ts))))/\Below w.heap.size w w':=by
 have HL:Hid (LiesS w a ts):=hl
 have HX:Hid (∀t∈ts,t.size<=100):=hx
 clear hl hx
 go_enter Tryz.func77,Tryz.ntmps77
 go_wp2
 go_loopw [3,4,5] (fun o h x wr=>∃i:Nat,i<=ts.length/\x=.int .i64 i/\h=.string (mk (Um.ahd (bys ts) i))/\(Um.ahd (bys ts) i).length<=100/\o=.string (mk (Um.prefs [] ((bys ts).take i)))/\Below w.heap.size w wr) (fun _ _ x _=>ts.length-(intOf x).toNat)
 case atStart=>exact⟨0,Nat.zero_le _,rfl,by rw[Um.ahd_zero];rfl,by rw[Um.ahd_zero];simp,rfl,Below.refl _ _⟩
 case round =>
  obtain⟨i,hik,rfl,rfl,hah,rfl,hb⟩:=hrel
  have hnl:(Um.prefs [] ((bys ts).take i)).length<=120*20000:=by
   refine Nat.le_trans (Um.prefs_len _ [] (by simp) (fun s hs=>bys_le HX.out s (List.mem_of_mem_take hs))) (Nat.mul_le_mul_left _ ?_)
   rw[List.length_take];omega
  by_cases hlt:i<ts.length
  · obtain⟨b,o,rfl,hc⟩:=(HL.out.keep hb) i hlt
    have hsl:=HX.out _ (List.getElem_mem hlt)
    have HN:Hid (Um.prefs [] ((bys ts).take (i+1))=Um.prefs [] ((bys ts).take i)++Um.one (Um.ahd (bys ts) i) ts[i].data.toList):=by
     show _=_
     rw[Um.prefs_take (bys ts) i (by rw[bys_len];exact hlt),bys_at ts i hlt]
    have HA:Hid (Um.ahd (bys ts) (i+1)=ts[i].data.toList):=by
     show _=_
     rw[Um.ahd_succ (bys ts) i (by rw[bys_len];exact hlt),bys_at ts i hlt]
    have HC:Hid (∀W,Below w.heap.size w W->W.cell? ⟨b,o+i,none⟩=some (.string ts[i])):=fun W hW=>by
     obtain⟨b',o',e,h⟩:=(HL.out.keep hW) i hlt
     have e:=Option.some.inj e
     simp only[Addr.mk.injEq,and_true] at e
     rw[e.1,e.2]
     exact h
    rw[←mk_size] at hnl hah
    generalize hoo:mk (Um.prefs [] ((bys ts).take i))=oo at *
    have HOO:Hid (mk (Um.prefs [] ((bys ts).take i))=oo):=hoo
    generalize haa:mk (Um.ahd (bys ts) i)=ah at *
    have HAA:Hid (mk (Um.ahd (bys ts) i)=ah):=haa
    clear hoo haa
    generalize ts[i]=t at *
    go_wp2
    clear hc
    go_loopw [6] (fun y wr=>∃k:Nat,k<=ah.size/\k<=t.size/\y=.int .i64 k/\Hid (ah.data.toList.take k=t.data.toList.take k)/\Below w.heap.size w wr) (fun y _=>t.size-(intOf y).toNat)
    case atStart=>exact⟨0,Nat.zero_le _,Nat.zero_le _,rfl,rfl,hb⟩
    case round =>
     clear hb
     obtain⟨k,h1,h2,rfl,HT,hb⟩:=hrel
     have hc:=HC.out _ hb
     by_cases hgo:∃(h1:k<ah.size) (h2:k<t.size),t[k].toNat=ah[k].toNat
     · obtain⟨hk1,hk2,he⟩:=hgo
       have g1:ah.data.toList[k]? = some ah[k]:=by rw[Array.getElem?_toList];exact Array.getElem?_eq_getElem hk1
       have g2:t.data.toList[k]? = some t[k]:=by rw[Array.getElem?_toList];exact Array.getElem?_eq_getElem hk2
       have HT2:Hid (ah.data.toList.take (k+1)=t.data.toList.take (k+1)):=by
        show _=_
        rw[List.take_add_one,List.take_add_one,HT.out,g1,g2,UInt8.toNat_inj.1 he]
       clear g1 g2
       go_wp2
       go_quiet (fail)
       go_wp2
       go_roundw
       case rel=>exact⟨k+1,by omega,by omega,by go_num,HT2,below_dN hb _⟩
       case measure=>simp[intOf];omega
     · have hcase : (∃ (hk1 : k < ah.size) (hk2 : k < t.size), ¬ t[k].toNat = ah[k].toNat) ∨ (k < t.size ∧ ¬ k < ah.size) ∨ ¬ k < t.size := by
         by_cases hk2:k<t.size
         · by_cases hk1:k<ah.size
           · exact Or.inl ⟨hk1,hk2,fun h=>hgo ⟨hk1,hk2,h⟩⟩
           · exact Or.inr (Or.inl ⟨hk2,hk1⟩)
         · exact Or.inr (Or.inr hk2)
       have HE:Hid (Um.lcp ah.data.toList t.data.toList=k):=Um.lcp_eq _ _ k (by rw[Array.length_toList];exact h1) (by rw[Array.length_toList];exact h2) HT.out (by
        rw[Array.length_toList,Array.length_toList]
        change k=ah.size\/k=t.size\/_
        rcases hcase with ⟨hk1,hk2,hne⟩|⟨_,h⟩|h
        · right;right
          rw[Array.getElem?_toList,Array.getElem?_toList,Array.getElem?_eq_getElem (show k<ah.data.size from hk1),Array.getElem?_eq_getElem (show k<t.data.size from hk2)]
          intro e
          exact hne (by rw[show t[k]=ah[k] from (Option.some.inj e).symm])
        · left;omega
        · right;left;omega)
       clear hgo
       have hul:=Um.uv_ten (n:=k) (by omega)
       have hxs:(t.extract k t.size).size<=100:=by rw[ByteArray.size_extract];omega
       have hll:=(Um.uv_ten (n:=(t.extract k t.size).size) (by omega))
       have HQ:Hid (oo++⟨(Um.uv k).toArray⟩++(⟨(Um.uv (t.extract k t.size).size).toArray⟩++t.extract k t.size)=mk (Um.prefs [] ((bys ts).take (i+1)))):=by
        show _=_
        have h3:=tail_bytes t k
        generalize (⟨(Um.uv (t.extract k t.size).size).toArray⟩:ByteArray)++t.extract k t.size=x at h3 ⊢
        have hx:x=mk (Um.txt (t.data.toList.drop k)):=by rw[←h3,mk_bytes]
        rw[hx,←HOO.out,HN.out]
        have ha:Um.ahd (bys ts) i=ah.data.toList:=by rw[←HAA.out,mk_list]
        rw[ha,Um.one,HE.out]
        unfold mk
        rw[arr_cat,arr_cat,List.append_assoc]
       have HSev:Hid (∀W:World,Calls Tryz.prog 47 #[.int .u64 k] W fun e w'=>e=.returned (.string ⟨(Um.uv k).toArray⟩)/\Below W.heap.size W w'):=fun W=>seven_any k W (by omega)
       have HLon:Hid (∀W:World,Calls Tryz.prog 43 #[.string (t.extract k t.size)] W fun e w'=>e=.returned (.string (⟨(Um.uv (t.extract k t.size).size).toArray⟩++t.extract k t.size))/\Below W.heap.size W w'):=fun W=>long_any _ W (by omega)
       have hu1:(⟨(Um.uv k).toArray⟩:ByteArray).size<=10:=by rw[show (⟨(Um.uv k).toArray⟩:ByteArray).size=(Um.uv k).length from mk_size _];exact hul
       have hu2:((⟨(Um.uv (t.extract k t.size).size).toArray⟩:ByteArray)++t.extract k t.size).size<=110:=by
        rw[ByteArray.size_append,show (⟨(Um.uv (t.extract k t.size).size).toArray⟩:ByteArray).size=(Um.uv (t.extract k t.size).size).length from mk_size _];omega
       generalize (⟨(Um.uv k).toArray⟩:ByteArray)=u1 at HQ HSev hu1
       generalize (⟨(Um.uv (t.extract k t.size).size).toArray⟩:ByteArray)++t.extract k t.size=u2 at HQ HLon hu2
       clear hul hxs hll
       have hc1:∀W:World,(Op.stringOp .add oo u1).run Tryz.prog W=.ok (.string (oo++u1)) W:=fun W=>run_string_add_sum _ _ _ (by omega)
       have hc2:∀W:World,(Op.stringOp .add (oo++u1) u2).run Tryz.prog W=.ok (.string (oo++u1++u2)) W:=fun W=>run_string_add_sum _ _ _ (by rw[ByteArray.size_append];omega)
       have hwk:IntKind.u64.wrap (k:Int)=k:=by rw[IntKind.wrap_u64];omega
       rcases hcase with ⟨hk1,hk2,hne⟩|⟨hk2,hk1⟩|hk2
       all_goals
        go_wp2
        go_quiet (fail)
        go_wp2_with fail
        have bN:=below_dN hb nq
        have HS:Hid (∀W,Below w.heap.size w W->W.cell? ⟨b,o+i,none⟩=some (.string t)/\Below w.heap.size w W):=fun W hW=>⟨HC.out W hW,hW⟩
        go_region_held3 (fun W=>W.cell? ⟨b,o+i,none⟩=some (.string t)/\Below w.heap.size w W)
         (first|(refine HS.out _ ?_;assumption)|(refine HS.out _ ?_;exact bN.drew)|(refine HS.out _ (below_t ?_ (Nat.le_refl _) hb');assumption)|(refine HS.out _ (below_t ?_ (Nat.le_refl _) hb');exact bN.drew)|(refine HS.out _ (below_t ?_ (Nat.le_refl _) hb');exact And.right (by assumption)))
         (first|(go_at_call 47;refine (HSev.out _).mono ?_;rintro e w' ⟨rfl,hb'⟩)|(go_at_call 43;refine (HLon.out _).mono ?_;rintro e w' ⟨rfl,hb'⟩))
        all_goals
         obtain⟨hcc,hbb⟩:=‹_/\Below w.heap.size w _›
         clear hc1 hc2
         go_wp2
         go_roundw
         case rel=>exact⟨i+1,by omega,by go_num,by rw[HA.out,mk_bytes],by rw[HA.out,Array.length_toList];exact hsl,by rw[HQ.out],hbb⟩
         case measure=>simp[intOf];omega
  · obtain rfl:i=ts.length:=by omega
    have e:(bys ts).take ts.length=bys ts:=by rw[←bys_len,List.take_length]
    rw[e]
    clear e
    go_wp2
    go_ret
    exact⟨rfl,hb⟩
end Go.Proofs.YtoeiahdjamkdgaaGreatDoor
