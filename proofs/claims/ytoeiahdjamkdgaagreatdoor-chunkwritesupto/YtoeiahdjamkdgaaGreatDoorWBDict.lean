/-
  enc.placeWidth and enc.Dict: what they answer of right values.
  enc.atPlaces: the value at each place.
  What values bytes are by unlike ones and their places: in words of lists alone.
  enc.readUnlike at any bytes: the dictionary that they begin with, or an error.
  enc.atPlaces at any places: the values, or an error.
  enc.ReadDict at any bytes: the values, or an error.
-/
import Derived.Test.YtoeiahdjamkdgaaGreatDoorWBMapV
import Derived.Test.YtoeiahdjamkdgaaGreatDoorWBShut0
import Derived.Test.YtoeiahdjamkdgaaGreatDoorWBWVarint
set_option maxRecDepth 100000
set_option maxHeartbeats 3200000
namespace Go.Proofs.YtoeiahdjamkdgaaGreatDoor
open Go.RowKit
theorem placeWidth_any (a:Option Addr)(n c:Nat)(w:World)(hn:n<=20000) :
    Calls Tryz.prog 140 #[.slice a n c] w fun e w'=>e=.returned (.int .i64 (Um.pw n:Nat))/\w'=w:=by
 by_cases h:n<=1
 · have e:Um.pw n=0:=by unfold Um.pw;rw[show n-1=0 by omega];rfl
   rw[e]
   go_enter Tryz.func140,Tryz.ntmps140
   go_wp2_with (go_at_call 60;refine (width_none _ _ (by omega)).mono ?_;rintro e w1 ⟨rfl,hw⟩;obtain rfl:=hw.symm)
   go_ret
   exact⟨rfl,rfl⟩
 · obtain⟨m,rfl⟩:∃m,n=m+1:=⟨n-1,by omega⟩
   have e:Um.pw (m+1)=Lib.bitLen m:=rfl
   rw[e]
   have hm:(((m+1:Nat):Int)-1)=(m:Int):=by omega
   go_enter Tryz.func140,Tryz.ntmps140
   go_wp2_with (go_at_call 60;refine (width_any m _ (by omega) (by omega)).mono ?_;rintro e w1 ⟨rfl,hw⟩;obtain rfl:=hw.symm)
   go_ret
   exact⟨rfl,rfl⟩
theorem lies_pints {w:World}{a:Option Addr}{ps:List Nat}(h:∀j (h:j<ps.length),∃b o,a=some ⟨b,o,none⟩/\w.cell? ⟨b,o+j,none⟩=some (.int .i64 ps[j])):Lies w a (i64s (pints ps)):=fun j hj=>by
 rw[i64s_len,pints_len] at hj
 obtain⟨b,o,e,hc⟩:=h j hj
 exact⟨b,o,e,by rw[hc];simp[i64s,pints]⟩
theorem runs_places (a:Option Addr)(vs us:List Vl)(ps:List Nat)(c:Nat)(w:World)(st:TypeId)(sp:Value)(h:Uq vs us ps)(hn:vs.length<=700)(hcap:ps.length<=c)(hg:w.cell? ⟨0,0,none⟩=some (.iface st sp))(hl:Lies w a (i64s (pints ps))) :
    Calls Tryz.prog 59 #[.slice a ps.length c,.int .i64 (Um.pw us.length:Nat)] w fun e w'=>e=.returned (.tuple #[.string ⟨(Um.wrs (Um.pw us.length) [] (pints ps)).toArray⟩,.nilIface])/\Below w.heap.size w w':=by
 have hlen:=h.len
 have hroom:=pints_room h (by omega)
 have hx:∀j (hj:j<(pints ps).length),-9223372036854775808<=(pints ps)[j]/\(pints ps)[j]<=9223372036854775807:=fun j hj=>by
  rw[pints_len] at hj
  have:=h.lt ps[j] (List.getElem_mem hj)
  simp only[pints,List.getElem_map]
  omega
 have hr:=runsF_any a (pints ps) c (Um.pw us.length) w st sp (by rw[pints_len];omega) (by rw[pints_len];exact hcap) (Um.pw_le (by omega)) hg hx hl
 have hr2:Calls Tryz.prog 59 #[.slice a (pints ps).length c,.int .i64 (Um.pw us.length:Nat)] w fun e w'=>e=.returned (.tuple #[.string ⟨(Um.wrs (Um.pw us.length) [] (pints ps)).toArray⟩,.nilIface])/\Below w.heap.size w w':=by
  refine hr.mono ?_
  rintro e w' ⟨⟨rfl,_⟩|⟨i,p,hi,rfl,_,hN,_,_⟩,hb⟩
  · exact⟨rfl,hb⟩
  · exact absurd (hroom i hi) hN
 rw[pints_len] at hr2
 exact hr2
theorem ck' {w w':World}{g:Nat}{v:Value}(h:w.cell? ⟨g,0,none⟩=some v)(hb:Below w.heap.size w w'):w'.cell? ⟨g,0,none⟩=some v:=(hb.cell (World.block_lt_of_cell? w _ h)).trans h
theorem cat3 (a b c:List UInt8):(⟨a.toArray⟩:ByteArray)++⟨b.toArray⟩++⟨c.toArray⟩=⟨(a++b++c).toArray⟩:=by rw[arr_app,arr_app]
theorem dict_right (a:Option Addr)(vs:List Vl)(c:Nat)(kd:Int)(w:World)(kt st:TypeId)(kp sp:Value)(hgk:w.cell? ⟨3,0,none⟩=some (.iface kt kp))(hgs:w.cell? ⟨0,0,none⟩=some (.iface st sp))(hn:vs.length<=700)(hl:LiesV w a vs)(hr:Right kd vs)(us:List Vl)(ps:List Nat)(hu:Uq vs us ps) :
    Calls Tryz.prog 102 #[.int .i64 kd,.slice a vs.length c] w fun e w'=>e=.returned (.tuple #[.string ⟨(dictB kd us ps).toArray⟩,.nilIface])/\Below w.heap.size w w':=by
 have HL:Hid (LiesV w a vs):=hl
 have HR:Hid (Right kd vs):=hr
 have HU:Hid (Uq vs us ps):=hu
 have HGK:Hid _:=hgk
 have HGS:Hid _:=hgs
 have hul:=hu.len.2
 have HPS:Hid (ps.length=vs.length):=hu.len.1
 have HRU:Hid (Right kd us):=right_sub hr hu.sub
 clear hl hr hu hgk hgs
 go_enter Tryz.func102,Tryz.ntmps102
 go_wp2_with fail
 refine (checkE_any a vs c kd w kt kp (by omega) HR.out.1.1 HR.out.1.2 HGK.out HL.out).mono ?_
 rintro e w1 ⟨⟨rfl,_⟩|⟨i,p,hi,rfl,_,hN,_,_⟩,hb1⟩
 · go_wp2_with fail
   refine (byFirst_any a vs c w1 (by omega) (HL.out.keep hb1) (fun v hv=>(HR.out.2 v hv).2)).mono ?_
   rintro e w2 ⟨⟨us',ps',a2,c2,a3,c3,hu',rfl,hcap,hl2,hl3⟩,hb2⟩
   obtain⟨rfl,rfl⟩:=HU.out.fn us' ps' hu'
   have hb12:=hb1.trans (hb2.mono hb1.size)
   have HL2:Hid (LiesV w2 a2 us):=hl2
   have HL3:Hid (Lies w2 a3 (i64s (pints ps))):=lies_pints hl3
   clear hl2 hl3 hu'
   go_wp2_with fail
   refine (plain_right a2 us c2 kd w2 kt st kp sp (ck' HGK.out hb12) (ck' HGS.out hb12) (by omega) HR.out.1.1 HR.out.1.2 HL2.out (fun j h=>(HRU.out.2 _ (List.getElem_mem h)).1) (fun j h=>(HRU.out.2 _ (List.getElem_mem h)).2.2.1)).mono ?_
   rintro e w3 ⟨rfl,hb3⟩
   have hb13:=hb12.trans (hb3.mono hb12.size)
   go_wp2_with fail
   refine (placeWidth_any a2 us.length c2 w3 (by omega)).mono ?_
   rintro e w4 ⟨rfl,hw⟩
   obtain rfl:=hw.symm
   go_wp2_with fail
   refine (runs_places a3 vs us ps c3 w3 st sp HU.out hn hcap (ck' HGS.out hb13) (HL3.out.keep hb3)).mono ?_
   rintro e w5 ⟨rfl,hb5⟩
   have hb15:=hb13.trans (hb5.mono hb13.size)
   have hwl:=Um.wrs_len (Um.pw us.length) (Um.pw_le (by omega)) (pints ps) (by rw[pints_len,HPS.out];omega)
   have hpl:=plainB_len HRU.out
   obtain⟨wl,HWL⟩:∃wl,Hid (wl=Um.wrs (Um.pw us.length) [] (pints ps)):=⟨_,rfl⟩
   obtain⟨pb,HPB⟩:∃pb,Hid (pb=plainB kd us):=⟨_,rfl⟩
   rw[←HWL.out] at hwl ⊢
   rw[←HPB.out] at hpl ⊢
   go_wp2_with fail
   refine (uvarint_any us.length _ (by omega)).mono ?_
   rintro e w6 ⟨rfl,hb6⟩
   have hb16:=hb15.trans (hb6.mono hb15.size)
   have hsz:(⟨pb.toArray⟩:ByteArray).size=pb.length:=by simp[ByteArray.size]
   go_wp2_with fail
   refine (text_any ⟨pb.toArray⟩ _ (by omega)).mono ?_
   rw[txt_arr,show (⟨pb.toArray⟩:ByteArray).data.toList=pb from rfl]
   rintro e w7 ⟨rfl,hb7⟩
   have hb17:=hb16.trans (hb7.mono hb16.size)
   have htl:=Um.txt_len pb (by omega)
   have hul2:=Um.uv_ten (n:=us.length) (by omega)
   have HD:Hid (dictB kd us ps=Um.uv us.length++Um.txt pb++wl):=by show _=_;rw[HPB.out,HWL.out];rfl
   generalize Um.txt pb=tb at *
   generalize Um.uv us.length=ub at *
   clear hsz
   go_wp2
   go_ret2
   exact⟨by rw[HD.out,←cat3];rfl,hb17⟩
 · exact absurd ((HR.out.2 _ (List.getElem_mem hi)).1) hN
theorem Uq.ex:∀(n:Nat) (vs:List Vl),vs.length=n->∃us ps,Uq vs us ps
 | 0,vs,h=>by
  obtain rfl:vs=[]:=List.eq_nil_of_length_eq_zero h
  exact⟨[],[],Uq.nil⟩
 | n+1,vs,h=>by
  have hlt:n<vs.length:=by omega
  obtain⟨us,ps,hu⟩:=Uq.ex n (vs.take n) (by rw[List.length_take];omega)
  have e:vs=vs.take n++[vs[n]]:=by rw[←List.take_succ_eq_append_getElem hlt,List.take_of_length_le (by omega)]
  generalize vs[n]=v at e
  generalize vs.take n=ws at e hu
  subst e
  by_cases hm:v∈us
  · obtain⟨p,hp,hpe⟩:=List.getElem_of_mem hm
    exact⟨us,ps++[p],Uq.old hu (by rw[←hpe];exact List.getElem?_eq_getElem hp)⟩
  · exact⟨us++[v],ps++[us.length],Uq.new hu hm⟩
end Go.Proofs.YtoeiahdjamkdgaaGreatDoor
namespace Go.Proofs.YtoeiahdjamkdgaaGreatDoor
open Go.RowKit
theorem Uq.at_ {vs us:List Vl}{ps:List Nat}(h:Uq vs us ps):∀i (hi:i<vs.length),∃p,ps[i]? = some p/\us[p]? = some vs[i]:=by
 induction h with
 | nil=>intro i hi;simp at hi
 | @old vs us ps v p hu hp ih =>
  intro i hi
  have hl:=hu.len.1
  by_cases hlt:i<vs.length
  · obtain⟨q,h1,h2⟩:=ih i hlt
    exact⟨q,by rw[List.getElem?_append_left (by omega)];exact h1,by rw[List.getElem_append_left hlt];exact h2⟩
  · have he:i=vs.length:=by simp at hi;omega
    subst he
    exact⟨p,by rw[←hl];simp,by simpa using hp⟩
 | @new vs us ps v hu hv ih =>
  intro i hi
  have hl:=hu.len.1
  by_cases hlt:i<vs.length
  · obtain⟨q,h1,h2⟩:=ih i hlt
    have hq:=(List.getElem?_eq_some_iff.1 h2).1
    exact⟨q,by rw[List.getElem?_append_left (by omega)];exact h1,by rw[List.getElem_append_left hlt,List.getElem?_append_left hq];exact h2⟩
  · have he:i=vs.length:=by simp at hi;omega
    subst he
    exact⟨us.length,by rw[←hl];simp,by simp⟩
end Go.Proofs.YtoeiahdjamkdgaaGreatDoor
namespace Go.Proofs.YtoeiahdjamkdgaaGreatDoor
open Go.RowKit
def IsUn (kd:Int)(l:List UInt8)(n:Nat)(us:List Vl)(e:Nat):Prop :=
 ∃m k z j,Um.rdv l 0 0=(m,k)/\0<k/\m<=n/\Um.rdv (l.drop k) 0 0=(z,j)/\0<j/\k+j+z<=l.length/\IsPl kd ((l.drop (k+j)).take z) m us/\e=k+j+z
theorem isUn_fn {kd:Int}{l:List UInt8}{n e e':Nat}{us us':List Vl}(h:IsUn kd l n us e)(h':IsUn kd l n us' e'):us=us'/\e=e':=by
 obtain⟨m,k,z,j,h1,_,_,h2,_,_,h3,rfl⟩:=h
 obtain⟨m',k',z',j',g1,_,_,g2,_,_,g3,rfl⟩:=h'
 rw[h1] at g1
 obtain⟨rfl,rfl⟩:=Prod.mk.injEq .. ▸ g1
 rw[h2] at g2
 obtain⟨rfl,rfl⟩:=Prod.mk.injEq .. ▸ g2
 exact⟨isPl_fn h3 g3,rfl⟩
def IsDc (kd:Int)(l:List UInt8)(n:Nat)(vs:List Vl):Prop :=
 ∃us e ps,IsUn kd l n us e/\Um.runs (l.drop e) (Um.pw us.length) n=some (ps,(l.drop e).length)/\Uq vs us ps
def atp (us:List Vl)(ps:List Nat):List Vl:=ps.map fun p=>us.getD p ⟨0,0,⟨#[]⟩⟩
theorem atp_len (us:List Vl)(ps:List Nat):(atp us ps).length=ps.length:=by simp[atp]
theorem Uq.atp {vs us:List Vl}{ps:List Nat}(h:Uq vs us ps):vs=atp us ps:=by
 apply List.ext_getElem
 · rw[atp_len,h.len.1]
 · intro i h1 h2
   obtain⟨p,e1,e2⟩:=h.at_ i h1
   obtain⟨hp,rfl⟩:=List.getElem?_eq_some_iff.1 e1
   obtain⟨hu,e3⟩:=List.getElem?_eq_some_iff.1 e2
   simp[Proofs.YtoeiahdjamkdgaaGreatDoor.atp,List.getD,hu,e3]
theorem Uq.places {us:List Vl}{ps qs:List Nat}(h:Uq (Proofs.YtoeiahdjamkdgaaGreatDoor.atp us ps) us qs)(hp:∀p∈ps,p<us.length):qs=ps:=by
 apply List.ext_getElem
 · rw[h.len.1,atp_len]
 · intro i h1 h2
   obtain⟨q,e1,e2⟩:=h.at_ i (by rw[atp_len];exact h2)
   obtain⟨_,rfl⟩:=List.getElem?_eq_some_iff.1 e1
   obtain⟨hu,e3⟩:=List.getElem?_eq_some_iff.1 e2
   have hpl:ps[i]<us.length:=hp _ (List.getElem_mem h2)
   have e4:(Proofs.YtoeiahdjamkdgaaGreatDoor.atp us ps)[i]'(by rw[atp_len];exact h2)=us[ps[i]]:=by simp[Proofs.YtoeiahdjamkdgaaGreatDoor.atp,List.getD,hpl]
   rw[e4] at e3
   exact (List.getElem_inj h.nodup).1 e3
theorem isDc_fn {kd:Int}{l:List UInt8}{n:Nat}{vs vs':List Vl}(h:IsDc kd l n vs)(h':IsDc kd l n vs'):vs=vs':=by
 obtain⟨us,e,ps,h1,h2,h3⟩:=h
 obtain⟨us',e',ps',g1,g2,g3⟩:=h'
 obtain⟨rfl,rfl⟩:=isUn_fn h1 g1
 rw[h2] at g2
 simp only[Option.some.injEq,Prod.mk.injEq,and_true] at g2
 subst g2
 rw[h3.atp,g3.atp]
namespace Um
theorem rds_both (w:Nat):∀(f:Nat) (l:List UInt8) (n:Nat) (p:List Nat × Nat),n<=f->rds f l w n=some p->p.1.length=n/\p.2<=l.length:=by
 intro f
 induction f with
 | zero=>intro l n p hn h;obtain rfl:=Option.some.inj h;simp;omega
 | succ f ih =>
  intro l n p hn h
  unfold rds at h
  split at h
  · rename_i h0;obtain rfl:=Option.some.inj h;simp;omega
  · rename_i h0
    obtain⟨q,hq,h⟩:=Option.bind_eq_some_iff.1 h
    obtain⟨r,hr,rfl⟩:=Option.map_eq_some_iff.1 h
    have h1:=part_len (by omega) hq
    have h2:=ih _ _ _ (by omega) hr
    rw[List.length_drop] at h2
    simp
    omega
theorem runs_length {l:List UInt8}{w n:Nat}{p:List Nat}{u:Nat}(h:runs l w n=some (p,u)):p.length=n:=(rds_both w n l n (p,u) (Nat.le_refl _) h).1
theorem runs_used {l:List UInt8}{w n:Nat}{p:List Nat}{u:Nat}(h:runs l w n=some (p,u)):u<=l.length:=(rds_both w n l n (p,u) (Nat.le_refl _) h).2
end Um
end Go.Proofs.YtoeiahdjamkdgaaGreatDoor
namespace Go.Proofs.YtoeiahdjamkdgaaGreatDoor
open Go.RowKit
def RetUn (kd:Int)(l:List UInt8)(n:Nat)(ev:Value)(e:Ending)(w':World):Prop :=
 (∃us u a c,IsUn kd l n us u/\e=.returned (.tuple #[.slice a us.length c,.int .i64 (u:Nat),.nilIface])/\LiesV w' a us)\/((¬ ∃us u,IsUn kd l n us u)/\e=.returned (.tuple #[.slice none 0 0,.int .i64 0,ev]))
theorem readUnlike_any (kd:Int)(s:ByteArray)(n:Nat)(w:World)(st:TypeId)(sp:Value)(hg:w.cell? ⟨2,0,none⟩=some (.iface st sp))(hs:s.size<=1000000)(hn:n<=20000)(hk1:1<=kd)(hk5:kd<=5) :
    Calls Tryz.prog 176 #[.int .i64 kd,.string s,.int .i64 n] w fun e w'=>RetUn kd s.data.toList n (.iface st sp) e w'/\Below w.heap.size w w':=by
 have HG:Hid _:=hg
 have HLen:Hid (s.data.toList.length=s.size):=Array.length_toList
 have HUV:Hid (∀(t:ByteArray) (W:World),t.size<=1000000->W.cell? ⟨2,0,none⟩=some (.iface st sp)->Calls Tryz.prog 118 #[.string t] W fun e w'=>e=.returned (.tuple #[.int .u64 (Um.rdv t.data.toList 0 0).1,.int .i64 (Um.rdv t.data.toList 0 0).2,errOf (.iface st sp) (Um.rdv t.data.toList 0 0).2])/\Below W.heap.size W w'):=fun t W ht hW=>readUvarint_any t W (.iface st sp) (by unfold maxLen;omega) hW
 obtain⟨hr1,hr2,hr3⟩:=Um.rdv_room s.data.toList 0 0 (by simp)
 rw[HLen.out] at hr3
 have h1:=HUV.out s w hs hg
 obtain⟨m,HM⟩:∃m,Hid ((Um.rdv s.data.toList 0 0).1=m):=⟨_,rfl⟩
 obtain⟨k,HK⟩:∃k,Hid ((Um.rdv s.data.toList 0 0).2=k):=⟨_,rfl⟩
 have HR:Hid (Um.rdv s.data.toList 0 0=(m,k)):=by show _=_;rw[←HM.out,←HK.out]
 rw[HM.out,HK.out] at h1
 rw[HM.out] at hr1
 rw[HK.out] at hr2 hr3
 clear hg
 go_enter Tryz.func176,Tryz.ntmps176
 go_wp2_with fail
 refine h1.mono ?_
 clear h1
 rintro e w1 ⟨rfl,hb1⟩
 by_cases hk0:k=0
 · have e0:errOf (.iface st sp) k=.iface st sp:=by unfold errOf;rw[if_pos hk0]
   rw[e0]
   have HN:Hid (¬ ∃us u,IsUn kd s.data.toList n us u):=fun ⟨us,u,m',k',z',j',q1,q2,_⟩=>by
    rw[HR.out] at q1
    obtain⟨rfl,rfl⟩:=Prod.mk.injEq .. ▸ q1
    omega
   clear e0
   go_wp2
   go_ret3
   exact⟨Or.inr ⟨HN.out,rfl⟩,hb1⟩
 · have e0:errOf (.iface st sp) k=.nilIface:=by unfold errOf;rw[if_neg hk0]
   rw[e0]
   clear e0
   have hg1:=(hb1.cell (World.block_lt_of_cell? w _ HG.out)).trans HG.out
   have HG1:Hid _:=hg1
   have hw1:IntKind.u64.wrap (n:Int)=n:=by rw[IntKind.wrap_u64];omega
   by_cases hmn:n<m
   · have HN : Hid (¬ ∃ us u, IsUn kd s.data.toList n us u) := fun ⟨us, u, m', k', z', j', q1, q2, q3, _⟩ => by
       rw[HR.out] at q1
       obtain⟨rfl,rfl⟩:=Prod.mk.injEq .. ▸ q1
       omega
     go_wp2
     go_region
     all_goals (try go_wp2)
     all_goals go_ret3
     all_goals exact⟨Or.inr ⟨HN.out,rfl⟩,hb1.drew⟩
   · clear hg1
     have hxs:(s.extract k s.size).size<=1000000:=by rw[ByteArray.size_extract];omega
     have h2:=HUV.out (s.extract k s.size) w1 hxs HG1.out
     rw[drop_ext] at h2
     obtain⟨hq1,hq2,hq3⟩:=Um.rdv_room (s.data.toList.drop k) 0 0 (by simp)
     rw[List.length_drop,HLen.out] at hq3
     obtain⟨z,HZ⟩:∃z,Hid ((Um.rdv (s.data.toList.drop k) 0 0).1=z):=⟨_,rfl⟩
     obtain⟨j,HJ⟩:∃j,Hid ((Um.rdv (s.data.toList.drop k) 0 0).2=j):=⟨_,rfl⟩
     have HR2:Hid (Um.rdv (s.data.toList.drop k) 0 0=(z,j)):=by show _=_;rw[←HZ.out,←HJ.out]
     rw[HZ.out,HJ.out] at h2
     rw[HZ.out] at hq1
     rw[HJ.out] at hq2 hq3
     clear hxs
     go_wp2_with fail
     refine h2.mono ?_
     clear h2
     rintro e w2 ⟨rfl,hb2⟩
     have hb12:=hb1.trans (hb2.mono hb1.size)
     have hg2:=(hb2.cell (World.block_lt_of_cell? w1 _ HG1.out)).trans HG1.out
     have HG2:Hid _:=hg2
     clear hg2
     by_cases hj0:j=0
     · have e0:errOf (.iface st sp) j=.iface st sp:=by unfold errOf;rw[if_pos hj0]
       rw[e0]
       have HN:Hid (¬ ∃us u,IsUn kd s.data.toList n us u):=fun ⟨us,u,m',k',z',j',q1,q2,q3,q4,q5,_⟩=>by
        rw[HR.out] at q1
        obtain⟨rfl,rfl⟩:=Prod.mk.injEq .. ▸ q1
        rw[HR2.out] at q4
        obtain⟨rfl,rfl⟩:=Prod.mk.injEq .. ▸ q4
        omega
       clear e0
       go_wp2
       go_ret3
       exact⟨Or.inr ⟨HN.out,rfl⟩,hb12⟩
     · have e0:errOf (.iface st sp) j=.nilIface:=by unfold errOf;rw[if_neg hj0]
       rw[e0]
       clear e0
       have hw2:IntKind.u64.wrap ((s.size:Int)-((k:Int)+(j:Int)))=((s.size-(k+j):Nat):Int):=by rw[IntKind.wrap_u64];omega
       by_cases hov:s.size-(k+j)<z
       · have HN : Hid (¬ ∃ us u, IsUn kd s.data.toList n us u) := fun ⟨us, u, m', k', z', j', q1, q2, q3, q4, q5, q6, _⟩ => by
           rw[HR.out] at q1
           obtain⟨rfl,rfl⟩:=Prod.mk.injEq .. ▸ q1
           rw[HR2.out] at q4
           obtain⟨rfl,rfl⟩:=Prod.mk.injEq .. ▸ q4
           rw[HLen.out] at q6
           omega
         have hg2:=HG2.out
         go_wp2
         go_region
         all_goals (try go_wp2)
         all_goals go_ret3
         all_goals exact⟨Or.inr ⟨HN.out,rfl⟩,hb12.drew⟩
       · have hxz:(s.extract (k+j) (k+j+z)).size<=1000000:=by rw[ByteArray.size_extract];omega
         have h3:=readPlain_any kd (s.extract (k+j) (k+j+z)) m w2 st sp HG2.out hxz (by omega) hk1 hk5
         rw[ext_take] at h3
         clear hxz
         go_wp2_with fail
         refine h3.mono ?_
         clear h3
         rintro e w3 ⟨⟨vs,a,c,hI,rfl,hl⟩|⟨hI,rfl⟩,hb3⟩
         · have hvl:vs.length=m:=hI.1
           have HL:Hid _:=hl
           have HI:Hid (IsUn kd s.data.toList n vs (k+j+z)):=⟨m,k,z,j,HR.out,by omega,by omega,HR2.out,by omega,by rw[HLen.out];omega,hI,rfl⟩
           have HVL:Hid (vs.length=m):=hvl
           clear hl hI hvl
           go_wp2
           go_ret3
           exact⟨Or.inl ⟨vs,k+j+z,a,c,HI.out,by rw[HVL.out];simp,HL.out⟩,hb12.trans (hb3.mono hb12.size)⟩
         · have HN : Hid (¬ ∃ us u, IsUn kd s.data.toList n us u) := fun ⟨us, u, m', k', z', j', q1, q2, q3, q4, q5, q6, q7, _⟩ => by
             rw[HR.out] at q1
             obtain⟨rfl,rfl⟩:=Prod.mk.injEq .. ▸ q1
             rw[HR2.out] at q4
             obtain⟨rfl,rfl⟩:=Prod.mk.injEq .. ▸ q4
             exact hI ⟨us,q7⟩
           clear hI
           go_wp2
           go_ret3
           exact⟨Or.inr ⟨HN.out,rfl⟩,hb12.trans (hb3.mono hb12.size)⟩
end Go.Proofs.YtoeiahdjamkdgaaGreatDoor
namespace Go.Proofs.YtoeiahdjamkdgaaGreatDoor
open Go.RowKit
def RetAtC (N:Nat)(us:List Vl)(ps:List Nat)(ev:Value)(e:Ending)(w':World):Prop :=
 (∃vs a c,Uq vs us ps/\e=.returned (.tuple #[.slice a ps.length c,.nilIface])/\LiesV w' a vs/\ps.length<=c/\Fsh N a)\/((¬ ∃vs,Uq vs us ps)/\e=.returned (.tuple #[.slice none 0 0,ev]))
theorem atPlaces_c (a1 a2:Option Addr)(c1 c2:Nat)(us:List Vl)(ps:List Nat)(w:World)(st:TypeId)(sp:Value)(hg:w.cell? ⟨2,0,none⟩=some (.iface st sp))(hn:ps.length<=20000)(hun:us.length<=20000)(hl1:LiesV w a1 us)(hl2:∀j (h:j<ps.length),∃b o,a2=some ⟨b,o,none⟩/\w.cell? ⟨b,o+j,none⟩=some (.int .i64 ps[j]))(hin:∀v∈us,v.In) :
    Calls Tryz.prog 177 #[.slice a1 us.length c1,.slice a2 ps.length c2] w fun e w'=>RetAtC w.heap.size us ps (.iface st sp) e w'/\Below w.heap.size w w':=by
 obtain⟨iv,hvi,hv0,hv1,hv2⟩:=info_parts Tryz.infoV
 have H1:Hid (LiesV w a1 us):=hl1
 have H2:Hid (∀j (h:j<ps.length),∃b o,a2=some ⟨b,o,none⟩/\w.cell? ⟨b,o+j,none⟩=some (.int .i64 ps[j])):=hl2
 have HI:Hid (∀v∈us,v.In):=hin
 have HG:Hid (w.cell? ⟨2,0,none⟩=some (.iface st sp)):=hg
 obtain⟨n,HPN⟩:∃n,Hid (ps.length=n):=⟨_,rfl⟩
 rw[HPN.out]
 rw[HPN.out] at hn
 clear hl1 hl2 hin hg
 obtain⟨M,hM⟩:∃M,M=madeCells (Value.agg #[.int .i64 0,.int .i64 0,.string ⟨#[]⟩]).cells (((n:Nat):Int).toNat*iv.size):=⟨_,rfl⟩
 have hMs:M.size=n*3:=by rw[hM,size_madeCells,hv1];simp
 have hmk:∀W:World,(Instr.makeSlice 25 (.int .i64 (n:Int)) (.int .i64 (n:Int))).run Tryz.prog W=.ok (.slice (some ⟨W.heap.size,0,none⟩) n n) (W.alloc (.cells M 46)):=fun W=>by
  have h:=run_make (P:=Tryz.prog) W 25 46 iv (.agg #[.int .i64 0,.int .i64 0,.string ⟨#[]⟩]) Tryz.underlying25 hvi hv0 .i64 .i64 (n:Int) (n:Int) (by omega) (by omega) (by rw[hv2];omega) (by omega)
  rw[←hM] at h
  simpa using h
 have HS:Hid (VRow (fun i=>(atp us ps).getD i ⟨0,0,⟨#[]⟩⟩) n w.heap.size w (w.alloc (.cells M 46)) 0):=VRow.start _ _ _ _ _ hMs
 clear hM hMs
 go_enter Tryz.func177,Tryz.ntmps177
 go_wp2
 clear hmk
 go_loopw [16] (fun x wr=>∃i:Nat,i<=n/\x=.int .i64 i/\w.heap.size<wr.heap.size/\Hid (∀j (h:j<ps.length),j<i->ps[j]<us.length)/\Hid (VRow (fun i=>(atp us ps).getD i ⟨0,0,⟨#[]⟩⟩) n w.heap.size w wr i)) (fun x _=>n-(intOf x).toNat)
 case atStart=>exact⟨0,Nat.zero_le _,rfl,by simp,fun j _ h=>absurd h (Nat.not_lt_zero _),HS⟩
 case round =>
  clear HS
  obtain⟨i,hik,rfl,hsz,HA,HV⟩:=hrel
  have hb:=HV.out.old
  by_cases hlt:i<n
  · have hpi:i<ps.length:=by rw[HPN.out];exact hlt
    obtain⟨b2,o2,rfl,hc0⟩:=H2.out i hpi
    have hc:=(hb.cell (World.block_lt_of_cell? w _ hc0)).trans hc0
    have HP:Hid (∀h:i<ps.length,ps[i]=ps[i]'hpi):=fun _=>rfl
    have HE:Hid (∀h:ps[i]<us.length,(atp us ps).getD i ⟨0,0,⟨#[]⟩⟩=us[ps[i]]):=fun h=>by
     simp[atp,List.getD,hpi,h]
    clear hc0
    generalize ps[i]'hpi=p at *
    by_cases hpu:p<us.length
    · obtain⟨b1,o1,rfl,d0,d1,d2⟩:=(LiesV.keep H1.out hb) p hpu
      have HE2:Hid _:=HE.out hpu
      generalize us[p]=v at *
      obtain⟨k0,n0,s0⟩:=v
      simp only at d0 d1 d2
      obtain⟨y0,g0⟩:=HV.out.any (i*3) (by omega)
      obtain⟨y1,g1⟩:=HV.out.any (i*3+1) (by omega)
      obtain⟨y2,g2⟩:=HV.out.any (i*3+2) (by omega)
      have f0:=HV.out.froz (i*3) (by omega)
      have f1:=HV.out.froz (i*3+1) (by omega)
      have f2:=HV.out.froz (i*3+2) (by omega)
      have hN:=HV.out.next (Nat.le_refl _) hlt
      rw[HE2.out] at hN
      have HN:Hid _:=hN
      have HA2:Hid (∀j (h:j<ps.length),j<i+1->ps[j]<us.length):=fun j h hj=>by
       by_cases e:j=i
       · subst e;rw[HP.out h];exact hpu
       · exact HA.out j h (by omega)
      clear hN
      go_wp2
      go_roundw
      case rel=>exact⟨i+1,by omega,by go_num,by simpa using hsz,HA2,HN⟩
      case measure=>simp[intOf];omega
    · have HN : Hid (¬ ∃ vs, Uq vs us ps) := fun ⟨vs, hu⟩ => hpu (by
        have h:=hu.lt (ps[i]'hpi) (List.getElem_mem hpi)
        rw[HP.out hpi] at h
        exact h)
      have hg:=(hb.cell (World.block_lt_of_cell? w _ HG.out)).trans HG.out
      have hpu2:us.length<=p:=by omega
      go_wp2
      go_region
      all_goals (try go_wp2)
      all_goals go_ret2
      all_goals exact⟨Or.inr ⟨HN.out,rfl⟩,hb.drew⟩
  · obtain rfl:i=n:=by omega
    have hlv:=HV.out.lies
    have hmp:(List.range i).map (fun i=>(atp us ps).getD i ⟨0,0,⟨#[]⟩⟩)=atp us ps:=by
     apply List.ext_getElem
     · rw[List.length_map,List.length_range,atp_len,HPN.out]
     · intro j h1 h2
       simp[List.getD,h2]
    rw[hmp] at hlv
    have HLV:Hid (LiesV wr (some ⟨w.heap.size,0,none⟩) (atp us ps)):=hlv
    clear hlv hmp
    have HPL:Hid (∀p∈ps,p<us.length):=fun p hp=>by
     obtain⟨j,hj,rfl⟩:=List.getElem_of_mem hp
     exact HA.out j hj (by rw[←HPN.out];exact hj)
    have HIn:Hid (∀v∈atp us ps,v.In):=fun v hv=>by
     obtain⟨p,hp,rfl⟩:=List.mem_map.1 hv
     have h:=HPL.out p hp
     simp only[List.getD,List.getElem?_eq_getElem h,Option.getD_some]
     exact HI.out _ (List.getElem_mem h)
    have hbf:=byFirst_any (some ⟨w.heap.size,0,none⟩) (atp us ps) i wr (by rw[atp_len,HPN.out];exact hn) HLV.out HIn.out
    rw[atp_len,HPN.out] at hbf
    go_wp2_with fail
    refine hbf.mono ?_
    clear hbf
    rintro e w2 ⟨⟨us',ps',a3,c3,a4,c4,hu',rfl,hcap,hl3,hl4⟩,hb2⟩
    have HU:Hid (Uq (atp us ps) us' ps'):=hu'
    have hul:=hu'.len.2
    rw[atp_len,HPN.out] at hul
    have HL3:Hid (LiesV w2 a3 us'):=hl3
    have hb12:=hb.trans (hb2.mono hb.size)
    clear hl3 hl4 hu' hcap
    go_wp2_with fail
    refine (equalV_any w2 a3 a1 c3 c1 us' us (by unfold maxLen;omega) HL3.out (LiesV.keep H1.out hb12)).mono ?_
    rintro e w3 ⟨⟨b,rfl,hbt⟩,hb3⟩
    have HL4:Hid (LiesV w3 (some ⟨w.heap.size,0,none⟩) (atp us ps)):=LiesV.keep (LiesV.keep HLV.out hb2) hb3
    have hb13:=hb12.trans (hb3.mono hb12.size)
    cases b with
    | true =>
     obtain rfl:us'=us:=hbt.1 rfl
     obtain rfl:=HU.out.places HPL.out
     clear hbt
     go_wp2
     go_ret2
     exact⟨Or.inl ⟨_,_,_,HU.out,by rw[HPN.out];rfl,HL4.out,by rw[HPN.out];exact Nat.le_refl _,.at (Nat.le_refl _)⟩,hb13⟩
    | false =>
     have HN:Hid (¬ ∃vs,Uq vs us ps):=fun ⟨vs,hu⟩=>by
      have h:=hu
      rw[hu.atp] at h
      exact absurd (hbt.2 (HU.out.fn us ps h).1) (by simp)
     have hg:=(hb13.cell (World.block_lt_of_cell? w _ HG.out)).trans HG.out
     clear hbt
     go_wp2
     go_region
     all_goals (try go_wp2)
     all_goals go_ret2
     all_goals exact⟨Or.inr ⟨HN.out,rfl⟩,hb13.drew⟩
end Go.Proofs.YtoeiahdjamkdgaaGreatDoor
namespace Go.Proofs.YtoeiahdjamkdgaaGreatDoor
open Go.RowKit
theorem readDict_c (kd:Int)(s:ByteArray)(n:Nat)(w:World)(st:TypeId)(sp:Value)(hg:w.cell? ⟨2,0,none⟩=some (.iface st sp))(hs:s.size<=1000000)(hn:n<=20000)(hk1:1<=kd)(hk5:kd<=5) :
    Calls Tryz.prog 166 #[.int .i64 kd,.string s,.int .i64 (n:Nat)] w fun e w'=>RetRdC w.heap.size (IsDc kd s.data.toList n) n (.iface st sp) e w'/\Below w.heap.size w w':=by
 have HG:Hid (w.cell? ⟨2,0,none⟩=some (.iface st sp)):=hg
 have HLen:Hid (s.data.toList.length=s.size):=Array.length_toList
 have h1:=readUnlike_any kd s n w st sp hg hs hn hk1 hk5
 clear hg
 go_enter Tryz.func166,Tryz.ntmps166
 go_wp2_with fail
 refine (checkCount_fine kd n w hk1 hk5 (by omega) (by omega)).mono ?_
 rintro e w1 ⟨rfl,hw⟩
 obtain rfl:=hw.symm
 go_wp2_with fail
 refine h1.mono ?_
 clear h1
 rintro e w1 ⟨⟨us,u,a1,c1,hI,rfl,hl1⟩|⟨hI,rfl⟩,hb1⟩
 rotate_left
 · have HN:Hid (¬ ∃vs,IsDc kd s.data.toList n vs):=fun ⟨vs,us,u,ps,h,_⟩=>hI ⟨us,u,h⟩
   clear hI
   go_wp2
   go_ret2
   exact⟨Or.inr ⟨HN.out,rfl⟩,hb1⟩
 have HI:Hid (IsUn kd s.data.toList n us u):=hI
 have HL1:Hid (LiesV w1 a1 us):=hl1
 have hule:u<=s.size:=by
  obtain⟨m,k,z,j,_,_,_,_,_,q,_,rfl⟩:=hI
  rw[HLen.out] at q
  exact q
 have hul:us.length<=n:=by
  obtain⟨m,k,z,j,_,_,q,_,_,_,q2,_⟩:=hI
  rw[q2.1]
  exact q
 have HIn:Hid (∀v∈us,v.In):=by
  obtain⟨m,k,z,j,_,_,q,_,_,_,q2,_⟩:=hI
  exact fun v hv=>(q2.2.1.2 v hv).2
 have hg1:=(hb1.cell (World.block_lt_of_cell? w _ HG.out)).trans HG.out
 have HG1:Hid (w1.cell? ⟨2,0,none⟩=some (.iface st sp)):=hg1
 clear hl1 hg1 hI
 have hxs:(s.extract u s.size).size<=1000000:=by rw[ByteArray.size_extract];omega
 have HRR:Hid (∀W,W.cell? ⟨2,0,none⟩=some (.iface st sp)->Calls Tryz.prog 149 #[.string (s.extract u s.size),.int .i64 (Um.pw us.length:Nat),.int .i64 (n:Nat)] W fun e w'=>RetPart (Um.runs (s.data.toList.drop u) (Um.pw us.length) n) (.iface st sp) e w'/\Below W.heap.size W w'):=fun W hW=>by
  have h:=readRuns_any (s.extract u s.size) (Um.pw us.length) n W st sp hxs (Um.pw_le (by omega)) (by omega) hW
  rw[cut_list] at h
  exact h
 clear hxs
 obtain⟨R,HR⟩:∃R,Hid (R=Um.runs (s.data.toList.drop u) (Um.pw us.length) n):=⟨_,rfl⟩
 rw[←HR.out] at HRR
 have HPW:Hid (∀W:World,Calls Tryz.prog 140 #[.slice a1 us.length c1] W fun e w'=>e=.returned (.int .i64 (Um.pw us.length:Nat))/\w'=W):=fun W=>placeWidth_any a1 us.length c1 W (by omega)
 cases R with
 | none =>
  have HN:Hid (¬ ∃vs,IsDc kd s.data.toList n vs):=fun ⟨vs,us',u',ps,h,h2,_⟩=>by
   obtain⟨rfl,rfl⟩:=isUn_fn HI.out h
   rw[←HR.out] at h2
   cases h2
  go_wp2_with fail
  go_region_with (first|(go_at_call 140;refine (HPW.out _).mono ?_;rintro e w' ⟨rfl,hw⟩;obtain rfl:=hw.symm)|(go_at_call 149;refine (HRR.out w1.drew HG1.out).mono ?_;rintro e w5 ⟨rfl,hb5⟩))
  all_goals
   have hb15:Below w.heap.size w w5:=hb1.drew.trans (hb5.mono hb1.size)
   go_wp2
   go_ret2
   exact⟨Or.inr ⟨HN.out,rfl⟩,hb15⟩
 | some r =>
  obtain⟨ps,z⟩:=r
  have hzl:z<=s.size-u:=by
   have h:=Um.runs_used HR.out.symm
   rw[List.length_drop,HLen.out] at h
   exact h
  have HPL:Hid (ps.length=n):=Um.runs_length HR.out.symm
  have HRE:Hid (∀vs us' u' ps',IsUn kd s.data.toList n us' u'->Um.runs (s.data.toList.drop u') (Um.pw us'.length) n=some (ps',(s.data.toList.drop u').length)->Uq vs us' ps'->us'=us/\ps'=ps/\z=s.size-u):=fun vs us' u' ps' h h2 h3=>by
   obtain⟨rfl,rfl⟩:=isUn_fn HI.out h
   rw[←HR.out] at h2
   simp only[Option.some.injEq,Prod.mk.injEq] at h2
   refine⟨rfl,h2.1.symm,?_⟩
   rw[h2.2,List.length_drop,HLen.out]
  go_wp2_with fail
  go_region_with (first|(go_at_call 140;refine (HPW.out _).mono ?_;rintro e w' ⟨rfl,hw⟩;obtain rfl:=hw.symm)|(go_at_call 149;refine (HRR.out w1.drew HG1.out).mono ?_;rintro e w5 ⟨⟨a5,c5,rfl,hl5⟩,hb5⟩))
  all_goals
   have hb15:Below w.heap.size w w5:=hb1.drew.trans (hb5.mono hb1.size)
   have HL5:Hid (LiesV w5 a1 us):=LiesV.keep HL1.out ((Below.refl _ _).drew.trans hb5)
   have hg5:=(hb15.cell (World.block_lt_of_cell? w _ HG.out)).trans HG.out
   have HP5:Hid (∀j (h:j<ps.length),∃b o,a5=some ⟨b,o,none⟩/\w5.cell? ⟨b,o+j,none⟩=some (.int .i64 ps[j])):=fun j h=>by
    obtain⟨b,o,e,hc⟩:=hl5 j (by simp only[i64s,List.length_map];exact h)
    refine⟨b,o,e,?_⟩
    rw[hc]
    simp[i64s]
   clear hl5
   by_cases hz:u+z=s.size
   · have hne:(((u:Int)+(z:Int)) != (s.size:Int))=false:=by simp;omega
     have hat:=atPlaces_c a1 a5 c1 c5 us ps w5 st sp hg5 (by rw[HPL.out];exact hn) (by omega) HL5.out HP5.out HIn.out
     clear hg5
     go_wp2_with fail
     refine hat.mono ?_
     clear hat
     rintro e w6 ⟨⟨vs,a6,c6,hu6,rfl,hl6⟩|⟨hu6,rfl⟩,hb6⟩
     · have HD:Hid (IsDc kd s.data.toList n vs):=⟨us,u,ps,HI.out,by rw[←HR.out,List.length_drop,HLen.out];congr 2;omega,hu6⟩
       have HL6:Hid _:=hl6
       clear hl6 hu6
       go_wp2
       go_ret2
       exact⟨Or.inl ⟨vs,a6,c6,HD.out,by rw[HPL.out];rfl,HL6.out.1,by rw[←HPL.out];exact HL6.out.2.1,HL6.out.2.2.low hb15.size⟩,hb15.trans (hb6.mono hb15.size)⟩
     · have HN : Hid (¬ ∃ vs, IsDc kd s.data.toList n vs) := fun ⟨vs, us', u', ps', h, h2, h3⟩ => by
         obtain⟨rfl,rfl,_⟩:=HRE.out vs us' u' ps' h h2 h3
         exact hu6 ⟨vs,h3⟩
       clear hu6
       go_wp2
       go_ret2
       exact⟨Or.inr ⟨HN.out,rfl⟩,hb15.trans (hb6.mono hb15.size)⟩
   · have hne:(((u:Int)+(z:Int)) != (s.size:Int))=true:=by simp;omega
     have HN:Hid (¬ ∃vs,IsDc kd s.data.toList n vs):=fun ⟨vs,us',u',ps',h,h2,h3⟩=>by
      obtain⟨rfl,rfl,hq⟩:=HRE.out vs us' u' ps' h h2 h3
      omega
     clear hz
     go_wp2
     go_region
     all_goals (try go_wp2)
     all_goals go_ret2
     all_goals exact⟨Or.inr ⟨HN.out,rfl⟩,hb15.drew⟩
end Go.Proofs.YtoeiahdjamkdgaaGreatDoor
