/-
  chunk.Write's closure.
  Chunks: what page.Read answers where a written page begins; how many records a part has: mathematics, without the program.
  A chunk's text from a page on: mathematics, without the program.
  chunk.eachPage with the closure of Marks.
  chunk.eachPart with the closure of Write.
  chunk.Write: exact.
  Chunks: where records begin, one behind the other; the reference's cut of records is the program's: mathematics, without the program.
-/
import Derived.Test.YtoeiahdjamkdgaaGreatDoorWBRpI
import Derived.Test.YtoeiahdjamkdgaaGreatDoorWBChB
import Derived.Test.YtoeiahdjamkdgaaGreatDoorWSBuild
set_option maxRecDepth 100000
set_option maxHeartbeats 6400000
namespace Go.Proofs.YtoeiahdjamkdgaaGreatDoor
open Go.RowKit
theorem write1_any (lid kind mr md:Int)(pa:Option Addr)(pn pc:Nat)(g:Nat)(U:List Vl->List Vl × List Nat)(hU:∀vs,Uq vs (U vs).1 (U vs).2)(c:Cl)(hg:GoodC lid kind mr md c)(hr:c.rs≠[])(hin:∀v∈c.vs,v.In)(hbk:c.rs.length+c.ds.length+c.vs.length<=2000)(hcr:c.rs.length<=c.rc)(hcd:c.ds.length<=c.dc)(hcv:c.vs.length<=c.vc)(B:World)(l:List UInt8)(hl:l.length<=1000000)(W:World)(hI:NtI B l W)(hgb:W.heap[g]? = some (.cells #[.int .i64 lid,.int .i64 kind,.int .i64 mr,.int .i64 md,.slice pa pn pc] 39 (0,0)))(st kt bt:TypeId)(sp kp bp:Value)(hs:W.cell? ⟨0,0,none⟩=some (.iface st sp))(hk:W.cell? ⟨3,0,none⟩=some (.iface kt kp))(hbd:W.cell? ⟨1,0,none⟩=some (.iface bt bp))(hat:c.At W) :
    Calls Tryz.prog 20 #[.agg #[.int .i64 c.id,.slice c.ra c.rs.length c.rc,.slice c.da c.ds.length c.dc,.slice c.va c.vs.length c.vc],.pointer (some ⟨g,0,none⟩),.pointer (some ⟨B.heap.size,0,none⟩)] W fun e w'=>e=.returned .nilIface/\NtI B (l++pgT U kind mr md c) w'/\(∀k cs T f,k≠B.heap.size->T≠5->W.heap[k]? = some (.cells cs T f)->w'.heap[k]? = some (.cells cs T f))/\W.heap.size<=w'.heap.size:=by
 obtain⟨w0,HW0,HX,HB⟩:=boxed1 W #[.int .i64 c.id,.slice c.ra c.rs.length c.rc,.slice c.da c.ds.length c.dc,.slice c.va c.vs.length c.vc] 27
 have HG:Hid (w0.heap[g]? = some (.cells #[.int .i64 lid,.int .i64 kind,.int .i64 mr,.int .i64 md,.slice pa pn pc] 39 (0,0))):=blk_keep HB.out hgb
 have HI0:Hid (NtI B l w0):=hI.keep HB.out
 have hlen:=pgT_len (U:=U) hg hin hbk
 have HWr:Hid (Calls Tryz.prog 21 #[.agg #[.int .i64 lid,.int .i64 kind,.int .i64 mr,.int .i64 md,.slice pa pn pc],.agg #[.int .i64 c.id,.slice c.ra c.rs.length c.rc,.slice c.da c.ds.length c.dc,.slice c.va c.vs.length c.vc]] w0 fun e w'=>e=.returned (.tuple #[.string ⟨(pgT U kind mr md c).toArray⟩,.nilIface])/\Below w0.heap.size w0 w'):=(pgWrite_any lid kind mr md pa pn pc c (U c.vs).1 (U c.vs).2 (hU c.vs) hbk hcr hcd hcv hin w0 kt st bt kp sp bp (ckB hk HB.out) (ckB hs HB.out) (ckB hbd HB.out) (hat.keep HB.out)).mono fun e w' h=>(by
  obtain⟨⟨t,ev,rfl,h1⟩,h2⟩:=h
  refine⟨?_,h2⟩
  rcases h1 with ⟨h1,_⟩|⟨_,p,hp,h1,_⟩|⟨_,h1,_⟩|⟨_,_,h1,h3⟩
  · have:=hg.1
    rw[h1] at this
    cases this
  · have:=hg.2 p hp
    rw[h1] at this
    cases this
  · exact absurd h1 hr
  · rw[h1,h3]
    rfl)
 obtain⟨⟨p0,p1,p2,p3,p4⟩,_⟩:=row_five HG.out
 obtain⟨k0,k1,k2,k3⟩:=row_four HX.out
 have HBo:Hid (Below W.heap.size W w0):=HB.out
 clear hgb hI hs hk hbd hat HB HX
 obtain⟨t,HT⟩:∃t,Hid (pgT U kind mr md c=t):=⟨_,rfl⟩
 rw[HT.out] at HWr hlen ⊢
 obtain⟨tb,HTB⟩:∃tb,Hid ((⟨t.toArray⟩:ByteArray)=tb):=⟨_,rfl⟩
 rw[HTB.out] at HWr
 go_enter Tryz.func20,Tryz.ntmps20
 go_upto_region 1 with fail
 rw[HW0.out]
 go_wp2_with fail
 refine Calls.mono HWr.out ?_
 rintro e w1 ⟨rfl,hb1⟩
 have HI1:Hid (NtI B l w1):=HI0.out.keep hb1
 have HB1:Hid (Below W.heap.size W w1):=HBo.out.trans (hb1.mono HBo.out.size)
 have HS1:Hid _:=HI1.out.write (m:=t) (by omega)
 rw[HTB.out] at HS1
 clear hb1 p0 p1 p2 p3 p4 k0 k1 k2 k3 HI0 HG HWr
 go_wp2_with fail
 refine Calls.mono HS1.out ?_
 rintro e w2 ⟨⟨v,rfl⟩,hi2,hk2,hz2⟩
 have HI2:Hid _:=hi2
 have HK2:Hid (∀k cs T f,k≠B.heap.size->T≠5->W.heap[k]? = some (.cells cs T f)->w2.heap[k]? = some (.cells cs T f)):=fun k cs T f h1 h2 h3=>hk2 k cs T f h1 h2 (blk_keep HB1.out h3)
 have HZ2:Hid (W.heap.size<=w2.heap.size):=Nat.le_trans HB1.out.size hz2
 clear hi2 hk2 hz2 HS1
 go_wp2
 go_ret
 exact⟨rfl,HI2.out,HK2.out,HZ2.out⟩
theorem noPg_ch {s:ByteArray}{sh tx su ev:Value}{n k:Nat}{lf:Bool}(hl:lf=true)(h:PgOk s n k):¬ NoPg lf s sh tx su ev:=by
 subst hl
 rintro (⟨h1,_⟩|⟨_,h1,_⟩|⟨_,⟨n',k',h1,h2⟩,_⟩)
 · cases h1
 · exact h1 ⟨n,k,h.1⟩
 · obtain⟨rfl,rfl⟩:=h.1.fn h1
   exact h2 h.2
theorem prd_of {N:Nat}{U:List Vl->List Vl × List Nat}{lid kind mr md:Int}{c:Cl}{r:List UInt8}(hU:∀vs,Uq vs (U vs).1 (U vs).2)(hg:GoodC lid kind mr md c)(hin:∀v∈c.vs,v.In)(hr:c.rs≠[])(hbk:c.rs.length+c.ds.length+c.vs.length<=2000){sh tx su:Value}{e:Ending}{w':World}
    (h:PrdR N lid kind mr md ⟨(pgT U kind mr md c++r).toArray⟩ sh tx su e w'):∃k:Cl,e=.returned (.tuple #[.agg #[.int .i64 k.id,.slice k.ra k.rs.length k.rc,.slice k.da k.ds.length k.dc,.slice k.va k.vs.length k.vc],.int .i64 ((pgT U kind mr md c).length:Nat),.nilIface])/\k.At w'/\k.Fr N/\SameC c k:=by
 have hb:=bodyW_len (us:=(U c.vs).1) (ps:=(U c.vs).2) hg hin hbk
 obtain⟨hbd,e1,e2,e3⟩:=bdAt_of (hU c.vs) hg hin hr hbk
 obtain⟨hpo,hbo⟩:=pgOk_of (b:=bodyW kind mr md c (U c.vs).1 (U c.vs).2) (r:=r) (by omega)
 have hlf:isLfB kind mr md=true:=by have:=hg.1;rw[Bool.and_eq_true] at this;exact this.1
 rcases h with ⟨ev,h1,_⟩|⟨_,n,k,h1,h2⟩
 · exact absurd h1 (noPg_ch hlf hpo)
 · obtain⟨rfl,rfl⟩:=h1.fn hpo
   rw[show (pgT U kind mr md c)=pgB (bodyW kind mr md c (U c.vs).1 (U c.vs).2) from rfl,hbo] at h2
   rcases h2 with ⟨p,d,k,q1,q2,q3,q4,q5,q6,q7,q8⟩|⟨q1,_⟩
   · obtain⟨rfl,rfl,hv⟩:=isBd_fn q1 hbd
     refine⟨k,?_,q6,q7,⟨q2.trans e3.symm,q3.trans e1,q4.trans e2,hv,q8⟩⟩
     rw[q5,show (pgT U kind mr md c)=pgB (bodyW kind mr md c (U c.vs).1 (U c.vs).2) from rfl,pgB_len]
   · exact absurd ⟨_,_,_,hbd⟩ q1
theorem take_while_len {α:Type}(f:α->Bool):∀l:List α,l.take (l.takeWhile f).length=l.takeWhile f
 | []=>rfl
 | a :: l=>by
  rw[List.takeWhile_cons]
  split
  · simp only[List.length_cons,List.take_succ_cons,take_while_len f l]
  · rfl
theorem chT_split (U:List Vl->List Vl × List Nat)(kind mr md:Int)(cs:List Cl)(i:Nat)(h:i<cs.length):chT U kind mr md cs=chT U kind mr md (cs.take i)++(pgT U kind mr md cs[i]++chT U kind mr md (cs.drop (i+1))):=by
 have e:cs=cs.take i++(cs[i] :: cs.drop (i+1)):=by
  rw[←List.drop_eq_getElem_cons h,List.take_append_drop]
 have e2:∀xs ys:List Cl,chT U kind mr md (xs++ys)=chT U kind mr md xs++chT U kind mr md ys:=fun xs ys=>by simp[chT]
 conv=>lhs;rw[e]
 rw[e2,chT_cons]
theorem chT_succ (U:List Vl->List Vl × List Nat)(kind mr md:Int)(cs:List Cl)(i:Nat)(h:i<cs.length):(chT U kind mr md (cs.take (i+1))).length=(chT U kind mr md (cs.take i)).length+(pgT U kind mr md cs[i]).length:=by
 have e2:∀xs ys:List Cl,chT U kind mr md (xs++ys)=chT U kind mr md xs++chT U kind mr md ys:=fun xs ys=>by simp[chT]
 rw[List.take_succ_eq_append_getElem h,e2,List.length_append]
 simp[chT]
theorem pgT_pos (U:List Vl->List Vl × List Nat)(kind mr md:Int)(c:Cl):0<(pgT U kind mr md c).length:=by
 unfold pgT
 rw[pgB_len]
 omega
theorem ext_chT (U:List Vl->List Vl × List Nat)(kind mr md:Int)(cs:List Cl)(i:Nat)(h:i<cs.length):(⟨(chT U kind mr md cs).toArray⟩:ByteArray).extract (chT U kind mr md (cs.take i)).length (⟨(chT U kind mr md cs).toArray⟩:ByteArray).size=⟨(pgT U kind mr md cs[i]++chT U kind mr md (cs.drop (i+1))).toArray⟩:=by
 apply ba_eq
 rw[ext_end]
 show (chT U kind mr md cs).drop _=_
 rw[chT_split U kind mr md cs i h,drop_app]
theorem mem_j {cs:List Cl}{p:Cl}(h:p∈cs):p.rs.length<=(jR cs).length/\p.ds.length<=(jD cs).length/\p.vs.length<=(jV cs).length:=by
 induction cs with
 | nil=>cases h
 | cons c cs ih =>
  rw[jR_cons,jD_cons,jV_cons]
  simp only[List.length_append]
  rcases List.mem_cons.1 h with rfl|h
  · omega
  · have:=ih h
    omega
theorem eachPage_M (lid kind mr md:Int)(pa:Option Addr)(pn pc:Nat)(U:List Vl->List Vl × List Nat)(hU:∀vs,Uq vs (U vs).1 (U vs).2)(cs:List Cl)(hcs:∀p∈cs,GoodC lid kind mr md p/\p.rs≠[]/\∀v∈p.vs,v.In)(hne:cs≠[])(hbk:(jR cs).length+(jD cs).length+(jV cs).length<=2000)(N:Nat)(Fr:World->World->Prop)(I:Nat->World->Prop)(gL g2 g1:Nat)
    (hFb:∀X w',N<=X.heap.size->Below X.heap.size X w'->Fr X w') (hFs:∀X w',Fr X w'->X.heap.size<=w'.heap.size) (hFt:∀X Y Z,Fr X Y->Fr Y Z->Fr X Z) (hFx:∀X w' k ls f,Fr X w'->N<=k->X.heap[k]? = some (.cells ls 39 f)->w'.heap[k]? = some (.cells ls 39 f)) (hIk:∀i X w',N<=X.heap.size->I i X->Below X.heap.size X w'->I i w')
    (W:World) (tt bt st kt ut:TypeId) (tp bp sp kp up:Value) (hE:∀X,Fr W X->Er5 X tt bt st kt ut tp bp sp kp up) (hI0:I 0 W) (hN:N<=W.heap.size)
    (hCl:∀i (h:i<cs.length) (k:Cl) (Y X:World),I i Y->Fr W Y->Below Y.heap.size Y X->k.At X->k.Fr Y.heap.size->SameC cs[i] k->Calls Tryz.prog 30 #[.int .i64 ((chT U kind mr md (cs.take i)).length:Nat),.int .i64 ((pgT U kind mr md cs[i]).length:Nat),.agg #[.int .i64 k.id,.slice k.ra k.rs.length k.rc,.slice k.da k.ds.length k.dc,.slice k.va k.vs.length k.vc],.pointer (some ⟨gL,0,none⟩),.pointer (some ⟨g2,0,none⟩),.pointer (some ⟨g1,0,none⟩)] X fun e w'=>e=.returned .nilIface/\I (i+1) w'/\Fr X w') :
    Calls Tryz.prog 29 #[.agg #[.int .i64 lid,.int .i64 kind,.int .i64 mr,.int .i64 md,.slice pa pn pc],.string ⟨(chT U kind mr md cs).toArray⟩,.func (.func 30) #[] #[.pointer (some ⟨gL,0,none⟩),.pointer (some ⟨g2,0,none⟩),.pointer (some ⟨g1,0,none⟩)]] W fun e w'=>e=.returned .nilIface/\I cs.length w'/\Fr W w':=by
 have hTl:(chT U kind mr md cs).length<=1000000:=by
  have h:=chT_len (U:=U) (lid:=lid) (kind:=kind) (mr:=mr) (md:=md) cs hcs hbk
  have hjj:(jR cs).length=(jD cs).length:=by
   have:∀l:List Cl,(∀p∈l,GoodC lid kind mr md p)->(jR l).length=(jD l).length:=fun l=>by
    induction l with
    | nil=>intro _;rfl
    | cons c l ih =>
     intro hl
     have hfit:=(hl c List.mem_cons_self).1
     rw[Bool.and_eq_true,fitB_iff] at hfit
     obtain⟨-,-,hlen,-⟩:=hfit
     rw[jR_cons,jD_cons,List.length_append,List.length_append,hlen,ih (fun p hp=>hl p (List.mem_cons_of_mem _ hp))]
   exact this cs fun p hp=>(hcs p hp).1
  omega
 obtain⟨sb,HSB⟩:∃sb,Hid ((⟨(chT U kind mr md cs).toArray⟩:ByteArray)=sb):=⟨_,rfl⟩
 have HSz:Hid (sb.size=(chT U kind mr md cs).length):=(by show _=_;rw[←HSB.out];simp[ByteArray.size])
 have hsb:sb.size<=1000000:=by rw[HSz.out];exact hTl
 rw[HSB.out]
 obtain⟨w0,HW0,HX,HB⟩:=boxed1 W #[.int .i64 lid,.int .i64 kind,.int .i64 mr,.int .i64 md,.slice pa pn pc] 39
 have HF0:Hid (Fr W w0):=hFb W w0 hN HB.out
 have HI0:Hid (I 0 w0):=hIk 0 W w0 hN hI0 HB.out
 have HFs:Hid _:=hFs
 have HFt:Hid _:=hFt
 have HFx:Hid _:=hFx
 have HFb:Hid _:=hFb
 have HE:Hid _:=hE
 have HCl:Hid _:=hCl
 have HIk:Hid _:=hIk
 have HCs:Hid _:=hcs
 have HU:Hid _:=hU
 clear hFs hFt hFx hFb hE hCl hIk hcs hU hI0 hTl
 go_enter Tryz.func29,Tryz.ntmps29
 go_wp2_with fail
 rw[HW0.out]
 clear HW0
 go_loopw [7,8,9] (fun a b c wr=>∃i:Nat,i<=cs.length/\a=.int .i64 ((chT U kind mr md (cs.take i)).length:Nat)/\b=.int .i64 ((jR (cs.take i)).length:Nat)/\c=.bool true/\Hid (I i wr)/\Hid (Fr W wr)/\Hid (wr.heap[W.heap.size]? = some (.cells #[.int .i64 lid,.int .i64 kind,.int .i64 mr,.int .i64 md,.slice pa pn pc] 39 (0,0)))) (fun a _ _ _=>sb.size-(intOf a).toNat)
 case atStart=>exact⟨0,Nat.zero_le _,rfl,rfl,rfl,HI0,HF0,HX⟩
 case round =>
  clear HI0 HF0 HX HB
  obtain⟨i,hi,rfl,rfl,rfl,HI,HF,HL⟩:=hrel
  have hjl:=jR_le cs i
  by_cases hlt:i<cs.length
  · have hsp:=chT_split U kind mr md cs i hlt
    have hsu:=chT_succ U kind mr md cs i hlt
    have hpp:=pgT_pos U kind mr md cs[i]
    have hal:(chT U kind mr md (cs.take i)).length+(pgT U kind mr md cs[i]).length<=sb.size:=by
     rw[HSz.out,hsp,List.length_append,List.length_append]
     omega
    have hjs:=jR_succ hlt
    have hjl1:=jR_le cs (i+1)
    have hex:=ext_chT U kind mr md cs i hlt
    rw[HSB.out] at hex
    have hmem:=HCs.out cs[i] (List.getElem_mem hlt)
    have hmj:=mem_j (List.getElem_mem hlt)
    have HRd:Hid (∀X,Below wr.heap.size wr X->Calls Tryz.prog 50 #[.agg #[.int .i64 lid,.int .i64 kind,.int .i64 mr,.int .i64 md,.slice pa pn pc],.string (sb.extract (chT U kind mr md (cs.take i)).length sb.size)] X fun e w'=>(∃k:Cl,e=.returned (.tuple #[.agg #[.int .i64 k.id,.slice k.ra k.rs.length k.rc,.slice k.da k.ds.length k.dc,.slice k.va k.vs.length k.vc],.int .i64 ((pgT U kind mr md cs[i]).length:Nat),.nilIface])/\k.At w'/\k.Fr X.heap.size/\SameC cs[i] k)/\Below wr.heap.size wr w'/\Below X.heap.size X w'):=fun X hX=>(by
     have hF2:=HFt.out _ _ _ HF.out (HFb.out wr X (Nat.le_trans hN (HFs.out _ _ HF.out)) hX)
     have hEX:=HE.out X hF2
     rw[hex]
     refine (pgRead_any lid kind mr md pa pn pc _ (by rw[←hex,ByteArray.size_extract];omega) X st kt bt tt ut sp kp bp tp up hEX.s hEX.k hEX.b hEX.t hEX.u).mono fun e w' h=>⟨?_,bel_next hX (Nat.le_refl _) h.2,h.2⟩
     exact prd_of HU.out hmem.1 hmem.2.2 hmem.2.1 (by omega) h.1)
    have HCl2:Hid (∀(k:Cl) (X:World),Below wr.heap.size wr X->k.At X->k.Fr wr.heap.size->SameC cs[i] k->Calls Tryz.prog 30 #[.int .i64 ((chT U kind mr md (cs.take i)).length:Nat),.int .i64 ((pgT U kind mr md cs[i]).length:Nat),.agg #[.int .i64 k.id,.slice k.ra k.rs.length k.rc,.slice k.da k.ds.length k.dc,.slice k.va k.vs.length k.vc],.pointer (some ⟨gL,0,none⟩),.pointer (some ⟨g2,0,none⟩),.pointer (some ⟨g1,0,none⟩)] X fun e w'=>e=.returned .nilIface/\I (i+1) w'/\Fr X w'):=fun k X hX h1 h2 h3=>HCl.out i hlt k wr X HI.out HF.out hX h1 h2 h3
    have HSu:Hid _:=hsu
    have HJs:Hid _:=hjs
    rw[hjs,List.length_append] at hjl1
    have hhd:∀k:Cl,SameC cs[i] k->0<k.rs.length/\k.rs.length=cs[i].rs.length/\k.rs[0]? = some 0:=fun k hk=>by
     have hfit:=hmem.1.1
     rw[Bool.and_eq_true,fitB_iff] at hfit
     obtain⟨-,-,-,hh,-⟩:=hfit
     have hp:=List.length_pos_iff.2 hmem.2.1
     rw[headB_iff] at hh
     refine⟨by rw[hk.rs];exact hp,by rw[hk.rs],?_⟩
     rw[hk.rs,List.getElem?_eq_getElem hp]
     rw[hh _ (List.getElem?_eq_getElem hp)]
    have HHd:Hid _:=hhd
    clear hsp hsu hex hjs hmem hhd hmj
    obtain⟨a,HA⟩:∃a,Hid ((chT U kind mr md (cs.take i)).length=a):=⟨_,rfl⟩
    obtain⟨p,HP⟩:∃p:Nat,Hid ((pgT U kind mr md cs[i]).length=p):=⟨(pgT U kind mr md cs[i]).length,rfl⟩
    obtain⟨q,HQ⟩:∃q,Hid ((jR (cs.take i)).length=q):=⟨_,rfl⟩
    obtain⟨n,HNn⟩:∃n:Nat,Hid (cs[i].rs.length=n):=⟨cs[i].rs.length,rfl⟩
    rw[HA.out,HP.out] at hal HRd HCl2 HSu
    rw[HP.out] at hpp
    rw[HQ.out] at hjl
    rw[HQ.out,HNn.out] at hjl1
    rw[HA.out,HQ.out]
    have q1:decide (((a:Nat):Int)<(sb.size:Int))=true:=decide_eq_true (by omega)
    have q2:((a:Nat):Int)<=(sb.size:Int):=by omega
    have q3:(0:Int)<=((a:Nat):Int):=by omega
    obtain⟨⟨p0,p1,p2,p3,p4⟩,_⟩:=row_five HL.out
    go_upto_region 3 with fail
    go_cut [10,11,12] (fun x y z wx=>∃(h:Nat) (k:Cl),x=.pointer (some ⟨h,0,none⟩)/\y=.int .i64 (p:Nat)/\z=.nilIface/\Hid (wx.heap[h]? = some (.cells #[.int .i64 k.id,.slice k.ra k.rs.length k.rc,.slice k.da k.ds.length k.dc,.slice k.va k.vs.length k.vc] 27 (0,0)))/\Hid (k.At wx)/\Hid (k.Fr wr.heap.size)/\Hid (SameC cs[i] k)/\Hid (Below wr.heap.size wr wx))
    case first =>
     have b0:Below wr.heap.size wr wr:=Below.refl _ _
     have HN:Hid (∀X,Below wr.heap.size wr X->(X.cell? ⟨W.heap.size,0,none⟩=some (.int .i64 lid)/\X.cell? ⟨W.heap.size,1,none⟩=some (.int .i64 kind)/\X.cell? ⟨W.heap.size,2,none⟩=some (.int .i64 mr)/\X.cell? ⟨W.heap.size,3,none⟩=some (.int .i64 md)/\X.cell? ⟨W.heap.size,4,none⟩=some (.slice pa pn pc))/\Below wr.heap.size wr X):=fun X hX=>⟨(row_five (blk_keep hX HL.out)).1,hX⟩
     go_region_held3 (fun X=>(X.cell? ⟨W.heap.size,0,none⟩=some (.int .i64 lid)/\X.cell? ⟨W.heap.size,1,none⟩=some (.int .i64 kind)/\X.cell? ⟨W.heap.size,2,none⟩=some (.int .i64 mr)/\X.cell? ⟨W.heap.size,3,none⟩=some (.int .i64 md)/\X.cell? ⟨W.heap.size,4,none⟩=some (.slice pa pn pc))/\Below wr.heap.size wr X) (with_reducible refine HN.out _ ?_;repeat' (first|with_reducible assumption|with_reducible exact b0.drew|with_reducible exact b0|with_reducible refine Below.drew ?_|with_reducible exact Nat.le_refl _|with_reducible refine Below.setCell ?_ ?_ _|with_reducible refine Below.alloc ?_ ?_ _|with_reducible exact Below.size (by assumption)|(simp;done)|(simp;omega)|omega)) (first
      | (go_at_call 50;(with_reducible refine Calls.mono (HRd.out _ ?_) ?_);(repeat' (first|with_reducible assumption|with_reducible exact b0.drew|with_reducible exact b0|with_reducible refine Below.drew ?_|with_reducible refine Below.alloc ?_ ?_ _|with_reducible exact Below.size (by assumption)|with_reducible exact Nat.le_refl _|(simp;done)|(simp;omega)));rintro e x1 ⟨⟨k,rfl,ka,kf,ks⟩,hbx1,hraw1⟩;have HKA:Hid (k.At x1):=ka;have HKF:Hid (k.Fr _):=kf;have HKS:Hid (SameC cs[i] k):=ks;have HBX1:Hid (Below wr.heap.size wr x1):=hbx1;clear ka kf ks;(first|(have hzz:=blk_keep hraw1 hzz0;clear hzz0;have hzz0:=hzz;clear hzz)|(have hzz0:=blk_keep hraw1 (blk_drew (heap_alloc_new _ (.cells #[.int .i64 0,.slice none 0 0,.slice none 0 0,.slice none 0 0] 27))))|(have hzz0:=blk_keep hraw1 (heap_alloc_new _ (.cells #[.int .i64 0,.slice none 0 0,.slice none 0 0,.slice none 0 0] 27)))|skip);(first|(obtain⟨z0,z1,z2,z3⟩:=row_four hzz0;obtain⟨f0,f1,f2,f3⟩:=row_fourA hzz0;have HZZ:Hid _:=hzz0;clear hzz0)|skip)))
     · go_wp2_with fail
       go_meet
       exact⟨x1.heap.size,k,rfl,rfl,rfl,heap_alloc_new _ _,HKA.out.keep ((Below.refl _ _).alloc (Nat.le_refl _) _),HKF.out.low (by first|exact Nat.le_refl _|simp),HKS,HBX1.out.alloc HBX1.out.size _⟩
     all_goals
      go_wp2_with fail
      go_meet
      have hw:wr.heap.size<_:=lt_of_block HZZ.out
      have hq:∀(Z:Nat),k.Fr Z->wr.heap.size<Z->k.At ((((x1.setCell ⟨wr.heap.size,0,none⟩ (.int .i64 k.id)).setCell ⟨wr.heap.size,1,none⟩ (.slice k.ra k.rs.length k.rc)).setCell ⟨wr.heap.size,2,none⟩ (.slice k.da k.ds.length k.dc)).setCell ⟨wr.heap.size,3,none⟩ (.slice k.va k.vs.length k.vc)):=fun Z hf hz=>(((HKA.out.off hf hz).off hf hz).off hf hz).off hf hz
      exact⟨wr.heap.size,k,rfl,rfl,rfl,row_setCell (row_setCell (row_setCell (row_setCell HZZ.out _) _) _) _,hq _ HKF.out (by simp),HKF.out.low (by simp),HKS,(((HBX1.out.setCell (Nat.le_refl _) _).setCell (Nat.le_refl _) _).setCell (Nat.le_refl _) _).setCell (Nat.le_refl _) _⟩
    case rest =>
     obtain⟨h,k,rfl,rfl,rfl,HCo,HKA,HKF,HKS,HBx⟩:=hcut
     rename World=>wx
     have HCk:Hid _:=HCl2.out k wx HBx.out HKA.out HKF.out HKS.out
     have HLx:Hid _:=blk_keep HBx.out HL.out
     have HFx2:Hid (Fr W wx):=HFt.out _ _ _ HF.out (HFb.out wr wx (Nat.le_trans hN (HFs.out _ _ HF.out)) HBx.out)
     obtain⟨d1,d2,d3⟩:=HHd.out k HKS.out
     obtain⟨bk,o,hra,hc⟩:=HKA.out.r 0 (by rw[i64s_len];exact d1)
     have hc':wx.cell? ⟨bk,o,none⟩=some (.int .i64 0):=by
      have e0:(i64s k.rs)[0]? = some (.int .i64 0):=by rw[i64s,List.getElem?_map,d3];rfl
      have e1:=List.getElem?_eq_some_iff.1 e0
      rw[Nat.add_zero] at hc
      rw[hc,e1.2]
     obtain⟨m0,m1,m2,m3⟩:=row_four HCo.out
     rw[hra] at m1 HCk
     rw[HNn.out] at d2
     rw[d2] at m1 HCk d1
     have q5:decide (((q:Nat):Int)+((n:Nat):Int)<=20000)=true:=decide_eq_true (by omega)
     clear hc d3 p0 p1 p2 p3 p4 HRd HCl2 HL HF HI HHd HKA HKF HBx
     go_wp2_with fail
     refine Calls.mono HCk.out ?_
     rintro e w4 ⟨rfl,hi4,hf4⟩
     have HI4:Hid (I (i+1) w4):=hi4
     have HF4:Hid (Fr W w4):=HFt.out _ _ _ HFx2.out hf4
     have HL4:Hid (w4.heap[W.heap.size]? = some (.cells #[.int .i64 lid,.int .i64 kind,.int .i64 mr,.int .i64 md,.slice pa pn pc] 39 (0,0))):=HFx.out wx w4 _ _ _ hf4 hN HLx.out
     clear hi4 hf4 HCk m0 m1 m2 m3 hc'
     go_wp2
     go_roundw
     case rel=>exact⟨i+1,by omega,by rw[HSu.out];go_num,by rw[HJs.out,List.length_append,HQ.out,HNn.out];go_num,rfl,HI4,HF4,HL4⟩
     case measure=>simp[intOf];omega
  · obtain rfl:i=cs.length:=by omega
    have hpos:0<(chT U kind mr md cs).length:=by
     obtain⟨c0,r0,hcr⟩:=List.exists_cons_of_ne_nil hne
     rw[hcr,chT_cons,List.length_append]
     have:=pgT_pos U kind mr md c0
     omega
    rw[List.take_length] at hjl ⊢
    have HSzz:Hid _:=HSz.out
    rw[←HSz.out] at hpos ⊢
    have q1:decide ((sb.size:Int)<(sb.size:Int))=false:=decide_eq_false (by omega)
    have q2:((sb.size:Int) == 0)=false:=beq_eq_false_iff_ne.2 (by omega)
    have q3:decide ((((jR cs).length:Nat):Int) > 20000)=false:=decide_eq_false (by omega)
    have q4:decide ((20000:Int)<(((jR cs).length:Nat):Int))=false:=decide_eq_false (by omega)
    go_wp2
    go_ret
    exact⟨rfl,HI.out,HF.out⟩
theorem pgT_val {U:List Vl->List Vl × List Nat}{kind mr md:Int}{c k:Cl}(h1:k.rs=c.rs)(h2:k.ds=c.ds)(h3:k.vs=c.vs):pgT U kind mr md k=pgT U kind mr md c:=by
 obtain⟨cid,cra,crs,crc,cda,cds,cdc,cva,cvs,cvc⟩:=c
 obtain⟨kid,kra,krs,krc,kda,kds,kdc,kva,kvs,kvc⟩:=k
 simp only at h1 h2 h3
 subst h1 h2 h3
 rfl
theorem chT_val {U:List Vl->List Vl × List Nat}{kind mr md:Int}{most:Nat}:∀(f:Nat) {c k:Cl},k.rs=c.rs->k.ds=c.ds->k.vs=c.vs->chT U kind mr md (pgs f most md k)=chT U kind mr md (pgs f most md c)
 | 0,_,_,_,_,_=>rfl
 | f+1,c,k,h1,h2,h3=>by
  unfold pgs
  rw[h1]
  split
  · rfl
  · have e1:pgT U kind mr md (k.fst md (pSz c.rs most))=pgT U kind mr md (c.fst md (pSz c.rs most)):=pgT_val (by simp only[Cl.fst,h1]) (by simp only[Cl.fst,h2]) (by simp only[Cl.fst,h2,h3])
    have e2:chT U kind mr md (pgs f most md (k.snd md (pSz c.rs most)))=chT U kind mr md (pgs f most md (c.snd md (pSz c.rs most))):=chT_val f (by simp only[Cl.snd,h1]) (by simp only[Cl.snd,h2]) (by simp only[Cl.snd,h2,h3])
    rw[chT_cons,chT_cons,e1,e2]
def Cl.rst (c:Cl)(n v:Nat):Cl:=⟨c.id,if c.rc=n then c.ra else c.ra.map (fun p=>p.add n),c.rs.drop n,c.rc-n,if c.dc=n then c.da else c.da.map (fun p=>p.add n),c.ds.drop n,c.dc-n,if c.vc=v then c.va else c.va.map (fun p=>p.add (v*3)),c.vs.drop v,c.vc-v⟩
theorem cutL_to {α:Type}(l:List α)(n:Nat):cutL l 0 n=l.take n:=by simp[cutL]
theorem cutL_from {α:Type}(l:List α)(n:Nat):cutL l n l.length=l.drop n:=by simp[cutL]
theorem Cl.At.rst {W:World}{c:Cl}{n v:Nat}(h:c.At W)(hc:c.Cap):(c.rst n v).At W:=by
 obtain⟨k1,k2,k3⟩:=hc
 refine⟨?_,?_,?_⟩
 · have:=lies_cut h.r n (i64s c.rs).length c.rc (Nat.le_refl _) (by rw[i64s_len];exact k1) (x:=if c.rc=n then c.ra else c.ra.map (fun p=>p.add n)) (by rw[Nat.mul_one])
   rw[cutL_from] at this
   show Lies W _ (i64s (c.rs.drop n))
   rw[show i64s (c.rs.drop n)=(i64s c.rs).drop n by simp[i64s]]
   exact this
 · have:=lies_cut h.d n (i64s c.ds).length c.dc (Nat.le_refl _) (by rw[i64s_len];exact k2) (x:=if c.dc=n then c.da else c.da.map (fun p=>p.add n)) (by rw[Nat.mul_one])
   rw[cutL_from] at this
   show Lies W _ (i64s (c.ds.drop n))
   rw[show i64s (c.ds.drop n)=(i64s c.ds).drop n by simp[i64s]]
   exact this
 · have:=liesV_cut h.v v c.vs.length c.vc (Nat.le_refl _) k3 rfl
   rw[cutL_from] at this
   exact this
theorem Cl.At.fst {W:World}{c:Cl}{md:Int}{n:Nat}(h:c.At W)(hc:c.Cap)(h1:n<=c.rs.length)(h2:n<=c.ds.length)(h3:cntE md (c.ds.take n)<=c.vs.length):(c.fst md n).At W:=by
 obtain⟨k1,k2,k3⟩:=hc
 refine⟨?_,?_,?_⟩
 · have:=lies_cut h.r 0 n c.rc (by rw[i64s_len];exact h1) (by rw[i64s_len];exact k1) (x:=c.ra) (by cases c.ra<;>simp[addr_add0])
   rw[cutL_to] at this
   show Lies W _ (i64s (c.rs.take n))
   rw[show i64s (c.rs.take n)=(i64s c.rs).take n by simp[i64s]]
   exact this
 · have:=lies_cut h.d 0 n c.dc (by rw[i64s_len];exact h2) (by rw[i64s_len];exact k2) (x:=c.da) (by cases c.da<;>simp[addr_add0])
   rw[cutL_to] at this
   show Lies W _ (i64s (c.ds.take n))
   rw[show i64s (c.ds.take n)=(i64s c.ds).take n by simp[i64s]]
   exact this
 · have:=liesV_cut h.v 0 (cntE md (c.ds.take n)) c.vc h3 k3 (x:=c.va) (by cases c.va<;>simp[addr_add0])
   rw[cutL_to] at this
   exact this
theorem NtI.off {B X:World}{l:List UInt8}{g j:Nat}{cs:Array Value}{t:TypeId}{v:Value}(h:NtI B l X)(hg:B.heap.size<=g)(hn:g≠B.heap.size)(hk:X.heap[g]? = some (.cells cs t (0,0)))(ht:5≠t):NtI B l (X.setCell ⟨g,j,none⟩ v):=by
 have hset:∀k,k≠g->(X.setCell ⟨g,j,none⟩ v).heap[k]? = X.heap[k]?:=fun k hk=>Below.heap_setCell _ ⟨g,j,none⟩ _ _ hk
 have hb:∀{p:Value},Lib.BuilderAt 60 5 B.heap.size B.heap.size p (Lib.byteCells l) X->Lib.BuilderAt 60 5 B.heap.size B.heap.size p (Lib.byteCells l) (X.setCell ⟨g,j,none⟩ v):=fun {p} hb=>by
  obtain⟨h1,u,h2,h3,h4⟩:=hb
  refine⟨h1,u,by rw[hset _ (Ne.symm hn)];exact h2,own_same h3 fun k hk2=>hset k (fun e=>?_),h4⟩
  subst e
  exact own_type h3 hk ht hk2.symm
 exact⟨h.bd.elim (fun h=>.inl (hb h)) (fun h=>.inr (hb h)),h.fr.setCell hg _⟩
theorem NtI.drew {B X:World}{l:List UInt8}(h:NtI B l X):NtI B l X.drew:=h.keep (Below.refl _ _).drew
structure EpS (B X0:World) (lid kind mr md:Int) (pa:Option Addr) (pn pc:Nat) (U:List Vl->List Vl × List Nat) (T:List UInt8) (most:Nat) (r:Cl) (f:Nat) (l:List UInt8) (X:World):Prop where
 nt:NtI B l X
 lf:X.heap[X0.heap.size]? = some (.cells #[.int .i64 lid,.int .i64 kind,.int .i64 mr,.int .i64 md,.slice pa pn pc] 39 (0,0))
 co:X.heap[X0.heap.size+1]? = some (.cells #[.int .i64 r.id,.slice r.ra r.rs.length r.rc,.slice r.da r.ds.length r.dc,.slice r.va r.vs.length r.vc] 27 (0,0))
 good:GoodC lid kind mr md r
 at_:r.At B
 cap:r.Cap
 inn:∀v∈r.vs,v.In
 bk:r.rs.length+r.ds.length+r.vs.length<=2000
 tx:l++chT U kind mr md (pgs f most md r)=T
 fu:r.rs.length<=f
def restLen (g:Nat)(w:World):Nat:=match w.cell? ⟨g,1,none⟩ with|some (.slice _ n _)=>n|_=>0
theorem eachPart_any (lid kind mr md:Int)(pa:Option Addr)(pn pc:Nat)(g:Nat)(U:List Vl->List Vl × List Nat)(hU:∀vs,Uq vs (U vs).1 (U vs).2)(c:Cl)(most:Nat)(hgd:GoodC lid kind mr md c)(hin:∀v∈c.vs,v.In)(hbk:c.rs.length+c.ds.length+c.vs.length<=2000)(hcap:c.Cap)(W:World)(hgb:W.heap[g]? = some (.cells #[.int .i64 lid,.int .i64 kind,.int .i64 mr,.int .i64 md,.slice pa pn pc] 39 (0,0)))(st kt bt:TypeId)(sp kp bp:Value)(hs:W.cell? ⟨0,0,none⟩=some (.iface st sp))(hk:W.cell? ⟨3,0,none⟩=some (.iface kt kp))(hbd:W.cell? ⟨1,0,none⟩=some (.iface bt bp))(hat:c.At W)(X0:World)(hI:NtI W [] X0) :
    Calls Tryz.prog 19 #[.agg #[.int .i64 lid,.int .i64 kind,.int .i64 mr,.int .i64 md,.slice pa pn pc],.agg #[.int .i64 c.id,.slice c.ra c.rs.length c.rc,.slice c.da c.ds.length c.dc,.slice c.va c.vs.length c.vc],.int .i64 most,.func (.func 20) #[] #[.pointer (some ⟨g,0,none⟩),.pointer (some ⟨W.heap.size,0,none⟩)]] X0 fun e w'=>e=.returned .nilIface/\NtI W (chT U kind mr md (pgs c.rs.length most md c)) w':=by
 have hwh:=pgs_whole (lid:=lid) (kind:=kind) (mr:=mr) (md:=md) most c.rs.length c (Nat.le_refl _) hgd
 have hTl:(chT U kind mr md (pgs c.rs.length most md c)).length<=1000000:=by
  have h:=chT_len (U:=U) (lid:=lid) (kind:=kind) (mr:=mr) (md:=md) (pgs c.rs.length most md c) (fun p hp=>⟨(hwh.2.2.2 p hp).1,(hwh.2.2.2 p hp).2,fun v hv=>hin v (pgs_mem _ _ _ hp v hv)⟩) (by rw[hwh.1,hwh.2.1,hwh.2.2.1];exact hbk)
  rw[hwh.1,hwh.2.2.1] at h
  have hfit:=hgd.1
  rw[Bool.and_eq_true,fitB_iff] at hfit
  obtain⟨_,_,hlen,_⟩:=hfit
  omega
 have HTl:Hid _:=hTl
 obtain⟨w0,HW0,HX,HY,HB⟩:=two_boxes X0 #[.int .i64 lid,.int .i64 kind,.int .i64 mr,.int .i64 md,.slice pa pn pc] #[.int .i64 c.id,.slice c.ra c.rs.length c.rc,.slice c.da c.ds.length c.dc,.slice c.va c.vs.length c.vc] 39 27
 have HS0:Hid (EpS W X0 lid kind mr md pa pn pc U (chT U kind mr md (pgs c.rs.length most md c)) most c c.rs.length [] w0):=⟨hI.keep HB.out,HX.out,HY.out,hgd,hat,hcap,hin,hbk,rfl,Nat.le_refl _⟩
 have hne1:X0.heap.size≠W.heap.size:=by have:=hI.lt;omega
 have hne2:X0.heap.size+1≠W.heap.size:=by have:=hI.lt;omega
 have HNE:Hid (X0.heap.size≠W.heap.size/\X0.heap.size+1≠W.heap.size/\W.heap.size<=X0.heap.size):=⟨hne1,hne2,by have:=hI.lt;omega⟩
 have HLf:Hid _:=hgb
 have HU:Hid _:=hU
 have HES:Hid (∀X,Below W.heap.size W X->X.cell? ⟨0,0,none⟩=some (.iface st sp)/\X.cell? ⟨3,0,none⟩=some (.iface kt kp)/\X.cell? ⟨1,0,none⟩=some (.iface bt bp)):=fun X hX=>⟨ckB hs hX,ckB hk hX,ckB hbd hX⟩
 obtain⟨T,HT⟩:∃T,Hid (chT U kind mr md (pgs c.rs.length most md c)=T):=⟨_,rfl⟩
 rw[HT.out] at HS0 HTl ⊢
 clear HX HY HB hgd hat hcap hin hbk hI hgb hs hk hbd hwh hTl HT hne1 hne2 hU
 go_enter Tryz.func19,Tryz.ntmps19
 go_wp2_with fail
 rw[HW0.out]
 clear HW0
 go_loopw [] (fun wr=>∃(r:Cl) (f:Nat) (l:List UInt8),Hid (EpS W X0 lid kind mr md pa pn pc U T most r f l wr)) (fun wr=>restLen (X0.heap.size+1) wr)
 case atStart=>exact⟨c,_,[],HS0⟩
 case round =>
  clear HS0
  obtain⟨r,f,l,HS⟩:=hrel
  obtain⟨⟨p0,p1,p2,p3,p4⟩,_⟩:=row_five HS.out.lf
  obtain⟨k0,k1,k2,k3⟩:=row_four HS.out.co
  have hbk:=HS.out.bk
  have hcap:=HS.out.cap
  by_cases h0:r.rs=[]
  · have q:(r.rs.length:Int)=0:=by rw[h0];rfl
    have HE:Hid (l=T):=(by
     have h:=HS.out.tx
     have hp:pgs f most md r=[]:=by
      cases f with
      | zero=>rfl
      | succ f=>rw[pgs,if_pos h0]
     rw[hp,chT,List.flatMap_nil,List.append_nil] at h
     exact h)
    clear h0
    have q1:decide ((r.rs.length:Int) > 0)=false:=decide_eq_false (by omega)
    have q2:decide ((0:Int)<(r.rs.length:Int))=false:=decide_eq_false (by omega)
    go_wp2
    go_ret
    exact⟨rfl,by rw[←HE.out];exact HS.out.nt⟩
  · have hpos:0<r.rs.length:=List.length_pos_iff.2 h0
    have q1:decide ((r.rs.length:Int) > 0)=true:=decide_eq_true (by omega)
    have q2:decide ((0:Int)<(r.rs.length:Int))=true:=decide_eq_true (by omega)
    obtain⟨s1,s2,s3⟩:=pSz_ok most h0
    obtain⟨g1,g2,g3⟩:=goodC_two HS.out.good s3
    have hfit:=HS.out.good.1
    rw[Bool.and_eq_true,fitB_iff] at hfit
    obtain⟨-,-,hlen,-,-,-,hvl⟩:=hfit
    have HPs:Hid (Calls Tryz.prog 34 #[.slice r.ra r.rs.length r.rc,.int .i64 most] wr fun e w'=>e=.returned (.int .i64 (pSz r.rs most:Nat))/\Below wr.heap.size wr w'):=pageSize_any r.ra r.rs r.rc most (by omega) h0 wr (HS.out.at_.keep HS.out.nt.fr).r
    obtain⟨f',hf'⟩:∃f',f=f'+1:=⟨f-1,by have:=HS.out.fu;omega⟩
    have HTx:Hid (l++(pgT U kind mr md (r.fst md (pSz r.rs most))++chT U kind mr md (pgs f' most md (r.snd md (pSz r.rs most))))=T):=(by
     have h:=HS.out.tx
     rw[hf',pgs,if_neg h0,chT_cons] at h
     exact h)
    have HMs:Hid (restLen (X0.heap.size+1) wr=r.rs.length):=(by show _=_;unfold restLen;rw[k1])
    have HFu:Hid (r.rs.length<=f'+1):=(by have:=HS.out.fu;rw[hf'] at this;exact this)
    have hne:(r.fst md (pSz r.rs most)).rs≠[]:=fun h=>by
     have h5:(r.rs.take (pSz r.rs most)).length=0:=by
      have h6:(r.fst md (pSz r.rs most)).rs=r.rs.take (pSz r.rs most):=rfl
      rw[←h6,h]
      rfl
     rw[List.length_take] at h5
     omega
    obtain⟨n,HN⟩:∃n,Hid (pSz r.rs most=n):=⟨_,rfl⟩
    rw[HN.out] at s1 s2 s3 g1 g2 g3 HPs HTx hne
    obtain⟨v,HV⟩:∃v,Hid (cntE md (r.ds.take n)=v):=⟨_,rfl⟩
    have hnd:n<=r.ds.length:=by omega
    have hvv:v<=r.vs.length:=by rw[←HV.out];exact g3
    have HG1:Hid _:=g1
    have HG2:Hid _:=g2
    have HNe:Hid _:=hne
    have HLn:Hid (r.rs.length=r.ds.length):=hlen
    clear h0 hf' g1 g2 g3 hne hvl s3 hlen
    go_wp2_with fail
    refine Calls.mono HPs.out ?_
    rintro e w1 ⟨rfl,hb1⟩
    have HS1:Hid (EpS W X0 lid kind mr md pa pn pc U T most r f l w1):=⟨HS.out.nt.keep hb1,blk_keep hb1 HS.out.lf,blk_keep hb1 HS.out.co,HS.out.good,HS.out.at_,HS.out.cap,HS.out.inn,HS.out.bk,HS.out.tx,HS.out.fu⟩
    clear hb1 HS HPs p0 p1 p2 p3 p4 k0 k1 k2 k3
    obtain⟨⟨p0,p1,p2,p3,p4⟩,_⟩:=row_five HS1.out.lf
    obtain⟨k0,k1,k2,k3⟩:=row_four HS1.out.co
    have hc1:=hcap.1
    have hc2:=hcap.2.1
    have hc3:=hcap.2.2
    clear hcap
    have a1:((n:Nat):Int)<=(r.rc:Int):=by omega
    have a2:((n:Nat):Int)<=(r.dc:Int):=by omega
    have a3:((v:Nat):Int)<=(r.vc:Int):=by omega
    have a4:(0:Int)<=((n:Nat):Int):=by omega
    have a5:(0:Int)<=((v:Nat):Int):=by omega
    have HD:Hid (Lies w1 r.da (i64s r.ds)):=(HS1.out.at_.keep HS1.out.nt.fr).d
    go_wp2_with fail
    go_loop [10,28] (fun y x=>∃j:Nat,j<=n/\x=.int .i64 j/\y=.int .i64 (cntE md (r.ds.take j):Nat)) (fun _ x=>n-(intOf x).toNat)
    case atStart=>exact⟨0,Nat.zero_le _,rfl,rfl⟩
    case round =>
     obtain⟨j,hj,rfl,rfl⟩:=hrel
     have hcl:=cntE_le md r.ds j
     by_cases hlt:j<n
     · have hjd:j<r.ds.length:=by omega
       obtain⟨bk,o,hda,hc⟩:=HD.out j (by rw[i64s_len];exact hjd)
       have hc':w1.cell? ⟨bk,o+j,none⟩=some (.int .i64 r.ds[j]):=by rw[hc];simp[i64s]
       rw[hda]
       have HC:Hid _:=cntE_succ md r.ds j hjd
       obtain⟨x,HX⟩:∃x:Int,Hid (r.ds[j]=x):=⟨r.ds[j],rfl⟩
       rw[HX.out] at hc' HC
       obtain⟨q,HQ⟩:∃q,Hid (cntE md (r.ds.take j)=q):=⟨_,rfl⟩
       rw[HQ.out] at hcl HC ⊢
       clear hc
       by_cases hx:x=md
       · have qx:(x == md)=true:=by simpa using hx
         have HN2:Hid (cntE md (r.ds.take (j+1))=q+1):=(by show _=_;rw[HC.out,if_pos hx])
         clear hx
         go_wp2
         go_round
         case rel=>exact⟨j+1,by omega,by go_num,by rw[HN2.out];go_num⟩
         case measure=>simp[intOf];omega
       · have qx:(x == md)=false:=by simpa using hx
         have HN2:Hid (cntE md (r.ds.take (j+1))=q):=(by show _=_;rw[HC.out,if_neg hx];rfl)
         clear hx
         go_wp2
         go_round
         case rel=>exact⟨j+1,by omega,by go_num,by rw[HN2.out]⟩
         case measure=>simp[intOf];omega
     · obtain rfl:n=j:=by omega
       rw[HV.out]
       have hlb:X0.heap.size+1<w1.heap.size:=lt_of_block HS1.out.co
       have hlb2:X0.heap.size+1≠w1.heap.size:=by omega
       clear hlt hj hcl
       go_upto_region 10 with fail
       go_cut [13] (fun p wx=>∃h,p=.pointer (some ⟨h,0,none⟩)/\Hid (wx.heap[h]? = some (.cells #[.int .i64 r.id,.slice r.ra n r.rc,.slice r.da n r.dc,.slice r.va v r.vc] 27 (0,0)))/\Hid (Below w1.heap.size w1 wx))
       case first =>
        go_wp2_with fail
        go_region
        all_goals
         go_wp2_with fail
         go_meet
         exact⟨w1.heap.size,rfl,blk_drew (heap_alloc_new w1 _),((Below.refl _ _).alloc (Nat.le_refl _) _).drew⟩
       case rest =>
        obtain⟨h,rfl,HPt,HBx⟩:=hcut
        rename World=>wx
        have HS2:Hid (EpS W X0 lid kind mr md pa pn pc U T most r f l wx):=⟨HS1.out.nt.keep HBx.out,blk_keep HBx.out HS1.out.lf,blk_keep HBx.out HS1.out.co,HS1.out.good,HS1.out.at_,HS1.out.cap,HS1.out.inn,HS1.out.bk,HS1.out.tx,HS1.out.fu⟩
        have HW1:Hid (Calls Tryz.prog 20 #[.agg #[.int .i64 r.id,.slice r.ra n r.rc,.slice r.da n r.dc,.slice r.va v r.vc],.pointer (some ⟨g,0,none⟩),.pointer (some ⟨W.heap.size,0,none⟩)] wx fun e w'=>e=.returned .nilIface/\NtI W (l++pgT U kind mr md (r.fst md n)) w'/\(∀k cs T f,k≠W.heap.size->T≠5->wx.heap[k]? = some (.cells cs T f)->w'.heap[k]? = some (.cells cs T f))/\wx.heap.size<=w'.heap.size):=(by
         have e1:(r.fst md n).rs.length=n:=by show (r.rs.take n).length=n;rw[List.length_take];omega
         have e2:(r.fst md n).ds.length=n:=by show (r.ds.take n).length=n;rw[List.length_take];omega
         have e3:(r.fst md n).vs.length=v:=by show (r.vs.take (cntE md (r.ds.take n))).length=v;rw[List.length_take,HV.out];omega
         obtain⟨y1,y2,y3⟩:=HES.out wx HS2.out.nt.fr
         have hx:=write1_any lid kind mr md pa pn pc g U HU.out (r.fst md n) HG1.out HNe.out (fun u hu=>HS2.out.inn u (List.mem_of_mem_take hu)) (by rw[e1,e2,e3];omega) (by rw[e1];show n<=r.rc;omega) (by rw[e2];show n<=r.dc;omega) (by rw[e3];show v<=r.vc;omega) W l (by have h1:=HS2.out.tx;have h2:=HTl.out;rw[←h1,List.length_append] at h2;omega) wx HS2.out.nt (blk_keep HS2.out.nt.fr HLf.out) st kt bt sp kp bp y1 y2 y3 ((HS2.out.at_.fst HS2.out.cap (by omega) (by omega) (by rw[HV.out];omega)).keep HS2.out.nt.fr)
         rw[e1,e2,e3] at hx
         exact hx)
        clear HS1 p0 p1 p2 p3 p4 k0 k1 k2 k3 hlb hlb2 HD HBx
        obtain⟨m0,m1,m2,m3⟩:=row_four HPt.out
        go_wp2_with fail
        refine Calls.mono HW1.out ?_
        rintro e w3 ⟨rfl,hi3,hk3,hz3⟩
        have HNt:Hid (NtI W (l++pgT U kind mr md (r.fst md n)) w3):=hi3
        have HL3:Hid (w3.heap[X0.heap.size]? = some (.cells #[.int .i64 lid,.int .i64 kind,.int .i64 mr,.int .i64 md,.slice pa pn pc] 39 (0,0))):=hk3 _ _ _ _ HNE.out.1 (by decide) HS2.out.lf
        have HC3:Hid (w3.heap[X0.heap.size+1]? = some (.cells #[.int .i64 r.id,.slice r.ra r.rs.length r.rc,.slice r.da r.ds.length r.dc,.slice r.va r.vs.length r.vc] 27 (0,0))):=hk3 _ _ _ _ HNE.out.2.1 (by decide) HS2.out.co
        clear hi3 hk3 hz3 HW1 m0 m1 m2 m3
        obtain⟨⟨p0,p1,p2,p3,p4⟩,_⟩:=row_five HL3.out
        obtain⟨k0,k1,k2,k3⟩:=row_four HC3.out
        obtain⟨f0,f1,f2,f3⟩:=row_fourA HC3.out
        have b1:((n:Nat):Int)<=(r.rs.length:Int):=by omega
        have b2:((n:Nat):Int)<=(r.ds.length:Int):=by omega
        have b3:((v:Nat):Int)<=(r.vs.length:Int):=by omega
        go_upto_region 14 with fail
        go_wp2_with fail
        go_region
        all_goals
         go_wp2
         have HC4:=row_setCell (row_setCell (row_setCell HC3.out (j:=1) (.slice (if r.rc=n then r.ra else Option.map (fun x=>x.add n) r.ra) (r.rs.length-n) (r.rc-n))) (j:=2) (.slice (if r.dc=n then r.da else Option.map (fun x=>x.add n) r.da) (r.ds.length-n) (r.dc-n))) (j:=3) (.slice (if r.vc=v then r.va else Option.map (fun x=>x.add (v*3)) r.va) (r.vs.length-v) (r.vc-v))
         have e1:(r.rst n v).rs.length=r.rs.length-n:=List.length_drop
         have e2:(r.rst n v).ds.length=r.ds.length-n:=List.length_drop
         have e3:(r.rst n v).vs.length=r.vs.length-v:=List.length_drop
         refine⟨⟨r.rst n v,f',l++pgT U kind mr md (r.fst md n),⟨?_,?_,?_,?_,?_,?_,?_,?_,?_,?_⟩⟩,?_⟩
         · have hge:W.heap.size<=X0.heap.size+1:=by have:=HNE.out.2.2;omega
           exact (((HNt.out.off hge HNE.out.2.1 HC3.out (by decide)).off hge HNE.out.2.1 (row_setCell HC3.out _) (by decide)).off hge HNE.out.2.1 (row_setCell (row_setCell HC3.out _) _) (by decide)).drew
         · exact blk_drew (blk_other (blk_other (blk_other HL3.out (by omega) _) (by omega) _) (by omega) _)
         · rw[e1,e2,e3]
           exact blk_drew HC4
         · have h1:=HG2.out
           unfold Cl.snd at h1
           rw[HV.out] at h1
           exact h1
         · exact HS2.out.at_.rst HS2.out.cap
         · exact⟨by rw[e1];show _<=r.rc-n;omega,by rw[e2];show _<=r.dc-n;omega,by rw[e3];show _<=r.vc-v;omega⟩
         · exact fun u hu=>HS2.out.inn u (List.mem_of_mem_drop hu)
         · rw[e1,e2,e3]
           omega
         · rw[←HTx.out,List.append_assoc]
           have h2:chT U kind mr md (pgs f' most md (r.rst n v))=chT U kind mr md (pgs f' most md (r.snd md n)):=chT_val f' rfl rfl (by show r.vs.drop v=r.vs.drop (cntE md (r.ds.take n));rw[HV.out])
           rw[h2]
         · rw[e1]
           have:=HFu.out
           omega
         · rw[HMs.out]
           unfold restLen
           rw[(row_four (blk_drew HC4)).2.1]
           show r.rs.length-n<r.rs.length
           omega
def CwR (N:Nat)(lid kind mr md:Int)(U:List Vl->List Vl × List Nat)(c:Cl)(most:Int)(sv kv bv:Value)(t:List UInt8)(ev:Value)(w:World):Prop :=
 (CkW N lid kind mr md c most sv kv bv ev w/\(∃et ep,ev=.iface et ep)/\t=[])\/(GoodC lid kind mr md c/\c.rs≠[]/\(1<=most/\most<=20000)/\ev=.nilIface/\t=chT U kind mr md (pgs c.rs.length most.toNat md c))
theorem chWrite_any (lid kind mr md:Int)(pa:Option Addr)(pn pc:Nat)(U:List Vl->List Vl × List Nat)(hU:∀vs,Uq vs (U vs).1 (U vs).2)(c:Cl)(most:Int)(hbk:c.rs.length+c.ds.length+c.vs.length<=2000)(hcap:c.Cap)(hin:∀v∈c.vs,v.In)(W:World)(st kt bt:TypeId)(sp kp bp:Value)(hs:W.cell? ⟨0,0,none⟩=some (.iface st sp))(hk:W.cell? ⟨3,0,none⟩=some (.iface kt kp))(hbd:W.cell? ⟨1,0,none⟩=some (.iface bt bp))(hat:c.At W) :
    Calls Tryz.prog 9 #[.agg #[.int .i64 lid,.int .i64 kind,.int .i64 mr,.int .i64 md,.slice pa pn pc],.agg #[.int .i64 c.id,.slice c.ra c.rs.length c.rc,.slice c.da c.ds.length c.dc,.slice c.va c.vs.length c.vc],.int .i64 most] W fun e w'=>(∃t ev,e=.returned (.tuple #[.string ⟨t.toArray⟩,ev])/\CwR W.heap.size lid kind mr md U c most (.iface st sp) (.iface kt kp) (.iface bt bp) t ev w')/\Below W.heap.size W w':=by
 obtain⟨w0,HW0,HX,HY,HB⟩:=two_boxes W #[.int .i64 lid,.int .i64 kind,.int .i64 mr,.int .i64 md,.slice pa pn pc] #[.int .i64 c.id,.slice c.ra c.rs.length c.rc,.slice c.da c.ds.length c.dc,.slice c.va c.vs.length c.vc] 39 27
 have HI0:Hid (ChI W lid kind mr md pa pn pc c w0):=⟨HX.out,HY.out,HB.out⟩
 have HCk:Hid (Calls Tryz.prog 18 #[.agg #[.int .i64 lid,.int .i64 kind,.int .i64 mr,.int .i64 md,.slice pa pn pc],.agg #[.int .i64 c.id,.slice c.ra c.rs.length c.rc,.slice c.da c.ds.length c.dc,.slice c.va c.vs.length c.vc],.int .i64 most] w0 fun e w'=>(∃ev,e=.returned ev/\CkW w0.heap.size lid kind mr md c most (.iface st sp) (.iface kt kp) (.iface bt bp) ev w')/\Below w0.heap.size w0 w'):=checkColumn_any lid kind mr md pa pn pc c most hbk hcap.1 hcap.2.1 hcap.2.2 w0 st kt bt sp kp bp (ckB hs HB.out) (ckB hk HB.out) (ckB hbd HB.out) (hat.keep HB.out)
 have hsz0:W.heap.size<=w0.heap.size:=HB.out.size
 have HEp:Hid (∀w1 X0,ChI W lid kind mr md pa pn pc c w1->GoodC lid kind mr md c->NtI w1 [] X0->Calls Tryz.prog 19 #[.agg #[.int .i64 lid,.int .i64 kind,.int .i64 mr,.int .i64 md,.slice pa pn pc],.agg #[.int .i64 c.id,.slice c.ra c.rs.length c.rc,.slice c.da c.ds.length c.dc,.slice c.va c.vs.length c.vc],.int .i64 (most.toNat:Nat),.func (.func 20) #[] #[.pointer (some ⟨W.heap.size,0,none⟩),.pointer (some ⟨w1.heap.size,0,none⟩)]] X0 fun e w'=>e=.returned .nilIface/\NtI w1 (chT U kind mr md (pgs c.rs.length most.toNat md c)) w'):=fun w1 X0 h1 hg h2=>eachPart_any lid kind mr md pa pn pc W.heap.size U hU c most.toNat hg hin hbk hcap w1 h1.lf st kt bt sp kp bp (ckB hs h1.old) (ckB hk h1.old) (ckB hbd h1.old) (hat.keep h1.old) X0 h2
 have hmf:∀(fn:Fn) (first cap:Array Value) (W:World),(Instr.makeFunc fn first cap).run Tryz.prog W=.ok (.func fn first cap) W:=fun _ _ _ _=>rfl
 clear HX HY HB hat hs hk hbd hcap hin hU
 go_enter Tryz.func9,Tryz.ntmps9
 go_upto_region 1 with fail
 rw[HW0.out]
 clear HW0
 obtain⟨⟨p0,p1,p2,p3,p4⟩,_⟩:=row_five HI0.out.lf
 obtain⟨k0,k1,k2,k3⟩:=row_four HI0.out.co
 go_wp2_with fail
 refine Calls.mono HCk.out ?_
 rintro e w1 ⟨⟨ev,rfl,hck⟩,hb1⟩
 have HI1:Hid (ChI W lid kind mr md pa pn pc c w1):=HI0.out.keep hb1
 have HCw:Hid (CkW W.heap.size lid kind mr md c most (.iface st sp) (.iface kt kp) (.iface bt bp) ev w1):=(by
  rcases hck with h|⟨h1,p,hp,h2,h3,q,h4,h5⟩|h|h|h
  · exact .inl h
  · exact .inr (.inl ⟨h1,p,hp,h2,h3,q,Nat.le_trans hsz0 h4,h5⟩)
  · exact .inr (.inr (.inl h))
  · exact .inr (.inr (.inr (.inl h)))
  · exact .inr (.inr (.inr (.inr h))))
 have hor:(∃et ep,ev=.iface et ep)\/(GoodC lid kind mr md c/\c.rs≠[]/\(1<=most/\most<=20000)/\ev=.nilIface):=by
  rcases hck with ⟨_,h⟩|⟨_,_,_,_,_,_,_,h,_⟩|⟨_,_,h⟩|⟨_,_,_,h⟩|h
  · exact .inl ⟨_,_,h⟩
  · exact .inl ⟨_,_,h⟩
  · exact .inl ⟨_,_,h⟩
  · exact .inl ⟨_,_,h⟩
  · exact .inr h
 clear hb1 hck HI0 HCk p0 p1 p2 p3 p4 k0 k1 k2 k3
 rcases hor with ⟨et,ep,rfl⟩|⟨hgd,hne,hmo,rfl⟩
 · go_wp2
   go_ret2
   exact⟨⟨[],_,rfl,.inl ⟨HCw.out,⟨et,ep,rfl⟩,rfl⟩⟩,HI1.out.old⟩
 · have HG:Hid (GoodC lid kind mr md c/\c.rs≠[]/\(1<=most/\most<=20000)):=⟨hgd,hne,hmo⟩
   clear hgd hne HCw
   obtain⟨w2,HW2,HX2,HB2⟩:=boxed1 w1 #[.pointer none,.slice none 0 0] 60
   have HN2:Hid (NtI w1 [] w2):=⟨.inl ⟨Nat.le_refl _,_,HX2.out,World.ownsRow_nil _ _ _ _,by simp[Value.ownBlock]⟩,HB2.out⟩
   have HE2:Hid _:=HEp.out w1 w2 HI1.out HG.out.1 HN2.out
   obtain⟨mo,rfl⟩:=Int.eq_ofNat_of_zero_le (by omega:0<=most)
   have HI2:Hid (ChI W lid kind mr md pa pn pc c w2):=HI1.out.keep HB2.out
   clear HX2 HB2 HN2 hmo
   go_upto_region 5 with fail
   rw[HW2.out]
   clear HW2
   obtain⟨⟨p0,p1,p2,p3,p4⟩,_⟩:=row_five HI2.out.lf
   obtain⟨k0,k1,k2,k3⟩:=row_four HI2.out.co
   go_wp2_with fail
   refine Calls.mono HE2.out ?_
   rintro e w3 ⟨rfl,hn3⟩
   have HN3:Hid (NtI w1 (chT U kind mr md (pgs c.rs.length (Int.toNat (mo:Nat)) md c)) w3):=hn3
   clear hn3 HE2 p0 p1 p2 p3 p4 k0 k1 k2 k3
   obtain⟨T,HT⟩:∃T,Hid (chT U kind mr md (pgs c.rs.length (Int.toNat (mo:Nat)) md c)=T):=⟨_,rfl⟩
   rw[HT.out] at HN3
   go_wp2_with fail
   refine (Tryz.Builder_String_any w1.heap.size w1.heap.size T w3 HN3.out.bd HN3.out.fr.size).mono ?_
   rintro e w4 ⟨rfl,hb4⟩
   have HB4:Hid (Below W.heap.size W w4):=HI1.out.old.trans ((HN3.out.fr.trans hb4).mono HI1.out.old.size)
   clear hb4
   obtain⟨tb,HTB⟩:∃tb,Hid ((⟨T.toArray⟩:ByteArray)=tb):=⟨_,rfl⟩
   rw[HTB.out]
   go_wp2
   go_ret2
   exact⟨⟨T,_,by rw[HTB.out];rfl,.inr ⟨HG.out.1,HG.out.2.1,HG.out.2.2,rfl,HT.out.symm⟩⟩,HB4.out⟩
theorem st_zero {rs:List Int}(h:Zr rs 0):StAt rs (0:Nat) 0:=by
 refine⟨Nat.zero_le _,fun j hj=>absurd hj (Nat.not_lt_zero _),fun hl=>?_⟩
 have h0:=h _ (List.getElem?_eq_getElem hl)
 have:=cntE_succ 0 rs 0 hl
 rw[if_pos h0] at this
 omega
theorem tw_all {α:Type}(f:α->Bool):∀(l:List α) (x:α),x∈l.takeWhile f->f x=true
 | [],x,h=>by simp at h
 | a :: l,x,h=>by
  rw[List.takeWhile_cons] at h
  split at h
  · rename_i ha
    rcases List.mem_cons.1 h with rfl|h
    · exact ha
    · exact tw_all f l x h
  · cases h
theorem rEnd_mid {rs:List Int}{b j:Nat}(h1:b<j)(h2:j<rEnd rs b)(hj:j<rs.length):rs[j]≠0:=by
 have hl:j-(b+1)<((rs.drop (b+1)).takeWhile fun x=>!(x == 0)).length:=by unfold rEnd at h2;omega
 have e:=take_while_len (fun x:Int=>!(x == 0)) (rs.drop (b+1))
 have hm:((rs.drop (b+1)).takeWhile fun x=>!(x == 0))[j-(b+1)]∈(rs.drop (b+1)).takeWhile fun x=>!(x == 0):=List.getElem_mem hl
 have hp:=tw_all _ _ _ hm
 have hv:((rs.drop (b+1)).takeWhile fun x=>!(x == 0))[j-(b+1)]=rs[j]:=by
  have h3:((rs.drop (b+1)).takeWhile fun x=>!(x == 0))[j-(b+1)]? = some rs[j]:=by
   rw[←e,List.getElem?_take,if_pos hl,List.getElem?_drop,show b+1+(j-(b+1))=j by omega]
   exact List.getElem?_eq_getElem hj
  exact (List.getElem?_eq_some_iff.1 h3).2
 rw[hv] at hp
 simpa using hp
theorem st_at {rs:List Int}{t x:Nat}(h:StAt rs (t:Nat) x)(hx:x<rs.length):rs[x]=0/\cntE 0 (rs.take x)=t:=by
 have h1:=h.2.2 hx
 have h2:=cntE_succ 0 rs x hx
 have h3:cntE 0 (rs.take x)<=t:=by
  cases x with
  | zero=>simp[cntE]
  | succ x=>have:=h.2.1 x (by omega);omega
 by_cases e:rs[x]=0
 · rw[if_pos e] at h2
   exact⟨e,by omega⟩
 · rw[if_neg e] at h2
   omega
theorem st_cnt {rs:List Int}{t x:Nat}(h:StAt rs (t:Nat) x)(hx:x<rs.length):∀y,x<y->y<=rEnd rs x->cntE 0 (rs.take y)=t+1
 | 0,h1,_=>absurd h1 (Nat.not_lt_zero _)
 | y+1,h1,h2=>by
  have hr:=rEnd_le hx
  have hy:y<rs.length:=by omega
  rw[cntE_succ 0 rs y hy]
  by_cases e:y=x
  · subst e
    obtain⟨e1,e2⟩:=st_at h hx
    rw[if_pos e1,e2]
  · rw[if_neg (rEnd_mid (b:=x) (by omega) (by omega) hy),st_cnt h hx y (by omega) (by omega)]
theorem st_next {rs:List Int}{t x:Nat}(h:StAt rs (t:Nat) x)(hx:x<rs.length):StAt rs ((t+1:Nat):Int) (rEnd rs x):=by
 have hr:=rEnd_le hx
 have hg:=rEnd_gt rs x
 refine⟨hr,fun j hj=>?_,fun hl=>?_⟩
 · by_cases e:j<x
   · have:=h.2.1 j e
     omega
   · have:=st_cnt h hx (j+1) (by omega) (by omega)
     omega
 · have h1:=st_cnt h hx (rEnd rs x) hg (Nat.le_refl _)
   have h2:=cntE_succ 0 rs (rEnd rs x) hl
   rw[if_pos (rEnd_zero hl)] at h2
   omega
theorem st_lt {rs:List Int}{t x:Nat}(h:StAt rs (t:Nat) x):t<cntE 0 rs ↔ x<rs.length:=by
 refine⟨fun h1=>?_,fun h1=>?_⟩
 · rcases Nat.lt_or_ge x rs.length with h2|h2
   · exact h2
   · exfalso
     have hx:x=rs.length:=by have:=h.1;omega
     cases hl:rs.length with
     | zero =>
      have e:rs=[]:=List.eq_nil_of_length_eq_zero hl
      rw[e] at h1
      simp[cntE] at h1
     | succ n =>
      have h3:=h.2.1 n (by omega)
      rw[show n+1=rs.length by omega,List.take_length] at h3
      omega
 · have h2:=h.2.2 h1
   have h3:=cntE_all 0 rs (x+1)
   omega
theorem rEnd_drop (rs:List Int)(a m:Nat):a+rEnd (rs.drop a) m=rEnd rs (a+m):=by
 unfold rEnd
 rw[List.drop_drop,show a+(m+1)=a+m+1 by omega]
 omega
theorem cutL_drop {α:Type}(l:List α)(a m:Nat):cutL l a (a+m)=(l.drop a).take m:=by
 unfold cutL
 rw[List.drop_take,show a+m-a=m by omega]
theorem cntE_two (md:Int)(xs:List Int)(a m:Nat):cntE md (xs.take (a+m))=cntE md (xs.take a)+cntE md ((xs.drop a).take m):=by
 rw[cntE_cut md xs a (a+m) (by omega),cutL_drop]
theorem snd_snd (c:Cl)(md:Int)(a m:Nat):((c.snd md a).snd md m).rs=(c.snd md (a+m)).rs/\((c.snd md a).snd md m).ds=(c.snd md (a+m)).ds/\((c.snd md a).snd md m).vs=(c.snd md (a+m)).vs:=by
 refine⟨?_,?_,?_⟩
 · show (c.rs.drop a).drop m=c.rs.drop (a+m)
   rw[List.drop_drop]
 · show (c.ds.drop a).drop m=c.ds.drop (a+m)
   rw[List.drop_drop]
 · show (c.vs.drop (cntE md (c.ds.take a))).drop (cntE md ((c.ds.drop a).take m))=c.vs.drop (cntE md (c.ds.take (a+m)))
   rw[List.drop_drop,cntE_two]
end Go.Proofs.YtoeiahdjamkdgaaGreatDoor
