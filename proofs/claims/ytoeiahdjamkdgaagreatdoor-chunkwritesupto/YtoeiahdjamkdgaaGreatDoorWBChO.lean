/-
  chunk.Marks of a written chunk.
  The closed fact that stage 11's laws begin with.
-/
import Derived.Test.YtoeiahdjamkdgaaGreatDoorWBChC
import Derived.Test.YtoeiahdjamkdgaaGreatDoorWBChJ
set_option maxRecDepth 100000
set_option maxHeartbeats 6400000
namespace Go.Proofs.YtoeiahdjamkdgaaGreatDoor
open Go.RowKit
def mkOf (U:List Vl->List Vl × List Nat)(kind mr md:Int):Nat->Nat->List Cl->List Mk
 | _,_,[]=>[]
 | a,n,c :: cs=>⟨(a:Nat),((pgT U kind mr md c).length:Nat),(n:Nat),(cntE 0 c.rs:Nat),ofC c⟩ :: mkOf U kind mr md (a+(pgT U kind mr md c).length) (n+cntE 0 c.rs) cs
theorem mkOf_len (U:List Vl->List Vl × List Nat)(kind mr md:Int):∀(a n:Nat) (cs:List Cl),(mkOf U kind mr md a n cs).length=cs.length
 | _,_,[]=>rfl
 | a,n,c :: cs=>by simp only[mkOf,List.length_cons,mkOf_len]
theorem mkOf_snoc (U:List Vl->List Vl × List Nat)(kind mr md:Int)(c:Cl):∀(a n:Nat) (cs:List Cl),mkOf U kind mr md a n (cs++[c])=mkOf U kind mr md a n cs++[⟨((a+(chT U kind mr md cs).length:Nat):Int),((pgT U kind mr md c).length:Nat),((n+cntE 0 (jR cs):Nat):Int),(cntE 0 c.rs:Nat),ofC c⟩]
 | a,n,[]=>by simp[mkOf,chT,jR,cntE]
 | a,n,b :: cs=>by
  simp only[List.cons_append,mkOf]
  rw[mkOf_snoc U kind mr md c _ _ cs,chT_cons,jR_cons,cntE_app,List.length_append,Nat.add_assoc,Nat.add_assoc]
theorem mkOf_at (U:List Vl->List Vl × List Nat)(kind mr md:Int):∀(a n:Nat) (cs:List Cl) (j:Nat) (h:j<cs.length) (h':j<(mkOf U kind mr md a n cs).length),(mkOf U kind mr md a n cs)[j]=⟨((a+(chT U kind mr md (cs.take j)).length:Nat):Int),((pgT U kind mr md cs[j]).length:Nat),((n+cntE 0 (jR (cs.take j)):Nat):Int),(cntE 0 cs[j].rs:Nat),ofC cs[j]⟩
 | a,n,[],j,h,_=>absurd h (Nat.not_lt_zero _)
 | a,n,b :: cs,0,_,_=>by simp[mkOf,chT,jR,cntE]
 | a,n,b :: cs,j+1,h,h'=>by
  have ih:=mkOf_at U kind mr md (a+(pgT U kind mr md b).length) (n+cntE 0 b.rs) cs j (by simpa using h) (by rw[mkOf_len];simpa using h)
  simp only[mkOf,List.getElem_cons_succ,List.take_succ_cons,chT_cons,jR_cons,cntE_app,List.length_append]
  rw[ih,Nat.add_assoc,Nat.add_assoc]
theorem goodC_same {lid kind mr md:Int}{c k:Cl}(ks:SameC c k)(hg:GoodC lid kind mr md c):GoodC lid kind mr md k/\ofC k=ofC c:=by
 obtain⟨cid,cra,crs,crc,cda,cds,cdc,cva,cvs,cvc⟩:=c
 obtain⟨kid,kra,krs,krc,kda,kds,kdc,kva,kvs,kvc⟩:=k
 have e1:kid=cid:=ks.id
 have e2:krs=crs:=ks.rs
 have e3:kds=cds:=ks.ds
 have e4:kvs=cvs:=ks.vs
 subst e1 e2 e3 e4
 exact⟨hg,rfl⟩
theorem cs_le:∀(cs:List Cl),(∀p∈cs,p.rs≠[])->cs.length<=(jR cs).length
 | [],_=>Nat.zero_le _
 | c :: cs,h=>by
  have h1:=List.length_pos_iff.2 (h c List.mem_cons_self)
  have h2:=cs_le cs fun p hp=>h p (List.mem_cons_of_mem _ hp)
  rw[jR_cons,List.length_append,List.length_cons]
  omega
theorem chMarks_any (lid kind mr md:Int)(pa:Option Addr)(pn pc:Nat)(U:List Vl->List Vl × List Nat)(hU:∀vs,Uq vs (U vs).1 (U vs).2)(cs:List Cl)(hcs:∀p∈cs,GoodC lid kind mr md p/\p.rs≠[]/\∀v∈p.vs,v.In)(hne:cs≠[])(hbk:(jR cs).length+(jD cs).length+(jV cs).length<=2000)(W:World)(tt bt st kt ut:TypeId)(tp bp sp kp up:Value)(hE:Er5 W tt bt st kt ut tp bp sp kp up) :
    Calls Tryz.prog 14 #[.agg #[.int .i64 lid,.int .i64 kind,.int .i64 mr,.int .i64 md,.slice pa pn pc],.string ⟨(chT U kind mr md cs).toArray⟩] W fun e w'=>(∃a c,e=.returned (.tuple #[.slice a cs.length c,.nilIface])/\LiesM w' a (mkOf U kind mr md 0 0 cs)/\cs.length<=c/\Fsh W.heap.size a)/\Below W.heap.size W w':=by
 obtain⟨w0,HW0,HX,HB⟩:=boxed1 W #[.int .i64 lid,.int .i64 kind,.int .i64 mr,.int .i64 md,.slice pa pn pc] 39
 have hz:w0.heap.size=W.heap.size+1:=by rw[←HW0.out];simp
 obtain⟨w1,HW1,HX1,HB1⟩:=boxed1 w0 #[.slice none 0 0] 47
 have hz1:w1.heap.size=W.heap.size+1+1:=by rw[←HW1.out];simp[hz]
 obtain⟨w2,HW2,HX2,HB2⟩:=boxed1 w1 #[.int .i64 0] 3
 have hz2:w2.heap.size=W.heap.size+1+1+1:=by rw[←HW2.out];simp[hz1]
 rw[hz] at HX1
 rw[hz1] at HX2
 have HBW:Hid (Below W.heap.size W w2):=HB.out.trans ((HB1.out.trans (HB2.out.mono HB1.out.size)).mono HB.out.size)
 have HI:Hid (MkS W.heap.size (W.heap.size+1) (W.heap.size+1+1) (W.heap.size+1+1+1) lid kind mr md pa pn pc 0 (.slice none 0 0) [] w2):=⟨blk_keep HB2.out (blk_keep HB1.out HX.out),blk_keep HB2.out HX1.out,HX2.out,World.ownsRow_nil _ _ _ _⟩
 have hcl:=cs_le cs fun p hp=>(hcs p hp).2.1
 have HEp:Hid (Calls Tryz.prog 29 #[.agg #[.int .i64 lid,.int .i64 kind,.int .i64 mr,.int .i64 md,.slice pa pn pc],.string ⟨(chT U kind mr md cs).toArray⟩,.func (.func 30) #[] #[.pointer (some ⟨W.heap.size,0,none⟩),.pointer (some ⟨W.heap.size+1+1,0,none⟩),.pointer (some ⟨W.heap.size+1,0,none⟩)]] w2 fun e w'=>e=.returned .nilIface/\(∃lv,MkS W.heap.size (W.heap.size+1) (W.heap.size+1+1) (W.heap.size+1+1+1) lid kind mr md pa pn pc (cntE 0 (jR (cs.take cs.length)):Nat) lv (mkOf U kind mr md 0 0 (cs.take cs.length)) w')/\MFr (W.heap.size+1) (W.heap.size+1+1) (W.heap.size+1+1+1) w2 w'):=(by
  refine eachPage_M lid kind mr md pa pn pc U hU cs hcs hne hbk (W.heap.size+1+1+1) (MFr (W.heap.size+1) (W.heap.size+1+1) (W.heap.size+1+1+1)) (fun i X=>∃lv,MkS W.heap.size (W.heap.size+1) (W.heap.size+1+1) (W.heap.size+1+1+1) lid kind mr md pa pn pc (cntE 0 (jR (cs.take i)):Nat) lv (mkOf U kind mr md 0 0 (cs.take i)) X) W.heap.size (W.heap.size+1+1) (W.heap.size+1) (fun X w' _ h=>.of_below h) (fun X w' h=>h.size) (fun X Y Z h1 h2=>h1.trans h2) (fun X w' k ls f h1 h2 h3=>h1.box h3 (by omega) (by omega) (by decide)) (fun i X w' _ h1 h2=>?_) w2 tt bt st kt ut tp bp sp kp up (fun X hX=>hE.keep (HBW.out.trans (hX.below (by omega) (by omega) (by omega) (by omega)))) ⟨_,HI.out⟩ (by omega) (fun i h k Y X h1 h2 h3 h4 h5 h6=>?_)
  · obtain⟨lv,h⟩:=h1
    exact⟨lv,h.keep h2⟩
  · obtain⟨lv,hI⟩:=h1
    have hF:MFr (W.heap.size+1) (W.heap.size+1+1) (W.heap.size+1+1+1) w2 X:=h2.trans (.of_below h3)
    have hEX:=hE.keep (HBW.out.trans (hF.below (by omega) (by omega) (by omega) (by omega)))
    obtain⟨g1,g2⟩:=goodC_same h6 (hcs _ (List.getElem_mem h)).1
    have hmj:=mem_j (List.getElem_mem h)
    have hc1:cntE 0 (jR (cs.take i))<=(jR (cs.take i)).length:=List.length_filter_le _ _
    have hc2:=jR_le cs i
    refine (marks1_any lid kind mr md pa pn pc _ _ (cntE 0 (jR (cs.take i)):Nat) W.heap.size (W.heap.size+1) (W.heap.size+1+1) (W.heap.size+1+1+1) lv _ k (by omega) (by omega) (by omega) g1 (by rw[h6.vs];exact fun v hv=>((hcs _ (List.getElem_mem h)).2.2 v hv).2.1.1) (by rw[h6.rs,h6.ds,h6.vs];omega) h6.cap (by rw[mkOf_len,List.length_take];omega) (by omega) X (hI.keep h3) (by have:=hF.size;omega) st kt bt sp kp bp hEX.s hEX.k hEX.b h4).mono fun e w' hq=>⟨hq.1,?_,hq.2.2⟩
    obtain⟨lv',hA⟩:=hq.2.1
    rw[h6.rs,g2] at hA
    refine⟨lv',?_⟩
    rw[jR_succ h,cntE_app,List.take_succ_eq_append_getElem h,mkOf_snoc,Nat.zero_add,Nat.zero_add]
    rw[←Int.natCast_add] at hA
    exact hA)
 have hmf:∀(fn:Fn) (first cap:Array Value) (W:World),(Instr.makeFunc fn first cap).run Tryz.prog W=.ok (.func fn first cap) W:=fun _ _ _ _=>rfl
 obtain⟨⟨p0,p1,p2,p3,p4⟩,_⟩:=row_five HI.out.lf
 obtain⟨sb,HSB⟩:∃sb,Hid ((⟨(chT U kind mr md cs).toArray⟩:ByteArray)=sb):=⟨_,rfl⟩
 rw[HSB.out] at HEp ⊢
 clear hE hU hcs hz hz1 HX HX1 HX2 HB HB1 HB2 HI
 go_enter Tryz.func14,Tryz.ntmps14
 go_upto_region 3 with fail
 rw[HW0.out,HW1.out,HW2.out]
 go_wp2_with fail
 refine Calls.mono HEp.out ?_
 rintro e w3 ⟨rfl,h1,h2⟩
 obtain⟨lv,hI⟩:=h1
 rw[List.take_length] at hI
 have HI:Hid (MkS W.heap.size (W.heap.size+1) (W.heap.size+1+1) (W.heap.size+1+1+1) lid kind mr md pa pn pc (cntE 0 (jR cs):Nat) lv (mkOf U kind mr md 0 0 cs) w3):=hI
 have HF:Hid (Below W.heap.size W w3):=HBW.out.trans (h2.below (by omega) (by omega) (by omega) (by omega))
 clear hI h2 HEp p0 p1 p2 p3 p4
 obtain⟨a,c,rfl,hl,hcap,hfs⟩:=liesM_own HI.out.row
 rw[mkOf_len] at hcap
 have HL:Hid (LiesM w3 a (mkOf U kind mr md 0 0 cs)):=hl
 have HFs:Hid (Fsh W.heap.size a):=fun p hp=>(by have:=hfs p hp;omega)
 clear hl hfs
 obtain⟨d0,_⟩:=row_oneC HI.out.lc
 go_wp2
 go_ret2
 exact⟨⟨a,c,by rw[mkOf_len];rfl,HL.out,hcap,HFs.out⟩,HF.out⟩
def prC (B:Nat):Cl:=⟨1,some ⟨B+1+1,0,none⟩,[0,0],2,some ⟨B+1+1+1,0,none⟩,[0,0],2,some ⟨B+1+1+1+1,0,none⟩,[⟨1,0,⟨#[]⟩⟩,⟨1,0,⟨#[]⟩⟩],2⟩
theorem lies_prC {w:World}{g t:Nat}{x y:Int}(h:w.heap[g]? = some (.cells #[.int .i64 x,.int .i64 y] t (0,0))):Lies w (some ⟨g,0,none⟩) (i64s [x,y]):=fun j hj=>by
 have hj2:j<2:=by simpa [i64s] using hj
 match j,hj2 with
 | 0,_=>exact⟨g,0,rfl,by simp[World.cell?,h,i64s]⟩
 | 1,_=>exact⟨g,0,rfl,by simp[World.cell?,h,i64s]⟩
theorem liesV_prC {w:World}{g t:Nat}{x y:Vl}(h:w.heap[g]? = some (.cells #[.int .i64 x.k,.int .i64 x.n,.string x.s,.int .i64 y.k,.int .i64 y.n,.string y.s] t (0,0))):LiesV w (some ⟨g,0,none⟩) [x,y]:=fun j hj=>by
 have hj2:j<2:=by simpa using hj
 match j,hj2 with
 | 0,_=>exact⟨g,0,rfl,by simp[World.cell?,h],by simp[World.cell?,h],by simp[World.cell?,h]⟩
 | 1,_=>exact⟨g,0,rfl,by simp[World.cell?,h],by simp[World.cell?,h],by simp[World.cell?,h]⟩
theorem prC_good (B:Nat):GoodC 1 1 0 0 (prC B):=by
 refine⟨by kernel_rfl,fun j hj=>?_⟩
 have hj2:j<2:=by simpa [prC] using hj
 match j,hj2 with
 | 0,_=>show badV 1 (⟨1,0,⟨#[]⟩⟩:Vl)=false;kernel_rfl
 | 1,_=>show badV 1 (⟨1,0,⟨#[]⟩⟩:Vl)=false;kernel_rfl
theorem prC_in (B:Nat):∀v∈(prC B).vs,v.In:=fun v hv=>by
 have hv2:v=⟨1,0,⟨#[]⟩⟩:=by simpa [prC] using hv
 subst hv2
 exact⟨by simp,by simp,by simp[ByteArray.size]⟩
theorem prC_pgs (B:Nat):(pgs 2 1 0 (prC B)).length=2/\cntE 0 (jR ((pgs 2 1 0 (prC B)).take 1))=1:=⟨by kernel_rfl,by kernel_rfl⟩
theorem pgs_facts {lid kind mr md:Int}{c:Cl}(most:Nat)(hg:GoodC lid kind mr md c)(hr:c.rs≠[])(hin:∀v∈c.vs,v.In):(∀p∈pgs c.rs.length most md c,GoodC lid kind mr md p/\p.rs≠[]/\∀v∈p.vs,v.In)/\pgs c.rs.length most md c≠[]/\jR (pgs c.rs.length most md c)=c.rs/\jD (pgs c.rs.length most md c)=c.ds/\jV (pgs c.rs.length most md c)=c.vs:=by
 obtain⟨h1,h2,h3,h4⟩:=pgs_whole (lid:=lid) (kind:=kind) (mr:=mr) (md:=md) most c.rs.length c (Nat.le_refl _) hg
 refine⟨fun p hp=>⟨(h4 p hp).1,(h4 p hp).2,fun v hv=>hin v (pgs_mem _ _ _ hp v hv)⟩,fun h=>hr ?_,h1,h2,h3⟩
 rw[←h1,h]
 rfl
theorem CwR.good {N:Nat}{lid kind mr md:Int}{U:List Vl->List Vl × List Nat}{c:Cl}{most:Int}{sv kv bv:Value}{t:List UInt8}{ev:Value}{w:World}(h:CwR N lid kind mr md U c most sv kv bv t ev w)(hg:GoodC lid kind mr md c)(hr:c.rs≠[])(hm:1<=most/\most<=20000):ev=.nilIface/\t=chT U kind mr md (pgs c.rs.length most.toNat md c):=by
 rcases h with ⟨h,⟨et,ep,he⟩,_⟩|⟨_,_,_,h1,h2⟩
 · exfalso
   rcases h with ⟨h,_⟩|⟨_,p,hp,h,_⟩|⟨_,h,_⟩|⟨_,_,h,_⟩|⟨_,_,_,h⟩
   · rw[hg.1] at h
     cases h
   · rw[hg.2 p hp] at h
     cases h
   · exact hr h
   · exact h hm
   · rw[he] at h
     cases h
 · exact⟨h1,h2⟩
theorem CwR.same {N:Nat}{lid kind mr md:Int}{U:List Vl->List Vl × List Nat}{c k:Cl}{most:Int}{sv kv bv:Value}{t:List UInt8}{ev:Value}{w:World}(ks:SameC c k)(h:CwR N lid kind mr md U k most sv kv bv t ev w):CwR N lid kind mr md U c most sv kv bv t ev w:=by
 rcases h with ⟨h1,h2⟩|⟨h1,h2,h3,h4,h5⟩
 · refine .inl ⟨?_,h2⟩
   obtain⟨cid,cra,crs,crc,cda,cds,cdc,cva,cvs,cvc⟩:=c
   obtain⟨kid,kra,krs,krc,kda,kds,kdc,kva,kvs,kvc⟩:=k
   have e1:kid=cid:=ks.id
   have e2:krs=crs:=ks.rs
   have e3:kds=cds:=ks.ds
   have e4:kvs=cvs:=ks.vs
   subst e1 e2 e3 e4
   exact h1
 · refine .inr ⟨?_,by rw[←ks.rs];exact h2,h3,h4,?_⟩
   · obtain⟨cid,cra,crs,crc,cda,cds,cdc,cva,cvs,cvc⟩:=c
     obtain⟨kid,kra,krs,krc,kda,kds,kdc,kva,kvs,kvc⟩:=k
     have e1:kid=cid:=ks.id
     have e2:krs=crs:=ks.rs
     have e3:kds=cds:=ks.ds
     have e4:kvs=cvs:=ks.vs
     subst e1 e2 e3 e4
     exact h1
   · rw[h5,ks.rs]
     exact chT_val _ ks.rs ks.ds ks.vs
theorem pair_any (W:World)(tt bt st kt ut:TypeId)(tp bp sp kp up:Value)(hE:Er5 W tt bt st kt ut tp bp sp kp up) :
    Calls Tryz.prog 4 #[] W fun e w'=>e=.returned (.bool true)/\Below W.heap.size W w':=by
 obtain⟨U,hU⟩:=uq_pick
 obtain⟨w0,HW0,HX,HY,HZ,HV,HB⟩:=four_boxes W #[.int .i64 1,.int .i64 1,.int .i64 0,.int .i64 0,.slice none 0 0] #[.int .i64 1,.int .i64 0,.string ⟨#[]⟩] #[.int .i64 0,.int .i64 0] #[.int .i64 0,.int .i64 0] 39 46 3 3
 have hz:w0.heap.size=W.heap.size+1+1+1+1:=by rw[←HW0.out];simp
 obtain⟨w1,HW1,HU1,HB1⟩:=boxed1 w0 #[.int .i64 1,.int .i64 0,.string ⟨#[]⟩,.int .i64 1,.int .i64 0,.string ⟨#[]⟩] 46
 rw[hz] at HU1
 have HBW:Hid (Below W.heap.size W w1):=HB.out.trans (HB1.out.mono HB.out.size)
 have hE1:=hE.keep HBW.out
 have hat:(prC W.heap.size).At w1:=⟨lies_prC (blk_keep HB1.out HZ.out),lies_prC (blk_keep HB1.out HV.out),liesV_prC HU1.out⟩
 have HWr:Hid (Calls Tryz.prog 9 #[.agg #[.int .i64 1,.int .i64 1,.int .i64 0,.int .i64 0,.slice none 0 0],.agg #[.int .i64 1,.slice (some ⟨W.heap.size+1+1,0,none⟩) 2 2,.slice (some ⟨W.heap.size+1+1+1,0,none⟩) 2 2,.slice (some ⟨W.heap.size+1+1+1+1,0,none⟩) 2 2],.int .i64 1] w1 fun e w'=>e=.returned (.tuple #[.string ⟨(chT U 1 0 0 (pgs 2 1 0 (prC W.heap.size))).toArray⟩,.nilIface])/\Below w1.heap.size w1 w'):=(chWrite_any 1 1 0 0 none 0 0 U hU (prC W.heap.size) 1 (by simp[prC]) ⟨by simp[prC],by simp[prC],by simp[prC]⟩ (prC_in _) w1 st kt bt sp kp bp hE1.s hE1.k hE1.b hat).mono fun e w' h=>(by
  obtain⟨⟨t,ev,rfl,h1⟩,h2⟩:=h
  obtain⟨rfl,rfl⟩:=h1.good (prC_good _) (by simp[prC]) (by omega)
  exact⟨rfl,h2⟩)
 obtain⟨f1,f2,f3,f4,f5⟩:=pgs_facts 1 (prC_good W.heap.size) (by simp[prC]) (prC_in _)
 have HMk:Hid (∀X,Below w1.heap.size w1 X->Calls Tryz.prog 14 #[.agg #[.int .i64 1,.int .i64 1,.int .i64 0,.int .i64 0,.slice none 0 0],.string ⟨(chT U 1 0 0 (pgs 2 1 0 (prC W.heap.size))).toArray⟩] X fun e w'=>(∃a c,e=.returned (.tuple #[.slice a 2 c,.nilIface])/\LiesM w' a (mkOf U 1 0 0 0 0 (pgs 2 1 0 (prC W.heap.size))))/\Below X.heap.size X w'):=fun X hX=>(chMarks_any 1 1 0 0 none 0 0 U hU (pgs 2 1 0 (prC W.heap.size)) f1 f2 (by rw[show jR (pgs 2 1 0 (prC W.heap.size))=_ from f3,show jD (pgs 2 1 0 (prC W.heap.size))=_ from f4,show jV (pgs 2 1 0 (prC W.heap.size))=_ from f5];simp[prC]) X tt bt st kt ut tp bp sp kp up (hE1.keep hX)).mono fun e w' h=>(by
  obtain⟨⟨a,c,h1,h2,_⟩,h3⟩:=h
  rw[(prC_pgs W.heap.size).1] at h1
  exact⟨⟨a,c,h1,h2⟩,h3⟩)
 obtain⟨cs,HCS⟩:∃cs,Hid (pgs 2 1 0 (prC W.heap.size)=cs):=⟨_,rfl⟩
 obtain⟨g1,g2⟩:=prC_pgs W.heap.size
 rw[HCS.out] at HWr HMk g1 g2
 obtain⟨sb,HSB⟩:∃sb,Hid ((⟨(chT U 1 0 0 cs).toArray⟩:ByteArray)=sb):=⟨_,rfl⟩
 rw[HSB.out] at HWr HMk
 have HX1:Hid (w1.heap[W.heap.size]? = some (.cells #[.int .i64 1,.int .i64 1,.int .i64 0,.int .i64 0,.slice none 0 0] 39 (0,0))):=blk_keep HB1.out HX.out
 obtain⟨y0,y1,y2⟩:=row_three HY.out
 obtain⟨⟨o0,o1,o2,o3,o4⟩,_⟩:=row_five HX.out
 clear hE hE1 hat f1 f2 f3 f4 f5 hU HU1 HB HB1 HX HY HZ HV hz
 have HGa:Hid _:=g1
 have HGb:Hid _:=g2
 clear g1 g2
 go_enter Tryz.func4,Tryz.ntmps4
 go_wp2_with fail
 rw[HW0.out,HW1.out]
 refine Calls.mono HWr.out ?_
 rintro e w2 ⟨rfl,hb2⟩
 have HX2:Hid _:=blk_keep hb2 HX1.out
 have HB2:Hid (Below W.heap.size W w2):=HBW.out.trans (hb2.mono HBW.out.size)
 have HM2:Hid _:=HMk.out w2 hb2
 clear hb2 HWr HMk y0 y1 y2 o0 o1 o2 o3 o4
 obtain⟨⟨p0,p1,p2,p3,p4⟩,_⟩:=row_five HX2.out
 go_wp2_with fail
 refine Calls.mono HM2.out ?_
 rintro e w3 ⟨⟨a,c,rfl,hl⟩,hb3⟩
 have HB3:Hid (Below W.heap.size W w3):=HB2.out.trans (hb3.mono HB2.out.size)
 have hj:1<cs.length:=by rw[HGa.out];omega
 have hj2:1<(mkOf U 1 0 0 0 0 cs).length:=by rw[mkOf_len];exact hj
 obtain⟨b,o,rfl,hc⟩:=hl 1 hj2
 have hc2:=hc 2 (.int .i64 1) (by rw[mkOf_at U 1 0 0 0 0 cs 1 hj hj2,HGb.out];rfl)
 rw[Nat.one_mul,Nat.add_assoc] at hc2
 clear hb3 hc hl hj hj2 p0 p1 p2 p3 p4 HM2
 go_wp2
 go_ret
 exact⟨rfl,HB3.out⟩
end Go.Proofs.YtoeiahdjamkdgaaGreatDoor
