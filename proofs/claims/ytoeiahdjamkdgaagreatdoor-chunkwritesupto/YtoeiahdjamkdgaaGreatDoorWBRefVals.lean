/-
  The reference's ManyError and ValuesError: what they answer.
  The reference's ColumnError: what it answers.
  shred.check: what it answers.
  shred.startOf: where a record begins.
  The reference's ColumnError, walked.
  Appending to nil whatever ints or values; OwnColumn.
  The reference's OwnColumn.
-/
import Derived.Test.YtoeiahdjamkdgaaGreatDoorWBRefErr
import Derived.Test.YtoeiahdjamkdgaaGreatDoorWBWordsMath
import Derived.Test.YtoeiahdjamkdgaaGreatDoorWBColE
set_option maxRecDepth 100000
set_option maxHeartbeats 6400000
namespace Go.Proofs.YtoeiahdjamkdgaaGreatDoor
open Go.RowKit
def VE (kd:Int)(vs:List Vl)(i:Nat)(c at_:Int):Prop :=
 (c=0/\at_=-1/\(1<=kd/\kd<=5)/\∀j (h:j<vs.length),j<i->vs[j].Ok kd)\/(c=4/\at_=-1/\¬ (1<=kd/\kd<=5)) ∨
 (∃p:Nat,∃hp:p<vs.length,c=4/\at_=p/\(1<=kd/\kd<=5)/\¬ vs[p].Ok kd/\∀j (h:j<vs.length),j<p->vs[j].Ok kd)
structure VL (kd:Int) (vs:List Vl) (w:World) (g:Nat) (i:Nat) (c at_:Int) (wr:World):Prop where
 res:wr.heap[w.heap.size]? = some (.cells (rfl2 0 0) 32 (0,0))
 f:wr.heap[g]? = some (.cells (rfl2 c at_) 32 (0,0))
 ve:VE kd vs i c at_
 old:Below w.heap.size w wr
theorem VL.keep {kd:Int}{vs:List Vl}{w:World}{g i j:Nat}{c at_:Int}{wr w':World}(h:VL kd vs w g i c at_ wr)(hb:Below wr.heap.size wr w')(hve:VE kd vs j c at_):VL kd vs w g j c at_ w' :=
 ⟨blk_keep hb h.res,blk_keep hb h.f,hve,h.old.trans (hb.mono h.old.size)⟩
theorem blk_other {w:World}{g k j:Nat}{o:Obj}(h:w.heap[g]? = some o)(hne:g≠k)(v:Value):(w.setCell ⟨k,j,none⟩ v).heap[g]? = some o:=by
 rw[Below.heap_setCell _ _ _ _ hne];exact h
theorem fitB_iff {lid mr md cid:Int}{rs ds:List Int}{nv:Nat}:fitB lid mr md cid rs ds nv=true ↔ cid=lid/\rs.length=ds.length/\headB rs=false/\(∀x∈rs,btw 0 x mr=true)/\(∀x∈ds,btw 0 x md=true)/\nv=cntE md ds:=by
 unfold fitB
 by_cases h1:cid≠lid\/rs.length≠ds.length
 · rw[if_pos h1]
   constructor
   · intro h;cases h
   · rintro ⟨a,b,_⟩;rcases h1 with h|h<;>contradiction
 · rw[if_neg h1]
   have h1':cid=lid/\rs.length=ds.length:=by
    constructor
    · exact Decidable.byContradiction fun h=>h1 (.inl h)
    · exact Decidable.byContradiction fun h=>h1 (.inr h)
   cases hh:headB rs
   · rw[if_neg (by simp)]
     by_cases h2:(rs.any fun x=>!(btw 0 x mr))=true\/(ds.any fun x=>!(btw 0 x md))=true
     · rw[if_pos h2]
       constructor
       · intro h;cases h
       · rintro ⟨_,_,_,a,b,_⟩
         rcases h2 with h|h
         · obtain⟨x,hx,he⟩:=List.any_eq_true.1 h
           rw[a x hx] at he;cases he
         · obtain⟨x,hx,he⟩:=List.any_eq_true.1 h
           rw[b x hx] at he;cases he
     · rw[if_neg h2,decide_eq_true_iff]
       constructor
       · intro h
         refine⟨h1'.1,h1'.2,rfl,fun x hx=>?_,fun x hx=>?_,h⟩
         · cases hb:btw 0 x mr
           · exact absurd (.inl (List.any_eq_true.2 ⟨x,hx,by rw[hb];rfl⟩)) h2
           · rfl
         · cases hb:btw 0 x md
           · exact absurd (.inr (List.any_eq_true.2 ⟨x,hx,by rw[hb];rfl⟩)) h2
           · rfl
       · exact fun h=>h.2.2.2.2.2
   · rw[if_pos rfl]
     constructor
     · intro h;cases h
     · rintro ⟨_,_,h,_⟩;cases h
theorem badV_okV (kind:Int)(v:Vl):badV kind v=!(okV kind v.k v.n v.s.size):=by
 unfold badV
 by_cases h:v.k=kind
 · rw[h];simp
 · have e:okV kind v.k v.n v.s.size=false:=okV_no fun hh=>h hh.1
   rw[e];simp[h]
def ColErr (lid kind mr md cid:Int)(rs ds:List Int)(vs:List Vl)(c at_:Int):Prop :=
 (c=3/\at_=-1/\(isLfB kind mr md && fitB lid mr md cid rs ds vs.length)=false) ∨
 ((isLfB kind mr md && fitB lid mr md cid rs ds vs.length)=true/\((c=0/\at_=-1/\∀j (h:j<vs.length),badV kind vs[j]=false) ∨
  ∃p:Nat,∃hp:p<vs.length,c=4/\at_=p/\badV kind vs[p]=true/\∀j (h:j<vs.length),j<p->badV kind vs[j]=false))
theorem colErr_no {lid kind mr md cid:Int}{rs ds:List Int}{vs:List Vl}(h:fitB lid mr md cid rs ds vs.length=true->False):ColErr lid kind mr md cid rs ds vs 3 (-1):=by
 refine .inl ⟨rfl,rfl,?_⟩
 cases hb:fitB lid mr md cid rs ds vs.length
 · simp
 · exact absurd hb h
theorem bare_b (k:Int)(w:World):Calls Tryz.prog 8 #[.int .i64 k] w fun e w'=>e=.returned (.agg (rfl2 k (-1)))/\Below w.heap.size w w' :=
 (bare_any k w).mono fun e w' h=>⟨h.1,by rw[h.2];exact (Below.refl _ _).alloc (Nat.le_refl _) _⟩
theorem fine_b (w:World):Calls Tryz.prog 17 #[] w fun e w'=>e=.returned (.agg (rfl2 0 (-1)))/\Below w.heap.size w w' :=
 (fine_any w).mono fun e w' h=>⟨h.1,by rw[h.2];exact (Below.refl _ _).alloc (Nat.le_refl _) _⟩
structure CEr (W:World) (lid kind mr md:Int) (pv:Value) (cid:Int) (rv dv vv:Value) (wr:World):Prop where
 lf:wr.heap[W.heap.size]? = some (.cells #[.int .i64 lid,.int .i64 kind,.int .i64 mr,.int .i64 md,pv] 24 (0,0))
 co:wr.heap[W.heap.size+1]? = some (.cells #[.int .i64 cid,rv,dv,vv] 27 (0,0))
 re:wr.heap[W.heap.size+1+1]? = some (.cells (rfl2 0 0) 32 (0,0))
 old:Below W.heap.size W wr
theorem CEr.keep {W:World}{lid kind mr md:Int}{pv:Value}{cid:Int}{rv dv vv:Value}{wr w':World}(h:CEr W lid kind mr md pv cid rv dv vv wr)(hb:Below wr.heap.size wr w'):CEr W lid kind mr md pv cid rv dv vv w' :=
 ⟨blk_keep hb h.lf,blk_keep hb h.co,blk_keep hb h.re,h.old.trans (hb.mono h.old.size)⟩
theorem ckB {w w':World}{g:Nat}{v:Value}(h:w.cell? ⟨g,0,none⟩=some v)(hb:Below w.heap.size w w'):w'.cell? ⟨g,0,none⟩=some v:=(hb.cell (World.block_lt_of_cell? w _ h)).trans h
theorem two_boxes (W:World)(c1 c2:Array Value)(t1 t2:TypeId):∃w0,Hid ((W.alloc (.cells c1 t1)).alloc (.cells c2 t2)=w0)/\Hid (w0.heap[W.heap.size]? = some (.cells c1 t1 (0,0)))/\Hid (w0.heap[W.heap.size+1]? = some (.cells c2 t2 (0,0)))/\Hid (Below W.heap.size W w0):=by
 refine⟨_,rfl,blk_alloc (heap_alloc_new W _),?_,((Below.refl _ _).alloc (Nat.le_refl _) _).alloc (by simp) _⟩
 have h:=heap_alloc_new (W.alloc (.cells c1 t1)) (.cells c2 t2)
 rw[show (W.alloc (.cells c1 t1)).heap.size=W.heap.size+1 by simp] at h
 exact h
def CkRet (N:Nat)(lid kind mr md cid:Int)(rs ds:List Int)(vs:List Vl)(sv kv:Value)(e:Ending)(w':World):Prop :=
 ((isLfB kind mr md && fitB lid mr md cid rs ds vs.length)=false/\e=.returned sv) ∨
 ((isLfB kind mr md && fitB lid mr md cid rs ds vs.length)=true/\(((∀j (h:j<vs.length),badV kind vs[j]=false)/\e=.returned .nilIface) ∨
  ∃p:Nat,∃hp:p<vs.length,badV kind vs[p]=true/\(∀j (h:j<vs.length),j<p->badV kind vs[j]=false)/\∃q,N<=q/\e=.returned (.iface 83 (.pointer (some ⟨q,0,none⟩)))/\w'.cell? ⟨q,0,none⟩=some (.int .i64 p)/\w'.cell? ⟨q,1,none⟩=some kv))
theorem scheck_any (lid kind mr md cid:Int)(pa ra da va:Option Addr)(pn pc rc dc vc:Nat)(rs ds:List Int)(vs:List Vl)(W:World)(st kt:TypeId)(sp kp:Value)
    (hn:rs.length<=1048576) (hn2:ds.length<=1048576) (hv:vs.length<=1048576) (hs:W.cell? ⟨0,0,none⟩=some (.iface st sp)) (hk:W.cell? ⟨3,0,none⟩=some (.iface kt kp))
    (hr:Lies W ra (i64s rs)) (hd:Lies W da (i64s ds)) (hvs:LiesV W va vs) :
    Calls Tryz.prog 54 #[leafV lid kind mr md pa pn pc,colV cid ra rs.length rc da ds.length dc va vs.length vc] W fun e w'=>CkRet W.heap.size lid kind mr md cid rs ds vs (.iface st sp) (.iface kt kp) e w'/\Below W.heap.size W w':=by
 have hmf:∀(fn:Fn) (first cap:Array Value) (W:World),(Instr.makeFunc fn first cap).run Tryz.prog W=.ok (.func fn first cap) W:=fun _ _ _ _=>rfl
 unfold leafV colV
 obtain⟨w0,HW0,HX,HY,HB⟩:=two_boxes W #[.int .i64 lid,.int .i64 kind,.int .i64 mr,.int .i64 md,.slice pa pn pc] #[.int .i64 cid,.slice ra rs.length rc,.slice da ds.length dc,.slice va vs.length vc] 39 27
 have HR:Hid (Lies w0 ra (i64s rs)):=hr.keep HB.out
 have HD:Hid (Lies w0 da (i64s ds)):=hd.keep HB.out
 have HV:Hid (LiesV w0 va vs):=hvs.keep HB.out
 have HS:Hid (w0.cell? ⟨0,0,none⟩=some (.iface st sp)):=ckB hs HB.out
 have HK:Hid (w0.cell? ⟨3,0,none⟩=some (.iface kt kp)):=ckB hk HB.out
 clear hr hd hvs hs hk
 obtain⟨b0,H0⟩:∃b,Hid (isLfB kind mr md=b):=⟨_,rfl⟩
 obtain⟨b1,H1⟩:∃b,Hid (fitB lid mr md cid rs ds vs.length=b):=⟨_,rfl⟩
 go_enter Tryz.func54,Tryz.ntmps54
 go_wp2_with fail
 rw[HW0.out]
 refine (sIsLeaf_any lid kind mr md pa pn pc _).mono ?_
 rw[H0.out]
 rintro e w1 ⟨rfl,hb1⟩
 have HB1:Hid (Below w0.heap.size w0 w1):=hb1
 clear hb1
 obtain⟨⟨p0,p1,p2,p3,p4⟩,_⟩:=row_five (blk_keep HB1.out HX.out)
 obtain⟨k0,k1,k2,k3⟩:=row_four (blk_keep HB1.out HY.out)
 have s1:=ckB HS.out HB1.out
 cases b0
 · go_wp2
   go_ret
   exact⟨.inl ⟨by rw[H0.out];rfl,rfl⟩,HB.out.trans (HB1.out.mono HB.out.size)⟩
 · go_wp2_with fail
   refine (sfits_any lid kind mr md pa pn pc cid ra rs rc da ds dc va vs.length vc hn hn2 w1 (HR.out.keep HB1.out) (HD.out.keep HB1.out)).mono ?_
   rw[H1.out]
   rintro e w2 ⟨rfl,hb2⟩
   have HB2:Hid (Below w0.heap.size w0 w2):=HB1.out.trans (hb2.mono HB1.out.size)
   clear hb2 p0 p1 p2 p3 p4 k0 k1 k2 k3 s1
   obtain⟨⟨p0,p1,p2,p3,p4⟩,_⟩:=row_five (blk_keep HB2.out HX.out)
   obtain⟨k0,k1,k2,k3⟩:=row_four (blk_keep HB2.out HY.out)
   have s1:=ckB HS.out HB2.out
   cases b1
   · go_wp2
     go_ret
     exact⟨.inl ⟨by rw[H0.out,H1.out];rfl,rfl⟩,HB.out.trans (HB2.out.mono HB.out.size)⟩
   · go_wp2_with fail
     refine (idxV_any kind W.heap.size _ _ _ _ va vc vs hv w2 (blk_keep HB2.out HX.out) (HV.out.keep HB2.out)).mono ?_
     rintro e w3 ⟨⟨r,rfl,hr⟩,hb3⟩
     have HB3:Hid (Below w0.heap.size w0 w3):=HB2.out.trans (hb3.mono HB2.out.size)
     have HI:Hid (Idx (badV kind) vs r):=hr
     clear hb3 p0 p1 p2 p3 p4 k0 k1 k2 k3 s1 hr
     have s2:=ckB HK.out HB3.out
     rcases HI.out with ⟨rfl,hall⟩|⟨p,hp,rfl,hbad,hf⟩
     · have HA:Hid _:=hall
       clear hall
       go_wp2
       go_ret
       exact⟨.inr ⟨by rw[H0.out,H1.out];rfl,.inl ⟨HA.out,rfl⟩⟩,HB.out.trans (HB3.out.mono HB.out.size)⟩
     · have HA:Hid _:=hbad
       have HF:Hid _:=hf
       clear hbad hf
       have q1:decide ((0:Int)<=(p:Int))=true:=by rw[decide_eq_true_iff];omega
       go_wp2
       go_ret
       refine⟨.inr ⟨by rw[H0.out,H1.out];rfl,.inr ⟨p,hp,HA.out,fun j h hj=>HF.out j hj,w3.heap.size,(HB.out.trans (HB3.out.mono HB.out.size)).size,rfl,?_,?_⟩⟩,(HB.out.trans (HB3.out.mono HB.out.size)).alloc (HB.out.trans (HB3.out.mono HB.out.size)).size _⟩
       · exact cell_alloc_at rfl rfl
       · exact cell_alloc_at rfl rfl
theorem cntE_succ (md:Int)(xs:List Int)(i:Nat)(h:i<xs.length):cntE md (xs.take (i+1))=cntE md (xs.take i)+if xs[i]=md then 1 else 0:=by
 rw[cntE,cntE,List.take_succ_eq_append_getElem h,List.filter_append,List.length_append]
 congr 1
 by_cases e:xs[i]=md
 · simp[List.filter,e]
 · have e2:(xs[i] == md)=false:=by simp[e]
   simp[List.filter,e,e2]
theorem cntE_le (md:Int)(xs:List Int)(i:Nat):cntE md (xs.take i)<=i:=Nat.le_trans (List.length_filter_le _ _) (by simp;omega)
def StAt (rs:List Int)(rec:Int)(a:Nat):Prop:=a<=rs.length/\(∀j,j<a->(cntE 0 (rs.take (j+1)):Int)<=rec)/\(a<rs.length->rec<(cntE 0 (rs.take (a+1)):Int))
theorem startC_any (r rec:Int)(k:Nat)(g g2:Nat)(W:World)(hk:k<=1048576)(hg:W.heap[g]? = some (.cells #[.int .i64 k] 3 (0,0)))(hg2:W.heap[g2]? = some (.cells #[.int .i64 rec] 3 (0,0)))(hne:g2<g) :
    Calls Tryz.prog 92 #[.int .i64 r,.pointer (some ⟨g,0,none⟩),.pointer (some ⟨g2,0,none⟩)] W fun e w'=>e=.returned (.bool (decide (rec<((k+if r=0 then 1 else 0:Nat):Int))))/\w'.heap[g]? = some (.cells #[.int .i64 ((k+if r=0 then 1 else 0:Nat):Int)] 3 (0,0))/\Below g W w':=by
 obtain⟨c0,f0⟩:=row_one hg
 obtain⟨d0,_⟩:=row_one hg2
 have HG:Hid _:=hg
 have HG2:Hid _:=hg2
 clear hg hg2
 by_cases hr:r=0
 · subst hr
   have HE:Hid ((k+if (0:Int)=0 then 1 else 0)=k+1):=(by show _=_;simp)
   have HS:Hid ((W.setCell ⟨g,0,none⟩ (.int .i64 ((k:Int)+1))).heap[g]? = some (.cells #[.int .i64 ((k:Int)+1)] 3 (0,0))):=row_setCell HG.out _
   have HB:Hid (Below g W (W.setCell ⟨g,0,none⟩ (.int .i64 ((k:Int)+1)))):=(Below.refl _ _).setCell (by simp) _
   obtain⟨e0,_⟩:=row_one HS.out
   obtain⟨e1,_⟩:=row_one ((HB.out.block g2 hne).trans HG2.out)
   rw[HE.out]
   go_enter Tryz.func92,Tryz.ntmps92
   go_wp2
   go_ret
   refine⟨?_,?_,?_⟩
   · simp
   · simpa using HS.out
   · exact HB.out
 · have HE:Hid ((k+if r=0 then 1 else 0)=k):=(by show _=_;simp[hr])
   rw[HE.out]
   have q:(r == 0)=false:=by simp[hr]
   clear hr
   go_enter Tryz.func92,Tryz.ntmps92
   go_wp2
   go_ret
   exact⟨rfl,HG.out,Below.refl _ _⟩
theorem idxSt_any (rec:Int)(g g2:Nat)(a:Option Addr)(c:Nat)(xs:List Int)(hn:xs.length<=1048576)(W:World)(hg:W.heap[g]? = some (.cells #[.int .i64 0] 3 (0,0)))(hg2:W.heap[g2]? = some (.cells #[.int .i64 rec] 3 (0,0)))(hne:g2<g)(hl:∀X,Below g W X->Lies X a (i64s xs)) :
    Calls Tryz.prog (91) #[.slice a xs.length c,.func (.func 92) #[] #[.pointer (some ⟨g,0,none⟩),.pointer (some ⟨g2,0,none⟩)]] W fun e w'=>(∃r,e=.returned (.int .i64 r)/\((r=-1/\StAt xs rec xs.length)\/∃i:Nat,i<xs.length/\r=i/\StAt xs rec i))/\Below g W w':=by
 have HL:Hid (∀X,Below g W X->Lies X a (i64s xs)):=hl
 have HG2:Hid (W.heap[g2]? = some (.cells #[.int .i64 rec] 3 (0,0))):=hg2
 have HG0:Hid _:=hg
 clear hl hg2 hg
 go_enter Tryz.func91,Tryz.ntmps91
 go_wp2
 go_loopw [8] (fun x wr=>∃i:Nat,i<=xs.length/\x=.int .i64 i/\Hid (∀j,j<i->(cntE 0 (xs.take (j+1)):Int)<=rec)/\Hid (wr.heap[g]? = some (.cells #[.int .i64 (cntE 0 (xs.take i):Nat)] 3 (0,0)))/\Hid (Below g W wr)) (fun x _=>xs.length-(intOf x).toNat)
 case atStart=>exact⟨0,Nat.zero_le _,rfl,fun j h=>absurd h (Nat.not_lt_zero _),HG0,Below.refl _ _⟩
 case round =>
  obtain⟨i,hi,rfl,HA,HG,HB⟩:=hrel
  by_cases hlt:i<xs.length
  · obtain⟨b,o,rfl,hc⟩:=lies_ints (HL.out wr HB.out) i hlt
    have HS:Hid (cntE 0 (xs.take (i+1))=cntE 0 (xs.take i)+if xs[i]=0 then 1 else 0):=cntE_succ 0 xs i hlt
    have hle:=cntE_le 0 xs i
    obtain⟨k,HK⟩:∃k,Hid (cntE 0 (xs.take i)=k):=⟨_,rfl⟩
    rw[HK.out] at hle HS HG
    go_wp2_with fail
    refine (startC_any xs[i] rec k g g2 wr (by omega) HG.out ((HB.out.block g2 hne).trans HG2.out) hne).mono ?_
    rw[←HS.out]
    rintro e w1 ⟨rfl,hg1,hb1⟩
    have HG1:Hid _:=hg1
    have HB1:Hid (Below g W w1):=HB.out.trans hb1
    clear hg1 hb1 hc
    by_cases hq:rec<(cntE 0 (xs.take (i+1)):Int)
    · have HQ:Hid _:=hq
      have q1:decide (rec<(cntE 0 (xs.take (i+1)):Int))=true:=decide_eq_true hq
      clear hq
      go_wp2
      go_ret
      exact⟨⟨(i:Int),rfl,.inr ⟨i,hlt,rfl,by omega,HA.out,fun _=>HQ.out⟩⟩,HB1.out⟩
    · have q1:decide (rec<(cntE 0 (xs.take (i+1)):Int))=false:=decide_eq_false hq
      have HN:Hid (∀j,j<i+1->(cntE 0 (xs.take (j+1)):Int)<=rec):=fun j hj=>by
       by_cases e:j=i
       · subst e;omega
       · exact HA.out j (by omega)
      clear hq
      go_wp2
      go_roundw
      case rel=>exact⟨i+1,by omega,by go_num,HN,HG1,HB1⟩
      case measure=>simp[intOf];omega
  · obtain rfl:i=xs.length:=by omega
    go_wp2
    go_ret
    exact⟨⟨-1,rfl,.inl ⟨rfl,Nat.le_refl _,HA.out,fun h=>absurd h (Nat.lt_irrefl _)⟩⟩,HB.out⟩
theorem startOf_any (id rec:Int)(ra:Option Addr)(rs:List Int)(rc:Nat)(da:Option Addr)(qn dc:Nat)(va:Option Addr)(vn vc:Nat)(hn:rs.length<=1048576)(W:World)(hl:Lies W ra (i64s rs)) :
    Calls Tryz.prog 55 #[colV id ra rs.length rc da qn dc va vn vc,.int .i64 rec] W fun e w'=>(∃a:Nat,e=.returned (.int .i64 a)/\StAt rs rec a)/\Below W.heap.size W w':=by
 have hmf:∀(fn:Fn) (first cap:Array Value) (W:World),(Instr.makeFunc fn first cap).run Tryz.prog W=.ok (.func fn first cap) W:=fun _ _ _ _=>rfl
 unfold colV
 obtain⟨w0,HW0,HX,HY,HB⟩:=two_boxes W #[.int .i64 id,.slice ra rs.length rc,.slice da qn dc,.slice va vn vc] #[.int .i64 rec] 27 3
 have hz:w0.heap.size=W.heap.size+1+1:=by rw[←HW0.out];simp
 have HA:Hid ((w0.alloc (.cells #[.int .i64 0] 3)).heap[W.heap.size+1+1]? = some (.cells #[.int .i64 0] 3 (0,0))):=(by
  have h:=heap_alloc_new w0 (.cells #[.int .i64 0] 3)
  rw[hz] at h
  exact h)
 have hb1:Below w0.heap.size w0 (w0.alloc (.cells #[.int .i64 0] 3)):=(Below.refl _ _).alloc (Nat.le_refl _) _
 have HB1:Hid (Below w0.heap.size w0 (w0.alloc (.cells #[.int .i64 0] 3))):=hb1
 have HC:Hid _:=idxSt_any rec (W.heap.size+1+1) (W.heap.size+1) ra rc rs hn (w0.alloc (.cells #[.int .i64 0] 3)) HA.out (blk_keep hb1 HY.out) (by omega) (fun X hX=>(hl.keep HB.out).keep (hb1.trans (hz ▸ hX)))
 have HZ:Hid _:=hz
 clear hl hb1 hz
 go_enter Tryz.func55,Tryz.ntmps55
 go_wp2_with fail
 rw[HW0.out]
 refine Calls.mono HC.out ?_
 rintro e w1 ⟨⟨r,rfl,hr⟩,hb1⟩
 have HB2:Hid (Below w0.heap.size w0 w1):=HB1.out.trans (HZ.out ▸ hb1)
 have HB3:Hid (Below W.heap.size W w1):=HB.out.trans (HB2.out.mono HB.out.size)
 obtain⟨k0,k1,k2,k3⟩:=row_four (blk_keep HB2.out HX.out)
 clear hb1
 rcases hr with ⟨rfl,hs⟩|⟨i,hi,rfl,hs⟩
 · have HS:Hid _:=hs
   clear hs
   go_wp2
   go_ret
   exact⟨⟨rs.length,rfl,HS.out⟩,HB3.out⟩
 · have HS:Hid _:=hs
   have q1:decide ((i:Int)<0)=false:=by rw[decide_eq_false_iff_not];omega
   clear hs
   go_wp2
   go_ret
   exact⟨⟨i,rfl,HS.out⟩,HB3.out⟩
theorem below_dQ {B:Nat}{a w:World}(h:Below B a w)(n:Nat):Below B a (w.drewN n):=h.trans ⟨rfl,rfl,rfl,Nat.le_refl _,fun _ _=>rfl⟩
theorem columnError_any (lid kind mr md cid:Int)(pa ra da va:Option Addr)(pn pc rc dc vc:Nat)(rs ds:List Int)(vs:List Vl)(W:World)
    (hn:rs.length<=1048576) (hv:vs.length<=1048576) (hr:Lies W ra (i64s rs)) (hd:Lies W da (i64s ds)) (hvs:LiesV W va vs) :
    Calls Tryz.prog 7 #[.agg #[.int .i64 lid,.int .i64 kind,.int .i64 mr,.int .i64 md,.slice pa pn pc],colV cid ra rs.length rc da ds.length dc va vs.length vc,.bool false] W fun e w'=>(∃c at_,e=.returned (.agg (rfl2 c at_))/\ColErr lid kind mr md cid rs ds vs c at_)/\Below W.heap.size W w':=by
 have HR:Hid (Lies W ra (i64s rs)):=hr
 have HD:Hid (Lies W da (i64s ds)):=hd
 have HVs:Hid (LiesV W va vs):=hvs
 clear hr hd hvs
 have hC0:CEr W lid kind mr md (.slice pa pn pc) cid (.slice ra rs.length rc) (.slice da ds.length dc) (.slice va vs.length vc) (((W.alloc (.cells #[.int .i64 lid,.int .i64 kind,.int .i64 mr,.int .i64 md,.slice pa pn pc] 24)).alloc (.cells #[.int .i64 cid,.slice ra rs.length rc,.slice da ds.length dc,.slice va vs.length vc] 27)).alloc (.cells (rfl2 0 0) 32)):=by
  refine⟨blk_alloc (blk_alloc (heap_alloc_new W _)),blk_alloc ?_,?_,(((Below.refl _ _).alloc (Nat.le_refl _) _).alloc (by simp) _).alloc (by simp;omega) _⟩
  · have h:=heap_alloc_new (W.alloc (.cells #[.int .i64 lid,.int .i64 kind,.int .i64 mr,.int .i64 md,.slice pa pn pc] 24)) (.cells #[.int .i64 cid,.slice ra rs.length rc,.slice da ds.length dc,.slice va vs.length vc] 27)
    rwa [show (W.alloc (.cells #[.int .i64 lid,.int .i64 kind,.int .i64 mr,.int .i64 md,.slice pa pn pc] 24)).heap.size=W.heap.size+1 by simp] at h
  · have h:=heap_alloc_new ((W.alloc (.cells #[.int .i64 lid,.int .i64 kind,.int .i64 mr,.int .i64 md,.slice pa pn pc] 24)).alloc (.cells #[.int .i64 cid,.slice ra rs.length rc,.slice da ds.length dc,.slice va vs.length vc] 27)) (.cells (rfl2 0 0) 32)
    rwa [show ((W.alloc (.cells #[.int .i64 lid,.int .i64 kind,.int .i64 mr,.int .i64 md,.slice pa pn pc] 24)).alloc (.cells #[.int .i64 cid,.slice ra rs.length rc,.slice da ds.length dc,.slice va vs.length vc] 27)).heap.size=W.heap.size+1+1 by simp] at h
 have HC0:Hid _:=hC0
 clear hC0
 unfold colV
 go_enter Tryz.func7,Tryz.ntmps7
 go_wp2_with fail
 refine (isLeafR_any lid kind mr md pa pn pc _).mono ?_
 obtain⟨b0,Hb0⟩:∃b,Hid (isLfB kind mr md=b):=⟨_,rfl⟩
 rw[Hb0.out]
 rintro e w1 ⟨rfl,hb1⟩
 have HC1:Hid (CEr W lid kind mr md (.slice pa pn pc) cid (.slice ra rs.length rc) (.slice da ds.length dc) (.slice va vs.length vc) w1):=HC0.out.keep hb1
 clear hb1 HC0
 obtain⟨⟨p0,p1,p2,p3,p4⟩,_⟩:=row_five HC1.out.lf
 obtain⟨k0,k1,k2,k3⟩:=row_four HC1.out.co
 cases b0
 · go_wp2_with fail
   refine (bare_b 3 _).mono ?_
   rintro e w9 ⟨rfl,hb9⟩
   have HC9:Hid (CEr W lid kind mr md (.slice pa pn pc) cid (.slice ra rs.length rc) (.slice da ds.length dc) (.slice va vs.length vc) w9):=HC1.out.keep hb9
   clear hb9
   obtain⟨⟨u0,u1⟩,u2,u3⟩:=row_two HC9.out.re
   go_wp2_with fail
   exact bodyPost_ret (v:=.agg (rfl2 3 (-1))) (results_cell_row Tryz.results7 _ _ (W.heap.size+1+1) 32 (rfl2 3 (-1)) (0,0) _ rfl (row_put HC9.out.re 3 (-1)) Tryz.underlying32 rfl (by kernel_rfl)) rfl ⟨⟨3,(-1),rfl,(.inl ⟨rfl,rfl,by rw[Hb0.out];rfl⟩)⟩,(HC9.out.old.setCell (by simp;omega) _).setCell (by simp;omega) _⟩
 · by_cases hid:lid=cid
   · subst hid
     have q0:(lid != lid)=false:=by simp
     by_cases hln:rs.length=ds.length
     · have q1:((rs.length:Int) != (ds.length:Int))=false:=by simp;omega
       have HLn:Hid (rs.length=ds.length):=hln
       clear hln
       go_wp2_with fail
       clear p0 p1 p2 p3 p4 k0 k1 k2 k3
       go_loopw [7,8] (fun y x wr=>∃i:Nat,i<=rs.length/\x=.int .i64 i/\y=.int .i64 (cntE md (ds.take i):Nat)/\Hid (∀j (h:j<rs.length) (h':j<ds.length),j<i->btw 0 rs[j] mr=true/\btw 0 ds[j] md=true)/\Hid (CEr W lid kind mr md (.slice pa pn pc) lid (.slice ra rs.length rc) (.slice da ds.length dc) (.slice va vs.length vc) wr)) (fun _ x _=>rs.length-(intOf x).toNat)
       case atStart=>exact⟨0,Nat.zero_le _,rfl,rfl,fun j _ _ h=>absurd h (Nat.not_lt_zero _),HC1⟩
       case round =>
        clear HC1
        obtain⟨i,hi,rfl,rfl,HA,HC⟩:=hrel
        obtain⟨⟨p0,p1,p2,p3,p4⟩,_⟩:=row_five HC.out.lf
        obtain⟨k0,k1,k2,k3⟩:=row_four HC.out.co
        by_cases hlt:i<rs.length
        · have hlt2:i<ds.length:=by rw[←HLn.out];exact hlt
          obtain⟨rb,ro,rfl,hr⟩:=lies_ints (HR.out.keep HC.out.old) i hlt
          obtain⟨db,dO,rfl,hd⟩:=lies_ints (HD.out.keep HC.out.old) i hlt2
          obtain⟨r,hrE⟩:∃r,r=rs[i]:=⟨_,rfl⟩
          obtain⟨d,hdE⟩:∃d,d=ds[i]:=⟨_,rfl⟩
          rw[←hrE] at hr
          rw[←hdE] at hd
          have HRm:Hid (r∈rs):=(by show _∈_;rw[hrE];exact List.getElem_mem _)
          have HDm:Hid (d∈ds):=(by show _∈_;rw[hdE];exact List.getElem_mem _)
          have HRE:Hid (r=rs[i]):=hrE
          have HDE:Hid (d=ds[i]):=hdE
          have hcl:cntE md (ds.take i)<=i:=Nat.le_trans (List.length_filter_le _ _) (by simp;omega)
          obtain⟨kk,hk⟩:∃k,cntE md (ds.take i)=k:=⟨_,rfl⟩
          have HS:Hid (cntE md (ds.take (i+1))=kk+if (d == md)=true then 1 else 0):=(by
           show _=_
           rw[cntE,List.take_succ_eq_append_getElem hlt2,List.filter_append,List.length_append]
           have hk':((ds.take i).filter (fun x=>x == md)).length=kk:=hk
           rw[hk',←hdE]
           congr 1
           cases h:(d == md)<;>simp[List.filter,h])
          rw[hk] at hcl ⊢
          clear hk hrE hdE
          by_cases h1:r<0
          · have q1:decide (r<0)=true:=by rw[decide_eq_true_iff];omega
            go_wp2_with fail
            go_quiet (fail)
            go_wp2_with fail
            refine (bare_b 3 _).mono ?_
            rintro e w9 ⟨rfl,hb9⟩
            have HC9:Hid _:=HC.out.keep ((below_dQ (Below.refl _ _) _).trans hb9)
            clear hb9
            obtain⟨⟨u0,u1⟩,u2,u3⟩:=row_two HC9.out.re
            go_wp2_with fail
            exact bodyPost_ret (v:=.agg (rfl2 3 (-1))) (results_cell_row Tryz.results7 _ _ (W.heap.size+1+1) 32 (rfl2 3 (-1)) (0,0) _ rfl (row_put HC9.out.re 3 (-1)) Tryz.underlying32 rfl (by kernel_rfl)) rfl ⟨⟨3,(-1),rfl,colErr_no fun h=>absurd ((fitB_iff.1 h).2.2.2.1 r HRm.out) (by rw[btw];simp;omega)⟩,(HC9.out.old.setCell (by simp;omega) _).setCell (by simp;omega) _⟩
          · by_cases h2:mr<r
            · have q1:decide (r<0)=false:=by rw[decide_eq_false_iff_not];omega
              have q2:decide (mr<r)=true:=by rw[decide_eq_true_iff];omega
              go_wp2_with fail
              go_quiet (fail)
              go_wp2_with fail
              refine (bare_b 3 _).mono ?_
              rintro e w9 ⟨rfl,hb9⟩
              have HC9:Hid _:=HC.out.keep ((below_dQ (Below.refl _ _) _).trans hb9)
              clear hb9
              obtain⟨⟨u0,u1⟩,u2,u3⟩:=row_two HC9.out.re
              go_wp2_with fail
              exact bodyPost_ret (v:=.agg (rfl2 3 (-1))) (results_cell_row Tryz.results7 _ _ (W.heap.size+1+1) 32 (rfl2 3 (-1)) (0,0) _ rfl (row_put HC9.out.re 3 (-1)) Tryz.underlying32 rfl (by kernel_rfl)) rfl ⟨⟨3,(-1),rfl,colErr_no fun h=>absurd ((fitB_iff.1 h).2.2.2.1 r HRm.out) (by rw[btw];simp;omega)⟩,(HC9.out.old.setCell (by simp;omega) _).setCell (by simp;omega) _⟩
            · by_cases h3:d<0
              · have q1:decide (r<0)=false:=by rw[decide_eq_false_iff_not];omega
                have q2:decide (mr<r)=false:=by rw[decide_eq_false_iff_not];omega
                have q3:decide (d<0)=true:=by rw[decide_eq_true_iff];omega
                go_wp2_with fail
                go_quiet (fail)
                go_wp2_with fail
                refine (bare_b 3 _).mono ?_
                rintro e w9 ⟨rfl,hb9⟩
                have HC9:Hid _:=HC.out.keep ((below_dQ (Below.refl _ _) _).trans hb9)
                clear hb9
                obtain⟨⟨u0,u1⟩,u2,u3⟩:=row_two HC9.out.re
                go_wp2_with fail
                exact bodyPost_ret (v:=.agg (rfl2 3 (-1))) (results_cell_row Tryz.results7 _ _ (W.heap.size+1+1) 32 (rfl2 3 (-1)) (0,0) _ rfl (row_put HC9.out.re 3 (-1)) Tryz.underlying32 rfl (by kernel_rfl)) rfl ⟨⟨3,(-1),rfl,colErr_no fun h=>absurd ((fitB_iff.1 h).2.2.2.2.1 d HDm.out) (by rw[btw];simp;omega)⟩,(HC9.out.old.setCell (by simp;omega) _).setCell (by simp;omega) _⟩
              · by_cases h4:md<d
                · have q1:decide (r<0)=false:=by rw[decide_eq_false_iff_not];omega
                  have q2:decide (mr<r)=false:=by rw[decide_eq_false_iff_not];omega
                  have q3:decide (d<0)=false:=by rw[decide_eq_false_iff_not];omega
                  have q4:decide (md<d)=true:=by rw[decide_eq_true_iff];omega
                  go_wp2_with fail
                  go_quiet (fail)
                  go_wp2_with fail
                  refine (bare_b 3 _).mono ?_
                  rintro e w9 ⟨rfl,hb9⟩
                  have HC9:Hid _:=HC.out.keep ((below_dQ (Below.refl _ _) _).trans hb9)
                  clear hb9
                  obtain⟨⟨u0,u1⟩,u2,u3⟩:=row_two HC9.out.re
                  go_wp2_with fail
                  exact bodyPost_ret (v:=.agg (rfl2 3 (-1))) (results_cell_row Tryz.results7 _ _ (W.heap.size+1+1) 32 (rfl2 3 (-1)) (0,0) _ rfl (row_put HC9.out.re 3 (-1)) Tryz.underlying32 rfl (by kernel_rfl)) rfl ⟨⟨3,(-1),rfl,colErr_no fun h=>absurd ((fitB_iff.1 h).2.2.2.2.1 d HDm.out) (by rw[btw];simp;omega)⟩,(HC9.out.old.setCell (by simp;omega) _).setCell (by simp;omega) _⟩
                · have q1:decide (r<0)=false:=by rw[decide_eq_false_iff_not];omega
                  have q2:decide (mr<r)=false:=by rw[decide_eq_false_iff_not];omega
                  have q3:decide (d<0)=false:=by rw[decide_eq_false_iff_not];omega
                  have q4:decide (md<d)=false:=by rw[decide_eq_false_iff_not];omega
                  have HA2:Hid (∀j (h:j<rs.length) (h':j<ds.length),j<i+1->btw 0 rs[j] mr=true/\btw 0 ds[j] md=true):=fun j h h' hj=>if e:j=i then (by
                   subst e
                   rw[←HRE.out,←HDE.out,btw,btw]
                   simp;omega) else HA.out j h h' (by omega)
                  by_cases h5:d=md
                  · have q5:(d == md)=true:=by simp[h5]
                    have HN:Hid (cntE md (ds.take (i+1))=kk+1):=(by show _=_;rw[HS.out,q5];rfl)
                    clear h5
                    go_wp2_with fail
                    go_quiet (fail)
                    go_wp2_with fail
                    go_quiet (fail)
                    go_wp2_with fail
                    go_roundw
                    case rel=>exact⟨i+1,by omega,by go_num,by rw[HN.out];go_num,HA2,HC.out.keep (below_dQ (Below.refl _ _) _)⟩
                    case measure=>simp[intOf];omega
                  · have q5:(d == md)=false:=by simp[h5]
                    have HN:Hid (cntE md (ds.take (i+1))=kk):=(by show _=_;rw[HS.out,q5];rfl)
                    clear h5
                    go_wp2_with fail
                    go_quiet (fail)
                    go_wp2_with fail
                    go_quiet (fail)
                    go_wp2_with fail
                    go_roundw
                    case rel=>exact⟨i+1,by omega,by go_num,by rw[HN.out],HA2,HC.out.keep (below_dQ (Below.refl _ _) _)⟩
                    case measure=>simp[intOf];omega
        · obtain rfl:i=rs.length:=by omega
          have HT:Hid (cntE md (ds.take rs.length)=cntE md ds):=(by show _=_;rw[HLn.out,List.take_length])
          rw[HT.out]
          obtain⟨kk,hk⟩:∃k,cntE md ds=k:=⟨_,rfl⟩
          have HK:Hid (cntE md ds=kk):=hk
          rw[hk]
          clear hk HT
          by_cases hkv:kk=vs.length
          · subst hkv
            have q1:((vs.length:Int) != (vs.length:Int))=false:=by simp
            by_cases hl0:rs.length=0
            · have q2:decide ((0:Int)<(rs.length:Int))=false:=by rw[decide_eq_false_iff_not];omega
              have HH:Hid (headB rs=false):=(by show _=_;rw[List.eq_nil_of_length_eq_zero hl0];rfl)
              go_wp2_with fail
              have HFit:Hid ((isLfB kind mr md && fitB lid mr md lid rs ds vs.length)=true):=(by
               show _=_
               rw[Hb0.out,Bool.true_and]
               refine fitB_iff.2 ⟨rfl,HLn.out,HH.out,fun x hx=>?_,fun x hx=>?_,HK.out.symm⟩
               · obtain⟨j,hj,rfl⟩:=List.mem_iff_getElem.1 hx
                 exact (HA.out j hj (by rw[←HLn.out];exact hj) hj).1
               · obtain⟨j,hj,rfl⟩:=List.mem_iff_getElem.1 hx
                 exact (HA.out j (by rw[HLn.out];exact hj) hj (by rw[HLn.out];exact hj)).2)
              clear HA HH HK HR HD Hb0
              try clear hl0
              clear p0 p1 p2 p3 p4 k0 k1 k2 k3
              try clear hr
              go_loopw [9] (fun x wq=>∃i:Nat,i<=vs.length/\x=.int .i64 i/\Hid (∀j (h:j<vs.length),j<i->badV kind vs[j]=false)/\Hid (CEr W lid kind mr md (.slice pa pn pc) lid (.slice ra rs.length rc) (.slice da ds.length dc) (.slice va vs.length vc) wq)) (fun x _=>vs.length-(intOf x).toNat)
              case atStart=>exact⟨0,Nat.zero_le _,rfl,fun j _ h=>absurd h (Nat.not_lt_zero _),HC⟩
              case round =>
               clear HC
               obtain⟨i,hi,rfl,HA,HC⟩:=hrel
               obtain⟨⟨p0,p1,p2,p3,p4⟩,_⟩:=row_five HC.out.lf
               obtain⟨k0,k1,k2,k3⟩:=row_four HC.out.co
               by_cases hlt:i<vs.length
               · obtain⟨vb,vo,rfl,d0,d1,d2⟩:=(HVs.out.keep HC.out.old) i hlt
                 obtain⟨b,Hb⟩:∃b,Hid (badV kind vs[i]=!b):=⟨okV kind vs[i].k vs[i].n vs[i].s.size,badV_okV _ _⟩
                 have HOk:Hid (okV kind vs[i].k vs[i].n vs[i].s.size=b):=(by show _=_;have h:=Hb.out;rw[badV_okV] at h;simpa using h)
                 go_wp2_with fail
                 go_region_with (go_at_call 16;refine (isValueR_any kind vs[i].k vs[i].n vs[i].s _).mono ?_;rw[HOk.out];rintro e w2 ⟨rfl,hb2⟩)
                 all_goals
                  have HC2:Hid _:=HC.out.keep ((Below.refl _ _).drew.trans hb2)
                  clear hb2 p0 p1 p2 p3 p4 k0 k1 k2 k3 d0 d1 d2 HC
                  obtain⟨⟨u0,u1⟩,u2,u3⟩:=row_two HC2.out.re
                  cases b
                  · have HBd:Hid (badV kind vs[i]=true):=Hb.out
                    go_wp2_with fail
                    exact bodyPost_ret (v:=.agg (rfl2 4 (i:Int))) (results_cell_row Tryz.results7 _ _ (W.heap.size+1+1) 32 (rfl2 4 (i:Int)) (0,0) _ rfl (row_put HC2.out.re 4 (i:Int)) Tryz.underlying32 rfl (by kernel_rfl)) rfl ⟨⟨4,(i:Int),rfl,(.inr ⟨HFit.out,.inr ⟨i,hlt,rfl,rfl,HBd.out,fun j h hj=>HA.out j h hj⟩⟩)⟩,(HC2.out.old.setCell (by simp;omega) _).setCell (by simp;omega) _⟩
                  · have HBd:Hid (badV kind vs[i]=false):=Hb.out
                    go_wp2_with fail
                    go_roundw
                    case rel=>exact⟨i+1,by omega,by go_num,fun j h hj=>if e:j=i then (by subst e;exact HBd.out) else HA.out j h (by omega),HC2⟩
                    case measure=>simp[intOf];omega
               · obtain rfl:i=vs.length:=by omega
                 go_wp2_with fail
                 refine (fine_b _).mono ?_
                 rintro e w9 ⟨rfl,hb9⟩
                 have HC9:Hid _:=HC.out.keep hb9
                 clear hb9
                 obtain⟨⟨u0,u1⟩,u2,u3⟩:=row_two HC9.out.re
                 go_wp2_with fail
                 exact bodyPost_ret (v:=.agg (rfl2 0 (-1))) (results_cell_row Tryz.results7 _ _ (W.heap.size+1+1) 32 (rfl2 0 (-1)) (0,0) _ rfl (row_put HC9.out.re 0 (-1)) Tryz.underlying32 rfl (by kernel_rfl)) rfl ⟨⟨0,(-1),rfl,(.inr ⟨HFit.out,.inl ⟨rfl,rfl,fun j h=>HA.out j h h⟩⟩)⟩,(HC9.out.old.setCell (by simp;omega) _).setCell (by simp;omega) _⟩
            · have q2:decide ((0:Int)<(rs.length:Int))=true:=by rw[decide_eq_true_iff];omega
              obtain⟨rb,ro,rfl,hr⟩:=lies_ints (HR.out.keep HC.out.old) 0 (by omega)
              obtain⟨r,hrE⟩:∃r,r=rs[0]:=⟨_,rfl⟩
              have HH:Hid (headB rs=!(r == 0)):=(by show _=_;rw[headB_at rs (by omega),hrE])
              rw[←hrE] at hr
              simp only[Nat.add_zero] at hr
              clear hrE
              by_cases hz:r=0
              · subst hz
                have q3:((0:Int) != 0)=false:=by simp
                go_wp2_with fail
                have HFit:Hid ((isLfB kind mr md && fitB lid mr md lid rs ds vs.length)=true):=(by
                 show _=_
                 rw[Hb0.out,Bool.true_and]
                 refine fitB_iff.2 ⟨rfl,HLn.out,HH.out,fun x hx=>?_,fun x hx=>?_,HK.out.symm⟩
                 · obtain⟨j,hj,rfl⟩:=List.mem_iff_getElem.1 hx
                   exact (HA.out j hj (by rw[←HLn.out];exact hj) hj).1
                 · obtain⟨j,hj,rfl⟩:=List.mem_iff_getElem.1 hx
                   exact (HA.out j (by rw[HLn.out];exact hj) hj (by rw[HLn.out];exact hj)).2)
                clear HA HH HK HR HD Hb0
                try clear hl0
                clear p0 p1 p2 p3 p4 k0 k1 k2 k3
                try clear hr
                go_loopw [9] (fun x wq=>∃i:Nat,i<=vs.length/\x=.int .i64 i/\Hid (∀j (h:j<vs.length),j<i->badV kind vs[j]=false)/\Hid (CEr W lid kind mr md (.slice pa pn pc) lid (.slice (some ⟨rb,ro,none⟩) rs.length rc) (.slice da ds.length dc) (.slice va vs.length vc) wq)) (fun x _=>vs.length-(intOf x).toNat)
                case atStart=>exact⟨0,Nat.zero_le _,rfl,fun j _ h=>absurd h (Nat.not_lt_zero _),HC⟩
                case round =>
                 clear HC
                 obtain⟨i,hi,rfl,HA,HC⟩:=hrel
                 obtain⟨⟨p0,p1,p2,p3,p4⟩,_⟩:=row_five HC.out.lf
                 obtain⟨k0,k1,k2,k3⟩:=row_four HC.out.co
                 by_cases hlt:i<vs.length
                 · obtain⟨vb,vo,rfl,d0,d1,d2⟩:=(HVs.out.keep HC.out.old) i hlt
                   obtain⟨b,Hb⟩:∃b,Hid (badV kind vs[i]=!b):=⟨okV kind vs[i].k vs[i].n vs[i].s.size,badV_okV _ _⟩
                   have HOk:Hid (okV kind vs[i].k vs[i].n vs[i].s.size=b):=(by show _=_;have h:=Hb.out;rw[badV_okV] at h;simpa using h)
                   go_wp2_with fail
                   go_region_with (go_at_call 16;refine (isValueR_any kind vs[i].k vs[i].n vs[i].s _).mono ?_;rw[HOk.out];rintro e w2 ⟨rfl,hb2⟩)
                   all_goals
                    have HC2:Hid _:=HC.out.keep ((Below.refl _ _).drew.trans hb2)
                    clear hb2 p0 p1 p2 p3 p4 k0 k1 k2 k3 d0 d1 d2 HC
                    obtain⟨⟨u0,u1⟩,u2,u3⟩:=row_two HC2.out.re
                    cases b
                    · have HBd:Hid (badV kind vs[i]=true):=Hb.out
                      go_wp2_with fail
                      exact bodyPost_ret (v:=.agg (rfl2 4 (i:Int))) (results_cell_row Tryz.results7 _ _ (W.heap.size+1+1) 32 (rfl2 4 (i:Int)) (0,0) _ rfl (row_put HC2.out.re 4 (i:Int)) Tryz.underlying32 rfl (by kernel_rfl)) rfl ⟨⟨4,(i:Int),rfl,(.inr ⟨HFit.out,.inr ⟨i,hlt,rfl,rfl,HBd.out,fun j h hj=>HA.out j h hj⟩⟩)⟩,(HC2.out.old.setCell (by simp;omega) _).setCell (by simp;omega) _⟩
                    · have HBd:Hid (badV kind vs[i]=false):=Hb.out
                      go_wp2_with fail
                      go_roundw
                      case rel=>exact⟨i+1,by omega,by go_num,fun j h hj=>if e:j=i then (by subst e;exact HBd.out) else HA.out j h (by omega),HC2⟩
                      case measure=>simp[intOf];omega
                 · obtain rfl:i=vs.length:=by omega
                   go_wp2_with fail
                   refine (fine_b _).mono ?_
                   rintro e w9 ⟨rfl,hb9⟩
                   have HC9:Hid _:=HC.out.keep hb9
                   clear hb9
                   obtain⟨⟨u0,u1⟩,u2,u3⟩:=row_two HC9.out.re
                   go_wp2_with fail
                   exact bodyPost_ret (v:=.agg (rfl2 0 (-1))) (results_cell_row Tryz.results7 _ _ (W.heap.size+1+1) 32 (rfl2 0 (-1)) (0,0) _ rfl (row_put HC9.out.re 0 (-1)) Tryz.underlying32 rfl (by kernel_rfl)) rfl ⟨⟨0,(-1),rfl,(.inr ⟨HFit.out,.inl ⟨rfl,rfl,fun j h=>HA.out j h h⟩⟩)⟩,(HC9.out.old.setCell (by simp;omega) _).setCell (by simp;omega) _⟩
              · have q3:(r != 0)=true:=by simp[hz]
                have HZ:Hid (r≠0):=hz
                clear hz
                go_wp2_with fail
                refine (bare_b 3 _).mono ?_
                rintro e w9 ⟨rfl,hb9⟩
                have HC9:Hid _:=HC.out.keep hb9
                clear hb9
                obtain⟨⟨u0,u1⟩,u2,u3⟩:=row_two HC9.out.re
                go_wp2_with fail
                exact bodyPost_ret (v:=.agg (rfl2 3 (-1))) (results_cell_row Tryz.results7 _ _ (W.heap.size+1+1) 32 (rfl2 3 (-1)) (0,0) _ rfl (row_put HC9.out.re 3 (-1)) Tryz.underlying32 rfl (by kernel_rfl)) rfl ⟨⟨3,(-1),rfl,colErr_no fun h=>absurd (fitB_iff.1 h).2.2.1 (by rw[HH.out];simp;exact HZ.out)⟩,(HC9.out.old.setCell (by simp;omega) _).setCell (by simp;omega) _⟩
          · have q1:((kk:Int) != (vs.length:Int))=true:=by simp;omega
            have HV:Hid (¬ kk=vs.length):=hkv
            clear hkv
            go_wp2_with fail
            refine (bare_b 3 _).mono ?_
            rintro e w9 ⟨rfl,hb9⟩
            have HC9:Hid _:=HC.out.keep hb9
            clear hb9
            obtain⟨⟨u0,u1⟩,u2,u3⟩:=row_two HC9.out.re
            go_wp2_with fail
            exact bodyPost_ret (v:=.agg (rfl2 3 (-1))) (results_cell_row Tryz.results7 _ _ (W.heap.size+1+1) 32 (rfl2 3 (-1)) (0,0) _ rfl (row_put HC9.out.re 3 (-1)) Tryz.underlying32 rfl (by kernel_rfl)) rfl ⟨⟨3,(-1),rfl,colErr_no fun h=>HV.out (by rw[←HK.out];exact (fitB_iff.1 h).2.2.2.2.2.symm)⟩,(HC9.out.old.setCell (by simp;omega) _).setCell (by simp;omega) _⟩
     · have q1:((rs.length:Int) != (ds.length:Int))=true:=by simp;omega
       have HLn:Hid (¬ rs.length=ds.length):=hln
       clear hln
       go_wp2_with fail
       refine (bare_b 3 _).mono ?_
       rintro e w9 ⟨rfl,hb9⟩
       have HC9:Hid (CEr W lid kind mr md (.slice pa pn pc) lid (.slice ra rs.length rc) (.slice da ds.length dc) (.slice va vs.length vc) w9):=HC1.out.keep hb9
       clear hb9
       obtain⟨⟨u0,u1⟩,u2,u3⟩:=row_two HC9.out.re
       go_wp2_with fail
       exact bodyPost_ret (v:=.agg (rfl2 3 (-1))) (results_cell_row Tryz.results7 _ _ (W.heap.size+1+1) 32 (rfl2 3 (-1)) (0,0) _ rfl (row_put HC9.out.re 3 (-1)) Tryz.underlying32 rfl (by kernel_rfl)) rfl ⟨⟨3,(-1),rfl,colErr_no fun h=>HLn.out (fitB_iff.1 h).2.1⟩,(HC9.out.old.setCell (by simp;omega) _).setCell (by simp;omega) _⟩
   · have q0:(lid != cid)=true:=by simp[hid]
     have HI:Hid (¬ lid=cid):=hid
     clear hid
     go_wp2_with fail
     refine (bare_b 3 _).mono ?_
     rintro e w9 ⟨rfl,hb9⟩
     have HC9:Hid (CEr W lid kind mr md (.slice pa pn pc) cid (.slice ra rs.length rc) (.slice da ds.length dc) (.slice va vs.length vc) w9):=HC1.out.keep hb9
     clear hb9
     obtain⟨⟨u0,u1⟩,u2,u3⟩:=row_two HC9.out.re
     go_wp2_with fail
     exact bodyPost_ret (v:=.agg (rfl2 3 (-1))) (results_cell_row Tryz.results7 _ _ (W.heap.size+1+1) 32 (rfl2 3 (-1)) (0,0) _ rfl (row_put HC9.out.re 3 (-1)) Tryz.underlying32 rfl (by kernel_rfl)) rfl ⟨⟨3,(-1),rfl,colErr_no fun h=>HI.out (fitB_iff.1 h).1.symm⟩,(HC9.out.old.setCell (by simp;omega) _).setCell (by simp;omega) _⟩
theorem own_fresh {w:World}{base e size n:Nat}{v:Value}{xs:List Value}(h:w.ownsRow base e size v n xs){a:Option Addr}{m c:Nat}(hv:v=.slice a m c):∀p,a=some p->base<=p.block:=by
 rintro p rfl
 rcases h.2 with ⟨h1,_⟩|⟨g,cap,cur,h1,hb,_⟩
 · rw[h1] at hv;simp at hv
 · rw[h1] at hv
   simp only[Value.slice.injEq,Option.some.injEq] at hv
   rw[←hv.1];exact hb
theorem own_capJ {w:World}{B e size n:Nat}{a:Option Addr}{m c:Nat}{xs:List Value}(h:w.ownsRow B e size (.slice a m c) n xs):n<=c:=by
 rcases h.2 with ⟨e,rfl⟩|⟨g,cap,cur,e,_,_,hc,_⟩
 · exact Nat.zero_le _
 · injection e with _ e1 e2;subst e2;exact hc
theorem cell_off {w:World}{g j b o:Nat}{v:Value}(h:b≠g):(w.setCell ⟨g,j,none⟩ v).cell? ⟨b,o,none⟩=w.cell? ⟨b,o,none⟩:=by
 simp only[World.cell?]
 rw[Below.heap_setCell w ⟨g,j,none⟩ v b h]
theorem Lies.off {w:World}{a:Option Addr}{cs:List Value}(h:Lies w a cs){g j:Nat}{v:Value}(hf:∀p,a=some p->g<p.block):Lies (w.setCell ⟨g,j,none⟩ v) a cs:=fun i hi=>by
 obtain⟨b,o,rfl,hc⟩:=h i hi
 exact⟨b,o,rfl,by rw[cell_off (by have:=hf _ rfl;simp at this;omega)];exact hc⟩
theorem LiesV.off {w:World}{a:Option Addr}{vs:List Vl}(h:LiesV w a vs){g j:Nat}{v:Value}(hf:∀p,a=some p->g<p.block):LiesV (w.setCell ⟨g,j,none⟩ v) a vs:=fun i hi=>by
 obtain⟨b,o,rfl,h0,h1,h2⟩:=h i hi
 have hne:b≠g:=by have:=hf _ rfl;simp at this;omega
 exact⟨b,o,rfl,by rw[cell_off hne];exact h0,by rw[cell_off hne];exact h1,by rw[cell_off hne];exact h2⟩
theorem wp_app0I {ops:Array Oper}{rest:List Oper}{o:Oper}{a:Act}{Q:Exit->Act->World->Prop}(w:World)(hgd:o.guard=none)(s x:Operand)
    (ho:o.op=.call { callee:=.builtin .append,args:=#[s,x],argTypes:=#[22,22] }) (hty:o.type=22) (ad:Option Addr) (xs:List Int) (c:Nat)
    (hs:a.eval s=.slice none 0 0) (hx:a.eval x=.slice ad xs.length c) (hl:Lies w ad (i64s xs)) (hn:xs.length<=20000)
    (h:∀a' c' w',Lies w' a' (i64s xs)->Below w.heap.size w w'->((∀p,a'=some p->w.heap.size<=p.block)/\xs.length<=c')->wpList Tryz.prog ops Q rest (a.put o.dst (.slice a' xs.length c')) w'):wpList Tryz.prog ops Q (o :: rest) a w:=by
 obtain⟨i0,hi,hz0,hz1,hz2⟩:=info_parts Tryz.info3
 cases ad with
 | none =>
  have h0:xs.length=0:=by
   by_cases h:0<xs.length
   · obtain⟨b,o,e,_⟩:=hl 0 (by rw[i64s_len];exact h)
     cases e
   · omega
  obtain rfl:xs=[]:=List.eq_nil_of_length_eq_zero h0
  have hap:(Builtin.append_ #[22,22] 22 #[.slice none 0 0,.slice none 0 c]).run Tryz.prog w=.ok (.slice none 0 0) w:=by
   simp[Builtin.append_,run_underlying Tryz.underlying22,sizeOf,typeInfo,hi,Builtin.lenOf,Builtin.firstCells]
  exact Lib.wpList_append_run w hgd s x 22 22 ho _ _ hs hx _ _ (by rw[hty];exact hap) (h none 0 w hl (Below.refl _ _) ⟨fun p hp=>(by cases hp),Nat.le_refl _⟩)
 | some ad =>
  have hn':∀j u,(i64s xs)[j]? = some u->w.cell? (ad.add j)=some u:=fun j u hu=>by
   obtain⟨hj,rfl⟩:=List.getElem?_eq_some_iff.1 hu
   obtain⟨b,o,e,hc⟩:=hl j hj
   obtain rfl:=Option.some.inj e
   rw[addr_add];exact hc
  refine wpList_append_own w hgd s x 22 ho w.heap.size 3 i0 (.int .i64 0) 1 8 Tryz.underlying22 hi hz0 hz1 hz2 rfl (by decide) (.slice none 0 0) 0 [] hs (World.ownsRow_nil w w.heap.size 3 1) ad xs.length c (i64s xs) hx (by rw[i64s_len,Nat.mul_one]) hn' (by intro u hu;obtain⟨x,_,rfl⟩:=List.mem_map.1 hu;rfl) (by unfold maxLen;omega) (by omega) (Nat.le_refl _) ?_
  intro v' w1 hown hgrow _
  obtain⟨a',c',hve,hl'⟩:=lies_own hown
  have hfr:=own_fresh hown hve
  subst hve
  have hcp:=own_capJ hown
  rw[Nat.zero_add] at hcp
  rw[List.nil_append] at hl'
  have h2:=h a' c' w1 hl' ((Below.refl _ _).grown hgrow (Nat.le_refl _) (fun k hk=>by simp[Value.ownBlock] at hk)) ⟨hfr,hcp⟩
  rw[List.nil_append,i64s_len]
  exact h2
theorem wp_app0V {ops:Array Oper}{rest:List Oper}{o:Oper}{a:Act}{Q:Exit->Act->World->Prop}(w:World)(hgd:o.guard=none)(s x:Operand)
    (ho:o.op=.call { callee:=.builtin .append,args:=#[s,x],argTypes:=#[25,25] }) (hty:o.type=25) (ad:Option Addr) (vs:List Vl) (c:Nat)
    (hs:a.eval s=.slice none 0 0) (hx:a.eval x=.slice ad vs.length c) (hl:LiesV w ad vs) (hn:vs.length<=20000)
    (h:∀a' c' w',LiesV w' a' vs->Below w.heap.size w w'->((∀p,a'=some p->w.heap.size<=p.block)/\vs.length<=c')->wpList Tryz.prog ops Q rest (a.put o.dst (.slice a' vs.length c')) w'):wpList Tryz.prog ops Q (o :: rest) a w:=by
 obtain⟨i0,hi,hz0,hz1,hz2⟩:=info_parts Tryz.infoV
 cases ad with
 | none =>
  have h0:vs.length=0:=by
   by_cases h:0<vs.length
   · obtain⟨b,o,e,_⟩:=hl 0 h
     cases e
   · omega
  obtain rfl:vs=[]:=List.eq_nil_of_length_eq_zero h0
  have hap:(Builtin.append_ #[25,25] 25 #[.slice none 0 0,.slice none 0 c]).run Tryz.prog w=.ok (.slice none 0 0) w:=by
   simp[Builtin.append_,run_underlying Tryz.underlying25,sizeOf,typeInfo,hi,Builtin.lenOf,Builtin.firstCells]
  exact Lib.wpList_append_run w hgd s x 25 25 ho _ _ hs hx _ _ (by rw[hty];exact hap) (h none 0 w hl (Below.refl _ _) ⟨fun p hp=>(by cases hp),Nat.le_refl _⟩)
 | some ad =>
  have hn':∀j u,(vcells vs)[j]? = some u->w.cell? (ad.add j)=some u:=fun j u hu=>by
   obtain⟨i,r,hi,rfl,hr⟩:=vcells_cell vs j u hu
   obtain⟨b,o,e,h0,h1,h2⟩:=hl i hi
   obtain rfl:=Option.some.inj e
   rw[addr_up]
   rcases hr with ⟨rfl,rfl⟩|⟨rfl,rfl⟩|⟨rfl,rfl⟩
   · exact h0
   · rw[←Nat.add_assoc];exact h1
   · rw[←Nat.add_assoc];exact h2
  refine wpList_append_own w hgd s x 25 ho w.heap.size 46 i0 (.agg #[.int .i64 0,.int .i64 0,.string ⟨#[]⟩]) 3 32 Tryz.underlying25 hi hz0 hz1 hz2 rfl (by decide) (.slice none 0 0) 0 [] hs (World.ownsRow_nil w w.heap.size 46 3) ad vs.length c (vcells vs) hx (vcells_len vs) hn' (by intro u hu;obtain⟨x,_,hx⟩:=List.mem_flatMap.1 hu;simp at hx;rcases hx with rfl|rfl|rfl<;>rfl) (by unfold maxLen;omega) (by omega) (Nat.le_refl _) ?_
  intro v' w1 hown hgrow _
  rw[List.nil_append] at hown
  obtain⟨a',c',hve,hl'⟩:=liesV_own hown
  have hfr:=own_fresh hown hve
  subst hve
  have hcp:=own_capJ hown
  rw[Nat.zero_add] at hcp
  exact h a' c' w1 hl' ((Below.refl _ _).grown hgrow (Nat.le_refl _) (fun k hk=>by simp[Value.ownBlock] at hk)) ⟨hfr,hcp⟩
theorem row_fourA {w:World}{g e:Nat}{x0 x1 x2 x3:Value}(h:w.heap[g]? = some (.cells #[x0,x1,x2,x3] e (0,0))) :
    w.frozen? ⟨g,0,none⟩=false/\w.frozen? ⟨g,1,none⟩=false/\w.frozen? ⟨g,2,none⟩=false/\w.frozen? ⟨g,3,none⟩=false:=by
 refine⟨?_,?_,?_,?_⟩<;>simp[World.frozen?,h]
structure OCs (W:World) (id:Int) (rv dv vv x1 x2 x3:Value) (wr:World):Prop where
 p:wr.heap[W.heap.size]? = some (.cells #[.int .i64 id,rv,dv,vv] 27 (0,0))
 z:wr.heap[W.heap.size+1]? = some (.cells #[.int .i64 0,.slice none 0 0,.slice none 0 0,.slice none 0 0] 27 (0,0))
 o:wr.heap[W.heap.size+1+1]? = some (.cells #[.int .i64 id,x1,x2,x3] 27 (0,0))
 old:Below W.heap.size W wr
theorem OCs.keep {W:World}{id:Int}{rv dv vv x1 x2 x3:Value}{wr w':World}(h:OCs W id rv dv vv x1 x2 x3 wr)(hb:Below wr.heap.size wr w'):OCs W id rv dv vv x1 x2 x3 w' :=
 ⟨blk_keep hb h.p,blk_keep hb h.z,blk_keep hb h.o,h.old.trans (hb.mono h.old.size)⟩
theorem OCs.s1 {W:World}{id:Int}{rv dv vv x1 x2 x3:Value}{wr:World}(h:OCs W id rv dv vv x1 x2 x3 wr)(v:Value):OCs W id rv dv vv v x2 x3 (wr.setCell ⟨W.heap.size+1+1,1,none⟩ v) :=
 ⟨blk_other h.p (by omega) v,blk_other h.z (by omega) v,row_setCell h.o v,h.old.setCell (by simp;omega) _⟩
theorem OCs.s2 {W:World}{id:Int}{rv dv vv x1 x2 x3:Value}{wr:World}(h:OCs W id rv dv vv x1 x2 x3 wr)(v:Value):OCs W id rv dv vv x1 v x3 (wr.setCell ⟨W.heap.size+1+1,2,none⟩ v) :=
 ⟨blk_other h.p (by omega) v,blk_other h.z (by omega) v,row_setCell h.o v,h.old.setCell (by simp;omega) _⟩
theorem OCs.s3 {W:World}{id:Int}{rv dv vv x1 x2 x3:Value}{wr:World}(h:OCs W id rv dv vv x1 x2 x3 wr)(v:Value):OCs W id rv dv vv x1 x2 v (wr.setCell ⟨W.heap.size+1+1,3,none⟩ v) :=
 ⟨blk_other h.p (by omega) v,blk_other h.z (by omega) v,row_setCell h.o v,h.old.setCell (by simp;omega) _⟩
theorem ownColumn_any (id:Int)(ra da va:Option Addr)(rc dc vc:Nat)(rs ds:List Int)(vs:List Vl)(W:World)
    (mr:rs.length<=20000) (md:ds.length<=20000) (mv:vs.length<=20000) (hr:Lies W ra (i64s rs)) (hd:Lies W da (i64s ds)) (hv:LiesV W va vs) :
    Calls Tryz.prog 11 #[colV id ra rs.length rc da ds.length dc va vs.length vc] W fun e w'=>(∃ra' rc' da' dc' va' vc',e=.returned (colV id ra' rs.length rc' da' ds.length dc' va' vs.length vc')/\Lies w' ra' (i64s rs)/\Lies w' da' (i64s ds)/\LiesV w' va' vs/\(rs.length<=rc'/\ds.length<=dc'/\vs.length<=vc')/\(∀p,ra'=some p->W.heap.size<=p.block)/\(∀p,da'=some p->W.heap.size<=p.block)/\∀p,va'=some p->W.heap.size<=p.block)/\Below W.heap.size W w':=by
 have HO0:Hid (OCs W id (.slice ra rs.length rc) (.slice da ds.length dc) (.slice va vs.length vc) (.slice none 0 0) (.slice none 0 0) (.slice none 0 0) (((W.alloc (.cells #[.int .i64 id,.slice ra rs.length rc,.slice da ds.length dc,.slice va vs.length vc] 27)).alloc (.cells #[.int .i64 0,.slice none 0 0,.slice none 0 0,.slice none 0 0] 27)).alloc (.cells #[.int .i64 id,.slice none 0 0,.slice none 0 0,.slice none 0 0] 27))):=(by
  refine⟨blk_alloc (blk_alloc (heap_alloc_new W _)),blk_alloc ?_,?_,(((Below.refl _ _).alloc (Nat.le_refl _) _).alloc (by simp) _).alloc (by simp;omega) _⟩
  · have h:=heap_alloc_new (W.alloc (.cells #[.int .i64 id,.slice ra rs.length rc,.slice da ds.length dc,.slice va vs.length vc] 27)) (.cells #[.int .i64 0,.slice none 0 0,.slice none 0 0,.slice none 0 0] 27)
    rwa [show (W.alloc (.cells #[.int .i64 id,.slice ra rs.length rc,.slice da ds.length dc,.slice va vs.length vc] 27)).heap.size=W.heap.size+1 by simp] at h
  · have h:=heap_alloc_new ((W.alloc (.cells #[.int .i64 id,.slice ra rs.length rc,.slice da ds.length dc,.slice va vs.length vc] 27)).alloc (.cells #[.int .i64 0,.slice none 0 0,.slice none 0 0,.slice none 0 0] 27)) (.cells #[.int .i64 id,.slice none 0 0,.slice none 0 0,.slice none 0 0] 27)
    rwa [show ((W.alloc (.cells #[.int .i64 id,.slice ra rs.length rc,.slice da ds.length dc,.slice va vs.length vc] 27)).alloc (.cells #[.int .i64 0,.slice none 0 0,.slice none 0 0,.slice none 0 0] 27)).heap.size=W.heap.size+1+1 by simp] at h)
 have HR:Hid (Lies W ra (i64s rs)):=hr
 have HD:Hid (Lies W da (i64s ds)):=hd
 have HV:Hid (LiesV W va vs):=hv
 clear hr hd hv
 unfold colV
 go_enter Tryz.func11,Tryz.ntmps11
 go_wp2_with (first|(at_builtin;refine wp_app0I _ rfl _ _ rfl rfl ra rs rc rfl rfl (HR.out.keep HO0.out.old) mr ?_;intro a1 c1 w1 hl1 hb1 hff1;have HCP1:Hid _:=hff1.2;have hf1:=hff1.1;clear hff1;have HO1:Hid _:=OCs.keep HO0.out hb1;have HL1:Hid (Lies w1 a1 (i64s rs)):=hl1;have HF1:Hid _:=hf1;have HBB1:Hid _:=hb1;clear hl1 hb1 hf1;obtain⟨x0,x1,x2,x3⟩:=row_four HO1.out.p;obtain⟨y0,y1,y2,y3⟩:=row_four HO1.out.o;obtain⟨z0,z1,z2,z3⟩:=row_fourA HO1.out.o;obtain⟨m0,m1,m2,m3⟩:=row_fourA HO1.out.z;obtain⟨e0,e1,e2,e3⟩:=row_four HO1.out.z)|(at_builtin;refine wp_app0I _ rfl _ _ rfl rfl da ds dc rfl rfl (HD.out.keep (OCs.s1 HO1.out _).old) md ?_;intro a2 c2 w2 hl2 hb2 hff2;have HCP2:Hid _:=hff2.2;have hf2:=hff2.1;clear hff2;have HO2:Hid _:=OCs.keep (OCs.s1 HO1.out _) hb2;have HL2:Hid (Lies w2 a2 (i64s ds)):=hl2;have HF2:Hid _:=hf2;have HBB2:Hid _:=hb2;clear hl2 hb2 hf2;obtain⟨x0,x1,x2,x3⟩:=row_four HO2.out.p;obtain⟨y0,y1,y2,y3⟩:=row_four HO2.out.o;obtain⟨z0,z1,z2,z3⟩:=row_fourA HO2.out.o;obtain⟨m0,m1,m2,m3⟩:=row_fourA HO2.out.z;obtain⟨e0,e1,e2,e3⟩:=row_four HO2.out.z)|(at_builtin;refine wp_app0V _ rfl _ _ rfl rfl va vs vc rfl rfl (HV.out.keep (OCs.s2 HO2.out _).old) mv ?_;intro a3 c3 w3 hl3 hb3 hff3;have HCP3:Hid _:=hff3.2;have hf3:=hff3.1;clear hff3;have HO3:Hid _:=OCs.keep (OCs.s2 HO2.out _) hb3;have HL3:Hid (LiesV w3 a3 vs):=hl3;have HF3:Hid _:=hf3;have HBB3:Hid _:=hb3;clear hl3 hb3 hf3;obtain⟨x0,x1,x2,x3⟩:=row_four HO3.out.p;obtain⟨y0,y1,y2,y3⟩:=row_four HO3.out.o;obtain⟨z0,z1,z2,z3⟩:=row_fourA HO3.out.o;obtain⟨m0,m1,m2,m3⟩:=row_fourA HO3.out.z;obtain⟨e0,e1,e2,e3⟩:=row_four HO3.out.z))
 have f1:∀p,a1=some p->W.heap.size+1+1<p.block:=fun p hp=>by have:=HF1.out p hp;simp at this;omega
 have f2:∀p,a2=some p->W.heap.size+1+1<p.block:=fun p hp=>by have:=HF2.out p hp;have h2:=lt_of_block (OCs.s1 HO1.out (.slice a1 rs.length c1)).o;omega
 have f3:∀p,a3=some p->W.heap.size+1+1<p.block:=fun p hp=>by have:=HF3.out p hp;have h2:=lt_of_block (OCs.s2 HO2.out (.slice a2 ds.length c2)).o;omega
 have f1':∀p,a1=some p->W.heap.size+1<p.block:=fun p hp=>by have:=f1 p hp;omega
 have f2':∀p,a2=some p->W.heap.size+1<p.block:=fun p hp=>by have:=f2 p hp;omega
 have f3':∀p,a3=some p->W.heap.size+1<p.block:=fun p hp=>by have:=f3 p hp;omega
 exact bodyPost_ret (v:=.agg #[.int .i64 id,.slice a1 rs.length c1,.slice a2 ds.length c2,.slice a3 vs.length c3]) (results_cell_row Tryz.results11 _ _ (W.heap.size+1) 27 #[.int .i64 id,.slice a1 rs.length c1,.slice a2 ds.length c2,.slice a3 vs.length c3] (0,0) _ rfl (row_setCell (row_setCell (row_setCell (row_setCell (OCs.s3 HO3.out (.slice a3 vs.length c3)).z _) _) _) _) Tryz.underlying27 rfl (by kernel_rfl)) rfl ⟨⟨a1,c1,a2,c2,a3,c3,rfl,
  (((((((HL1.out.off f1).keep HBB2.out).off f1).keep HBB3.out).off f1).off f1').off f1').off f1' |>.off f1',(((((HL2.out.off f2).keep HBB3.out).off f2).off f2').off f2').off f2' |>.off f2',((((HL3.out.off f3).off f3').off f3').off f3').off f3',⟨HCP1.out,HCP2.out,HCP3.out⟩,fun p hp=>by have:=f1 p hp;omega,fun p hp=>by have:=f2 p hp;omega,fun p hp=>by have:=f3 p hp;omega⟩,((((OCs.s3 HO3.out _).old.setCell (by simp) _).setCell (by simp) _).setCell (by simp) _).setCell (by simp) _⟩
end Go.Proofs.YtoeiahdjamkdgaaGreatDoor
