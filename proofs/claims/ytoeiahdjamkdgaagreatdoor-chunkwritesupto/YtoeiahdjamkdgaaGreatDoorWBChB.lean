/-
  chunk.checkColumn: exact.
  Marks in a cell of the call's own.
  The reference's StatsOf.
  Columns and leaves that came in, and how bulky they are.
  slim of stage 9's laws.
  The walk of the law StatsMerge.
  The walk of the law StatsOf.
-/
import Derived.Test.YtoeiahdjamkdgaaGreatDoorWBStBase
set_option maxRecDepth 100000
set_option maxHeartbeats 6400000
namespace Go.Proofs.YtoeiahdjamkdgaaGreatDoor
open Go.RowKit
structure ChI (W:World) (lid kind mr md:Int) (pa:Option Addr) (pn pc:Nat) (c:Cl) (X:World):Prop where
 lf:X.heap[W.heap.size]? = some (.cells #[.int .i64 lid,.int .i64 kind,.int .i64 mr,.int .i64 md,.slice pa pn pc] 39 (0,0))
 co:X.heap[W.heap.size+1]? = some (.cells #[.int .i64 c.id,.slice c.ra c.rs.length c.rc,.slice c.da c.ds.length c.dc,.slice c.va c.vs.length c.vc] 27 (0,0))
 old:Below W.heap.size W X
theorem ChI.keep {W X w':World}{lid kind mr md:Int}{pa:Option Addr}{pn pc:Nat}{c:Cl}(h:ChI W lid kind mr md pa pn pc c X)(hb:Below X.heap.size X w'):ChI W lid kind mr md pa pn pc c w':=⟨blk_keep hb h.lf,blk_keep hb h.co,h.old.trans (hb.mono h.old.size)⟩
def CkW (N:Nat)(lid kind mr md:Int)(c:Cl)(most:Int)(sv kv bv:Value)(ev:Value)(w:World):Prop :=
 ((isLfB kind mr md && fitB lid mr md c.id c.rs c.ds c.vs.length)=false/\ev=sv) ∨
 ((isLfB kind mr md && fitB lid mr md c.id c.rs c.ds c.vs.length)=true/\(∃p:Nat,∃hp:p<c.vs.length,badV kind c.vs[p]=true/\(∀j (h:j<c.vs.length),j<p->badV kind c.vs[j]=false)/\∃q,N<=q/\ev=.iface 83 (.pointer (some ⟨q,0,none⟩))/\w.cell? ⟨q,0,none⟩=some (.int .i64 p)/\w.cell? ⟨q,1,none⟩=some kv)) ∨
 (GoodC lid kind mr md c/\c.rs=[]/\ev=sv) ∨
 (GoodC lid kind mr md c/\c.rs≠[]/\¬ (1<=most/\most<=20000)/\ev=bv) ∨
 (GoodC lid kind mr md c/\c.rs≠[]/\(1<=most/\most<=20000)/\ev=.nilIface)
theorem checkColumn_any (lid kind mr md:Int)(pa:Option Addr)(pn pc:Nat)(c:Cl)(most:Int)(hbk:c.rs.length+c.ds.length+c.vs.length<=2000)(hcr:c.rs.length<=c.rc)(hcd:c.ds.length<=c.dc)(hcv:c.vs.length<=c.vc)(W:World)(st kt bt:TypeId)(sp kp bp:Value)(hs:W.cell? ⟨0,0,none⟩=some (.iface st sp))(hk:W.cell? ⟨3,0,none⟩=some (.iface kt kp))(hbd:W.cell? ⟨1,0,none⟩=some (.iface bt bp))(hat:c.At W) :
    Calls Tryz.prog 18 #[.agg #[.int .i64 lid,.int .i64 kind,.int .i64 mr,.int .i64 md,.slice pa pn pc],.agg #[.int .i64 c.id,.slice c.ra c.rs.length c.rc,.slice c.da c.ds.length c.dc,.slice c.va c.vs.length c.vc],.int .i64 most] W fun e w'=>(∃ev,e=.returned ev/\CkW W.heap.size lid kind mr md c most (.iface st sp) (.iface kt kp) (.iface bt bp) ev w')/\Below W.heap.size W w':=by
 obtain⟨w0,HW0,HX,HY,HB⟩:=two_boxes W #[.int .i64 lid,.int .i64 kind,.int .i64 mr,.int .i64 md,.slice pa pn pc] #[.int .i64 c.id,.slice c.ra c.rs.length c.rc,.slice c.da c.ds.length c.dc,.slice c.va c.vs.length c.vc] 39 27
 have HI0:Hid (ChI W lid kind mr md pa pn pc c w0):=⟨HX.out,HY.out,HB.out⟩
 have hsz0:W.heap.size<=w0.heap.size:=HB.out.size
 have HCt:Hid (∀X,Below w0.heap.size w0 X->Calls Tryz.prog 32 #[.agg #[.int .i64 c.id,.slice c.ra c.rs.length c.rc,.slice c.da c.ds.length c.dc,.slice c.va c.vs.length c.vc]] X fun e w'=>e=.returned (.int .i64 (cntE 0 c.rs:Nat))/\Below w0.heap.size w0 w'/\Below X.heap.size X w'):=fun X hX=>(count_any c.id c.ra c.rs c.rc c.da c.ds.length c.dc c.va c.vs.length c.vc (by omega) X (hat.keep (HB.out.trans (hX.mono hsz0))).r).mono fun e w' h=>⟨h.1,bel_next hX (Nat.le_refl _) h.2,h.2⟩
 have HPt:Hid (∀X,Below w0.heap.size w0 X->Calls Tryz.prog 33 #[.agg #[.int .i64 lid,.int .i64 kind,.int .i64 mr,.int .i64 md,.slice pa pn pc],.agg #[.int .i64 c.id,.slice c.ra c.rs.length c.rc,.slice c.da c.ds.length c.dc,.slice c.va c.vs.length c.vc],.int .i64 0,.int .i64 (cntE 0 c.rs:Nat)] X fun e w'=>(∃(k:Cl) (ev:Value),e=.returned (.tuple #[.agg #[.int .i64 k.id,.slice k.ra k.rs.length k.rc,.slice k.da k.ds.length k.dc,.slice k.va k.vs.length k.vc],ev])/\PaR X.heap.size lid kind mr md c (.iface st sp) (.iface kt kp) k ev w')/\Below w0.heap.size w0 w'/\Below X.heap.size X w'):=fun X hX=>(by
  have hX2:=HB.out.trans (hX.mono hsz0)
  exact (part_all lid kind mr md pa pn pc c X st kt bt sp kp bp (by omega) (by omega) (by omega) hcr hcd hcv (ckB hs hX2) (ckB hk hX2) (ckB hbd hX2) (hat.keep hX2)).mono fun e w' h=>⟨h.1,bel_next hX (Nat.le_refl _) h.2,h.2⟩)
 have HS:Hid (∀X,Below W.heap.size W X->X.cell? ⟨0,0,none⟩=some (.iface st sp)):=fun X hX=>ckB hs hX
 have HBd:Hid (∀X,Below W.heap.size W X->X.cell? ⟨1,0,none⟩=some (.iface bt bp)):=fun X hX=>ckB hbd hX
 clear HX HY HB hat hs hk hbd hcr hcd hcv
 go_enter Tryz.func18,Tryz.ntmps18
 go_upto_region 1 with fail
 rw[HW0.out]
 clear HW0
 obtain⟨⟨p0,p1,p2,p3,p4⟩,_⟩:=row_five HI0.out.lf
 obtain⟨k0,k1,k2,k3⟩:=row_four HI0.out.co
 go_cut [8] (fun x wx=>Hid (ChI W lid kind mr md pa pn pc c wx)/\Hid (∃k:Cl,PaR W.heap.size lid kind mr md c (.iface st sp) (.iface kt kp) k x wx))
 case first =>
  have b0:Below w0.heap.size w0 w0:=Below.refl _ _
  have HN:Hid (∀X,Below w0.heap.size w0 X->(X.cell? ⟨W.heap.size,0,none⟩=some (.int .i64 lid)/\X.cell? ⟨W.heap.size,1,none⟩=some (.int .i64 kind)/\X.cell? ⟨W.heap.size,2,none⟩=some (.int .i64 mr)/\X.cell? ⟨W.heap.size,3,none⟩=some (.int .i64 md)/\X.cell? ⟨W.heap.size,4,none⟩=some (.slice pa pn pc))/\(X.cell? ⟨W.heap.size+1,0,none⟩=some (.int .i64 c.id)/\X.cell? ⟨W.heap.size+1,1,none⟩=some (.slice c.ra c.rs.length c.rc)/\X.cell? ⟨W.heap.size+1,2,none⟩=some (.slice c.da c.ds.length c.dc)/\X.cell? ⟨W.heap.size+1,3,none⟩=some (.slice c.va c.vs.length c.vc))/\Below w0.heap.size w0 X):=fun X hX=>⟨(row_five (blk_keep hX HI0.out.lf)).1,row_four (blk_keep hX HI0.out.co),hX⟩
  go_region_held3 (fun X=>(X.cell? ⟨W.heap.size,0,none⟩=some (.int .i64 lid)/\X.cell? ⟨W.heap.size,1,none⟩=some (.int .i64 kind)/\X.cell? ⟨W.heap.size,2,none⟩=some (.int .i64 mr)/\X.cell? ⟨W.heap.size,3,none⟩=some (.int .i64 md)/\X.cell? ⟨W.heap.size,4,none⟩=some (.slice pa pn pc))/\(X.cell? ⟨W.heap.size+1,0,none⟩=some (.int .i64 c.id)/\X.cell? ⟨W.heap.size+1,1,none⟩=some (.slice c.ra c.rs.length c.rc)/\X.cell? ⟨W.heap.size+1,2,none⟩=some (.slice c.da c.ds.length c.dc)/\X.cell? ⟨W.heap.size+1,3,none⟩=some (.slice c.va c.vs.length c.vc))/\Below w0.heap.size w0 X) (with_reducible refine HN.out _ ?_;repeat' (first|with_reducible assumption|with_reducible exact b0.drew|with_reducible exact b0|with_reducible refine Below.drew ?_|with_reducible exact Nat.le_refl _|with_reducible refine Below.setCell ?_ ?_ _|with_reducible refine Below.alloc ?_ ?_ _|with_reducible exact Below.size (by assumption)|(simp;done)|(simp;omega)|omega)) (first
   | (go_at_call 32;(with_reducible refine Calls.mono (HCt.out _ ?_) ?_);(repeat' (first|with_reducible assumption|with_reducible exact b0.drew|with_reducible exact b0|with_reducible refine Below.drew ?_|with_reducible refine Below.alloc ?_ ?_ _|with_reducible exact Below.size (by assumption)|with_reducible exact Nat.le_refl _|(simp;done)|(simp;omega)));rintro e x1 ⟨rfl,hbx1,hraw1⟩;(first|(have hzz:=blk_keep hraw1 hzz0;clear hzz0;have hzz0:=hzz;clear hzz)|(have hzz0:=blk_keep hraw1 (blk_drew (heap_alloc_new _ (.cells #[.int .i64 0,.slice none 0 0,.slice none 0 0,.slice none 0 0] 27))))|(have hzz0:=blk_keep hraw1 (heap_alloc_new _ (.cells #[.int .i64 0,.slice none 0 0,.slice none 0 0,.slice none 0 0] 27)))|skip))
   | (go_at_call 33;(with_reducible refine Calls.mono (HPt.out _ ?_) ?_);(repeat' (first|with_reducible assumption|with_reducible exact b0.drew|with_reducible exact b0|with_reducible refine Below.drew ?_|with_reducible refine Below.alloc ?_ ?_ _|with_reducible exact Below.size (by assumption)|with_reducible exact Nat.le_refl _|(simp;done)|(simp;omega)));rintro e x2 ⟨⟨k,ev,rfl,hpr⟩,hbx2,hraw2⟩;have HPR:Hid (PaR _ lid kind mr md c (.iface st sp) (.iface kt kp) k ev x2):=hpr;have HBX2:Hid (Below w0.heap.size w0 x2):=hbx2;clear hpr;(first|(have hzz:=blk_keep hraw2 hzz0;clear hzz0;have hzz0:=hzz;clear hzz)|(have hzz0:=blk_keep hraw2 (blk_drew (heap_alloc_new _ (.cells #[.int .i64 0,.slice none 0 0,.slice none 0 0,.slice none 0 0] 27))))|(have hzz0:=blk_keep hraw2 (heap_alloc_new _ (.cells #[.int .i64 0,.slice none 0 0,.slice none 0 0,.slice none 0 0] 27)))|skip);(first|(obtain⟨z0,z1,z2,z3⟩:=row_four hzz0;obtain⟨f0,f1,f2,f3⟩:=row_fourA hzz0;have HZZ:Hid _:=hzz0;clear hzz0)|skip)))
  all_goals
   go_wp2_with fail
   go_meet
   first
   | exact⟨HI0.out.keep (HBX2.out.alloc HBX2.out.size _),k,(HPR.out.keep ((Below.refl _ _).alloc (Nat.le_refl _) _)).low (by first|(simp;omega)|exact Nat.le_trans hsz0 (Below.size (by assumption)))⟩
   | exact⟨HI0.out.keep ((((HBX2.out.setCell (by first|exact Nat.le_refl _|exact Below.size (by assumption)) _).setCell (by first|exact Nat.le_refl _|exact Below.size (by assumption)) _).setCell (by first|exact Nat.le_refl _|exact Below.size (by assumption)) _).setCell (by first|exact Nat.le_refl _|exact Below.size (by assumption)) _),k,((((HPR.out.off (by first|(simp;done)|(have hq:=Below.size hraw1;simp at hq ⊢;omega))).off (by first|(simp;done)|(have hq:=Below.size hraw1;simp at hq ⊢;omega))).off (by first|(simp;done)|(have hq:=Below.size hraw1;simp at hq ⊢;omega))).off (by first|(simp;done)|(have hq:=Below.size hraw1;simp at hq ⊢;omega))).low (by first|(simp;omega)|(have hq:=Below.size hbx1;simp at hq ⊢;omega))⟩
 case rest =>
  obtain⟨HI,HPR⟩:=hcut
  rename Value=>ev
  rename World=>wx
  clear HI0 HCt HPt p0 p1 p2 p3 p4 k0 k1 k2 k3
  obtain⟨k0,k1,k2,k3⟩:=row_four HI.out.co
  have hes:=HS.out wx HI.out.old
  have heb:=HBd.out wx HI.out.old
  obtain⟨k,hpr⟩:=HPR.out
  rcases hpr with ⟨h1,h2,h3⟩|⟨h0,p,hp,h1,h2,q,h3,h4,h5,h6,h7⟩|⟨h1,h2,_⟩
  · subst h3
    have HG:Hid _:=h1
    clear h1 h2 HPR
    go_wp2
    go_ret
    exact⟨⟨_,rfl,.inl ⟨HG.out,rfl⟩⟩,HI.out.old⟩
  · subst h5
    have HG:Hid (CkW W.heap.size lid kind mr md c most (.iface st sp) (.iface kt kp) (.iface bt bp) (.iface 83 (.pointer (some ⟨q,0,none⟩))) wx):=.inr (.inl ⟨h0,p,hp,h1,h2,q,h3,rfl,h6,h7⟩)
    clear h0 h1 h2 h3 h4 h6 h7 HPR
    go_wp2
    go_ret
    exact⟨⟨_,rfl,HG.out⟩,HI.out.old⟩
  · subst h2
    have HG:Hid _:=h1
    clear h1 HPR
    by_cases e0:c.rs=[]
    · have q0:(((c.rs.length:Nat):Int) == 0)=true:=by rw[e0];rfl
      have HE0:Hid _:=e0
      clear e0
      go_wp2
      go_ret
      exact⟨⟨_,rfl,.inr (.inr (.inl ⟨HG.out,HE0.out,rfl⟩))⟩,HI.out.old⟩
    · have hpos:0<c.rs.length:=List.length_pos_iff.2 e0
      have q0:(((c.rs.length:Nat):Int) == 0)=false:=by simp;omega
      have HE0:Hid _:=e0
      have q3:decide (((c.rs.length:Nat):Int) > 20000)=false:=by simp;omega
      have q4:decide ((20000:Int)<((c.rs.length:Nat):Int))=false:=by simp;omega
      clear e0
      by_cases m1:most<1
      · have q1:decide (most<1)=true:=decide_eq_true m1
        have HM:Hid (¬ (1<=most/\most<=20000)):=(by show ¬ _;omega)
        clear m1
        go_wp2
        go_ret
        exact⟨⟨_,rfl,.inr (.inr (.inr (.inl ⟨HG.out,HE0.out,HM.out,rfl⟩)))⟩,HI.out.old⟩
      · have q1:decide (most<1)=false:=decide_eq_false m1
        by_cases m2:20000<most
        · have q2:decide ((20000:Int)<most)=true:=decide_eq_true m2
          have q2':decide (most > (20000:Int))=true:=decide_eq_true m2
          have HM:Hid (¬ (1<=most/\most<=20000)):=(by show ¬ _;omega)
          clear m1 m2
          go_wp2
          go_ret
          exact⟨⟨_,rfl,.inr (.inr (.inr (.inl ⟨HG.out,HE0.out,HM.out,rfl⟩)))⟩,HI.out.old⟩
        · have q2:decide ((20000:Int)<most)=false:=decide_eq_false m2
          have q2':decide (most > (20000:Int))=false:=decide_eq_false m2
          have HM:Hid (1<=most/\most<=20000):=(by show _/\_;omega)
          clear m1 m2
          go_wp2
          go_ret
          exact⟨⟨_,rfl,.inr (.inr (.inr (.inr ⟨HG.out,HE0.out,HM.out,rfl⟩)))⟩,HI.out.old⟩
theorem row_oneC {w:World}{g e:Nat}{x:Value}(h:w.heap[g]? = some (.cells #[x] e (0,0))):w.cell? ⟨g,0,none⟩=some x/\w.frozen? ⟨g,0,none⟩=false:=by
 constructor<;>simp[World.cell?,World.frozen?,h]
theorem row_setOneC {w:World}{g e:Nat}{x v:Value}(h:w.heap[g]? = some (.cells #[x] e (0,0))):(w.setCell ⟨g,0,none⟩ v).heap[g]? = some (.cells #[v] e (0,0)):=row_setCell h v
structure MFr (g1 g2 N:Nat) (W w':World):Prop where
 os:w'.os=W.os
 tape:w'.tape=W.tape
 output:w'.output=W.output
 size:W.heap.size<=w'.heap.size
 keep:∀k,k<W.heap.size->k≠g1->k≠g2->(N<=k->∀cs e z,W.heap[k]? = some (.cells cs e z)->e≠53)->w'.heap[k]? = W.heap[k]?
theorem MFr.trans {g1 g2 N:Nat}{W w1 w2:World}(h:MFr g1 g2 N W w1)(h2:MFr g1 g2 N w1 w2):MFr g1 g2 N W w2 :=
 ⟨h2.os.trans h.os,h2.tape.trans h.tape,h2.output.trans h.output,Nat.le_trans h.size h2.size,fun k hk hn1 hn2 ht=>by
  have e:=h.keep k hk hn1 hn2 ht
  rw[h2.keep k (Nat.lt_of_lt_of_le hk h.size) hn1 hn2 (fun hN cs e2 z hc=>ht hN cs e2 z (e ▸ hc)),e]⟩
theorem MFr.of_below {g1 g2 N:Nat}{W w':World}(hb:Below W.heap.size W w'):MFr g1 g2 N W w':=⟨hb.os,hb.tape,hb.output,hb.size,fun k hk _ _ _=>hb.block k hk⟩
theorem MFr.below {g1 g2 N B:Nat}{W w':World}(h:MFr g1 g2 N W w')(hB:B<=W.heap.size)(h1:B<=g1)(h2:B<=g2)(hN:B<=N):Below B W w':=⟨h.os,h.tape,h.output,h.size,fun k hk=>h.keep k (by omega) (by omega) (by omega) (fun h2=>by omega)⟩
theorem MFr.box {g1 g2 N k:Nat}{W w':World}{cs:Array Value}{e:TypeId}{z:Nat × Nat}(h:MFr g1 g2 N W w')(hk:W.heap[k]? = some (.cells cs e z))(h1:k≠g1)(h2:k≠g2)(he:e≠53):w'.heap[k]? = some (.cells cs e z) :=
 (h.keep k (lt_of_block hk) h1 h2 (fun _ cs' e' z' hc=>by rw[hc] at hk;injection hk with hk;injection hk with _ hk _;subst hk;exact he)).trans hk
structure MkS (gL g1 g2 N:Nat) (lid kind mr md:Int) (pa:Option Addr) (pn pc:Nat) (fst:Int) (lv:Value) (ms:List Mk) (X:World):Prop where
 lf:X.heap[gL]? = some (.cells #[.int .i64 lid,.int .i64 kind,.int .i64 mr,.int .i64 md,.slice pa pn pc] 39 (0,0))
 lc:X.heap[g1]? = some (.cells #[lv] 47 (0,0))
 fc:X.heap[g2]? = some (.cells #[.int .i64 fst] 3 (0,0))
 row:X.ownsRow N 53 13 lv ms.length (mkF ms)
theorem MkS.keep {gL g1 g2 N:Nat}{lid kind mr md:Int}{pa:Option Addr}{pn pc:Nat}{fst:Int}{lv:Value}{ms:List Mk}{X w':World}(h:MkS gL g1 g2 N lid kind mr md pa pn pc fst lv ms X)(hb:Below X.heap.size X w'):MkS gL g1 g2 N lid kind mr md pa pn pc fst lv ms w':=⟨blk_keep hb h.lf,blk_keep hb h.lc,blk_keep hb h.fc,ow_kept h.row hb⟩
theorem MkS.setF {gL g1 g2 N:Nat}{lid kind mr md:Int}{pa:Option Addr}{pn pc:Nat}{fst:Int}{lv:Value}{ms:List Mk}{X:World}(h:MkS gL g1 g2 N lid kind mr md pa pn pc fst lv ms X)(h1:g2≠g1)(h2:g2≠gL)(x:Int):MkS gL g1 g2 N lid kind mr md pa pn pc x lv ms (X.setCell ⟨g2,0,none⟩ (.int .i64 x))/\MFr g1 g2 N X (X.setCell ⟨g2,0,none⟩ (.int .i64 x)):=by
 have hset:∀k,k≠g2->(X.setCell ⟨g2,0,none⟩ (.int .i64 x)).heap[k]? = X.heap[k]?:=fun k hk=>Below.heap_setCell _ ⟨g2,0,none⟩ _ _ hk
 refine⟨⟨by rw[hset _ (Ne.symm h2)];exact h.lf,by rw[hset _ (Ne.symm h1)];exact h.lc,row_setOneC h.fc,own_same h.row fun k hk=>hset k (fun e=>?_)⟩,⟨rfl,rfl,rfl,by simp,fun k _ _ h4 _=>hset k h4⟩⟩
 subst e
 exact own_type h.row h.fc (by decide) hk.symm
theorem MkS.app {gL g1 g2 N:Nat}{lid kind mr md:Int}{pa:Option Addr}{pn pc:Nat}{fst:Int}{lv v1:Value}{ms:List Mk}{m:Mk}{X x1:World}(h:MkS gL g1 g2 N lid kind mr md pa pn pc fst lv ms X)(h1:g1≠g2)(h2:g1≠gL)(hown:x1.ownsRow N 53 13 v1 (ms.length+1) (mkF ms++m.cs))(hg:X.grownBy x1 lv.ownBlock)(hw:v1.ownBlock=lv.ownBlock\/v1.ownBlock=some X.heap.size) :
    x1.heap[g1]? = some (.cells #[lv] 47 (0,0))/\MkS gL g1 g2 N lid kind mr md pa pn pc fst v1 (ms++[m]) (x1.setCell ⟨g1,0,none⟩ v1)/\MFr g1 g2 N X (x1.setCell ⟨g1,0,none⟩ v1):=by
 have hkp:∀{k:Nat} {cs:Array Value} {e:TypeId},X.heap[k]? = some (.cells cs e (0,0))->53≠e->x1.heap[k]? = some (.cells cs e (0,0)):=fun hk he=>by
  rw[hg.block _ (lt_of_block hk) (own_type h.row hk he)]
  exact hk
 have hset:∀k,k≠g1->(x1.setCell ⟨g1,0,none⟩ v1).heap[k]? = x1.heap[k]?:=fun k hk=>Below.heap_setCell _ ⟨g1,0,none⟩ _ _ hk
 have hl:=hkp h.lc (by decide)
 refine⟨hl,⟨by rw[hset _ (Ne.symm h2)];exact hkp h.lf (by decide),row_setOneC hl,by rw[hset _ (Ne.symm h1)];exact hkp h.fc (by decide),?_⟩,⟨hg.os,hg.tape,hg.output,by have:=hg.size;simp;omega,fun k hk hn1 hn2 ht=>?_⟩⟩
 · rw[List.length_append,mkF_snoc]
   exact own_same hown fun k hk=>hset k (fun e=>by
    subst e
    rcases hw with e|e
    · exact own_type h.row h.lc (by decide) (hk.symm.trans e)
    · rw[e] at hk
      have:=lt_of_block h.lc
      simp at hk
      omega)
 · rw[hset k hn1,hg.block k hk (fun e=>?_)]
   obtain⟨q1,_,cs,q3⟩:=own_block h.row e.symm
   exact absurd rfl (ht q1 cs _ _ q3)
theorem row_mk {w:World}{g t:Nat}{x0 x1 x2 x3 x4 x5 x6 x7 x8 x9 xa xb xc:Value}(h:w.heap[g]? = some (.cells #[x0,x1,x2,x3,x4,x5,x6,x7,x8,x9,xa,xb,xc] t (0,0))) :
    (w.cell? ⟨g,0,none⟩=some x0/\w.cell? ⟨g,1,none⟩=some x1/\w.cell? ⟨g,2,none⟩=some x2/\w.cell? ⟨g,3,none⟩=some x3/\w.cell? ⟨g,4,none⟩=some x4/\w.cell? ⟨g,5,none⟩=some x5/\w.cell? ⟨g,6,none⟩=some x6/\w.cell? ⟨g,7,none⟩=some x7/\w.cell? ⟨g,8,none⟩=some x8/\w.cell? ⟨g,9,none⟩=some x9/\w.cell? ⟨g,10,none⟩=some xa/\w.cell? ⟨g,11,none⟩=some xb/\w.cell? ⟨g,12,none⟩=some xc) ∧
    (w.frozen? ⟨g,0,none⟩=false/\w.frozen? ⟨g,1,none⟩=false/\w.frozen? ⟨g,2,none⟩=false/\w.frozen? ⟨g,3,none⟩=false/\w.frozen? ⟨g,4,none⟩=false/\w.frozen? ⟨g,5,none⟩=false/\w.frozen? ⟨g,6,none⟩=false/\w.frozen? ⟨g,7,none⟩=false/\w.frozen? ⟨g,8,none⟩=false/\w.frozen? ⟨g,9,none⟩=false/\w.frozen? ⟨g,10,none⟩=false/\w.frozen? ⟨g,11,none⟩=false/\w.frozen? ⟨g,12,none⟩=false):=by
 refine⟨⟨?_,?_,?_,?_,?_,?_,?_,?_,?_,?_,?_,?_,?_⟩,?_,?_,?_,?_,?_,?_,?_,?_,?_,?_,?_,?_,?_⟩<;>first|simp[World.frozen?,h]|simp[World.cell?,h]
def set13 (w:World)(g:Nat)(y0 y1 y2 y3 y4 y5 y6 y7 y8 y9 y10 y11 y12:Value):World:=((((((((((((w.setCell ⟨g,0,none⟩ y0).setCell ⟨g,1,none⟩ y1).setCell ⟨g,2,none⟩ y2).setCell ⟨g,3,none⟩ y3).setCell ⟨g,4,none⟩ y4).setCell ⟨g,5,none⟩ y5).setCell ⟨g,6,none⟩ y6).setCell ⟨g,7,none⟩ y7).setCell ⟨g,8,none⟩ y8).setCell ⟨g,9,none⟩ y9).setCell ⟨g,10,none⟩ y10).setCell ⟨g,11,none⟩ y11).setCell ⟨g,12,none⟩ y12
theorem set13_row {w:World}{g t:Nat}{x0 x1 x2 x3 x4 x5 x6 x7 x8 x9 x10 x11 x12:Value}(h:w.heap[g]? = some (.cells #[x0,x1,x2,x3,x4,x5,x6,x7,x8,x9,x10,x11,x12] t (0,0)))(y0 y1 y2 y3 y4 y5 y6 y7 y8 y9 y10 y11 y12:Value):(set13 w g y0 y1 y2 y3 y4 y5 y6 y7 y8 y9 y10 y11 y12).heap[g]? = some (.cells #[y0,y1,y2,y3,y4,y5,y6,y7,y8,y9,y10,y11,y12] t (0,0)):=by
 have h0:(w.setCell ⟨g,0,none⟩ y0).heap[g]? = some (.cells #[y0,x1,x2,x3,x4,x5,x6,x7,x8,x9,x10,x11,x12] t (0,0)):=row_setCell h y0
 have h1:((w.setCell ⟨g,0,none⟩ y0).setCell ⟨g,1,none⟩ y1).heap[g]? = some (.cells #[y0,y1,x2,x3,x4,x5,x6,x7,x8,x9,x10,x11,x12] t (0,0)):=row_setCell h0 y1
 have h2:(((w.setCell ⟨g,0,none⟩ y0).setCell ⟨g,1,none⟩ y1).setCell ⟨g,2,none⟩ y2).heap[g]? = some (.cells #[y0,y1,y2,x3,x4,x5,x6,x7,x8,x9,x10,x11,x12] t (0,0)):=row_setCell h1 y2
 have h3:((((w.setCell ⟨g,0,none⟩ y0).setCell ⟨g,1,none⟩ y1).setCell ⟨g,2,none⟩ y2).setCell ⟨g,3,none⟩ y3).heap[g]? = some (.cells #[y0,y1,y2,y3,x4,x5,x6,x7,x8,x9,x10,x11,x12] t (0,0)):=row_setCell h2 y3
 have h4:(((((w.setCell ⟨g,0,none⟩ y0).setCell ⟨g,1,none⟩ y1).setCell ⟨g,2,none⟩ y2).setCell ⟨g,3,none⟩ y3).setCell ⟨g,4,none⟩ y4).heap[g]? = some (.cells #[y0,y1,y2,y3,y4,x5,x6,x7,x8,x9,x10,x11,x12] t (0,0)):=row_setCell h3 y4
 have h5:((((((w.setCell ⟨g,0,none⟩ y0).setCell ⟨g,1,none⟩ y1).setCell ⟨g,2,none⟩ y2).setCell ⟨g,3,none⟩ y3).setCell ⟨g,4,none⟩ y4).setCell ⟨g,5,none⟩ y5).heap[g]? = some (.cells #[y0,y1,y2,y3,y4,y5,x6,x7,x8,x9,x10,x11,x12] t (0,0)):=row_setCell h4 y5
 have h6:(((((((w.setCell ⟨g,0,none⟩ y0).setCell ⟨g,1,none⟩ y1).setCell ⟨g,2,none⟩ y2).setCell ⟨g,3,none⟩ y3).setCell ⟨g,4,none⟩ y4).setCell ⟨g,5,none⟩ y5).setCell ⟨g,6,none⟩ y6).heap[g]? = some (.cells #[y0,y1,y2,y3,y4,y5,y6,x7,x8,x9,x10,x11,x12] t (0,0)):=row_setCell h5 y6
 have h7:((((((((w.setCell ⟨g,0,none⟩ y0).setCell ⟨g,1,none⟩ y1).setCell ⟨g,2,none⟩ y2).setCell ⟨g,3,none⟩ y3).setCell ⟨g,4,none⟩ y4).setCell ⟨g,5,none⟩ y5).setCell ⟨g,6,none⟩ y6).setCell ⟨g,7,none⟩ y7).heap[g]? = some (.cells #[y0,y1,y2,y3,y4,y5,y6,y7,x8,x9,x10,x11,x12] t (0,0)):=row_setCell h6 y7
 have h8:(((((((((w.setCell ⟨g,0,none⟩ y0).setCell ⟨g,1,none⟩ y1).setCell ⟨g,2,none⟩ y2).setCell ⟨g,3,none⟩ y3).setCell ⟨g,4,none⟩ y4).setCell ⟨g,5,none⟩ y5).setCell ⟨g,6,none⟩ y6).setCell ⟨g,7,none⟩ y7).setCell ⟨g,8,none⟩ y8).heap[g]? = some (.cells #[y0,y1,y2,y3,y4,y5,y6,y7,y8,x9,x10,x11,x12] t (0,0)):=row_setCell h7 y8
 have h9:((((((((((w.setCell ⟨g,0,none⟩ y0).setCell ⟨g,1,none⟩ y1).setCell ⟨g,2,none⟩ y2).setCell ⟨g,3,none⟩ y3).setCell ⟨g,4,none⟩ y4).setCell ⟨g,5,none⟩ y5).setCell ⟨g,6,none⟩ y6).setCell ⟨g,7,none⟩ y7).setCell ⟨g,8,none⟩ y8).setCell ⟨g,9,none⟩ y9).heap[g]? = some (.cells #[y0,y1,y2,y3,y4,y5,y6,y7,y8,y9,x10,x11,x12] t (0,0)):=row_setCell h8 y9
 have h10:(((((((((((w.setCell ⟨g,0,none⟩ y0).setCell ⟨g,1,none⟩ y1).setCell ⟨g,2,none⟩ y2).setCell ⟨g,3,none⟩ y3).setCell ⟨g,4,none⟩ y4).setCell ⟨g,5,none⟩ y5).setCell ⟨g,6,none⟩ y6).setCell ⟨g,7,none⟩ y7).setCell ⟨g,8,none⟩ y8).setCell ⟨g,9,none⟩ y9).setCell ⟨g,10,none⟩ y10).heap[g]? = some (.cells #[y0,y1,y2,y3,y4,y5,y6,y7,y8,y9,y10,x11,x12] t (0,0)):=row_setCell h9 y10
 have h11:((((((((((((w.setCell ⟨g,0,none⟩ y0).setCell ⟨g,1,none⟩ y1).setCell ⟨g,2,none⟩ y2).setCell ⟨g,3,none⟩ y3).setCell ⟨g,4,none⟩ y4).setCell ⟨g,5,none⟩ y5).setCell ⟨g,6,none⟩ y6).setCell ⟨g,7,none⟩ y7).setCell ⟨g,8,none⟩ y8).setCell ⟨g,9,none⟩ y9).setCell ⟨g,10,none⟩ y10).setCell ⟨g,11,none⟩ y11).heap[g]? = some (.cells #[y0,y1,y2,y3,y4,y5,y6,y7,y8,y9,y10,y11,x12] t (0,0)):=row_setCell h10 y11
 have h12:(((((((((((((w.setCell ⟨g,0,none⟩ y0).setCell ⟨g,1,none⟩ y1).setCell ⟨g,2,none⟩ y2).setCell ⟨g,3,none⟩ y3).setCell ⟨g,4,none⟩ y4).setCell ⟨g,5,none⟩ y5).setCell ⟨g,6,none⟩ y6).setCell ⟨g,7,none⟩ y7).setCell ⟨g,8,none⟩ y8).setCell ⟨g,9,none⟩ y9).setCell ⟨g,10,none⟩ y10).setCell ⟨g,11,none⟩ y11).setCell ⟨g,12,none⟩ y12).heap[g]? = some (.cells #[y0,y1,y2,y3,y4,y5,y6,y7,y8,y9,y10,y11,y12] t (0,0)):=row_setCell h11 y12
 exact h12
theorem set13_below {B g:Nat}{w X:World}(h:Below B w X)(hg:B<=g)(y0 y1 y2 y3 y4 y5 y6 y7 y8 y9 y10 y11 y12:Value):Below B w (set13 X g y0 y1 y2 y3 y4 y5 y6 y7 y8 y9 y10 y11 y12) :=
 ((((((((((((h.setCell hg _).setCell hg _).setCell hg _).setCell hg _).setCell hg _).setCell hg _).setCell hg _).setCell hg _).setCell hg _).setCell hg _).setCell hg _).setCell hg _).setCell hg _
def refK (c:Cl)(i:Nat):St:=⟨(c.rs.length:Nat),(c.rs.length:Int)-(c.vs.length:Nat),decide (0<c.vs.length),(ofK c i).mn,(ofK c i).mx⟩
theorem ofK_h (c:Cl):∀i,i<=c.vs.length->(ofK c i).h=decide (0<i)
 | 0,_=>rfl
 | i+1,hi=>by rw[ofK_succ c hi];simp[St.around]
theorem ofK_e (c:Cl):∀i,i<=c.vs.length->(ofK c i).e=(c.rs.length:Nat)/\(ofK c i).u=(c.rs.length:Int)-(c.vs.length:Nat)
 | 0,_=>⟨rfl,rfl⟩
 | i+1,hi=>by rw[ofK_succ c hi];exact ofK_e c i (by omega)
theorem refK_end (c:Cl):refK c c.vs.length=ofC c:=by
 have h1:=ofK_h c c.vs.length (Nat.le_refl _)
 have h2:=ofK_e c c.vs.length (Nat.le_refl _)
 have h3:ofK c c.vs.length=ofC c:=by unfold ofK ofC;rw[List.take_length]
 rw[h3] at h1 h2
 unfold refK
 rw[h3]
 generalize ofC c=s at *
 obtain⟨e,u,h,m,x⟩:=s
 obtain⟨h4,h5⟩:=h2
 simp only at h1 h4 h5
 rw[h1,h4,h5]
theorem refK_zero (c:Cl)(h:0<c.vs.length):refK c 1={ refK c 0 with mn:=c.vs[0],mx:=c.vs[0] }:=by
 unfold refK
 rw[ofK_succ c h]
 rfl
theorem refK_succ (c:Cl){i:Nat}(h:i<c.vs.length)(h0:0<i):refK c (i+1)={ refK c i with mn:=if lss c.vs[i] (refK c i).mn then c.vs[i] else (refK c i).mn,mx:=if lss (refK c i).mx c.vs[i] then c.vs[i] else (refK c i).mx }:=by
 have hh:=ofK_h c i (by omega)
 rw[decide_eq_true h0] at hh
 unfold refK
 rw[ofK_succ c h]
 simp[St.around,hh]
structure RfI (W:World) (c:Cl) (t:St) (X:World):Prop where
 co:X.heap[W.heap.size]? = some (.cells #[.int .i64 c.id,.slice c.ra c.rs.length c.rc,.slice c.da c.ds.length c.dc,.slice c.va c.vs.length c.vc] 27 (0,0))
 re:X.heap[W.heap.size+1]? = some (.cells #[.int .i64 0,.int .i64 0,.bool false,.int .i64 0,.int .i64 0,.string ⟨#[]⟩,.int .i64 0,.int .i64 0,.string ⟨#[]⟩] 93 (0,0))
 st:X.heap[W.heap.size+1+1]? = some (.cells t.cs 93 (0,0))
 old:Below W.heap.size W X
theorem RfI.keep {W:World}{c:Cl}{t:St}{X w':World}(h:RfI W c t X)(hb:Below (W.heap.size+1+1+1) X w'):RfI W c t w' :=
 ⟨(hb.block _ (by omega)).trans h.co,(hb.block _ (by omega)).trans h.re,(hb.block _ (by omega)).trans h.st,h.old.trans (hb.mono (by omega))⟩
theorem RfI.setMn {W:World}{c:Cl}{t:St}{X:World}(h:RfI W c t X)(l:Vl):RfI W c { t with mn:=l } (((X.setCell ⟨W.heap.size+1+1,3,none⟩ (.int .i64 l.k)).setCell ⟨W.heap.size+1+1,4,none⟩ (.int .i64 l.n)).setCell ⟨W.heap.size+1+1,5,none⟩ (.string l.s)) :=
 ⟨blk_other (blk_other (blk_other h.co (by omega) _) (by omega) _) (by omega) _,blk_other (blk_other (blk_other h.re (by omega) _) (by omega) _) (by omega) _,row_setCell (row_setCell (row_setCell h.st _) _) _,((h.old.setCell (by simp;omega) _).setCell (by simp;omega) _).setCell (by simp;omega) _⟩
theorem RfI.setMx {W:World}{c:Cl}{t:St}{X:World}(h:RfI W c t X)(l:Vl):RfI W c { t with mx:=l } (((X.setCell ⟨W.heap.size+1+1,6,none⟩ (.int .i64 l.k)).setCell ⟨W.heap.size+1+1,7,none⟩ (.int .i64 l.n)).setCell ⟨W.heap.size+1+1,8,none⟩ (.string l.s)) :=
 ⟨blk_other (blk_other (blk_other h.co (by omega) _) (by omega) _) (by omega) _,blk_other (blk_other (blk_other h.re (by omega) _) (by omega) _) (by omega) _,row_setCell (row_setCell (row_setCell h.st _) _) _,((h.old.setCell (by simp;omega) _).setCell (by simp;omega) _).setCell (by simp;omega) _⟩
theorem statsOfR_x (cid:Int)(ra:Option Addr)(rs:List Int)(rc:Nat)(da:Option Addr)(ds:List Int)(dc:Nat)(va:Option Addr)(vs:List Vl)(vc:Nat)(W:World)(hn:rs.length<=1048576)(hv:vs.length<=1048576)(hat:LiesV W va vs)(hlo:∀v∈vs,v.Low) :
    Calls Tryz.prog 42 #[.agg #[.int .i64 cid,.slice ra rs.length rc,.slice da ds.length dc,.slice va vs.length vc]] W fun e w'=>e=.returned (ofC ⟨cid,ra,rs,rc,da,ds,dc,va,vs,vc⟩).val/\Below W.heap.size W w':=by
 obtain⟨w0,HW0,HX,HY,HB⟩:=two_boxes W #[.int .i64 cid,.slice ra rs.length rc,.slice da ds.length dc,.slice va vs.length vc] #[.int .i64 0,.int .i64 0,.bool false,.int .i64 0,.int .i64 0,.string ⟨#[]⟩,.int .i64 0,.int .i64 0,.string ⟨#[]⟩] 27 93
 have hsz:w0.heap.size=W.heap.size+1+1:=by rw[←HW0.out];simp
 have HLV:Hid (∀X,Below W.heap.size W X->LiesV X va vs):=fun X hX=>hat.keep hX
 have HLO:Hid _:=hlo
 clear hat hlo
 obtain⟨k0,k1,k2,k3⟩:=row_four HX.out
 have hwr:IntKind.i64.wrap ((rs.length:Int)-(vs.length:Int))=(rs.length:Int)-(vs.length:Int):=by rw[IntKind.wrap_i64];omega
 go_enter Tryz.func42,Tryz.ntmps42
 go_upto_region 1 with fail
 rw[HW0.out]
 obtain⟨bv,HBV⟩:∃bv,Hid (decide (0<vs.length)=bv):=⟨_,rfl⟩
 have hbv:decide (0<vs.length)=bv:=HBV.out
 have HI0:Hid (RfI W ⟨cid,ra,rs,rc,da,ds,dc,va,vs,vc⟩ (refK ⟨cid,ra,rs,rc,da,ds,dc,va,vs,vc⟩ 0) (w0.alloc (.cells #[.int .i64 (rs.length:Nat),.int .i64 ((rs.length:Int)-(vs.length:Int)),.bool bv,.int .i64 0,.int .i64 0,.string ⟨#[]⟩,.int .i64 0,.int .i64 0,.string ⟨#[]⟩] 93))):=(by
  refine⟨blk_alloc HX.out,blk_alloc HY.out,?_,HB.out.alloc HB.out.size _⟩
  have h:=heap_alloc_new w0 (.cells #[.int .i64 (rs.length:Nat),.int .i64 ((rs.length:Int)-(vs.length:Int)),.bool bv,.int .i64 0,.int .i64 0,.string ⟨#[]⟩,.int .i64 0,.int .i64 0,.string ⟨#[]⟩] 93)
  rw[hsz] at h
  rw[h,←HBV.out]
  rfl)
 go_wp2
 clear k0 k1 k2 k3 hwr HX HY HB HW0 hbv
 go_loopw [4] (fun x wr=>∃i:Nat,i<=vs.length/\x=.int .i64 i/\Hid (RfI W ⟨cid,ra,rs,rc,da,ds,dc,va,vs,vc⟩ (refK ⟨cid,ra,rs,rc,da,ds,dc,va,vs,vc⟩ i) wr)) (fun x _=>vs.length-(intOf x).toNat)
 case atStart=>exact⟨0,Nat.zero_le _,rfl,HI0⟩
 case round =>
  obtain⟨i,hi,rfl,HI⟩:=hrel
  clear HI0
  by_cases hlt:i<vs.length
  · obtain⟨b,o,rfl,c0,c1,c2⟩:=HLV.out _ HI.out.old i hlt
    have HV:Hid (vs[i].Low):=HLO.out _ (List.getElem_mem _)
    have HLt:Hid ((refK ⟨cid,ra,rs,rc,da,ds,dc,some ⟨b,o,none⟩,vs,vc⟩ i).mn.Low/\(refK ⟨cid,ra,rs,rc,da,ds,dc,some ⟨b,o,none⟩,vs,vc⟩ i).mx.Low):=ofK_low ⟨cid,ra,rs,rc,da,ds,dc,some ⟨b,o,none⟩,vs,vc⟩ HLO.out i hi
    have HCV:Hid (∀X,Below W.heap.size W X->X.cell? ⟨b,o+i*3,none⟩=some (.int .i64 vs[i].k)/\X.cell? ⟨b,o+i*3+1,none⟩=some (.int .i64 vs[i].n)/\X.cell? ⟨b,o+i*3+2,none⟩=some (.string vs[i].s)):=fun X hX=>(by
     obtain⟨b',o',e,h0,h1,h2⟩:=HLV.out X hX i hlt
     obtain⟨rfl,rfl⟩:b=b'/\o=o':=by simpa using e
     exact⟨h0,h1,h2⟩)
    have hbn:¬ (b=W.heap.size+1+1):=by have h:b<W.heap.size:=World.block_lt_of_cell? W _ (HCV.out W (Below.refl _ _)).1;omega
    rcases Nat.eq_zero_or_pos i with h0|h0
    · subst h0
      have HK:Hid (refK ⟨cid,ra,rs,rc,da,ds,dc,some ⟨b,o,none⟩,vs,vc⟩ 1={ refK ⟨cid,ra,rs,rc,da,ds,dc,some ⟨b,o,none⟩,vs,vc⟩ 0 with mn:=vs[0],mx:=vs[0] }):=refK_zero ⟨cid,ra,rs,rc,da,ds,dc,some ⟨b,o,none⟩,vs,vc⟩ hlt
      clear hi HLt
      generalize vs[0]=v at *
      obtain⟨t,HT⟩:∃t,Hid (refK ⟨cid,ra,rs,rc,da,ds,dc,some ⟨b,o,none⟩,vs,vc⟩ 0=t):=⟨_,rfl⟩
      rw[HT.out] at HI HK
      obtain⟨k0,k1,k2,k3⟩:=row_four HI.out.co
      obtain⟨⟨s0,s1,s2,s3,s4,s5,s6,s7,s8⟩,s9⟩:=st_row HI.out.st
      simp only[Nat.zero_mul,Nat.add_zero] at c0 c1 c2
      go_wp2_with fail
      go_quiet (fail)
      go_wp2_with fail
      go_quiet (fail)
      go_wp2
      go_roundw
      case rel=>exact⟨1,by omega,by go_num,by show RfI _ _ _ _;rw[HK.out];exact ((((HI.out.keep (blw_drewN (Below.refl _ _) _)).setMn v).keep (blw_drewN (Below.refl _ _) _)).setMx v)⟩
      case measure=>simp[intOf];omega
    · have HK:Hid (refK ⟨cid,ra,rs,rc,da,ds,dc,some ⟨b,o,none⟩,vs,vc⟩ (i+1)={ refK ⟨cid,ra,rs,rc,da,ds,dc,some ⟨b,o,none⟩,vs,vc⟩ i with mn:=if lss vs[i] (refK ⟨cid,ra,rs,rc,da,ds,dc,some ⟨b,o,none⟩,vs,vc⟩ i).mn then vs[i] else (refK ⟨cid,ra,rs,rc,da,ds,dc,some ⟨b,o,none⟩,vs,vc⟩ i).mn,mx:=if lss (refK ⟨cid,ra,rs,rc,da,ds,dc,some ⟨b,o,none⟩,vs,vc⟩ i).mx vs[i] then vs[i] else (refK ⟨cid,ra,rs,rc,da,ds,dc,some ⟨b,o,none⟩,vs,vc⟩ i).mx }):=refK_succ ⟨cid,ra,rs,rc,da,ds,dc,some ⟨b,o,none⟩,vs,vc⟩ hlt h0
      have qi:((i:Int) == 0)=false:=by simp;omega
      have HPos:Hid _:=h0
      generalize vs[i]=v at *
      obtain⟨t,HT⟩:∃t,Hid (refK ⟨cid,ra,rs,rc,da,ds,dc,some ⟨b,o,none⟩,vs,vc⟩ i=t):=⟨_,rfl⟩
      rw[HT.out] at HI HK HLt
      obtain⟨hl1,hl2⟩:=HLt.out
      have hv0:-9223372036854775808<=v.n:=HV.out
      have hl1':-9223372036854775808<=t.mn.n:=hl1
      have hl2':-9223372036854775808<=t.mx.n:=hl2
      obtain⟨r1,HR1⟩:∃r,Hid (vless v.k v.n v.s t.mn.k t.mn.n t.mn.s=r):=⟨_,rfl⟩
      obtain⟨r2,HR2⟩:∃r,Hid (vless t.mx.k t.mx.n t.mx.s v.k v.n v.s=r):=⟨_,rfl⟩
      have HK2:Hid (refK ⟨cid,ra,rs,rc,da,ds,dc,some ⟨b,o,none⟩,vs,vc⟩ (i+1)={ t with mn:=if r1 then v else t.mn,mx:=if r2 then v else t.mx }):=(by show _=_;rw[HK.out];unfold lss;rw[HR1.out,HR2.out])
      obtain⟨k0,k1,k2,k3⟩:=row_four HI.out.co
      clear HK HLt h0 HT hl1 hl2 c0 c1 c2
      go_wp2_with fail
      have b0:Below (W.heap.size+1+1+1) wr wr:=Below.refl _ _
      have HN:Hid (∀X,Below (W.heap.size+1+1+1) wr X->(X.cell? ⟨W.heap.size,0,none⟩=some (.int .i64 cid)/\X.cell? ⟨W.heap.size,1,none⟩=some (.slice ra rs.length rc)/\X.cell? ⟨W.heap.size,2,none⟩=some (.slice da ds.length dc)/\X.cell? ⟨W.heap.size,3,none⟩=some (.slice (some ⟨b,o,none⟩) vs.length vc))/\(X.cell? ⟨W.heap.size+1+1,0,none⟩=some (.int .i64 t.e)/\X.cell? ⟨W.heap.size+1+1,1,none⟩=some (.int .i64 t.u)/\X.cell? ⟨W.heap.size+1+1,2,none⟩=some (.bool t.h)/\X.cell? ⟨W.heap.size+1+1,3,none⟩=some (.int .i64 t.mn.k)/\X.cell? ⟨W.heap.size+1+1,4,none⟩=some (.int .i64 t.mn.n)/\X.cell? ⟨W.heap.size+1+1,5,none⟩=some (.string t.mn.s)/\X.cell? ⟨W.heap.size+1+1,6,none⟩=some (.int .i64 t.mx.k)/\X.cell? ⟨W.heap.size+1+1,7,none⟩=some (.int .i64 t.mx.n)/\X.cell? ⟨W.heap.size+1+1,8,none⟩=some (.string t.mx.s))/\(X.cell? ⟨b,o+i*3,none⟩=some (.int .i64 v.k)/\X.cell? ⟨b,o+i*3+1,none⟩=some (.int .i64 v.n)/\X.cell? ⟨b,o+i*3+2,none⟩=some (.string v.s))/\Below (W.heap.size+1+1+1) wr X):=fun X hX=>⟨row_four ((HI.out.keep hX).co),(st_row (HI.out.keep hX).st).1,HCV.out _ (HI.out.keep hX).old,hX⟩
      have HLs:Hid (∀X,Below (W.heap.size+1+1+1) wr X->Calls Tryz.prog 80 #[.agg #[.int .i64 v.k,.int .i64 v.n,.string v.s],.agg #[.int .i64 t.mn.k,.int .i64 t.mn.n,.string t.mn.s]] X fun e w'=>e=.returned (.bool r1)/\Below (W.heap.size+1+1+1) wr w'):=fun X hX=>(lessOf_any v.k v.n v.s t.mn.k t.mn.n t.mn.s X hv0 hl1').mono fun _ _ h=>⟨by rw[←HR1.out];exact h.1,bel_next hX (lt_of_block HI.out.st) h.2⟩
      go_region_held3 (fun X=>(X.cell? ⟨W.heap.size,0,none⟩=some (.int .i64 cid)/\X.cell? ⟨W.heap.size,1,none⟩=some (.slice ra rs.length rc)/\X.cell? ⟨W.heap.size,2,none⟩=some (.slice da ds.length dc)/\X.cell? ⟨W.heap.size,3,none⟩=some (.slice (some ⟨b,o,none⟩) vs.length vc))/\(X.cell? ⟨W.heap.size+1+1,0,none⟩=some (.int .i64 t.e)/\X.cell? ⟨W.heap.size+1+1,1,none⟩=some (.int .i64 t.u)/\X.cell? ⟨W.heap.size+1+1,2,none⟩=some (.bool t.h)/\X.cell? ⟨W.heap.size+1+1,3,none⟩=some (.int .i64 t.mn.k)/\X.cell? ⟨W.heap.size+1+1,4,none⟩=some (.int .i64 t.mn.n)/\X.cell? ⟨W.heap.size+1+1,5,none⟩=some (.string t.mn.s)/\X.cell? ⟨W.heap.size+1+1,6,none⟩=some (.int .i64 t.mx.k)/\X.cell? ⟨W.heap.size+1+1,7,none⟩=some (.int .i64 t.mx.n)/\X.cell? ⟨W.heap.size+1+1,8,none⟩=some (.string t.mx.s))/\(X.cell? ⟨b,o+i*3,none⟩=some (.int .i64 v.k)/\X.cell? ⟨b,o+i*3+1,none⟩=some (.int .i64 v.n)/\X.cell? ⟨b,o+i*3+2,none⟩=some (.string v.s))/\Below (W.heap.size+1+1+1) wr X) (with_reducible refine HN.out _ ?_;repeat' (first|with_reducible assumption|with_reducible exact b0.drew|with_reducible exact b0|with_reducible refine Below.drew ?_|with_reducible exact Nat.le_refl _|with_reducible refine Below.setCell ?_ ?_ _|with_reducible refine Below.alloc ?_ ?_ _|with_reducible exact Below.size (by assumption)|(simp;done)|(simp;omega)|omega)) (first|(go_at_call 80;(with_reducible refine Calls.mono (HLs.out _ ?_) ?_);(repeat' (first|with_reducible assumption|with_reducible exact b0.drew|with_reducible exact b0|with_reducible refine Below.drew ?_|with_reducible refine Below.alloc ?_ ?_ _|with_reducible exact Below.size (by assumption)|with_reducible exact Nat.le_refl _));rintro e y1 ⟨rfl,hb_y1⟩))
      clear HN HLs b0 k0 k1 k2 k3
      have HI1:Hid _:=HI.out.keep hb_y1
      clear HI
      have cv1:=HCV.out _ HI1.out.old
      obtain⟨k0,k1,k2,k3⟩:=row_four HI1.out.co
      obtain⟨⟨s0,s1,s2,s3,s4,s5,s6,s7,s8⟩,s9⟩:=st_row HI1.out.st
      cases r1
      · go_wp2_with fail
        clear k0 k1 k2 k3 cv1 s0 s1 s2 s3 s4 s5 s6 s7 s8 s9
        obtain⟨t2,HT2⟩:∃t2:St,Hid (t=t2):=⟨_,rfl⟩
        obtain⟨wm,HWM⟩:∃w,Hid (y1=w):=⟨_,rfl⟩
        have HIm:Hid (RfI W ⟨cid,ra,rs,rc,da,ds,dc,some ⟨b,o,none⟩,vs,vc⟩ t2 wm):=(by show RfI _ _ _ _;rw[←HT2.out,←HWM.out];exact HI1.out)
        have HK3:Hid (refK ⟨cid,ra,rs,rc,da,ds,dc,some ⟨b,o,none⟩,vs,vc⟩ (i+1)={ t2 with mx:=if r2 then v else t2.mx }):=(by show _=_;rw[HK2.out,←HT2.out];rfl)
        have hl3:-9223372036854775808<=t2.mx.n:=by rw[←HT2.out];exact hl2'
        have HR3:Hid (vless t2.mx.k t2.mx.n t2.mx.s v.k v.n v.s=r2):=(by show _=_;rw[←HT2.out];exact HR2.out)
        rw[HWM.out]
        clear HT2 HWM HI1 hb_y1
        have b0:Below (W.heap.size+1+1+1) wm wm:=Below.refl _ _
        have HN:Hid (∀X,Below (W.heap.size+1+1+1) wm X->(X.cell? ⟨W.heap.size,0,none⟩=some (.int .i64 cid)/\X.cell? ⟨W.heap.size,1,none⟩=some (.slice ra rs.length rc)/\X.cell? ⟨W.heap.size,2,none⟩=some (.slice da ds.length dc)/\X.cell? ⟨W.heap.size,3,none⟩=some (.slice (some ⟨b,o,none⟩) vs.length vc))/\(X.cell? ⟨W.heap.size+1+1,0,none⟩=some (.int .i64 t2.e)/\X.cell? ⟨W.heap.size+1+1,1,none⟩=some (.int .i64 t2.u)/\X.cell? ⟨W.heap.size+1+1,2,none⟩=some (.bool t2.h)/\X.cell? ⟨W.heap.size+1+1,3,none⟩=some (.int .i64 t2.mn.k)/\X.cell? ⟨W.heap.size+1+1,4,none⟩=some (.int .i64 t2.mn.n)/\X.cell? ⟨W.heap.size+1+1,5,none⟩=some (.string t2.mn.s)/\X.cell? ⟨W.heap.size+1+1,6,none⟩=some (.int .i64 t2.mx.k)/\X.cell? ⟨W.heap.size+1+1,7,none⟩=some (.int .i64 t2.mx.n)/\X.cell? ⟨W.heap.size+1+1,8,none⟩=some (.string t2.mx.s))/\(X.cell? ⟨b,o+i*3,none⟩=some (.int .i64 v.k)/\X.cell? ⟨b,o+i*3+1,none⟩=some (.int .i64 v.n)/\X.cell? ⟨b,o+i*3+2,none⟩=some (.string v.s))/\Below (W.heap.size+1+1+1) wm X):=fun X hX=>⟨row_four ((HIm.out.keep hX).co),(st_row (HIm.out.keep hX).st).1,HCV.out _ (HIm.out.keep hX).old,hX⟩
        have HLs:Hid (∀X,Below (W.heap.size+1+1+1) wm X->Calls Tryz.prog 80 #[.agg #[.int .i64 t2.mx.k,.int .i64 t2.mx.n,.string t2.mx.s],.agg #[.int .i64 v.k,.int .i64 v.n,.string v.s]] X fun e w'=>e=.returned (.bool r2)/\Below (W.heap.size+1+1+1) wm w'):=fun X hX=>(lessOf_any t2.mx.k t2.mx.n t2.mx.s v.k v.n v.s X hl3 hv0).mono fun _ _ h=>⟨by rw[←HR3.out];exact h.1,bel_next hX (lt_of_block HIm.out.st) h.2⟩
        go_region_held3 (fun X=>(X.cell? ⟨W.heap.size,0,none⟩=some (.int .i64 cid)/\X.cell? ⟨W.heap.size,1,none⟩=some (.slice ra rs.length rc)/\X.cell? ⟨W.heap.size,2,none⟩=some (.slice da ds.length dc)/\X.cell? ⟨W.heap.size,3,none⟩=some (.slice (some ⟨b,o,none⟩) vs.length vc))/\(X.cell? ⟨W.heap.size+1+1,0,none⟩=some (.int .i64 t2.e)/\X.cell? ⟨W.heap.size+1+1,1,none⟩=some (.int .i64 t2.u)/\X.cell? ⟨W.heap.size+1+1,2,none⟩=some (.bool t2.h)/\X.cell? ⟨W.heap.size+1+1,3,none⟩=some (.int .i64 t2.mn.k)/\X.cell? ⟨W.heap.size+1+1,4,none⟩=some (.int .i64 t2.mn.n)/\X.cell? ⟨W.heap.size+1+1,5,none⟩=some (.string t2.mn.s)/\X.cell? ⟨W.heap.size+1+1,6,none⟩=some (.int .i64 t2.mx.k)/\X.cell? ⟨W.heap.size+1+1,7,none⟩=some (.int .i64 t2.mx.n)/\X.cell? ⟨W.heap.size+1+1,8,none⟩=some (.string t2.mx.s))/\(X.cell? ⟨b,o+i*3,none⟩=some (.int .i64 v.k)/\X.cell? ⟨b,o+i*3+1,none⟩=some (.int .i64 v.n)/\X.cell? ⟨b,o+i*3+2,none⟩=some (.string v.s))/\Below (W.heap.size+1+1+1) wm X) (with_reducible refine HN.out _ ?_;repeat' (first|with_reducible assumption|with_reducible exact b0.drew|with_reducible exact b0|with_reducible refine Below.drew ?_|with_reducible exact Nat.le_refl _|with_reducible refine Below.setCell ?_ ?_ _|with_reducible refine Below.alloc ?_ ?_ _|with_reducible exact Below.size (by assumption)|(simp;done)|(simp;omega)|omega)) (first|(go_at_call 80;(with_reducible refine Calls.mono (HLs.out _ ?_) ?_);(repeat' (first|with_reducible assumption|with_reducible exact b0.drew|with_reducible exact b0|with_reducible refine Below.drew ?_|with_reducible refine Below.alloc ?_ ?_ _|with_reducible exact Below.size (by assumption)|with_reducible exact Nat.le_refl _));rintro e y2 ⟨rfl,hb_y2⟩))
        have HI2:Hid _:=HIm.out.keep hb_y2
        clear HIm HN HLs b0 hb_y2 HR3 HR2 HR1 HK2
        have cv2:=HCV.out _ HI2.out.old
        obtain⟨k0,k1,k2,k3⟩:=row_four HI2.out.co
        obtain⟨⟨s0,s1,s2,s3,s4,s5,s6,s7,s8⟩,s9⟩:=st_row HI2.out.st
        cases r2
        · go_wp2
          go_roundw
          case rel=>exact⟨i+1,by omega,by go_num,by show RfI _ _ _ _;rw[HK3.out];exact HI2.out⟩
          case measure=>simp[intOf];omega
        · go_wp2
          go_roundw
          case rel=>exact⟨i+1,by omega,by go_num,by show RfI _ _ _ _;rw[HK3.out];exact HI2.out.setMx v⟩
          case measure=>simp[intOf];omega
      · go_wp2_with fail
        clear k0 k1 k2 k3 cv1 s0 s1 s2 s3 s4 s5 s6 s7 s8 s9
        obtain⟨t2,HT2⟩:∃t2:St,Hid ({ t with mn:=v }=t2):=⟨_,rfl⟩
        obtain⟨wm,HWM⟩:∃w,Hid (((y1.setCell ⟨W.heap.size+1+1,3,none⟩ (.int .i64 v.k)).setCell ⟨W.heap.size+1+1,4,none⟩ (.int .i64 v.n)).setCell ⟨W.heap.size+1+1,5,none⟩ (.string v.s)=w):=⟨_,rfl⟩
        have HIm:Hid (RfI W ⟨cid,ra,rs,rc,da,ds,dc,some ⟨b,o,none⟩,vs,vc⟩ t2 wm):=(by show RfI _ _ _ _;rw[←HT2.out,←HWM.out];exact HI1.out.setMn v)
        have HK3:Hid (refK ⟨cid,ra,rs,rc,da,ds,dc,some ⟨b,o,none⟩,vs,vc⟩ (i+1)={ t2 with mx:=if r2 then v else t2.mx }):=(by show _=_;rw[HK2.out,←HT2.out];rfl)
        have hl3:-9223372036854775808<=t2.mx.n:=by rw[←HT2.out];exact hl2'
        have HR3:Hid (vless t2.mx.k t2.mx.n t2.mx.s v.k v.n v.s=r2):=(by show _=_;rw[←HT2.out];exact HR2.out)
        rw[HWM.out]
        clear HT2 HWM HI1 hb_y1
        have b0:Below (W.heap.size+1+1+1) wm wm:=Below.refl _ _
        have HN:Hid (∀X,Below (W.heap.size+1+1+1) wm X->(X.cell? ⟨W.heap.size,0,none⟩=some (.int .i64 cid)/\X.cell? ⟨W.heap.size,1,none⟩=some (.slice ra rs.length rc)/\X.cell? ⟨W.heap.size,2,none⟩=some (.slice da ds.length dc)/\X.cell? ⟨W.heap.size,3,none⟩=some (.slice (some ⟨b,o,none⟩) vs.length vc))/\(X.cell? ⟨W.heap.size+1+1,0,none⟩=some (.int .i64 t2.e)/\X.cell? ⟨W.heap.size+1+1,1,none⟩=some (.int .i64 t2.u)/\X.cell? ⟨W.heap.size+1+1,2,none⟩=some (.bool t2.h)/\X.cell? ⟨W.heap.size+1+1,3,none⟩=some (.int .i64 t2.mn.k)/\X.cell? ⟨W.heap.size+1+1,4,none⟩=some (.int .i64 t2.mn.n)/\X.cell? ⟨W.heap.size+1+1,5,none⟩=some (.string t2.mn.s)/\X.cell? ⟨W.heap.size+1+1,6,none⟩=some (.int .i64 t2.mx.k)/\X.cell? ⟨W.heap.size+1+1,7,none⟩=some (.int .i64 t2.mx.n)/\X.cell? ⟨W.heap.size+1+1,8,none⟩=some (.string t2.mx.s))/\(X.cell? ⟨b,o+i*3,none⟩=some (.int .i64 v.k)/\X.cell? ⟨b,o+i*3+1,none⟩=some (.int .i64 v.n)/\X.cell? ⟨b,o+i*3+2,none⟩=some (.string v.s))/\Below (W.heap.size+1+1+1) wm X):=fun X hX=>⟨row_four ((HIm.out.keep hX).co),(st_row (HIm.out.keep hX).st).1,HCV.out _ (HIm.out.keep hX).old,hX⟩
        have HLs:Hid (∀X,Below (W.heap.size+1+1+1) wm X->Calls Tryz.prog 80 #[.agg #[.int .i64 t2.mx.k,.int .i64 t2.mx.n,.string t2.mx.s],.agg #[.int .i64 v.k,.int .i64 v.n,.string v.s]] X fun e w'=>e=.returned (.bool r2)/\Below (W.heap.size+1+1+1) wm w'):=fun X hX=>(lessOf_any t2.mx.k t2.mx.n t2.mx.s v.k v.n v.s X hl3 hv0).mono fun _ _ h=>⟨by rw[←HR3.out];exact h.1,bel_next hX (lt_of_block HIm.out.st) h.2⟩
        go_region_held3 (fun X=>(X.cell? ⟨W.heap.size,0,none⟩=some (.int .i64 cid)/\X.cell? ⟨W.heap.size,1,none⟩=some (.slice ra rs.length rc)/\X.cell? ⟨W.heap.size,2,none⟩=some (.slice da ds.length dc)/\X.cell? ⟨W.heap.size,3,none⟩=some (.slice (some ⟨b,o,none⟩) vs.length vc))/\(X.cell? ⟨W.heap.size+1+1,0,none⟩=some (.int .i64 t2.e)/\X.cell? ⟨W.heap.size+1+1,1,none⟩=some (.int .i64 t2.u)/\X.cell? ⟨W.heap.size+1+1,2,none⟩=some (.bool t2.h)/\X.cell? ⟨W.heap.size+1+1,3,none⟩=some (.int .i64 t2.mn.k)/\X.cell? ⟨W.heap.size+1+1,4,none⟩=some (.int .i64 t2.mn.n)/\X.cell? ⟨W.heap.size+1+1,5,none⟩=some (.string t2.mn.s)/\X.cell? ⟨W.heap.size+1+1,6,none⟩=some (.int .i64 t2.mx.k)/\X.cell? ⟨W.heap.size+1+1,7,none⟩=some (.int .i64 t2.mx.n)/\X.cell? ⟨W.heap.size+1+1,8,none⟩=some (.string t2.mx.s))/\(X.cell? ⟨b,o+i*3,none⟩=some (.int .i64 v.k)/\X.cell? ⟨b,o+i*3+1,none⟩=some (.int .i64 v.n)/\X.cell? ⟨b,o+i*3+2,none⟩=some (.string v.s))/\Below (W.heap.size+1+1+1) wm X) (with_reducible refine HN.out _ ?_;repeat' (first|with_reducible assumption|with_reducible exact b0.drew|with_reducible exact b0|with_reducible refine Below.drew ?_|with_reducible exact Nat.le_refl _|with_reducible refine Below.setCell ?_ ?_ _|with_reducible refine Below.alloc ?_ ?_ _|with_reducible exact Below.size (by assumption)|(simp;done)|(simp;omega)|omega)) (first|(go_at_call 80;(with_reducible refine Calls.mono (HLs.out _ ?_) ?_);(repeat' (first|with_reducible assumption|with_reducible exact b0.drew|with_reducible exact b0|with_reducible refine Below.drew ?_|with_reducible refine Below.alloc ?_ ?_ _|with_reducible exact Below.size (by assumption)|with_reducible exact Nat.le_refl _));rintro e y2 ⟨rfl,hb_y2⟩))
        have HI2:Hid _:=HIm.out.keep hb_y2
        clear HIm HN HLs b0 hb_y2 HR3 HR2 HR1 HK2
        have cv2:=HCV.out _ HI2.out.old
        obtain⟨k0,k1,k2,k3⟩:=row_four HI2.out.co
        obtain⟨⟨s0,s1,s2,s3,s4,s5,s6,s7,s8⟩,s9⟩:=st_row HI2.out.st
        cases r2
        · go_wp2
          go_roundw
          case rel=>exact⟨i+1,by omega,by go_num,by show RfI _ _ _ _;rw[HK3.out];exact HI2.out⟩
          case measure=>simp[intOf];omega
        · go_wp2
          go_roundw
          case rel=>exact⟨i+1,by omega,by go_num,by show RfI _ _ _ _;rw[HK3.out];exact HI2.out.setMx v⟩
          case measure=>simp[intOf];omega
  · obtain rfl:i=vs.length:=by omega
    rw[refK_end] at HI
    obtain⟨t,HT⟩:∃t,Hid (ofC ⟨cid,ra,rs,rc,da,ds,dc,va,vs,vc⟩=t):=⟨_,rfl⟩
    rw[HT.out] at HI
    obtain⟨k0,k1,k2,k3⟩:=row_four HI.out.co
    obtain⟨⟨s0,s1,s2,s3,s4,s5,s6,s7,s8⟩,s9⟩:=st_row HI.out.st
    obtain⟨z1,z2⟩:=row_nine HI.out.re
    go_wp2
    exact bodyPost_ret (v:=t.val) (results_cell_row Tryz.results42 _ _ (W.heap.size+1) 93 t.cs (0,0) _ rfl (set9_row HI.out.re _ _ _ _ _ _ _ _ _) Tryz.underlying93 rfl (by kernel_rfl)) rfl ⟨by rw[HT.out],set9_below HI.out.old (by omega) _ _ _ _ _ _ _ _ _⟩
theorem statsOfR_any (c:Cl)(W:World)(hn:c.rs.length<=1048576)(hv:c.vs.length<=1048576)(hat:c.At W)(hlo:∀v∈c.vs,v.Low) :
    Calls Tryz.prog 42 #[.agg #[.int .i64 c.id,.slice c.ra c.rs.length c.rc,.slice c.da c.ds.length c.dc,.slice c.va c.vs.length c.vc]] W fun e w'=>e=.returned (ofC c).val/\Below W.heap.size W w' :=
 statsOfR_x c.id c.ra c.rs c.rc c.da c.ds c.dc c.va c.vs c.vc W hn hv hat.v hlo
end Go.Proofs.YtoeiahdjamkdgaaGreatDoor
namespace Go.Proofs.YtoeiahdjamkdgaaGreatDoor
open Go.ChangeShapes Go.WideShapes Go.ChangeAt Go.RowKit
def sumV:List Vl->Nat
 | []=>0
 | v :: vs=>v.s.size+1+sumV vs
theorem sumV_bulk {H:Type}:∀(ts:List Vl) (l:List (DataW H)),ts.length=l.length->(∀j (h:j<ts.length) (h':j<l.length),ts[j].s.size+1<=Rows.uptoBulk l[j])->sumV ts<=Rows.uptoBulkAll l
 | [],[],_,_=>by simp[sumV]
 | [],_ :: _,h,_=>by simp at h
 | _ :: _,[],h,_=>by simp at h
 | t :: ts,d :: l,hl,h=>by
  have h0:=h 0 (by simp) (by simp)
  have ih:=sumV_bulk ts l (by simpa using hl) (fun j hj hj'=>h (j+1) (by simp;omega) (by simp;omega))
  simp only[List.getElem_cons_zero] at h0
  rw[sumV]
  simp only[Rows.uptoBulkAll]
  omega
theorem sumV_len:∀vs:List Vl,vs.length<=sumV vs
 | []=>Nat.le_refl _
 | v :: vs=>by have:=sumV_len vs;rw[sumV,List.length_cons];omega
theorem valB_cells {H:Type}{enc:TypeId × Value->H}{W:World}{base n:Nat}{sp:Nat->Bool}{held:Bool}{cs:List Value}{x:DataW H × List MemPlace}(h:DataW.trod enc Tryz.prog W base sp held n 46 cs=some x) :
    ∃v:Vl,cs=[.int .i64 v.k,.int .i64 v.n,.string v.s]/\v.In/\v.s.size+1<=Rows.uptoBulk x.1:=by
 obtain⟨xs,m,_,rfl,hl,hlen,hf⟩:=DataW.trod_struct Tryz.underlying46 h
 rw[Tryz.cellsV] at hl
 match cs,hl with
 | [c0,c1,c2],_ =>
  match xs,hlen with
  | [y0,y1,y2],_ =>
   have g0:=hf 0 _ rfl
   have g1:=hf 1 _ rfl
   have g2:=hf 2 _ rfl
   simp[Tryz.cellsI,Tryz.cellsI64,Tryz.cellsS] at g0 g1 g2
   obtain⟨k,e0,_,h0⟩:=DataW.trod_int Tryz.underlying3 g0
   obtain⟨n,e1,_,h1⟩:=DataW.trod_int Tryz.underlying2 g1
   obtain⟨s,e2,hy2,h2⟩:=DataW.trod_string Tryz.underlying9 g2
   simp at e0 e1 e2
   subst e0 e1 e2
   refine⟨⟨k,n,s⟩,rfl,⟨bounds_i64 h0,bounds_i64 h1,h2⟩,?_⟩
   have e1:Rows.uptoBulk y2.1=s.size+1:=by rw[hy2];simp[Rows.uptoBulk]
   simp only[Rows.uptoBulk,Rows.uptoBulkAll,List.map_cons,List.map_nil]
   omega
theorem intsB_cells {H:Type}{enc:TypeId × Value->H}{W:World}{n:Nat}{cs:List Value}{x:DataW H × List MemPlace}(hf:DataW.trod enc Tryz.prog W 0 (fun _=>true) true n 22 cs=some x) :
    ∃a c xs,cs=[.slice a (List.length xs) c]/\Lies W a (i64s xs)/\List.length xs+1<=Rows.uptoBulk x.1+1:=by
 rcases DataW.trod_slice Tryz.underlying22 hf with ⟨rfl,rfl⟩|⟨a,len,cap,elems,rest,m,rfl,rfl,rfl,_,hl,hm,hlen,hel,_,_⟩
 · exact⟨none,0,[],rfl,fun j hj=>absurd hj (by simp[i64s]),by simp⟩
 · rw[Tryz.cellsI] at hel
   have each:∀i,i<len->∃z:Int,W.cell? (a.add i)=some (.int .i64 z):=fun i hi=>by
    have h1:=hel i hi
    have h2:elems[i]? = some (elems[i]'(by omega)):=List.getElem?_eq_getElem (by omega)
    rw[h2] at h1
    obtain⟨cs',h3,h4⟩:=Option.bind_eq_some_iff.1 h1
    obtain⟨k,e0,_,_⟩:=DataW.trod_int Tryz.underlying3 h4
    subst e0
    obtain⟨_,_,hcell⟩:=World.cells?_some h3
    have e0:=hcell 0 (by omega)
    have z:(a.add (i*1)).add 0=a.add i:=by unfold Addr.add;simp
    rw[z] at e0
    exact⟨k,by simpa using e0⟩
   obtain⟨f,hfx⟩:=Deep.choose_lt each
   refine⟨some a,cap,(List.range len).map f,by simp,fun j hj=>?_,?_⟩
   · have hj':j<len:=by simpa [i64s] using hj
     have h0:=hfx j hj'
     obtain⟨b,off,spot⟩:=a
     have hspot:spot=none:=by
      have:=World.cell?_spot (hfx 0 (by omega))
      simpa [Addr.add] using this
     subst hspot
     rw[addr_add] at h0
     exact⟨b,off,rfl,by simpa [i64s] using h0⟩
   · have h1:=bulk_len (elems.map (·.1))
     rw[List.length_map,hlen] at h1
     simp only[Rows.uptoBulk]
     simp
     omega
theorem valsB_cells {H:Type}{enc:TypeId × Value->H}{W:World}{n:Nat}{cs:List Value}{x:DataW H × List MemPlace}(hf:DataW.trod enc Tryz.prog W 0 (fun _=>true) true n 25 cs=some x) :
    ∃a c vs,cs=[.slice a (List.length vs) c]/\LiesV W a vs/\(∀v∈vs,v.In)/\sumV vs<=Rows.uptoBulk x.1:=by
 rcases DataW.trod_slice Tryz.underlying25 hf with ⟨rfl,rfl⟩|⟨a,len,cap,elems,rest,m,rfl,rfl,rfl,_,hl,hm,hlen,hel,_,_⟩
 · exact⟨none,0,[],rfl,fun j hj=>absurd hj (by simp),fun v hv=>absurd hv (by simp),by simp[sumV]⟩
 · rw[Tryz.cellsV] at hel
   have each:∀i,i<len->∃v:Vl,(W.cell? (a.add (i*3))=some (.int .i64 v.k)/\W.cell? ((a.add (i*3)).add 1)=some (.int .i64 v.n)/\W.cell? ((a.add (i*3)).add 2)=some (.string v.s))/\v.In/\∀h:i<elems.length,v.s.size+1<=Rows.uptoBulk elems[i].1:=fun i hi=>by
    have h1:=hel i hi
    have h2:elems[i]? = some (elems[i]'(by omega)):=List.getElem?_eq_getElem (by omega)
    rw[h2] at h1
    obtain⟨cs',h3,h4⟩:=Option.bind_eq_some_iff.1 h1
    obtain⟨v,rfl,hin,hbk⟩:=valB_cells h4
    obtain⟨_,_,hcell⟩:=World.cells?_some h3
    have e0:=hcell 0 (by omega)
    have e1:=hcell 1 (by omega)
    have e2:=hcell 2 (by omega)
    have z:(a.add (i*3)).add 0=a.add (i*3):=by unfold Addr.add;simp
    rw[z] at e0
    exact⟨v,⟨by simpa using e0,by simpa using e1,by simpa using e2⟩,hin,fun _=>hbk⟩
   have:Inhabited Vl:=⟨⟨0,0,⟨#[]⟩⟩⟩
   obtain⟨f,hfx⟩:=Deep.choose_lt each
   refine⟨some a,cap,(List.range len).map f,by simp,fun j hj=>?_,fun v hv=>?_,?_⟩
   · have hj':j<len:=by simpa using hj
     obtain⟨⟨h0,h1,h2⟩,_⟩:=hfx j hj'
     obtain⟨b,off,spot⟩:=a
     have hspot:spot=none:=by
      have:=World.cell?_spot (hfx 0 (by omega)).1.1
      simpa [Addr.add] using this
     subst hspot
     rw[addr_plus] at h0 h1 h2
     rw[addr_plus] at h1 h2
     refine⟨b,off,rfl,?_,?_,?_⟩
     · simpa using h0
     · simpa using h1
     · simpa using h2
   · obtain⟨i,hi,rfl⟩:=List.mem_map.1 hv
     exact (hfx i (by simpa using hi)).2.1
   · have h1 := sumV_bulk ((List.range len).map f) (elems.map (·.1)) (by simp [hlen]) (fun j hj hj' => by
       have hj2:j<len:=by simpa using hj
       simpa using (hfx j hj2).2.2 (by omega))
     simp only[Rows.uptoBulk]
     omega
def Cl.bulk (c:Cl):Nat:=c.rs.length+c.ds.length+sumV c.vs
theorem open_columnB {H:Type}{enc:TypeId × Value->H}{W:World}{base:Nat}{v:Value}{d:DataW H}{ps:List MemPlace}(hv:Value.okWide Tryz.prog W .any base 27 v)(h:DataW.Trod enc Tryz.prog W 0 (fun _=>true) true 27 v d ps) :
    ∃c:Cl,v=c.val/\c.At W/\(∀v∈c.vs,v.In)/\c.bulk<=Rows.uptoBulk d:=by
 obtain⟨cs,rfl,_⟩:=okWide_struct Tryz.underlying27 hv
 obtain⟨fuel,hf0⟩:=h
 obtain⟨xs,m,_,hdp,hl,hlen,hf⟩:=DataW.trod_struct Tryz.underlying27 hf0
 obtain⟨rfl,rfl⟩:=Prod.mk.inj hdp
 rw[Tryz.cellsC] at hl
 obtain⟨cl,hcl⟩:∃cl,(Value.agg cs).cells.toList=cl:=⟨_,rfl⟩
 have hcs:cs.toList=cl:=hcl
 rw[hcl] at hl hf
 match cl,hl,hcs,hf with
 | [c0,c1,c2,c3],_,hcs,hf =>
  match xs,hlen,hf with
  | [y0,y1,y2,y3],_,hf =>
   have g0:=hf 0 _ rfl
   have g1:=hf 1 _ rfl
   have g2:=hf 2 _ rfl
   have g3:=hf 3 _ rfl
   simp[Tryz.cellsI,Tryz.cellsIs,Tryz.cellsVs] at g0 g1 g2 g3
   obtain⟨k,e0,_,_⟩:=DataW.trod_int Tryz.underlying3 g0
   obtain⟨ra,rc,rs,e1,l1,m1⟩:=intsB_cells g1
   obtain⟨da,dc,ds,e2,l2,m2⟩:=intsB_cells g2
   obtain⟨va,vc,vs,e3,l3,i3,m3⟩:=valsB_cells g3
   simp at e0 e1 e2 e3
   subst e0 e1 e2 e3
   refine⟨⟨k,ra,rs,rc,da,ds,dc,va,vs,vc⟩,?_,⟨l1,l2,l3⟩,i3,?_⟩
   · show Value.agg cs=Value.agg _
     congr 1
     exact Array.toList_inj.1 hcs
   · simp only[Rows.uptoBulk,Rows.uptoBulkAll,List.map_cons,List.map_nil,Cl.bulk]
     omega
end Go.Proofs.YtoeiahdjamkdgaaGreatDoor
namespace Go.Proofs.YtoeiahdjamkdgaaGreatDoor
open Go.RowKit
def letV:List Vl->Nat
 | []=>0
 | v :: vs=>v.s.size+letV vs
theorem letV_sum:∀vs:List Vl,letV vs+vs.length=sumV vs
 | []=>rfl
 | v :: vs=>by have:=letV_sum vs;rw[sumV,letV,List.length_cons];omega
theorem letV_app:∀(xs ys:List Vl),letV (xs++ys)=letV xs+letV ys
 | [],ys=>by simp[letV]
 | x :: xs,ys=>by rw[List.cons_append,letV,letV,letV_app xs ys];omega
theorem letV_succ {vs:List Vl}{i:Nat}(h:i<vs.length):letV (vs.take (i+1))=letV (vs.take i)+vs[i].s.size:=by
 rw[List.take_succ_eq_append_getElem h,letV_app]
 simp[letV]
theorem letV_le (vs:List Vl)(i:Nat):letV (vs.take i)<=letV vs:=by
 have h:=letV_app (vs.take i) (vs.drop i)
 rw[List.take_append_drop] at h
 omega
def slimB (c:Cl)(pn:Nat):Bool:=decide (c.bulk<=2000) && decide (pn<=100)
theorem slim3_any (lid kind mr md:Int)(pa:Option Addr)(pn pc:Nat)(c:Cl)(hn:c.bulk<=1048576)(W:World)(hat:c.At W) :
    Calls Tryz.prog 5 #[.agg #[.int .i64 lid,.int .i64 kind,.int .i64 mr,.int .i64 md,.slice pa pn pc],.agg #[.int .i64 c.id,.slice c.ra c.rs.length c.rc,.slice c.da c.ds.length c.dc,.slice c.va c.vs.length c.vc]] W fun e w'=>e=.returned (.bool (slimB c pn))/\Below W.heap.size W w':=by
 obtain⟨w0,HW0,HX,HY,HB⟩:=two_boxes W #[.int .i64 lid,.int .i64 kind,.int .i64 mr,.int .i64 md,.slice pa pn pc] #[.int .i64 c.id,.slice c.ra c.rs.length c.rc,.slice c.da c.ds.length c.dc,.slice c.va c.vs.length c.vc] 24 27
 have HL:Hid (LiesV w0 c.va c.vs):=(hat.keep HB.out).v
 have hls:=letV_sum c.vs
 have hcb:c.bulk=c.rs.length+c.ds.length+sumV c.vs:=rfl
 rw[←hls] at hcb
 have HCB:Hid _:=hcb
 have hbb:c.rs.length+c.ds.length+(letV c.vs+c.vs.length)<=1048576:=by rw[←hcb];exact hn
 clear hat hls hcb hn
 obtain⟨⟨p0,p1,p2,p3,p4⟩,_⟩:=row_five HX.out
 obtain⟨k0,k1,k2,k3⟩:=row_four HY.out
 obtain⟨rn,HRN⟩:∃n,Hid (c.rs.length=n):=⟨_,rfl⟩
 obtain⟨dn,HDN⟩:∃n,Hid (c.ds.length=n):=⟨_,rfl⟩
 rw[HRN.out] at HW0 HY k1 hbb HCB ⊢
 rw[HDN.out] at HW0 HY k2 hbb HCB ⊢
 have hw1:IntKind.i64.wrap ((rn:Int)+(dn:Int))=((rn+dn:Nat):Int):=by rw[IntKind.wrap_i64];omega
 have hw2:IntKind.i64.wrap (((rn+dn:Nat):Int)+(c.vs.length:Int))=((rn+dn+c.vs.length:Nat):Int):=by rw[IntKind.wrap_i64];omega
 go_enter Tryz.func5,Tryz.ntmps5
 go_upto_region 1 with fail
 rw[HW0.out]
 go_wp2
 go_loop [5,6] (fun y x=>∃i:Nat,i<=c.vs.length/\x=.int .i64 i/\y=.int .i64 ((rn+dn+c.vs.length+letV (c.vs.take i):Nat):Int)) (fun _ x=>c.vs.length-(intOf x).toNat)
 case atStart=>exact⟨0,Nat.zero_le _,rfl,rfl⟩
 case round =>
  obtain⟨i,hi,rfl,rfl⟩:=hrel
  have hle:=letV_le c.vs i
  obtain⟨q,HQ⟩:∃q,Hid (letV (c.vs.take i)=q):=⟨_,rfl⟩
  by_cases hlt:i<c.vs.length
  · have HN:Hid (letV (c.vs.take (i+1))=q+c.vs[i].s.size):=(by show _=_;rw[letV_succ hlt,HQ.out])
    have hle2:=letV_le c.vs (i+1)
    rw[HN.out] at hle2
    rw[HQ.out] at hle ⊢
    obtain⟨b,o,hva,c0,c1,c2⟩:=HL.out i hlt
    rw[hva] at k3 ⊢
    generalize c.vs[i]=v at *
    clear hva
    go_wp2
    go_round
    case rel=>exact⟨i+1,by omega,by go_num,by rw[HN.out];go_num⟩
    case measure=>simp[intOf];omega
  · obtain rfl:i=c.vs.length:=by omega
    have HE:Hid (c.bulk=rn+dn+c.vs.length+q):=(by have h:=HCB.out;have h2:=HQ.out;rw[List.take_length] at h2;show _=_;rw[h,h2];omega)
    rw[HQ.out]
    by_cases h1:rn+dn+c.vs.length+q<=2000
    · have q1:decide ((rn:Int)+(dn:Int)+(c.vs.length:Int)+(q:Int)<=2000)=true:=by rw[decide_eq_true_iff];omega
      have HF:Hid (slimB c pn=decide ((pn:Int)<=100)):=(by
       show _=_
       unfold slimB
       rw[HE.out,decide_eq_true h1,Bool.true_and,decide_eq_decide]
       omega)
      clear h1 hbb hle hw1 hw2
      go_wp2
      go_ret
      exact⟨by rw[HF.out];try simp,HB.out⟩
    · have q1:decide ((rn:Int)+(dn:Int)+(c.vs.length:Int)+(q:Int)<=2000)=false:=by rw[decide_eq_false_iff_not];omega
      have HF:Hid (slimB c pn=false):=(by
       show _=_
       unfold slimB
       rw[HE.out,decide_eq_false h1,Bool.false_and])
      clear h1 hbb hle hw1 hw2
      go_wp2
      go_ret
      exact⟨by rw[HF.out];try simp,HB.out⟩
theorem ecT {w:World}{A:Nat->Addr}(h:Errs w A)(i:Nat)(hi:i<8):w.cell? ⟨errG i,0,none⟩=some (errV (A i)):=(h.at_ i hi).var
structure LmI (W:World) (a b:St) (X:World):Prop where
 fst:X.heap[W.heap.size]? = some (.cells a.cs 93 (0,0))
 snd:X.heap[W.heap.size+1]? = some (.cells b.cs 93 (0,0))
 old:Below W.heap.size W X
theorem LmI.keep {W:World}{a b:St}{X w':World}(h:LmI W a b X)(hb:Below X.heap.size X w'):LmI W a b w' :=
 ⟨blk_keep hb h.fst,blk_keep hb h.snd,h.old.trans (hb.mono h.old.size)⟩
theorem LmI.fin {W:World}{a b:St}{w1 x3:World}{g:Nat}(h:LmI W a b w1)(hB:Below w1.heap.size w1 x3)(hz:x3.heap[g]? = some (.cells #[.int .i64 0,.int .i64 0,.bool false,.int .i64 0,.int .i64 0,.string ⟨#[]⟩,.int .i64 0,.int .i64 0,.string ⟨#[]⟩] 51 (0,0)))(hg:w1.heap.size<=g)(s:St) :
    W.heap.size+1<g/\LmI W a b (set9 x3 g (.int .i64 s.e) (.int .i64 s.u) (.bool s.h) (.int .i64 s.mn.k) (.int .i64 s.mn.n) (.string s.mn.s) (.int .i64 s.mx.k) (.int .i64 s.mx.n) (.string s.mx.s))/\(set9 x3 g (.int .i64 s.e) (.int .i64 s.u) (.bool s.h) (.int .i64 s.mn.k) (.int .i64 s.mn.n) (.string s.mn.s) (.int .i64 s.mx.k) (.int .i64 s.mx.n) (.string s.mx.s)).heap[g]? = some (.cells s.cs 51 (0,0)) :=
 ⟨Nat.lt_of_lt_of_le (lt_of_block h.snd) hg,h.keep (set9_below hB hg _ _ _ _ _ _ _ _ _),set9_row hz _ _ _ _ _ _ _ _ _⟩
theorem OfR.same {N:Nat}{lid kind mr md:Int}{c k:Cl}{sv kv:Value}{s:St}{ev:Value}{w:World}(hs:SameC c k)(h:OfR N lid kind mr md k sv kv s ev w):OfR N lid kind mr md c sv kv s ev w:=by
 obtain⟨cid,cra,crs,crc,cda,cds,cdc,cva,cvs,cvc⟩:=c
 obtain⟨kid,kra,krs,krc,kda,kds,kdc,kva,kvs,kvc⟩:=k
 have e1:kid=cid:=hs.id
 have e2:krs=crs:=hs.rs
 have e3:kds=cds:=hs.ds
 have e4:kvs=cvs:=hs.vs
 subst e1 e2 e3 e4
 exact h
theorem OfR.off {N:Nat}{lid kind mr md:Int}{c:Cl}{sv kv:Value}{s:St}{ev:Value}{w:World}(h:OfR N lid kind mr md c sv kv s ev w){g j:Nat}{v:Value}(hg:g<N):OfR N lid kind mr md c sv kv s ev (w.setCell ⟨g,j,none⟩ v):=by
 rcases h with h|⟨h0,p,hp,h1,h2,q,h3,h4,h5,h6,h7⟩|h
 · exact .inl h
 · exact .inr (.inl ⟨h0,p,hp,h1,h2,q,h3,h4,h5,by rw[cell_off (by omega)];exact h6,by rw[cell_off (by omega)];exact h7⟩)
 · exact .inr (.inr h)
theorem OfR.keep {N:Nat}{lid kind mr md:Int}{c:Cl}{sv kv:Value}{s:St}{ev:Value}{w w':World}(h:OfR N lid kind mr md c sv kv s ev w)(hb:Below w.heap.size w w'):OfR N lid kind mr md c sv kv s ev w':=by
 rcases h with h|⟨h0,p,hp,h1,h2,q,h3,h4,h5,h6,h7⟩|h
 · exact .inl h
 · exact .inr (.inl ⟨h0,p,hp,h1,h2,q,h3,h4,h5,(hb.cell (World.block_lt_of_cell? w _ h6)).trans h6,(hb.cell (World.block_lt_of_cell? w _ h7)).trans h7⟩)
 · exact .inr (.inr h)
theorem firstT {α:Type}{P:α->Bool}{vs:List α}{p q:Nat}(hp:p<vs.length)(hq:q<vs.length)(h1:P vs[p]=true)(h2:P vs[q]=true)(f1:∀j (h:j<vs.length),j<p->P vs[j]=false)(f2:∀j (h:j<vs.length),j<q->P vs[j]=false):p=q:=by
 rcases Nat.lt_trichotomy p q with h|h|h
 · rw[f2 p hp h] at h1;cases h1
 · exact h
 · rw[f1 q hq h] at h2;cases h2
end Go.Proofs.YtoeiahdjamkdgaaGreatDoor
