/-
  What is known of values, as nine cells; boxes of it.
  (stats.Stats).around and kind, walked.
  stats.Of, walked.
  Chunks: where records end, how many entries a page has, and a column in two parts: mathematics, without the program.
  Columns that stay where they lie while other rows grow; marks in a row of the call's own.
  What the boxes of a law over a leaf and a column hold.
  stats.Merge, walked.
  The reference's MergedOf; statsOf.
  The least and the greatest of values.
  chunk.recordEnd, chunk.pageSize: exact.
  chunk.pageSize: exact.
  The reference's PartOf.
-/
import Derived.Test.YtoeiahdjamkdgaaGreatDoorWBColO
set_option maxRecDepth 100000
set_option maxHeartbeats 12800000
namespace Go.Proofs.YtoeiahdjamkdgaaGreatDoor
open Go.RowKit
def Vl.val (v:Vl):Value:=.agg #[.int .i64 v.k,.int .i64 v.n,.string v.s]
def Vl.zero:Vl:=⟨0,0,⟨#[]⟩⟩
structure St where
 e:Int
 u:Int
 h:Bool
 mn:Vl
 mx:Vl
def St.cs (s:St):Array Value:=#[.int .i64 s.e,.int .i64 s.u,.bool s.h,.int .i64 s.mn.k,.int .i64 s.mn.n,.string s.mn.s,.int .i64 s.mx.k,.int .i64 s.mx.n,.string s.mx.s]
def St.val (s:St):Value:=.agg s.cs
def St.zero:St:=⟨0,0,false,Vl.zero,Vl.zero⟩
def Vl.Low (v:Vl):Prop:=-9223372036854775808<=v.n
def St.Low (s:St):Prop:=s.mn.Low/\s.mx.Low
def lss (a b:Vl):Bool:=vless a.k a.n a.s b.k b.n b.s
def St.around (s:St)(l g:Vl):St:=⟨s.e,s.u,true,if !s.h || lss l s.mn then l else s.mn,if !s.h || lss s.mx g then g else s.mx⟩
theorem row_nine {w:World}{g t:Nat}{x0 x1 x2 x3 x4 x5 x6 x7 x8:Value}(h:w.heap[g]? = some (.cells #[x0,x1,x2,x3,x4,x5,x6,x7,x8] t (0,0))) :
    (w.cell? ⟨g,0,none⟩=some x0/\w.cell? ⟨g,1,none⟩=some x1/\w.cell? ⟨g,2,none⟩=some x2/\w.cell? ⟨g,3,none⟩=some x3/\w.cell? ⟨g,4,none⟩=some x4/\w.cell? ⟨g,5,none⟩=some x5/\w.cell? ⟨g,6,none⟩=some x6/\w.cell? ⟨g,7,none⟩=some x7/\w.cell? ⟨g,8,none⟩=some x8) ∧
    w.frozen? ⟨g,0,none⟩=false/\w.frozen? ⟨g,1,none⟩=false/\w.frozen? ⟨g,2,none⟩=false/\w.frozen? ⟨g,3,none⟩=false/\w.frozen? ⟨g,4,none⟩=false/\w.frozen? ⟨g,5,none⟩=false/\w.frozen? ⟨g,6,none⟩=false/\w.frozen? ⟨g,7,none⟩=false/\w.frozen? ⟨g,8,none⟩=false:=by
 refine⟨⟨?_,?_,?_,?_,?_,?_,?_,?_,?_⟩,?_,?_,?_,?_,?_,?_,?_,?_,?_⟩<;>first|simp[World.frozen?,h]|simp[World.cell?,h]
theorem st_row {w:World}{g:Nat}{s:St}{t:Nat}(h:w.heap[g]? = some (.cells s.cs t (0,0))) :
    (w.cell? ⟨g,0,none⟩=some (.int .i64 s.e)/\w.cell? ⟨g,1,none⟩=some (.int .i64 s.u)/\w.cell? ⟨g,2,none⟩=some (.bool s.h)/\w.cell? ⟨g,3,none⟩=some (.int .i64 s.mn.k)/\w.cell? ⟨g,4,none⟩=some (.int .i64 s.mn.n)/\w.cell? ⟨g,5,none⟩=some (.string s.mn.s)/\w.cell? ⟨g,6,none⟩=some (.int .i64 s.mx.k)/\w.cell? ⟨g,7,none⟩=some (.int .i64 s.mx.n)/\w.cell? ⟨g,8,none⟩=some (.string s.mx.s)) ∧
    w.frozen? ⟨g,0,none⟩=false/\w.frozen? ⟨g,1,none⟩=false/\w.frozen? ⟨g,2,none⟩=false/\w.frozen? ⟨g,3,none⟩=false/\w.frozen? ⟨g,4,none⟩=false/\w.frozen? ⟨g,5,none⟩=false/\w.frozen? ⟨g,6,none⟩=false/\w.frozen? ⟨g,7,none⟩=false/\w.frozen? ⟨g,8,none⟩=false:=row_nine h
def set9 (w:World)(g:Nat)(y0 y1 y2 y3 y4 y5 y6 y7 y8:Value):World:=((((((((w.setCell ⟨g,0,none⟩ y0).setCell ⟨g,1,none⟩ y1).setCell ⟨g,2,none⟩ y2).setCell ⟨g,3,none⟩ y3).setCell ⟨g,4,none⟩ y4).setCell ⟨g,5,none⟩ y5).setCell ⟨g,6,none⟩ y6).setCell ⟨g,7,none⟩ y7).setCell ⟨g,8,none⟩ y8
theorem set9_row {w:World}{g t:Nat}{x0 x1 x2 x3 x4 x5 x6 x7 x8:Value}(h:w.heap[g]? = some (.cells #[x0,x1,x2,x3,x4,x5,x6,x7,x8] t (0,0)))(y0 y1 y2 y3 y4 y5 y6 y7 y8:Value) :
    (set9 w g y0 y1 y2 y3 y4 y5 y6 y7 y8).heap[g]? = some (.cells #[y0,y1,y2,y3,y4,y5,y6,y7,y8] t (0,0)):=by
 have h0:(w.setCell ⟨g,0,none⟩ y0).heap[g]? = some (.cells #[y0,x1,x2,x3,x4,x5,x6,x7,x8] t (0,0)):=row_setCell h y0
 have h1:((w.setCell ⟨g,0,none⟩ y0).setCell ⟨g,1,none⟩ y1).heap[g]? = some (.cells #[y0,y1,x2,x3,x4,x5,x6,x7,x8] t (0,0)):=row_setCell h0 y1
 have h2:(((w.setCell ⟨g,0,none⟩ y0).setCell ⟨g,1,none⟩ y1).setCell ⟨g,2,none⟩ y2).heap[g]? = some (.cells #[y0,y1,y2,x3,x4,x5,x6,x7,x8] t (0,0)):=row_setCell h1 y2
 have h3:((((w.setCell ⟨g,0,none⟩ y0).setCell ⟨g,1,none⟩ y1).setCell ⟨g,2,none⟩ y2).setCell ⟨g,3,none⟩ y3).heap[g]? = some (.cells #[y0,y1,y2,y3,x4,x5,x6,x7,x8] t (0,0)):=row_setCell h2 y3
 have h4:(((((w.setCell ⟨g,0,none⟩ y0).setCell ⟨g,1,none⟩ y1).setCell ⟨g,2,none⟩ y2).setCell ⟨g,3,none⟩ y3).setCell ⟨g,4,none⟩ y4).heap[g]? = some (.cells #[y0,y1,y2,y3,y4,x5,x6,x7,x8] t (0,0)):=row_setCell h3 y4
 have h5:((((((w.setCell ⟨g,0,none⟩ y0).setCell ⟨g,1,none⟩ y1).setCell ⟨g,2,none⟩ y2).setCell ⟨g,3,none⟩ y3).setCell ⟨g,4,none⟩ y4).setCell ⟨g,5,none⟩ y5).heap[g]? = some (.cells #[y0,y1,y2,y3,y4,y5,x6,x7,x8] t (0,0)):=row_setCell h4 y5
 have h6:(((((((w.setCell ⟨g,0,none⟩ y0).setCell ⟨g,1,none⟩ y1).setCell ⟨g,2,none⟩ y2).setCell ⟨g,3,none⟩ y3).setCell ⟨g,4,none⟩ y4).setCell ⟨g,5,none⟩ y5).setCell ⟨g,6,none⟩ y6).heap[g]? = some (.cells #[y0,y1,y2,y3,y4,y5,y6,x7,x8] t (0,0)):=row_setCell h5 y6
 have h7:((((((((w.setCell ⟨g,0,none⟩ y0).setCell ⟨g,1,none⟩ y1).setCell ⟨g,2,none⟩ y2).setCell ⟨g,3,none⟩ y3).setCell ⟨g,4,none⟩ y4).setCell ⟨g,5,none⟩ y5).setCell ⟨g,6,none⟩ y6).setCell ⟨g,7,none⟩ y7).heap[g]? = some (.cells #[y0,y1,y2,y3,y4,y5,y6,y7,x8] t (0,0)):=row_setCell h6 y7
 have h8:(((((((((w.setCell ⟨g,0,none⟩ y0).setCell ⟨g,1,none⟩ y1).setCell ⟨g,2,none⟩ y2).setCell ⟨g,3,none⟩ y3).setCell ⟨g,4,none⟩ y4).setCell ⟨g,5,none⟩ y5).setCell ⟨g,6,none⟩ y6).setCell ⟨g,7,none⟩ y7).setCell ⟨g,8,none⟩ y8).heap[g]? = some (.cells #[y0,y1,y2,y3,y4,y5,y6,y7,y8] t (0,0)):=row_setCell h7 y8
 exact h8
theorem set9_below {B g:Nat}{w X:World}(h:Below B w X)(hg:B<=g)(y0 y1 y2 y3 y4 y5 y6 y7 y8:Value):Below B w (set9 X g y0 y1 y2 y3 y4 y5 y6 y7 y8) :=
 ((((((((h.setCell hg _).setCell hg _).setCell hg _).setCell hg _).setCell hg _).setCell hg _).setCell hg _).setCell hg _).setCell hg _
structure ArI (W:World) (s:St) (l g:Vl) (X:World):Prop where
 st:X.heap[W.heap.size]? = some (.cells s.cs 51 (0,0))
 lo:X.heap[W.heap.size+1]? = some (.cells #[.int .i64 l.k,.int .i64 l.n,.string l.s] 46 (0,0))
 hi:X.heap[W.heap.size+1+1]? = some (.cells #[.int .i64 g.k,.int .i64 g.n,.string g.s] 46 (0,0))
 re:X.heap[W.heap.size+1+1+1]? = some (.cells #[.int .i64 0,.int .i64 0,.bool false,.int .i64 0,.int .i64 0,.string ⟨#[]⟩,.int .i64 0,.int .i64 0,.string ⟨#[]⟩] 51 (0,0))
 old:Below W.heap.size W X
theorem ArI.keep {W:World}{s:St}{l g:Vl}{X w':World}(h:ArI W s l g X)(hb:Below X.heap.size X w'):ArI W s l g w' :=
 ⟨blk_keep hb h.st,blk_keep hb h.lo,blk_keep hb h.hi,blk_keep hb h.re,h.old.trans (hb.mono h.old.size)⟩
theorem ArI.put {W:World}{s s':St}{l g:Vl}{X w':World}(h:ArI W s l g X)(h0:w'.heap[W.heap.size]? = some (.cells s'.cs 51 (0,0)))(hr:∀b o,b≠W.heap.size->X.heap[b]? = some o->w'.heap[b]? = some o)(hb:Below W.heap.size X w'):ArI W s' l g w' :=
 ⟨h0,hr _ _ (by omega) h.lo,hr _ _ (by omega) h.hi,hr _ _ (by omega) h.re,h.old.trans hb⟩
theorem ArI.setMn {W:World}{s:St}{l g:Vl}{X:World}(h:ArI W s l g X):ArI W { s with mn:=l } l g (((X.setCell ⟨W.heap.size,3,none⟩ (.int .i64 l.k)).setCell ⟨W.heap.size,4,none⟩ (.int .i64 l.n)).setCell ⟨W.heap.size,5,none⟩ (.string l.s)) :=
 h.put (row_setCell (row_setCell (row_setCell h.st _) _) _) (fun b o hn hx=>blk_other (blk_other (blk_other hx hn _) hn _) hn _) ((((Below.refl _ _).setCell (by simp) _).setCell (by simp) _).setCell (by simp) _)
theorem ArI.setMx {W:World}{s:St}{l g:Vl}{X:World}(h:ArI W s l g X):ArI W { s with mx:=g } l g (((X.setCell ⟨W.heap.size,6,none⟩ (.int .i64 g.k)).setCell ⟨W.heap.size,7,none⟩ (.int .i64 g.n)).setCell ⟨W.heap.size,8,none⟩ (.string g.s)) :=
 h.put (row_setCell (row_setCell (row_setCell h.st _) _) _) (fun b o hn hx=>blk_other (blk_other (blk_other hx hn _) hn _) hn _) ((((Below.refl _ _).setCell (by simp) _).setCell (by simp) _).setCell (by simp) _)
theorem ArI.setH {W:World}{s:St}{l g:Vl}{X:World}(h:ArI W s l g X):ArI W { s with h:=true } l g (X.setCell ⟨W.heap.size,2,none⟩ (.bool true)) :=
 h.put (row_setCell h.st _) (fun b o hn hx=>blk_other hx hn _) ((Below.refl _ _).setCell (by simp) _)
theorem around_any (s:St)(l g:Vl)(W:World)(hs:s.Low)(hl:l.Low)(hg:g.Low) :
    Calls Tryz.prog 51 #[s.val,l.val,g.val] W fun e w'=>e=.returned (s.around l g).val/\Below W.heap.size W w':=by
 obtain⟨w0,HW0,H1,H2,H3,H4,HB⟩:=four_boxes W s.cs #[.int .i64 l.k,.int .i64 l.n,.string l.s] #[.int .i64 g.k,.int .i64 g.n,.string g.s] #[.int .i64 0,.int .i64 0,.bool false,.int .i64 0,.int .i64 0,.string ⟨#[]⟩,.int .i64 0,.int .i64 0,.string ⟨#[]⟩] 51 46 46 51
 have HI:Hid (ArI W s l g w0):=⟨H1.out,H2.out,H3.out,H4.out,HB.out⟩
 clear H1 H2 H3 H4 HB
 obtain⟨h1,h2⟩:=hs
 unfold Vl.Low at h1 h2 hl hg
 have HE:Hid (∀(t:St) (X:World),ArI W t l g X->(set9 X (W.heap.size+1+1+1) (.int .i64 t.e) (.int .i64 t.u) (.bool t.h) (.int .i64 t.mn.k) (.int .i64 t.mn.n) (.string t.mn.s) (.int .i64 t.mx.k) (.int .i64 t.mx.n) (.string t.mx.s)).heap[W.heap.size+1+1+1]? = some (.cells t.cs 51 (0,0))/\Below W.heap.size W (set9 X (W.heap.size+1+1+1) (.int .i64 t.e) (.int .i64 t.u) (.bool t.h) (.int .i64 t.mn.k) (.int .i64 t.mn.n) (.string t.mn.s) (.int .i64 t.mx.k) (.int .i64 t.mx.n) (.string t.mx.s))):=fun t X hX =>
  ⟨set9_row hX.re _ _ _ _ _ _ _ _ _,set9_below hX.old (by omega) _ _ _ _ _ _ _ _ _⟩
 unfold St.cs at HW0
 obtain⟨se,su,sh,sm,sx⟩:=s
 show Calls Tryz.prog 51 #[.agg #[.int .i64 se,.int .i64 su,.bool sh,.int .i64 sm.k,.int .i64 sm.n,.string sm.s,.int .i64 sx.k,.int .i64 sx.n,.string sx.s],.agg #[.int .i64 l.k,.int .i64 l.n,.string l.s],.agg #[.int .i64 g.k,.int .i64 g.n,.string g.s]] W fun e w'=>e=.returned (St.around ⟨se,su,sh,sm,sx⟩ l g).val/\Below W.heap.size W w'
 go_enter Tryz.func51,Tryz.ntmps51
 obtain⟨z1,z2⟩:=row_nine HI.out.re
 cases sh
 · obtain⟨p1,p2⟩:=st_row HI.out.st
   obtain⟨a0,a1,a2⟩:=row_three HI.out.lo
   obtain⟨b0,b1,b2⟩:=row_three HI.out.hi
   go_upto_region 1 with fail
   rw[HW0.out]
   go_wp2
   have ht:(⟨se,su,true,l,g⟩:St)=St.around ⟨se,su,false,sm,sx⟩ l g:=rfl
   rw[←ht]
   have h:=HE.out _ _ (ArI.setH (ArI.setMx (ArI.setMn HI.out)))
   exact bodyPost_ret (v:=.agg (St.cs ⟨se,su,true,l,g⟩)) (results_cell_row Tryz.results51 _ _ (W.heap.size+1+1+1) 51 (St.cs ⟨se,su,true,l,g⟩) (0,0) _ rfl h.1 Tryz.underlying51 rfl (by kernel_rfl)) rfl ⟨rfl,h.2⟩
 · go_wp2_with fail
   rw[HW0.out]
   refine (less_any l.k l.n l.s sm.k sm.n sm.s w0 hl h1).mono ?_
   obtain⟨b1,HB1⟩:∃b,Hid (vless l.k l.n l.s sm.k sm.n sm.s=b):=⟨_,rfl⟩
   obtain⟨b2,HB2⟩:∃b,Hid (vless sx.k sx.n sx.s g.k g.n g.s=b):=⟨_,rfl⟩
   rw[HB1.out]
   rintro e w1 ⟨rfl,hb1⟩
   have HI1:Hid _:=HI.out.keep hb1
   clear HI HW0 z1 z2 hb1
   obtain⟨p1,p2⟩:=st_row HI1.out.st
   obtain⟨a0,a1,a2⟩:=row_three HI1.out.lo
   obtain⟨d0,d1,d2⟩:=row_three HI1.out.hi
   obtain⟨z1,z2⟩:=row_nine HI1.out.re
   have HT:Hid (∀m x,(if b1=true then l else sm)=m->(if b2=true then g else sx)=x->(⟨se,su,true,m,x⟩:St)=St.around ⟨se,su,true,sm,sx⟩ l g):=fun m x hm hx=>by
    subst hm hx
    simp[St.around,lss,HB1.out,HB2.out]
   clear HB1
   cases b1
   all_goals
    go_wp2_with fail
    refine (less_any sx.k sx.n sx.s g.k g.n g.s _ h2 hg).mono ?_
    rw[HB2.out]
    rintro e w2 ⟨rfl,hb2⟩
   · have HI2:Hid _:=HI1.out.keep hb2
     clear HI1 p1 p2 a0 a1 a2 d0 d1 d2 z1 z2 hb2 HB2
     obtain⟨p1,p2⟩:=st_row HI2.out.st
     obtain⟨a0,a1,a2⟩:=row_three HI2.out.lo
     obtain⟨d0,d1,d2⟩:=row_three HI2.out.hi
     obtain⟨z1,z2⟩:=row_nine HI2.out.re
     cases b2
     · go_wp2
       rw[←HT.out _ _ rfl rfl]
       have h:=HE.out _ _ (ArI.setH HI2.out)
       exact bodyPost_ret (v:=.agg (St.cs ⟨se,su,true,sm,sx⟩)) (results_cell_row Tryz.results51 _ _ (W.heap.size+1+1+1) 51 (St.cs ⟨se,su,true,sm,sx⟩) (0,0) _ rfl h.1 Tryz.underlying51 rfl (by kernel_rfl)) rfl ⟨rfl,h.2⟩
     · go_wp2
       rw[←HT.out _ _ rfl rfl]
       have h:=HE.out _ _ (ArI.setH (ArI.setMx HI2.out))
       exact bodyPost_ret (v:=.agg (St.cs ⟨se,su,true,sm,g⟩)) (results_cell_row Tryz.results51 _ _ (W.heap.size+1+1+1) 51 (St.cs ⟨se,su,true,sm,g⟩) (0,0) _ rfl h.1 Tryz.underlying51 rfl (by kernel_rfl)) rfl ⟨rfl,h.2⟩
   · have HI2:Hid _:=(ArI.setMn HI1.out).keep hb2
     clear HI1 p1 p2 a0 a1 a2 d0 d1 d2 z1 z2 hb2 HB2
     obtain⟨p1,p2⟩:=st_row HI2.out.st
     obtain⟨a0,a1,a2⟩:=row_three HI2.out.lo
     obtain⟨d0,d1,d2⟩:=row_three HI2.out.hi
     obtain⟨z1,z2⟩:=row_nine HI2.out.re
     cases b2
     · go_wp2
       rw[←HT.out _ _ rfl rfl]
       have h:=HE.out _ _ (ArI.setH HI2.out)
       exact bodyPost_ret (v:=.agg (St.cs ⟨se,su,true,l,sx⟩)) (results_cell_row Tryz.results51 _ _ (W.heap.size+1+1+1) 51 (St.cs ⟨se,su,true,l,sx⟩) (0,0) _ rfl h.1 Tryz.underlying51 rfl (by kernel_rfl)) rfl ⟨rfl,h.2⟩
     · go_wp2
       rw[←HT.out _ _ rfl rfl]
       have h:=HE.out _ _ (ArI.setH (ArI.setMx HI2.out))
       exact bodyPost_ret (v:=.agg (St.cs ⟨se,su,true,l,g⟩)) (results_cell_row Tryz.results51 _ _ (W.heap.size+1+1+1) 51 (St.cs ⟨se,su,true,l,g⟩) (0,0) _ rfl h.1 Tryz.underlying51 rfl (by kernel_rfl)) rfl ⟨rfl,h.2⟩
theorem around_x (s:St)(l g:Vl)(W:World)(hs:s.Low)(hl:l.Low)(hg:g.Low) :
    Calls Tryz.prog 51 #[.agg #[.int .i64 s.e,.int .i64 s.u,.bool s.h,.int .i64 s.mn.k,.int .i64 s.mn.n,.string s.mn.s,.int .i64 s.mx.k,.int .i64 s.mx.n,.string s.mx.s],.agg #[.int .i64 l.k,.int .i64 l.n,.string l.s],.agg #[.int .i64 g.k,.int .i64 g.n,.string g.s]] W fun e w'=>(∃t:St,Hid (t=s.around l g)/\e=.returned (.agg #[.int .i64 t.e,.int .i64 t.u,.bool t.h,.int .i64 t.mn.k,.int .i64 t.mn.n,.string t.mn.s,.int .i64 t.mx.k,.int .i64 t.mx.n,.string t.mx.s]))/\Below W.heap.size W w' :=
 (around_any s l g W hs hl hg).mono fun _ _ h=>⟨⟨s.around l g,rfl,h.1⟩,h.2⟩
theorem kindS_any (s:St)(W:World):Calls Tryz.prog 145 #[s.val] W fun e w'=>e=.returned (.int .i64 s.mn.k)/\Below W.heap.size W w':=by
 unfold St.val St.cs
 go_enter Tryz.func145,Tryz.ntmps145
 go_wp2
 go_ret
 exact⟨rfl,(Below.refl _ _).alloc (Nat.le_refl _) _⟩
def zCl:Cl:=⟨0,none,[],0,none,[],0,none,[],0⟩
def PaR (N:Nat)(lid kind mr md:Int)(c:Cl)(sv kv:Value)(k:Cl)(ev:Value)(w:World):Prop :=
 ((isLfB kind mr md && fitB lid mr md c.id c.rs c.ds c.vs.length)=false/\k=zCl/\ev=sv) ∨
 ((isLfB kind mr md && fitB lid mr md c.id c.rs c.ds c.vs.length)=true/\(∃p:Nat,∃hp:p<c.vs.length,badV kind c.vs[p]=true/\(∀j (h:j<c.vs.length),j<p->badV kind c.vs[j]=false)/\∃q,N<=q/\k=zCl/\ev=.iface 83 (.pointer (some ⟨q,0,none⟩))/\w.cell? ⟨q,0,none⟩=some (.int .i64 p)/\w.cell? ⟨q,1,none⟩=some kv)) ∨
 (GoodC lid kind mr md c/\ev=.nilIface/\k.At w/\k.Fr N/\k.rs=c.rs/\k.ds=c.ds/\k.vs=c.vs)
theorem PaR.off {N:Nat}{lid kind mr md:Int}{c:Cl}{sv kv:Value}{k:Cl}{ev:Value}{w:World}(h:PaR N lid kind mr md c sv kv k ev w){g j:Nat}{v:Value}(hg:g<N):PaR N lid kind mr md c sv kv k ev (w.setCell ⟨g,j,none⟩ v):=by
 rcases h with h|⟨h0,p,hp,h1,h2,q,h3,h4,h5,h6,h7⟩|⟨h1,h2,h3,h4,h5⟩
 · exact .inl h
 · exact .inr (.inl ⟨h0,p,hp,h1,h2,q,h3,h4,h5,by rw[cell_off (by omega)];exact h6,by rw[cell_off (by omega)];exact h7⟩)
 · exact .inr (.inr ⟨h1,h2,h3.off h4 hg,h4,h5⟩)
theorem PaR.keep {N:Nat}{lid kind mr md:Int}{c:Cl}{sv kv:Value}{k:Cl}{ev:Value}{w w':World}(h:PaR N lid kind mr md c sv kv k ev w)(hb:Below w.heap.size w w'):PaR N lid kind mr md c sv kv k ev w':=by
 rcases h with h|⟨h0,p,hp,h1,h2,q,h3,h4,h5,h6,h7⟩|⟨h1,h2,h3,h4,h5⟩
 · exact .inl h
 · exact .inr (.inl ⟨h0,p,hp,h1,h2,q,h3,h4,h5,(hb.cell (World.block_lt_of_cell? w _ h6)).trans h6,(hb.cell (World.block_lt_of_cell? w _ h7)).trans h7⟩)
 · exact .inr (.inr ⟨h1,h2,h3.keep hb,h4,h5⟩)
theorem PaR.low {N M:Nat}{lid kind mr md:Int}{c:Cl}{sv kv:Value}{k:Cl}{ev:Value}{w:World}(h:PaR N lid kind mr md c sv kv k ev w)(hm:M<=N):PaR M lid kind mr md c sv kv k ev w:=by
 rcases h with h|⟨h0,p,hp,h1,h2,q,h3,h4⟩|⟨h1,h2,h3,h4,h5⟩
 · exact .inl h
 · exact .inr (.inl ⟨h0,p,hp,h1,h2,q,Nat.le_trans hm h3,h4⟩)
 · exact .inr (.inr ⟨h1,h2,h3,h4.low hm,h5⟩)
theorem stAt_zero {rs:List Int}{a:Nat}(hh:headB rs=false)(h:StAt rs 0 a):a=0:=by
 rcases Nat.eq_zero_or_pos a with h0|h0
 · exact h0
 · exfalso
   have h1:=h.2.1 0 h0
   have hl:=h.1
   match rs,hh,h1,hl with
   | [],_,_,hl=>simp at hl;omega
   | x :: xs,hh,h1,_ =>
    have hx:x=0:=by unfold headB at hh;simpa using hh
    subst hx
    simp[cntE] at h1
theorem stAt_all {rs:List Int}{b:Nat}(h:StAt rs (cntE 0 rs:Nat) b):b=rs.length:=by
 rcases Nat.lt_or_ge b rs.length with h0|h0
 · exfalso
   have h1:=h.2.2 h0
   have h2:=cntE_all 0 rs (b+1)
   omega
 · have:=h.1;omega
theorem cutL_all {α:Type}(l:List α)(n:Nat)(h:n=l.length):cutL l 0 n=l:=by subst h;simp[cutL]
theorem part_all (lid kind mr md:Int)(pa:Option Addr)(pn pc:Nat)(c:Cl)(W:World)(st kt bt:TypeId)(sp kp bp:Value)
    (hn:c.rs.length<=1048576) (hn2:c.ds.length<=1048576) (hv:c.vs.length<=1048576) (hcr:c.rs.length<=c.rc) (hcd:c.ds.length<=c.dc) (hcv:c.vs.length<=c.vc)
    (hs:W.cell? ⟨0,0,none⟩=some (.iface st sp)) (hk:W.cell? ⟨3,0,none⟩=some (.iface kt kp)) (hbd:W.cell? ⟨1,0,none⟩=some (.iface bt bp)) (hat:c.At W) :
    Calls Tryz.prog 33 #[leafV lid kind mr md pa pn pc,c.val,.int .i64 0,.int .i64 (cntE 0 c.rs:Nat)] W fun e w'=>(∃(k:Cl) (ev:Value),e=.returned (.tuple #[.agg #[.int .i64 k.id,.slice k.ra k.rs.length k.rc,.slice k.da k.ds.length k.dc,.slice k.va k.vs.length k.vc],ev])/\PaR W.heap.size lid kind mr md c (.iface st sp) (.iface kt kp) k ev w')/\Below W.heap.size W w':=by
 refine (part_any lid kind mr md 0 (cntE 0 c.rs:Nat) pa pn pc c W st kt bt sp kp bp hn hn2 hv hcr hcd hcv hs hk hbd hat).mono ?_
 rintro e w' ⟨h,hb⟩
 refine⟨?_,hb⟩
 rcases h with (⟨h1,rfl⟩|⟨h1,p,hp,h2,h3,q,h4,rfl,h5,h6⟩)|⟨_,h,_⟩|⟨hg,_,k,a,b,rfl,hk1,hk2,ha,hb2,_,e1,e2,e3⟩
 · exact⟨zCl,_,rfl,.inl ⟨h1,rfl,rfl⟩⟩
 · exact⟨zCl,_,rfl,.inr (.inl ⟨h1,p,hp,h2,h3,q,h4,rfl,rfl,h5,h6⟩)⟩
 · exact absurd (⟨by omega,by omega,by omega⟩) h
 · have hf:=hg.1
   rw[Bool.and_eq_true,fitB_iff] at hf
   obtain⟨_,_,f2,f3,_,_,f6⟩:=hf
   obtain rfl:=stAt_zero f3 ha
   obtain rfl:=stAt_all hb2
   refine⟨k,.nilIface,rfl,.inr (.inr ⟨hg,rfl,hk1,hk2,?_,?_,?_⟩)⟩
   · rw[e1,cutL_all _ _ rfl]
   · rw[e2,cutL_all _ _ f2]
   · rw[e3,f2,List.take_length,List.take_zero,show cntE md []=0 from rfl,cutL_all _ _ f6.symm]
def ofC (c:Cl):St:=c.vs.foldl (fun s v=>s.around v v) ⟨(c.rs.length:Nat),(c.rs.length:Int)-(c.vs.length:Nat),false,Vl.zero,Vl.zero⟩
def OfR (N:Nat)(lid kind mr md:Int)(c:Cl)(sv kv:Value)(s:St)(ev:Value)(w:World):Prop :=
 ((isLfB kind mr md && fitB lid mr md c.id c.rs c.ds c.vs.length)=false/\s=St.zero/\ev=sv) ∨
 ((isLfB kind mr md && fitB lid mr md c.id c.rs c.ds c.vs.length)=true/\(∃p:Nat,∃hp:p<c.vs.length,badV kind c.vs[p]=true/\(∀j (h:j<c.vs.length),j<p->badV kind c.vs[j]=false)/\∃q,N<=q/\s=St.zero/\ev=.iface 83 (.pointer (some ⟨q,0,none⟩))/\w.cell? ⟨q,0,none⟩=some (.int .i64 p)/\w.cell? ⟨q,1,none⟩=some kv)) ∨
 (GoodC lid kind mr md c/\ev=.nilIface/\s=ofC c)
structure OfI (W:World) (lid kind mr md:Int) (pa:Option Addr) (pn pc:Nat) (c:Cl) (X:World):Prop where
 lf:X.heap[W.heap.size]? = some (.cells #[.int .i64 lid,.int .i64 kind,.int .i64 mr,.int .i64 md,.slice pa pn pc] 39 (0,0))
 co:X.heap[W.heap.size+1]? = some (.cells #[.int .i64 c.id,.slice c.ra c.rs.length c.rc,.slice c.da c.ds.length c.dc,.slice c.va c.vs.length c.vc] 27 (0,0))
 re:X.heap[W.heap.size+1+1]? = some (.cells #[.int .i64 0,.int .i64 0,.bool false,.int .i64 0,.int .i64 0,.string ⟨#[]⟩,.int .i64 0,.int .i64 0,.string ⟨#[]⟩] 51 (0,0))
 old:Below W.heap.size W X
theorem OfI.keep {W:World}{lid kind mr md:Int}{pa:Option Addr}{pn pc:Nat}{c:Cl}{X w':World}(h:OfI W lid kind mr md pa pn pc c X)(hb:Below X.heap.size X w'):OfI W lid kind mr md pa pn pc c w' :=
 ⟨blk_keep hb h.lf,blk_keep hb h.co,blk_keep hb h.re,h.old.trans (hb.mono h.old.size)⟩
theorem OfI.put {W:World}{lid kind mr md:Int}{pa:Option Addr}{pn pc:Nat}{c:Cl}{X:World}(h:OfI W lid kind mr md pa pn pc c X)(k:Cl):OfI W lid kind mr md pa pn pc k ((((X.setCell ⟨W.heap.size+1,0,none⟩ (.int .i64 k.id)).setCell ⟨W.heap.size+1,1,none⟩ (.slice k.ra k.rs.length k.rc)).setCell ⟨W.heap.size+1,2,none⟩ (.slice k.da k.ds.length k.dc)).setCell ⟨W.heap.size+1,3,none⟩ (.slice k.va k.vs.length k.vc)) :=
 ⟨blk_other (blk_other (blk_other (blk_other h.lf (by omega) _) (by omega) _) (by omega) _) (by omega) _,row_setCell (row_setCell (row_setCell (row_setCell h.co _) _) _) _,blk_other (blk_other (blk_other (blk_other h.re (by omega) _) (by omega) _) (by omega) _) (by omega) _,(((h.old.setCell (by simp) _).setCell (by simp) _).setCell (by simp) _).setCell (by simp) _⟩
def ofK (c:Cl)(i:Nat):St:=(c.vs.take i).foldl (fun s v=>s.around v v) ⟨(c.rs.length:Nat),(c.rs.length:Int)-(c.vs.length:Nat),false,Vl.zero,Vl.zero⟩
theorem ofK_succ (c:Cl){i:Nat}(h:i<c.vs.length):ofK c (i+1)=(ofK c i).around c.vs[i] c.vs[i]:=by
 unfold ofK
 rw[List.take_succ_eq_append_getElem h,List.foldl_append]
 rfl
theorem Vl.zero_low:Vl.zero.Low:=by unfold Vl.zero Vl.Low;simp
theorem St.Low.around {s:St}{l g:Vl}(h:s.Low)(hl:l.Low)(hg:g.Low):(s.around l g).Low:=by
 unfold St.around
 refine⟨?_,?_⟩
 · show Vl.Low (if _ then l else s.mn)
   split
   · exact hl
   · exact h.1
 · show Vl.Low (if _ then g else s.mx)
   split
   · exact hg
   · exact h.2
theorem ofK_low (c:Cl)(h:∀v∈c.vs,v.Low):∀i,i<=c.vs.length->(ofK c i).Low
 | 0,_=>⟨Vl.zero_low,Vl.zero_low⟩
 | i+1,hi=>by
  rw[ofK_succ c hi]
  have hx:=h c.vs[i] (List.getElem_mem _)
  exact (ofK_low c h i (by omega)).around hx hx
theorem of_any (lid kind mr md:Int)(pa:Option Addr)(pn pc:Nat)(c:Cl)(W:World)(st kt bt:TypeId)(sp kp bp:Value)
    (hn:c.rs.length<=1048576) (hn2:c.ds.length<=1048576) (hv:c.vs.length<=1048576) (hcr:c.rs.length<=c.rc) (hcd:c.ds.length<=c.dc) (hcv:c.vs.length<=c.vc)
    (hs:W.cell? ⟨0,0,none⟩=some (.iface st sp)) (hk:W.cell? ⟨3,0,none⟩=some (.iface kt kp)) (hbd:W.cell? ⟨1,0,none⟩=some (.iface bt bp)) (hat:c.At W) (hlo:∀v∈c.vs,v.Low) :
    Calls Tryz.prog 31 #[leafV lid kind mr md pa pn pc,c.val] W fun e w'=>(∃(s:St) (ev:Value),e=.returned (.tuple #[s.val,ev])/\OfR W.heap.size lid kind mr md c (.iface st sp) (.iface kt kp) s ev w')/\Below W.heap.size W w':=by
 unfold leafV Cl.val colV
 obtain⟨w0,HW0,HX,HY,HZ,HB⟩:=three_boxes W #[.int .i64 lid,.int .i64 kind,.int .i64 mr,.int .i64 md,.slice pa pn pc] #[.int .i64 c.id,.slice c.ra c.rs.length c.rc,.slice c.da c.ds.length c.dc,.slice c.va c.vs.length c.vc] #[.int .i64 0,.int .i64 0,.bool false,.int .i64 0,.int .i64 0,.string ⟨#[]⟩,.int .i64 0,.int .i64 0,.string ⟨#[]⟩] 39 27 51
 have HI0:Hid (OfI W lid kind mr md pa pn pc c w0):=⟨HX.out,HY.out,HZ.out,HB.out⟩
 have HCt:Hid (∀X,Below W.heap.size W X->Calls Tryz.prog 32 #[.agg #[.int .i64 c.id,.slice c.ra c.rs.length c.rc,.slice c.da c.ds.length c.dc,.slice c.va c.vs.length c.vc]] X fun e w'=>e=.returned (.int .i64 (cntE 0 c.rs:Nat))/\Below X.heap.size X w'):=fun X hX=>count_any c.id c.ra c.rs c.rc c.da c.ds.length c.dc c.va c.vs.length c.vc hn X (hat.keep hX).r
 have HPt:Hid (∀X,Below W.heap.size W X->Calls Tryz.prog 33 #[.agg #[.int .i64 lid,.int .i64 kind,.int .i64 mr,.int .i64 md,.slice pa pn pc],.agg #[.int .i64 c.id,.slice c.ra c.rs.length c.rc,.slice c.da c.ds.length c.dc,.slice c.va c.vs.length c.vc],.int .i64 0,.int .i64 (cntE 0 c.rs:Nat)] X fun e w'=>(∃(k:Cl) (ev:Value),e=.returned (.tuple #[.agg #[.int .i64 k.id,.slice k.ra k.rs.length k.rc,.slice k.da k.ds.length k.dc,.slice k.va k.vs.length k.vc],ev])/\PaR X.heap.size lid kind mr md c (.iface st sp) (.iface kt kp) k ev w')/\Below X.heap.size X w'):=fun X hX=>part_all lid kind mr md pa pn pc c X st kt bt sp kp bp hn hn2 hv hcr hcd hcv (ckB hs hX) (ckB hk hX) (ckB hbd hX) (hat.keep hX)
 have HLO:Hid _:=hlo
 clear hlo hat hs hk hbd HX HY HZ HB hcr hcd hcv
 go_enter Tryz.func31,Tryz.ntmps31
 go_upto_region 1 with fail
 rw[HW0.out]
 clear HW0
 obtain⟨⟨p0,p1,p2,p3,p4⟩,_⟩:=row_five HI0.out.lf
 obtain⟨k0,k1,k2,k3⟩:=row_four HI0.out.co
 obtain⟨m0,m1,m2,m3⟩:=row_fourA HI0.out.co
 go_cut [6] (fun x wx=>∃(k:Cl),Hid (OfI W lid kind mr md pa pn pc k wx)/\Hid (PaR W.heap.size lid kind mr md c (.iface st sp) (.iface kt kp) k x wx))
 case first =>
  have hbx:Below w0.heap.size w0 w0.drew:=(Below.refl _ _).drew
  have hW0:Below W.heap.size W w0.drew:=HI0.out.old.drew
  go_region_law (first
   | (go_simp;go_at_call 32;(with_reducible refine Calls.mono (HCt.out _ hW0) ?_);rintro e w1 ⟨rfl,hb1⟩;have HI1:Hid _:=HI0.out.keep (hbx.trans hb1);have hW1:Below W.heap.size W w1:=HI1.out.old;clear p0 p1 p2 p3 p4 k0 k1 k2 k3 m0 m1 m2 m3 hb1;obtain⟨⟨p0,p1,p2,p3,p4⟩,_⟩:=row_five HI1.out.lf;obtain⟨k0,k1,k2,k3⟩:=row_four HI1.out.co;obtain⟨m0,m1,m2,m3⟩:=row_fourA HI1.out.co)
   | (go_simp;go_at_call 33;(with_reducible refine Calls.mono (HPt.out _ hW1) ?_);rintro e w2 ⟨⟨⟨kid,kra,krs,krc,kda,kds,kdc,kva,kvs,kvc⟩,ev,rfl,hpr⟩,hb2⟩;have HI2:Hid _:=HI1.out.keep hb2;have HPR:Hid (PaR w1.heap.size lid kind mr md c (.iface st sp) (.iface kt kp) ⟨kid,kra,krs,krc,kda,kds,kdc,kva,kvs,kvc⟩ ev w2):=hpr;clear p0 p1 p2 p3 p4 k0 k1 k2 k3 m0 m1 m2 m3 hb2 hpr;obtain⟨k0,k1,k2,k3⟩:=row_four HI2.out.co;obtain⟨m0,m1,m2,m3⟩:=row_fourA HI2.out.co))
  all_goals
   go_wp2
   go_meet
   have hlt:W.heap.size+1<w1.heap.size:=lt_of_block HI1.out.co
   exact⟨⟨kid,kra,krs,krc,kda,kds,kdc,kva,kvs,kvc⟩,OfI.put HI2.out _,((((HPR.out.off hlt).off hlt).off hlt).off hlt).low (by omega)⟩
 case rest =>
  obtain⟨k,HI,HPR⟩:=hcut
  rename Value=>ev
  rename World=>wx
  clear HI0 HCt HPt p0 p1 p2 p3 p4 k0 k1 k2 k3 m0 m1 m2 m3
  obtain⟨z1,z2⟩:=row_nine HI.out.re
  obtain⟨k0,k1,k2,k3⟩:=row_four HI.out.co
  have HPR2:Hid _:=HPR
  rcases HPR.out with ⟨h1,h2,h3⟩|⟨h0,p,hp,h1,h2,q,h3,h4,h5,h6,h7⟩|⟨h1,h2,h3,h4,h5,h6,h7⟩
  · subst h3
    have HG:Hid _:=h1
    clear h1 h2 HPR HPR2
    go_wp2
    exact bodyPost_ret (v:=.tuple #[St.zero.val,.iface st sp]) (results_cR Tryz.results31 _ _ (W.heap.size+1+1) 51 #[.int .i64 0,.int .i64 0,.bool false,.int .i64 0,.int .i64 0,.string ⟨#[]⟩,.int .i64 0,.int .i64 0,.string ⟨#[]⟩] (0,0) _ (.iface st sp) rfl rfl (set9_row HI.out.re _ _ _ _ _ _ _ _ _) Tryz.underlying51 rfl (by kernel_rfl)) rfl ⟨⟨St.zero,_,rfl,.inl ⟨HG.out,rfl,rfl⟩⟩,set9_below HI.out.old (by omega) _ _ _ _ _ _ _ _ _⟩
  · subst h5
    have HG:Hid _:=h0
    have H1:Hid _:=h1
    have H2:Hid _:=h2
    have H3:Hid _:=h3
    have H6:Hid _:=h6
    have H7:Hid _:=h7
    have HQ:Hid (q≠W.heap.size+1+1):=(fun e=>by
     subst e
     have hz:=(row_nine HI.out.re).1.2.1
     rw[h7] at hz
     cases hz)
    clear h0 h1 h2 h3 h4 h6 h7 HPR HPR2
    go_wp2
    have hoff:∀(X:World) (o j:Nat) (v:Value),(X.setCell ⟨W.heap.size+1+1,j,none⟩ v).cell? ⟨q,o,none⟩=X.cell? ⟨q,o,none⟩:=fun X o j v=>cell_off HQ.out
    exact bodyPost_ret (v:=.tuple #[St.zero.val,.iface 83 (.pointer (some ⟨q,0,none⟩))]) (results_cR Tryz.results31 _ _ (W.heap.size+1+1) 51 #[.int .i64 0,.int .i64 0,.bool false,.int .i64 0,.int .i64 0,.string ⟨#[]⟩,.int .i64 0,.int .i64 0,.string ⟨#[]⟩] (0,0) _ (.iface 83 (.pointer (some ⟨q,0,none⟩))) rfl rfl (set9_row HI.out.re _ _ _ _ _ _ _ _ _) Tryz.underlying51 rfl (by kernel_rfl)) rfl ⟨⟨St.zero,_,rfl,.inr (.inl ⟨HG.out,p,hp,H1.out,H2.out,q,H3.out,rfl,rfl,by rw[hoff,hoff,hoff,hoff,hoff,hoff,hoff,hoff,hoff];exact H6.out,by rw[hoff,hoff,hoff,hoff,hoff,hoff,hoff,hoff,hoff];exact H7.out⟩)⟩,set9_below HI.out.old (by omega) _ _ _ _ _ _ _ _ _⟩
  · subst h2
    obtain⟨kid,kra,krs,krc,kda,kds,kdc,kva,kvs,kvc⟩:=k
    have HG:Hid _:=h1
    have h8:krs=c.rs:=h5
    have h9:kvs=c.vs:=h7
    have h10:kds=c.ds:=h6
    subst h8 h9 h10
    have HAV:Hid (LiesV wx kva c.vs):=h3.v
    clear h1 h3 h4 h5 h6 h7 HPR HPR2
    have hwr:IntKind.i64.wrap ((c.rs.length:Int)-(c.vs.length:Int))=(c.rs.length:Int)-(c.vs.length:Int):=by rw[IntKind.wrap_i64];omega
    go_upto_region 5 with fail
    obtain⟨wy,HWY⟩:∃w,Hid (wx.alloc (.cells #[.int .i64 (c.rs.length:Nat),.int .i64 ((c.rs.length:Int)-(c.vs.length:Int)),.bool false,.int .i64 0,.int .i64 0,.string ⟨#[]⟩,.int .i64 0,.int .i64 0,.string ⟨#[]⟩] 51)=w):=⟨_,rfl⟩
    have HBZ:Hid (Below wx.heap.size wx wy):=(by show Below _ _ _;rw[←HWY.out];exact (Below.refl _ _).alloc (Nat.le_refl _) _)
    have HSY:Hid (wy.heap[wx.heap.size]? = some (.cells (ofK c 0).cs 51 (0,0))):=(by show _=_;rw[←HWY.out];exact heap_alloc_new wx _)
    rw[HWY.out]
    have HII:Hid (∀X,Below wx.heap.size wx X->OfI W lid kind mr md pa pn pc ⟨kid,kra,c.rs,krc,kda,c.ds,kdc,kva,c.vs,kvc⟩ X/\LiesV X kva c.vs):=fun X hX=>⟨HI.out.keep hX,HAV.out.keep hX⟩
    have HGX:Hid (W.heap.size+1+1<wx.heap.size):=lt_of_block HI.out.re
    clear HWY HI HAV k0 k1 k2 k3 z1 z2 hwr
    generalize wx.heap.size=g at *
    obtain⟨k0,k1,k2,k3⟩:=row_four (HII.out _ HBZ.out).1.co
    go_wp2
    go_loopw [36] (fun x wr=>∃i:Nat,i<=c.vs.length/\x=.int .i64 i/\Hid (Below g wx wr)/\Hid (wr.heap[g]? = some (.cells (ofK c i).cs 51 (0,0)))) (fun x _=>c.vs.length-(intOf x).toNat)
    case atStart=>exact⟨0,Nat.zero_le _,rfl,HBZ,HSY⟩
    case round =>
     obtain⟨i,hi,rfl,HBW,HS⟩:=hrel
     clear HBZ HSY k0 k1 k2 k3
     have HI:Hid _:=(HII.out _ HBW.out).1
     by_cases hlt:i<c.vs.length
     · obtain⟨b,o,rfl,c0,c1,c2⟩:=(HII.out _ HBW.out).2 i hlt
       have HK:Hid (ofK c (i+1)=(ofK c i).around c.vs[i] c.vs[i]):=ofK_succ c hlt
       have HL:Hid ((ofK c i).Low):=ofK_low c HLO.out i hi
       have HV:Hid (c.vs[i].Low):=HLO.out _ (List.getElem_mem _)
       generalize c.vs[i]=v at *
       obtain⟨s,HSs⟩:∃s,Hid (ofK c i=s):=⟨_,rfl⟩
       rw[HSs.out] at HK HL HS
       clear HSs
       have HB1:Hid (Below wr.heap.size wr (wr.alloc (.cells #[.int .i64 v.k,.int .i64 v.n,.string v.s] 46))):=(Below.refl _ _).alloc (Nat.le_refl _) _
       have HS1:Hid _:=blk_keep HB1.out HS.out
       obtain⟨⟨s0,s1,s2,s3,s4,s5,s6,s7,s8⟩,_⟩:=st_row HS1.out
       go_wp2_with fail
       refine (around_x s v v _ HL.out HV.out HV.out).mono ?_
       rintro e w2 ⟨⟨t,HT,rfl⟩,hb2⟩
       have HB2:Hid (Below wr.heap.size wr w2):=HB1.out.trans (hb2.mono HB1.out.size)
       have HS2:Hid _:=blk_keep hb2 HS1.out
       clear hb2 s0 s1 s2 s3 s4 s5 s6 s7 s8 c0 c1 c2
       obtain⟨⟨s0,s1,s2,s3,s4,s5,s6,s7,s8⟩,s9⟩:=st_row HS2.out
       have HLT:Hid (g<wr.heap.size):=lt_of_block HS.out
       go_wp2
       go_roundw
       case rel =>
        refine⟨i+1,by omega,by go_num,?_,?_⟩
        · exact set9_below (HBW.out.trans (HB2.out.mono (by have:=HLT.out;omega))) (Nat.le_refl _) _ _ _ _ _ _ _ _ _
        · show _=_
          rw[HK.out,←HT.out]
          exact set9_row HS2.out _ _ _ _ _ _ _ _ _
       case measure=>simp[intOf];omega
     · obtain rfl:i=c.vs.length:=by omega
       have HO:Hid (ofK c c.vs.length=ofC c):=(by show _=_;unfold ofK ofC;rw[List.take_length])
       rw[HO.out] at HS
       obtain⟨s,HSs⟩:∃s,Hid (s=ofC c):=⟨_,rfl⟩
       rw[←HSs.out] at HS
       obtain⟨⟨s0,s1,s2,s3,s4,s5,s6,s7,s8⟩,s9⟩:=st_row HS.out
       obtain⟨z1,z2⟩:=row_nine HI.out.re
       go_wp2
       exact bodyPost_ret (v:=.tuple #[s.val,.nilIface]) (results_cR Tryz.results31 _ _ (W.heap.size+1+1) 51 s.cs (0,0) _ .nilIface rfl rfl (set9_row HI.out.re _ _ _ _ _ _ _ _ _) Tryz.underlying51 rfl (by kernel_rfl)) rfl ⟨⟨s,_,rfl,.inr (.inr ⟨HG.out,rfl,HSs.out⟩)⟩,set9_below HI.out.old (by omega) _ _ _ _ _ _ _ _ _⟩
def rEnd (rs:List Int)(b:Nat):Nat:=b+1+((rs.drop (b+1)).takeWhile fun x=>!(x == 0)).length
theorem rEnd_gt (rs:List Int)(b:Nat):b<rEnd rs b:=by unfold rEnd;omega
theorem takeWhile_le {α:Type}(f:α->Bool):∀l:List α,(l.takeWhile f).length<=l.length
 | []=>by simp
 | a :: l=>by
  rw[List.takeWhile_cons]
  split
  · simp only[List.length_cons]
    have:=takeWhile_le f l
    omega
  · simp
theorem rEnd_le {rs:List Int}{b:Nat}(h:b<rs.length):rEnd rs b<=rs.length:=by
 unfold rEnd
 have:=takeWhile_le (fun x:Int=>!(x == 0)) (rs.drop (b+1))
 rw[List.length_drop] at this
 omega
theorem takeWhile_stop {α:Type}(f:α->Bool):∀(l:List α) (h:(l.takeWhile f).length<l.length),f (l[(l.takeWhile f).length])=false
 | [],h=>by simp at h
 | a :: l,h=>by
  by_cases ha:f a=true
  · have e:(a :: l).takeWhile f=a :: l.takeWhile f:=by rw[List.takeWhile_cons,if_pos ha]
    have hl:(l.takeWhile f).length<l.length:=by rw[e] at h;simpa using h
    have:=takeWhile_stop f l hl
    simp only[e,List.length_cons,List.getElem_cons_succ]
    exact this
  · have e:(a :: l).takeWhile f=[]:=by rw[List.takeWhile_cons,if_neg ha]
    simp only[e,List.length_nil,List.getElem_cons_zero]
    simpa using ha
theorem rEnd_zero {rs:List Int}{b:Nat}(h:rEnd rs b<rs.length):rs[rEnd rs b]=0:=by
 have hl:((rs.drop (b+1)).takeWhile fun x=>!(x == 0)).length<(rs.drop (b+1)).length:=by
  rw[List.length_drop]
  unfold rEnd at h
  omega
 have h1:=takeWhile_stop (fun x:Int=>!(x == 0)) (rs.drop (b+1)) hl
 rw[List.getElem_drop] at h1
 simpa [rEnd] using h1
def Zr (rs:List Int)(k:Nat):Prop:=∀x,rs[k]? = some x->x=0
theorem rEnd_zr (rs:List Int)(b:Nat):Zr rs (rEnd rs b):=fun x hx=>by
 obtain⟨h,e⟩:=List.getElem?_eq_some_iff.1 hx
 rw[←e]
 exact rEnd_zero h
def szF:Nat->List Int->Nat->Nat->Nat
 | 0,_,_,n=>n
 | f+1,rs,most,n=>if n<rs.length then (if most<rEnd rs n then n else szF f rs most (rEnd rs n)) else n
def pSz (rs:List Int)(most:Nat):Nat:=szF rs.length rs most (rEnd rs 0)
theorem szF_ok:∀(f:Nat) (rs:List Int) (most n:Nat),n<=rs.length->Zr rs n->n<=szF f rs most n/\szF f rs most n<=rs.length/\Zr rs (szF f rs most n)
 | 0,rs,most,n,hn,hz=>⟨Nat.le_refl _,hn,hz⟩
 | f+1,rs,most,n,hn,hz=>by
  unfold szF
  by_cases h:n<rs.length
  · rw[if_pos h]
    by_cases hm:most<rEnd rs n
    · rw[if_pos hm]
      exact⟨Nat.le_refl _,hn,hz⟩
    · rw[if_neg hm]
      have ih:=szF_ok f rs most (rEnd rs n) (rEnd_le h) (rEnd_zr _ _)
      exact⟨Nat.le_trans (Nat.le_of_lt (rEnd_gt rs n)) ih.1,ih.2.1,ih.2.2⟩
  · rw[if_neg h]
    exact⟨Nat.le_refl _,hn,hz⟩
theorem pSz_ok {rs:List Int}(most:Nat)(h:rs≠[]):0<pSz rs most/\pSz rs most<=rs.length/\Zr rs (pSz rs most):=by
 have hl:=List.length_pos_iff.2 h
 have:=szF_ok rs.length rs most (rEnd rs 0) (rEnd_le hl) (rEnd_zr _ _)
 exact⟨Nat.lt_of_lt_of_le (rEnd_gt rs 0) this.1,this.2.1,this.2.2⟩
def Cl.fst (c:Cl)(md:Int)(n:Nat):Cl:=⟨c.id,c.ra,c.rs.take n,c.rc,c.da,c.ds.take n,c.dc,c.va,c.vs.take (cntE md (c.ds.take n)),c.vc⟩
def Cl.snd (c:Cl)(md:Int)(n:Nat):Cl:=⟨c.id,c.ra,c.rs.drop n,c.rc,c.da,c.ds.drop n,c.dc,c.va,c.vs.drop (cntE md (c.ds.take n)),c.vc⟩
theorem headB_iff {rs:List Int}:headB rs=false ↔ Zr rs 0:=by
 cases rs with
 | nil=>simp[headB,Zr]
 | cons x xs=>simp[headB,Zr]
theorem goodC_two {lid kind mr md:Int}{c:Cl}{n:Nat}(h:GoodC lid kind mr md c)(hz:Zr c.rs n):GoodC lid kind mr md (c.fst md n)/\GoodC lid kind mr md (c.snd md n)/\cntE md (c.ds.take n)<=c.vs.length:=by
 obtain⟨h1,h2⟩:=h
 rw[Bool.and_eq_true,fitB_iff] at h1
 obtain⟨hl,hid,hlen,hh,hr,hd,hv⟩:=h1
 have hsp:cntE md c.ds=cntE md (c.ds.take n)+cntE md (c.ds.drop n):=by
  rw[←cntE_app,List.take_append_drop]
 refine⟨⟨?_,fun j hj=>?_⟩,⟨?_,fun j hj=>?_⟩,by omega⟩
 · rw[Bool.and_eq_true,fitB_iff]
   refine⟨hl,hid,?_,?_,fun x hx=>hr x (List.mem_of_mem_take hx),fun x hx=>hd x (List.mem_of_mem_take hx),?_⟩
   · show (c.rs.take n).length=(c.ds.take n).length
     rw[List.length_take,List.length_take,hlen]
   · rw[headB_iff] at hh ⊢
     intro x hx
     have hx2:(c.rs.take n)[0]? = some x:=hx
     rw[List.getElem?_take] at hx2
     split at hx2
     · exact hh x hx2
     · cases hx2
   · show (c.vs.take _).length=cntE md (c.ds.take n)
     rw[List.length_take]
     omega
 · have hj2:j<(c.vs.take (cntE md (c.ds.take n))).length:=hj
   rw[List.length_take] at hj2
   have e:(c.vs.take (cntE md (c.ds.take n)))[j]'hj=c.vs[j]'(by omega):=List.getElem_take
   exact (congrArg (badV kind) e).trans (h2 j (by omega))
 · rw[Bool.and_eq_true,fitB_iff]
   refine⟨hl,hid,?_,?_,fun x hx=>hr x (List.mem_of_mem_drop hx),fun x hx=>hd x (List.mem_of_mem_drop hx),?_⟩
   · show (c.rs.drop n).length=(c.ds.drop n).length
     rw[List.length_drop,List.length_drop,hlen]
   · rw[headB_iff]
     intro x hx
     have hx2:(c.rs.drop n)[0]? = some x:=hx
     rw[List.getElem?_drop,Nat.add_zero] at hx2
     exact hz x hx2
   · show (c.vs.drop _).length=cntE md (c.ds.drop n)
     rw[List.length_drop]
     omega
 · have hj2:j<(c.vs.drop (cntE md (c.ds.take n))).length:=hj
   rw[List.length_drop] at hj2
   have e:(c.vs.drop (cntE md (c.ds.take n)))[j]'hj=c.vs[cntE md (c.ds.take n)+j]'(by omega):=List.getElem_drop
   exact (congrArg (badV kind) e).trans (h2 _ (by omega))
def pgs:Nat->Nat->Int->Cl->List Cl
 | 0,_,_,_=>[]
 | f+1,most,md,c=>if c.rs=[] then [] else c.fst md (pSz c.rs most) :: pgs f most md (c.snd md (pSz c.rs most))
theorem pgs_whole {lid kind mr md:Int}(most:Nat):∀(f:Nat) (c:Cl),c.rs.length<=f->GoodC lid kind mr md c->jR (pgs f most md c)=c.rs/\jD (pgs f most md c)=c.ds/\jV (pgs f most md c)=c.vs/\∀p∈pgs f most md c,GoodC lid kind mr md p/\p.rs≠[]
 | f,c,hf,hg=>by
  have hg1:=hg.1
  rw[Bool.and_eq_true,fitB_iff] at hg1
  obtain⟨_,_,hlen,_,_,_,hv⟩:=hg1
  by_cases h0:c.rs=[]
  · have hd0:c.ds=[]:=List.eq_nil_of_length_eq_zero (by rw[←hlen,h0];rfl)
    have hv0:c.vs=[]:=List.eq_nil_of_length_eq_zero (by rw[hv,hd0];rfl)
    have hp:pgs f most md c=[]:=by
     cases f with
     | zero=>rfl
     | succ f=>unfold pgs;rw[if_pos h0]
    rw[hp,h0,hd0,hv0]
    exact⟨rfl,rfl,rfl,fun p hp=>by cases hp⟩
  · obtain⟨s1,s2,s3⟩:=pSz_ok most h0
    match f,hf with
    | 0,hf=>exact absurd (List.eq_nil_of_length_eq_zero (by omega)) h0
    | f+1,hf =>
     obtain⟨g1,g2,g3⟩:=goodC_two hg s3
     have ih:=pgs_whole (lid:=lid) (kind:=kind) (mr:=mr) (md:=md) most f (c.snd md (pSz c.rs most)) (by show (c.rs.drop _).length<=f;rw[List.length_drop];omega) g2
     have hp:pgs (f+1) most md c=c.fst md (pSz c.rs most) :: pgs f most md (c.snd md (pSz c.rs most)):=by
      rw[pgs,if_neg h0]
     rw[hp]
     refine⟨?_,?_,?_,fun p hpm=>?_⟩
     · show c.rs.take _++jR (pgs f most md (c.snd md (pSz c.rs most)))=c.rs
       rw[ih.1]
       exact List.take_append_drop _ _
     · show c.ds.take _++jD (pgs f most md (c.snd md (pSz c.rs most)))=c.ds
       rw[ih.2.1]
       exact List.take_append_drop _ _
     · show c.vs.take _++jV (pgs f most md (c.snd md (pSz c.rs most)))=c.vs
       rw[ih.2.2.1]
       exact List.take_append_drop _ _
     · rcases List.mem_cons.1 hpm with rfl|hpm
       · refine⟨g1,fun h=>?_⟩
         have h5:(c.rs.take (pSz c.rs most)).length=0:=by
          have h6:(c.fst md (pSz c.rs most)).rs=c.rs.take (pSz c.rs most):=rfl
          rw[←h6,h]
          rfl
         rw[List.length_take] at h5
         omega
       · exact ih.2.2.2 p hpm
theorem Cl.At.same {c:Cl}{W X:World}{M:Nat}(h:c.At W)(hf:c.Fr M)(hk:∀b,M<=b->b<W.heap.size->X.heap[b]? = W.heap[b]?):c.At X:=by
 have hc:∀{b i:Nat} {v:Value},M<=b->W.cell? ⟨b,i,none⟩=some v->X.cell? ⟨b,i,none⟩=some v:=fun {b i v} hb hv=>by
  have h2:=hk b hb (World.block_lt_of_cell? W _ hv)
  rw[←hv]
  simp[World.cell?,h2]
 refine⟨fun j hj=>?_,fun j hj=>?_,fun j hj=>?_⟩
 · obtain⟨b,o,e,hv⟩:=h.r j hj
   exact⟨b,o,e,hc (hf.r _ e) hv⟩
 · obtain⟨b,o,e,hv⟩:=h.d j hj
   exact⟨b,o,e,hc (hf.d _ e) hv⟩
 · obtain⟨b,o,e,h0,h1,h2⟩:=h.v j hj
   exact⟨b,o,e,hc (hf.v _ e) h0,hc (hf.v _ e) h1,hc (hf.v _ e) h2⟩
theorem Cl.Fr.mono {c:Cl}{M N:Nat}(h:c.Fr N)(hm:M<=N):c.Fr M:=⟨fun p hp=>Nat.le_trans hm (h.r p hp),fun p hp=>Nat.le_trans hm (h.d p hp),fun p hp=>Nat.le_trans hm (h.v p hp)⟩
structure Mk where
 at_:Int
 len:Int
 first:Int
 recs:Int
 st:St
def Mk.cs (m:Mk):List Value:=[.int .i64 m.at_,.int .i64 m.len,.int .i64 m.first,.int .i64 m.recs,.int .i64 m.st.e,.int .i64 m.st.u,.bool m.st.h,.int .i64 m.st.mn.k,.int .i64 m.st.mn.n,.string m.st.mn.s,.int .i64 m.st.mx.k,.int .i64 m.st.mx.n,.string m.st.mx.s]
theorem Mk.cs_len (m:Mk):m.cs.length=13:=rfl
def mkF (ms:List Mk):List Value:=ms.flatMap Mk.cs
theorem mkF_len (ms:List Mk):(mkF ms).length=ms.length*13:=by
 induction ms with
 | nil=>rfl
 | cons m ms ih=>simp only[mkF,List.flatMap_cons,List.length_append,Mk.cs_len,List.length_cons] at *;omega
theorem mkF_at:∀(ms:List Mk) (j k:Nat) (h:j<ms.length),k<13->(mkF ms)[j*13+k]? = (ms[j].cs)[k]?
 | [],j,k,h,_=>absurd h (Nat.not_lt_zero _)
 | m :: ms,0,k,h,hk=>by
  have e:mkF (m :: ms)=m.cs++mkF ms:=by simp[mkF]
  rw[e,List.getElem?_append_left (by rw[Mk.cs_len];omega)]
  simp
 | m :: ms,j+1,k,h,hk=>by
  have e:mkF (m :: ms)=m.cs++mkF ms:=by simp[mkF]
  rw[e,List.getElem?_append_right (by rw[Mk.cs_len];omega),Mk.cs_len,show (j+1)*13+k-13=j*13+k by omega,mkF_at ms j k (by simpa using h) hk]
  simp
theorem mkF_snoc (ms:List Mk)(m:Mk):mkF (ms++[m])=mkF ms++m.cs:=by simp[mkF]
def LiesM (w:World)(a:Option Addr)(ms:List Mk):Prop:=∀j (h:j<ms.length),∃b o,a=some ⟨b,o,none⟩/\∀k v,(ms[j].cs)[k]? = some v->w.cell? ⟨b,o+j*13+k,none⟩=some v
theorem LiesM.keep {w w':World}{a:Option Addr}{ms:List Mk}(h:LiesM w a ms)(hb:Below w.heap.size w w'):LiesM w' a ms:=fun j hj=>by
 obtain⟨b,o,e,hc⟩:=h j hj
 exact⟨b,o,e,fun k v hv=>(hb.cell (World.block_lt_of_cell? w _ (hc k v hv))).trans (hc k v hv)⟩
theorem liesM_own {w:World}{base e n:Nat}{v:Value}{ms:List Mk}(h:w.ownsRow base e 13 v n (mkF ms)):∃a c,v=.slice a ms.length c/\LiesM w a ms/\ms.length<=c/\Fsh base a:=by
 have hl:=h.1
 rw[mkF_len] at hl
 have hl':ms.length=n:=by omega
 obtain⟨a,c,hv⟩:=own_slC h
 obtain⟨hc,hf⟩:=own_capS h a n c hv
 refine⟨a,c,by rw[hv,hl'],fun j hj=>?_,by omega,hf⟩
 rcases h.2 with ⟨_,h0⟩|⟨g,cap,cur,hv2,_⟩
 · omega
 · rw[hv] at hv2
   injection hv2 with ha _ _
   refine⟨g,0,ha,fun k u hu=>?_⟩
   have hk:k<13:=by have:=(List.getElem?_eq_some_iff.1 hu).1;rw[Mk.cs_len] at this;exact this
   have h5:=h.cells (g:=g) (by rw[hv,ha];rfl) (j*13+k) u (by rw[mkF_at ms j k hj hk];exact hu)
   rw[addr_up] at h5
   rw[Nat.add_assoc]
   exact h5
structure LsI (W:World) (lid kind mr md:Int) (pa:Option Addr) (pn pc:Nat) (c:Cl) (X:World):Prop where
 lf:X.heap[W.heap.size]? = some (.cells #[.int .i64 lid,.int .i64 kind,.int .i64 mr,.int .i64 md,.slice pa pn pc] 24 (0,0))
 co:X.heap[W.heap.size+1]? = some (.cells #[.int .i64 c.id,.slice c.ra c.rs.length c.rc,.slice c.da c.ds.length c.dc,.slice c.va c.vs.length c.vc] 27 (0,0))
 old:Below W.heap.size W X
theorem LsI.keep {W:World}{lid kind mr md:Int}{pa:Option Addr}{pn pc:Nat}{c:Cl}{X w':World}(h:LsI W lid kind mr md pa pn pc c X)(hb:Below X.heap.size X w'):LsI W lid kind mr md pa pn pc c w' :=
 ⟨blk_keep hb h.lf,blk_keep hb h.co,h.old.trans (hb.mono h.old.size)⟩
structure MgI (W:World) (a b:St) (X:World):Prop where
 fst:X.heap[W.heap.size]? = some (.cells a.cs 51 (0,0))
 snd:X.heap[W.heap.size+1]? = some (.cells b.cs 51 (0,0))
 re:X.heap[W.heap.size+1+1]? = some (.cells #[.int .i64 0,.int .i64 0,.bool false,.int .i64 0,.int .i64 0,.string ⟨#[]⟩,.int .i64 0,.int .i64 0,.string ⟨#[]⟩] 51 (0,0))
 old:Below W.heap.size W X
theorem MgI.keep {W:World}{a b:St}{X w':World}(h:MgI W a b X)(hb:Below X.heap.size X w'):MgI W a b w' :=
 ⟨blk_keep hb h.fst,blk_keep hb h.snd,blk_keep hb h.re,h.old.trans (hb.mono h.old.size)⟩
structure MoI (W:World) (a b o:St) (X:World):Prop where
 fst:X.heap[W.heap.size]? = some (.cells a.cs 93 (0,0))
 snd:X.heap[W.heap.size+1]? = some (.cells b.cs 93 (0,0))
 re:X.heap[W.heap.size+1+1]? = some (.cells #[.int .i64 0,.int .i64 0,.bool false,.int .i64 0,.int .i64 0,.string ⟨#[]⟩,.int .i64 0,.int .i64 0,.string ⟨#[]⟩] 93 (0,0))
 out:X.heap[W.heap.size+1+1+1]? = some (.cells o.cs 93 (0,0))
 old:Below W.heap.size W X
theorem MoI.keep {W:World}{a b o:St}{X w':World}(h:MoI W a b o X)(hb:Below X.heap.size X w'):MoI W a b o w' :=
 ⟨blk_keep hb h.fst,blk_keep hb h.snd,blk_keep hb h.re,blk_keep hb h.out,h.old.trans (hb.mono h.old.size)⟩
theorem MoI.setMn {W:World}{a b o:St}{X:World}(h:MoI W a b o X)(l:Vl):MoI W a b { o with mn:=l } (((X.setCell ⟨W.heap.size+1+1+1,3,none⟩ (.int .i64 l.k)).setCell ⟨W.heap.size+1+1+1,4,none⟩ (.int .i64 l.n)).setCell ⟨W.heap.size+1+1+1,5,none⟩ (.string l.s)) :=
 ⟨blk_other (blk_other (blk_other h.fst (by omega) _) (by omega) _) (by omega) _,blk_other (blk_other (blk_other h.snd (by omega) _) (by omega) _) (by omega) _,blk_other (blk_other (blk_other h.re (by omega) _) (by omega) _) (by omega) _,row_setCell (row_setCell (row_setCell h.out _) _) _,((h.old.setCell (by simp;omega) _).setCell (by simp;omega) _).setCell (by simp;omega) _⟩
theorem MoI.setMx {W:World}{a b o:St}{X:World}(h:MoI W a b o X)(l:Vl):MoI W a b { o with mx:=l } (((X.setCell ⟨W.heap.size+1+1+1,6,none⟩ (.int .i64 l.k)).setCell ⟨W.heap.size+1+1+1,7,none⟩ (.int .i64 l.n)).setCell ⟨W.heap.size+1+1+1,8,none⟩ (.string l.s)) :=
 ⟨blk_other (blk_other (blk_other h.fst (by omega) _) (by omega) _) (by omega) _,blk_other (blk_other (blk_other h.snd (by omega) _) (by omega) _) (by omega) _,blk_other (blk_other (blk_other h.re (by omega) _) (by omega) _) (by omega) _,row_setCell (row_setCell (row_setCell h.out _) _) _,((h.old.setCell (by simp;omega) _).setCell (by simp;omega) _).setCell (by simp;omega) _⟩
theorem okV_kind {k:Int}{v:Vl}(h:okV k v.k v.n v.s.size=true):v.k=k:=(okV_iff.1 h).1
theorem lss_tri {a b:Vl}(ha:a.Low)(hb:b.Low)(k:Int)(o1:okV k a.k a.n a.s.size=true)(o2:okV k b.k b.n b.s.size=true):(lss a b && lss b a)=false/\((lss a b || lss b a)=true ↔ a≠b):=by
 obtain⟨ak,an,asx⟩:=a
 obtain⟨bk,bn,bsx⟩:=b
 have e1:=okV_kind (v:=⟨ak,an,asx⟩) o1
 have e2:=okV_kind (v:=⟨bk,bn,bsx⟩) o2
 simp only at e1 e2 o1 o2
 subst e1
 subst e2
 have h:=vless_tri _ an bn asx bsx ha hb (okV_iff.1 o1) (okV_iff.1 o2)
 refine⟨h.1,h.2.trans ?_⟩
 simp
theorem lss_same {a b:Vl}(ha:a.Low)(hb:b.Low)(k:Int)(o1:okV k a.k a.n a.s.size=true)(o2:okV k b.k b.n b.s.size=true)(h1:lss a b=false)(h2:lss b a=false):a=b:=by
 have h:=(lss_tri ha hb k o1 o2).2
 rw[h1,h2] at h
 exact Classical.byContradiction fun hn=>by have:=h.2 hn;cases this
theorem lss_irr {a:Vl}(ha:a.Low)(k:Int)(o1:okV k a.k a.n a.s.size=true):lss a a=false:=by
 have h:=(lss_tri ha ha k o1 o1).1
 rwa [Bool.and_self] at h
def Rv (k:Int)(v:Vl):Prop:=okV k v.k v.n v.s.size=true/\v.Low
theorem Rv.tri {k:Int}{a b:Vl}(ha:Rv k a)(hb:Rv k b):(lss a b && lss b a)=false/\((lss a b || lss b a)=true ↔ a≠b):=lss_tri ha.2 hb.2 k ha.1 hb.1
theorem Rv.same {k:Int}{a b:Vl}(ha:Rv k a)(hb:Rv k b)(h1:lss a b=false)(h2:lss b a=false):a=b:=lss_same ha.2 hb.2 k ha.1 hb.1 h1 h2
theorem Rv.irr {k:Int}{a:Vl}(ha:Rv k a):lss a a=false:=lss_irr ha.2 k ha.1
theorem Rv.trans {k:Int}{a b c:Vl}(ha:Rv k a)(hb:Rv k b)(hc:Rv k c)(h1:lss a b=true)(h2:lss b c=true):lss a c=true:=by
 have e1:=okV_kind ha.1
 have e2:=okV_kind hb.1
 have e3:=okV_kind hc.1
 unfold lss at *
 rw[e1,e2] at h1
 rw[e2,e3] at h2
 rw[e1,e3]
 exact vless_trans k _ _ _ _ _ _ h1 h2
theorem Rv.le {k:Int}{a b c:Vl}(ha:Rv k a)(hb:Rv k b)(hc:Rv k c)(h1:lss b a=false)(h2:lss c b=false):lss c a=false:=by
 cases h:lss c a
 · rfl
 · cases h3:lss a b
   · have e:=Rv.same ha hb h3 h1
     rw[e,h2] at h
     exact h.symm
   · have h4:=Rv.trans hc ha hb h h3
     rw[h2] at h4
     exact h4.symm
theorem Rv.asym {k:Int}{a b:Vl}(ha:Rv k a)(hb:Rv k b)(h:lss a b=true):lss b a=false:=by
 have h1:=(Rv.tri ha hb).1
 rw[h,Bool.true_and] at h1
 exact h1
structure Ends (l:List Vl) (m x:Vl):Prop where
 mi:m∈l
 mb:∀y∈l,lss y m=false
 xi:x∈l
 xb:∀y∈l,lss x y=false
theorem Ends.one {k:Int}{l:List Vl}{m x m' x':Vl}(hl:∀y∈l,Rv k y)(h:Ends l m x)(h':Ends l m' x'):m=m'/\x=x' :=
 ⟨Rv.same (hl _ h.mi) (hl _ h'.mi) (h'.mb _ h.mi) (h.mb _ h'.mi),Rv.same (hl _ h.xi) (hl _ h'.xi) (h.xb _ h'.xi) (h'.xb _ h.xi)⟩
theorem Ends.app {k:Int}{l l':List Vl}{m x m' x':Vl}(hl:∀y∈l,Rv k y)(hl':∀y∈l',Rv k y)(h:Ends l m x)(h':Ends l' m' x'):Ends (l++l') (if lss m' m then m' else m) (if lss x x' then x' else x):=by
 refine⟨?_,fun y hy=>?_,?_,fun y hy=>?_⟩
 · split
   · exact List.mem_append.2 (.inr h'.mi)
   · exact List.mem_append.2 (.inl h.mi)
 · rcases List.mem_append.1 hy with hy|hy
   · cases hc:lss m' m
     · simpa using h.mb y hy
     · have h1:=Rv.asym (hl' _ h'.mi) (hl _ h.mi) hc
       simpa using Rv.le (hl' _ h'.mi) (hl _ h.mi) (hl _ hy) h1 (h.mb y hy)
   · cases hc:lss m' m
     · simpa using Rv.le (hl _ h.mi) (hl' _ h'.mi) (hl' _ hy) hc (h'.mb y hy)
     · simpa using h'.mb y hy
 · split
   · exact List.mem_append.2 (.inr h'.xi)
   · exact List.mem_append.2 (.inl h.xi)
 · rcases List.mem_append.1 hy with hy|hy
   · cases hc:lss x x'
     · simpa using h.xb y hy
     · have h1:=Rv.asym (hl _ h.xi) (hl' _ h'.xi) hc
       simpa using Rv.le (hl _ hy) (hl _ h.xi) (hl' _ h'.xi) (h.xb y hy) h1
   · cases hc:lss x x'
     · simpa using Rv.le (hl' _ hy) (hl' _ h'.xi) (hl _ h.xi) (h'.xb y hy) hc
     · simpa using h'.xb y hy
theorem Ends.single {k:Int}{v:Vl}(h:Rv k v):Ends [v] v v:=⟨by simp,fun y hy=>by simp at hy;subst hy;exact h.irr,by simp,fun y hy=>by simp at hy;subst hy;exact h.irr⟩
theorem ofK_ends {k:Int}(c:Cl)(hc:∀y∈c.vs,Rv k y):∀i,0<i->i<=c.vs.length->(ofK c i).h=true/\Ends (c.vs.take i) (ofK c i).mn (ofK c i).mx
 | 1,_,h1=>by
  rw[ofK_succ c h1]
  have e:c.vs.take 1=[c.vs[0]]:=by rw[List.take_succ_eq_append_getElem h1];rfl
  rw[e]
  exact⟨rfl,Ends.single (hc _ (List.getElem_mem _))⟩
 | i+2,_,h1=>by
  obtain⟨h2,h3⟩:=ofK_ends c hc (i+1) (by omega) (by omega)
  rw[ofK_succ c h1,List.take_succ_eq_append_getElem h1]
  have h4:=h3.app (fun y hy=>hc y (List.mem_of_mem_take hy)) (fun y hy=>by simp at hy;subst hy;exact hc _ (List.getElem_mem _)) (Ends.single (hc _ (List.getElem_mem h1)))
  unfold St.around
  simp only[h2,Bool.not_true,Bool.false_or]
  exact⟨trivial,h4⟩
theorem ofC_ends {k:Int}(c:Cl)(hc:∀y∈c.vs,Rv k y)(h:0<c.vs.length):(ofC c).h=true/\Ends c.vs (ofC c).mn (ofC c).mx:=by
 have h1:=ofK_ends c hc c.vs.length h (Nat.le_refl _)
 have e:ofK c c.vs.length=ofC c:=by unfold ofK ofC;rw[List.take_length]
 rw[e,List.take_length] at h1
 exact h1
theorem ofC_none (c:Cl)(h:c.vs.length=0):ofC c=⟨(c.rs.length:Nat),(c.rs.length:Int)-(c.vs.length:Nat),false,Vl.zero,Vl.zero⟩:=by
 unfold ofC
 rw[List.eq_nil_of_length_eq_zero h]
 rfl
theorem tw_len {α:Type}(f:α->Bool):∀(l:List α) (m:Nat) (_:m<=l.length),(∀j (h:j<l.length),j<m->f l[j]=true)->(∀h:m<l.length,f l[m]=false)->(l.takeWhile f).length=m
 | [],m,hm,_,_=>by simp at hm;simp[hm]
 | a :: l,0,_,_,h2=>by
  have h:=h2 (by simp)
  rw[List.takeWhile_cons,if_neg (by simpa using h)]
  rfl
 | a :: l,m+1,hm,h1,h2=>by
  have h:=h1 0 (by simp) (by omega)
  rw[List.takeWhile_cons,if_pos (by simpa using h),List.length_cons,tw_len f l m (by simpa using hm) (fun j hj hjm=>by have h3:=h1 (j+1) (by simpa using hj) (by omega);rw[List.getElem_cons_succ] at h3;exact h3) (fun hl=>by have h3:=h2 (by simpa using hl);rw[List.getElem_cons_succ] at h3;exact h3)]
theorem rEnd_is {rs:List Int}{b k:Nat}(hb:b<k)(hk:k<=rs.length)(h1:∀j (h:j<rs.length),b<j->j<k->rs[j]≠0)(h2:∀h:k<rs.length,rs[k]=0):rEnd rs b=k:=by
 have h:=tw_len (fun x:Int=>!(x == 0)) (rs.drop (b+1)) (k-(b+1)) (by rw[List.length_drop];omega) (fun j hj hjm=>by
  rw[List.length_drop] at hj
  have:=h1 (b+1+j) (by omega) (by omega) (by omega)
  rw[List.getElem_drop]
  simpa using this) (fun hl=>by
  rw[List.length_drop] at hl
  have:=h2 (by omega)
  rw[List.getElem_drop]
  have e:b+1+(k-(b+1))=k:=by omega
  simp only[e,this]
  rfl)
 unfold rEnd
 rw[h]
 omega
theorem recordEnd_any (a:Option Addr)(rs:List Int)(c b:Nat)(hn:rs.length<=1048576)(hb:b<rs.length)(W:World)(hl:Lies W a (i64s rs)) :
    Calls Tryz.prog 58 #[.slice a rs.length c,.int .i64 b] W fun e w'=>e=.returned (.int .i64 (rEnd rs b:Nat))/\Below W.heap.size W w':=by
 have HL:Hid _:=hl
 clear hl
 go_enter Tryz.func58,Tryz.ntmps58
 go_wp2
 go_loopw [5] (fun x wr=>∃k:Nat,b<k/\k<=rs.length/\x=.int .i64 k/\Hid (∀j (h:j<rs.length),b<j->j<k->rs[j]≠0)/\Hid (Below W.heap.size W wr)) (fun x _=>rs.length-(intOf x).toNat)
 case atStart=>exact⟨b+1,by omega,by omega,by go_num,fun j h h1 h2=>by omega,Below.refl _ _⟩
 case round =>
  obtain⟨k,hbk,hk,rfl,HA,HB⟩:=hrel
  by_cases hlt:k<rs.length
  · obtain⟨bl,o,rfl,hc⟩:=HL.out k (by rw[i64s_len];exact hlt)
    have hc2:W.cell? ⟨bl,o+k,none⟩=some (.int .i64 rs[k]):=by rw[hc];simp[i64s]
    have hc3:=(HB.out.cell (World.block_lt_of_cell? W _ hc2)).trans hc2
    clear hc hc2
    have HLt:Hid _:=hlt
    by_cases h0:rs[k]=0
    · have HZ:Hid _:=h0
      have q:(rs[k] != 0)=false:=by simp[h0]
      have HE:Hid (rEnd rs b=k):=rEnd_is hbk hk HA.out (fun _=>HZ.out)
      clear h0
      go_wp2
      go_ret
      exact⟨by rw[HE.out];rfl,HB.out⟩
    · have HZ:Hid _:=h0
      have q:(rs[k] != 0)=true:=by simpa using h0
      clear h0
      have HA2:Hid (∀j (h:j<rs.length),b<j->j<k+1->rs[j]≠0):=fun j hj h1 h2=>(by
       by_cases e:j=k
       · subst e
         exact HZ.out
       · exact HA.out j hj h1 (by omega))
      go_wp2
      go_roundw
      case rel=>exact⟨k+1,by omega,by omega,by go_num,HA2,HB⟩
      case measure=>simp[intOf];omega
  · have hk2:k=rs.length:=by omega
    have HE:Hid (rEnd rs b=k):=rEnd_is hbk hk HA.out (fun h=>absurd h hlt)
    go_wp2
    go_ret
    exact⟨by rw[HE.out];rfl,HB.out⟩
theorem pageSize_any (a:Option Addr)(rs:List Int)(c most:Nat)(hn:rs.length<=1048576)(h0:rs≠[])(W:World)(hl:Lies W a (i64s rs)) :
    Calls Tryz.prog 34 #[.slice a rs.length c,.int .i64 most] W fun e w'=>e=.returned (.int .i64 (pSz rs most:Nat))/\Below W.heap.size W w':=by
 have HL:Hid (Lies W a (i64s rs)):=hl
 have hpos:0<rs.length:=List.length_pos_iff.2 h0
 have hr0:=rEnd_le hpos
 have HR:Hid (∀(b:Nat) X,b<rs.length->Below W.heap.size W X->Calls Tryz.prog 58 #[.slice a rs.length c,.int .i64 b] X fun e w'=>e=.returned (.int .i64 (rEnd rs b:Nat))/\Below X.heap.size X w'):=fun b X hb hX=>recordEnd_any a rs c b hn hb X (HL.out.keep hX)
 clear hl h0
 go_enter Tryz.func34,Tryz.ntmps34
 go_wp2_with fail
 refine Calls.mono (HR.out 0 W hpos (Below.refl _ _)) ?_
 rintro e w1 ⟨rfl,hb1⟩
 have HB1:Hid _:=hb1
 clear hb1
 go_wp2
 go_loopw [5] (fun x wr=>∃(n f:Nat),n<=rs.length/\x=.int .i64 n/\Hid (pSz rs most=szF f rs most n)/\Hid (rs.length<=f+n)/\Hid (Below W.heap.size W wr)) (fun x _=>rs.length-(intOf x).toNat)
 case atStart=>exact⟨rEnd rs 0,rs.length,hr0,rfl,rfl,Nat.le_add_right _ _,HB1⟩
 case round =>
  clear HB1 hr0 hpos
  obtain⟨n,f,hnl,rfl,HP,HF,HB⟩:=hrel
  by_cases hlt:n<rs.length
  · obtain⟨f',rfl⟩:∃f',f=f'+1:=⟨f-1,by have:=HF.out;omega⟩
    have hgt:=rEnd_gt rs n
    have hle:=rEnd_le hlt
    have HS:Hid (szF (f'+1) rs most n=if most<rEnd rs n then n else szF f' rs most (rEnd rs n)):=(by show _=_;rw[szF,if_pos hlt])
    go_wp2_with fail
    refine Calls.mono (HR.out n wr hlt HB.out) ?_
    rintro e w2 ⟨rfl,hb2⟩
    have HB2:Hid (Below W.heap.size W w2):=HB.out.trans (hb2.mono HB.out.size)
    clear hb2 HB
    obtain⟨r,HRE⟩:∃r,Hid (rEnd rs n=r):=⟨_,rfl⟩
    rw[HRE.out] at hgt hle HS ⊢
    by_cases hm2:most<r
    · have q:decide (((r:Nat):Int) > ((most:Nat):Int))=true:=by simp;omega
      have q2:decide (((most:Nat):Int)<((r:Nat):Int))=true:=by simp;omega
      have HE:Hid (pSz rs most=n):=(by show _=_;rw[HP.out,HS.out,if_pos hm2])
      go_wp2
      go_ret
      exact⟨by rw[HE.out];rfl,HB2.out⟩
    · have q:decide (((r:Nat):Int) > ((most:Nat):Int))=false:=by simp;omega
      have q2:decide (((most:Nat):Int)<((r:Nat):Int))=false:=by simp;omega
      have HE:Hid (pSz rs most=szF f' rs most r):=(by show _=_;rw[HP.out,HS.out,if_neg hm2])
      go_wp2
      go_roundw
      case rel=>exact⟨r,f',hle,rfl,HE,by have:=HF.out;show _<=_;omega,HB2⟩
      case measure=>simp[intOf];omega
  · have HE : Hid (pSz rs most = n) := (by
      show _=_
      rw[HP.out]
      cases f with
      | zero=>rfl
      | succ f=>rw[szF,if_neg hlt])
    go_wp2
    go_ret
    exact⟨by rw[HE.out];rfl,HB.out⟩
theorem cutL_nil {α:Type}(xs:List α){a m:Nat}(h:m<=a):cutL xs a m=[]:=by
 unfold cutL
 exact List.drop_eq_nil_of_le (by simp;omega)
theorem cutL_in {α:Type}(xs:List α){a i b:Nat}(h:a<=i)(h2:i<b)(h3:i<xs.length):cutL xs a (min (i+1) b)=cutL xs a (min i b)++[xs[i]]:=by
 rw[Nat.min_eq_left (by omega),Nat.min_eq_left (by omega),cutL,cutL,List.take_succ_eq_append_getElem h3,List.drop_append_of_le_length (by simp;omega)]
theorem cutL_out {α:Type}(xs:List α){a i b:Nat}(h:¬ (a<=i/\i<b)):cutL xs a (min (i+1) b)=cutL xs a (min i b):=by
 by_cases hb:b<=i
 · rw[Nat.min_eq_right hb,Nat.min_eq_right (by omega)]
 · rw[cutL_nil xs (by omega),cutL_nil xs (by omega)]
theorem cutV_in {α:Type}(vs:List α)(md:Int)(ds:List Int){a i b:Nat}(h:a<=i)(h2:i<b)(h3:i<ds.length)(he:ds[i]=md)(hv:cntE md (ds.take i)<vs.length):cutL vs (cntE md (ds.take a)) (cntE md (ds.take (min (i+1) b)))=cutL vs (cntE md (ds.take a)) (cntE md (ds.take (min i b)))++[vs[cntE md (ds.take i)]]:=by
 rw[Nat.min_eq_left (by omega),Nat.min_eq_left (by omega),cntE_succ md ds i h3,if_pos he,cutL,cutL,List.take_succ_eq_append_getElem hv,List.drop_append_of_le_length (by have:=cntE_mono md ds h;simp;omega)]
theorem cutV_out {α:Type}(vs:List α)(md:Int)(ds:List Int){a i b:Nat}(h3:i<ds.length)(h:¬ (a<=i/\i<b)\/ds[i]≠md):cutL vs (cntE md (ds.take a)) (cntE md (ds.take (min (i+1) b)))=cutL vs (cntE md (ds.take a)) (cntE md (ds.take (min i b))):=by
 by_cases hb:b<=i
 · rw[Nat.min_eq_right hb,Nat.min_eq_right (by omega)]
 · by_cases ha:a<=i
   · have he : ds[i] ≠ md := by
       rcases h with h|h
       · exact absurd ⟨ha,by omega⟩ h
       · exact h
     rw[Nat.min_eq_left (by omega),Nat.min_eq_left (by omega),cntE_succ md ds i h3,if_neg he,Nat.add_zero]
   · rw[cutL_nil vs (cntE_mono md ds (by omega)),cutL_nil vs (cntE_mono md ds (by omega))]
theorem StAt.iff {rs:List Int}{x:Int}{a i:Nat}(h:StAt rs x a)(hi:i<rs.length):x<(cntE 0 (rs.take (i+1)):Int) ↔ a<=i:=by
 constructor
 · intro hx
   rcases Nat.lt_or_ge i a with hlt|hge
   · have:=h.2.1 i hlt;omega
   · exact hge
 · intro ha
   have h1:=h.2.2 (by omega)
   have h2:=cntE_mono 0 rs (a:=a+1) (b:=i+1) (by omega)
   omega
structure PoI (W w0:World) (id md:Int) (c:Cl) (a b n m k:Nat) (wr:World):Prop where
 acc:∃rv dv vv,AcI (W.heap.size+1+1+1) (W.heap.size+1+1+1+1) id rv (cutL c.rs a (min n b)) dv (cutL c.ds a (min m b)) vv (cutL c.vs (cntE md (c.ds.take a)) (cntE md (c.ds.take (min k b)))) wr
 fr:DFr (W.heap.size+1+1+1) (W.heap.size+1+1+1+1) w0 wr
theorem PoI.keep {W w0:World}{id md:Int}{c:Cl}{a b n m k:Nat}{wr w':World}(h:PoI W w0 id md c a b n m k wr)(hb:Below wr.heap.size wr w'):PoI W w0 id md c a b n m k w':=by
 obtain⟨⟨rv,dv,vv,hI⟩,hd⟩:=h
 exact⟨⟨rv,dv,vv,hI.stay hb⟩,hd.trans (.of_below hb)⟩
theorem cutL_le {α:Type}(xs:List α)(a b:Nat):(cutL xs a b).length<=xs.length:=by simp[cutL];omega
theorem cell_new_v (w:World)(x:Vl):∀j u,(vcells [x])[j]? = some u->(w.alloc (.cells #[.int .i64 x.k,.int .i64 x.n,.string x.s] 46)).cell? ((⟨w.heap.size,0,none⟩:Addr).add j)=some u:=fun j u hu=>by
 rw[addr_add,Nat.zero_add,cell_of_row _ w.heap.size j _ _ _ (heap_alloc_new _ _),←hu]
 simp[vcells]
theorem partOf_f (lid kind mr md lo hi:Int)(pa:Option Addr)(pn pc:Nat)(c:Cl)(W:World)(a b:Nat)
    (hn:c.rs.length<=20000) (hv:c.vs.length<=20000) (hln:c.rs.length=c.ds.length) (hvn:c.vs.length=cntE md c.ds) (hsa:StAt c.rs lo a) (hsb:StAt c.rs hi b) (hat:c.At W) :
    Calls Tryz.prog 27 #[.agg #[.int .i64 lid,.int .i64 kind,.int .i64 mr,.int .i64 md,.slice pa pn pc],.agg #[.int .i64 c.id,.slice c.ra c.rs.length c.rc,.slice c.da c.ds.length c.dc,.slice c.va c.vs.length c.vc],.int .i64 lo,.int .i64 hi] W fun e w'=>(∃k:Cl,e=.returned (.agg #[.int .i64 k.id,.slice k.ra k.rs.length k.rc,.slice k.da k.ds.length k.dc,.slice k.va k.vs.length k.vc])/\k.At w'/\k.Fr W.heap.size/\k.id=c.id/\k.rs=cutL c.rs a b/\k.ds=cutL c.ds a b/\k.vs=cutL c.vs (cntE md (c.ds.take a)) (cntE md (c.ds.take b)))/\Below W.heap.size W w':=by
 obtain⟨iv,hvi,hv0,hv1,hv2⟩:=info_parts Tryz.info3
 obtain⟨iw,hwi,hw0,hw1,hw2⟩:=info_parts Tryz.infoV
 obtain⟨w0,HW0,HX,HY,HZ,HO,HB⟩:=four_boxes W #[.int .i64 lid,.int .i64 kind,.int .i64 mr,.int .i64 md,.slice pa pn pc] #[.int .i64 c.id,.slice c.ra c.rs.length c.rc,.slice c.da c.ds.length c.dc,.slice c.va c.vs.length c.vc] #[.int .i64 0,.slice none 0 0,.slice none 0 0,.slice none 0 0] #[.int .i64 c.id,.slice none 0 0,.slice none 0 0,.slice none 0 0] 24 27 27 27
 have HAT:Hid (∀X,DFr (W.heap.size+1+1+1) (W.heap.size+1+1+1+1) w0 X->c.At X):=fun X hX=>hat.keep (HB.out.trans (hX.below HB.out.size (by omega) (by omega)))
 have HSA:Hid (StAt c.rs lo a):=hsa
 have HSB:Hid (StAt c.rs hi b):=hsb
 have HLn:Hid _:=hln
 have HVn:Hid _:=hvn
 have HSz:Hid (W.heap.size+1+1+1+1<=w0.heap.size):=lt_of_block HO.out
 clear hat hsa hsb hln hvn
 obtain⟨k0,k1,k2,k3⟩:=row_four (show (((W.alloc (.cells #[.int .i64 lid,.int .i64 kind,.int .i64 mr,.int .i64 md,.slice pa pn pc] 24)).alloc (.cells #[.int .i64 c.id,.slice c.ra c.rs.length c.rc,.slice c.da c.ds.length c.dc,.slice c.va c.vs.length c.vc] 27)).alloc (.cells #[.int .i64 0,.slice none 0 0,.slice none 0 0,.slice none 0 0] 27)).heap[W.heap.size+1]? = some (.cells #[.int .i64 c.id,.slice c.ra c.rs.length c.rc,.slice c.da c.ds.length c.dc,.slice c.va c.vs.length c.vc] 27 (0,0)) from by
  obtain⟨w1,H1,_,H3,_,_⟩:=three_boxes W #[.int .i64 lid,.int .i64 kind,.int .i64 mr,.int .i64 md,.slice pa pn pc] #[.int .i64 c.id,.slice c.ra c.rs.length c.rc,.slice c.da c.ds.length c.dc,.slice c.va c.vs.length c.vc] #[.int .i64 0,.slice none 0 0,.slice none 0 0,.slice none 0 0] 24 27 27
  rw[H1.out];exact H3.out)
 go_enter Tryz.func27,Tryz.ntmps27
 go_wp2
 rw[HW0.out]
 clear k0 k1 k2 k3
 go_loopw [10,11,12] (fun y z x wr=>∃i:Nat,i<=c.rs.length/\x=.int .i64 i/\y=.int .i64 ((cntE 0 (c.rs.take i):Nat)-1)/\z=.int .i64 (cntE md (c.ds.take i):Nat)/\Hid (PoI W w0 c.id md c a b i i i wr)) (fun _ _ x _=>c.rs.length-(intOf x).toNat)
 case atStart =>
  refine⟨0,Nat.zero_le _,rfl,rfl,rfl,⟨.slice none 0 0,.slice none 0 0,.slice none 0 0,?_⟩,DFr.refl _ _ _⟩
  rw[Nat.zero_min,cutL_nil c.rs (Nat.zero_le _),cutL_nil c.ds (Nat.zero_le _),cutL_nil c.vs (by simp[cntE])]
  exact AcI.start HO.out
 case round =>
  obtain⟨i,hile,rfl,rfl,rfl,HI⟩:=hrel
  have hy:=HI.out.fr.box HY.out (by omega) (by decide)
  have hx:=HI.out.fr.box HX.out (by omega) (by decide)
  obtain⟨⟨p0,p1,p2,p3,p4⟩,_⟩:=row_five hx
  obtain⟨k0,k1,k2,k3⟩:=row_four hy
  clear hx hy
  by_cases hlt:i<c.rs.length
  · have hlt2:i<c.ds.length:=by rw[←HLn.out];exact hlt
    have hat:=HAT.out wr HI.out.fr
    obtain⟨rb,ro,hra,hr⟩:=lies_ints hat.r i hlt
    obtain⟨db,dO,hda,hd⟩:=lies_ints hat.d i hlt2
    have HN:Hid (cntE 0 (c.rs.take (i+1))=cntE 0 (c.rs.take i)+if c.rs[i]=0 then 1 else 0):=cntE_succ 0 c.rs i hlt
    have HM:Hid (cntE md (c.ds.take (i+1))=cntE md (c.ds.take i)+if c.ds[i]=md then 1 else 0):=cntE_succ md c.ds i hlt2
    have HRA:Hid _:=hra
    have HDA:Hid _:=hda
    obtain⟨r,hrE⟩:∃r,r=c.rs[i]:=⟨_,rfl⟩
    obtain⟨d,hdE⟩:∃d,d=c.ds[i]:=⟨_,rfl⟩
    rw[←hrE] at hr HN
    rw[←hdE] at hd HM
    have HRE:Hid _:=hrE
    have HDE:Hid _:=hdE
    rw[hra] at k1
    rw[hda] at k2
    have hnle:=cntE_le 0 c.rs i
    have hmle:=cntE_le md c.ds i
    obtain⟨n,HNn⟩:∃n,Hid (cntE 0 (c.rs.take i)=n):=⟨_,rfl⟩
    obtain⟨n2,HNm⟩:∃n,Hid (cntE 0 (c.rs.take (i+1))=n):=⟨_,rfl⟩
    obtain⟨m,HMm⟩:∃n,Hid (cntE md (c.ds.take i)=n):=⟨_,rfl⟩
    rw[HNn.out,HNm.out] at HN
    rw[HMm.out] at HM
    rw[HNn.out] at hnle
    rw[HMm.out] at hmle
    rw[HNn.out,HMm.out]
    clear hra hda hrE hdE hat
    go_upto_if 29 with fail
    go_cut [10] (fun x wx=>x=.int .i64 ((n2:Int)-1)/\wx=wr)
    case first =>
     by_cases hz:r=0
     · have hq:n2=n+1:=by have h:=HN.out;rw[if_pos hz] at h;exact h
       subst hz
       go_wp2
       go_meet
       exact⟨by subst hq;go_num,rfl⟩
     · have hq:n2=n:=by have h:=HN.out;rw[if_neg hz] at h;exact h
       have q:(r == 0)=false:=by simp[hz]
       clear hz
       go_wp2
       go_meet
       exact⟨by rw[hq],rfl⟩
    case rest =>
     obtain⟨rfl,hw⟩:=hcut
     obtain rfl:=hw.symm
     have hA:lo<(n2:Int) ↔ a<=i:=by rw[←HNm.out];exact HSA.out.iff hlt
     have hB:hi<(n2:Int) ↔ b<=i:=by rw[←HNm.out];exact HSB.out.iff hlt
     obtain⟨inn,HIn⟩:∃t:Bool,Hid (t=decide (a<=i/\i<b)):=⟨_,rfl⟩
     go_upto_region 9 with fail
     go_cut [13] (fun x wx=>x=.bool inn/\wx=wr)
     case first =>
      by_cases h1:a<=i
      · have q1:decide (lo<=(n2:Int)-1)=true:=by rw[decide_eq_true_iff];have:=hA.2 h1;omega
        by_cases h2:i<b
        · have q2:decide ((n2:Int)-1<hi)=true:=by rw[decide_eq_true_iff];have:=mt hB.1 (by omega);omega
          have hin:inn=true:=by rw[HIn.out];simp[h1,h2]
          clear h1 h2 hA hB
          go_wp2
          go_meet
          exact⟨by rw[hin],rfl⟩
        · have q2:decide ((n2:Int)-1<hi)=false:=by rw[decide_eq_false_iff_not];have:=hB.2 (by omega);omega
          have hin:inn=false:=by rw[HIn.out];simp[h2]
          clear h1 h2 hA hB
          go_wp2
          go_meet
          exact⟨by rw[hin],rfl⟩
      · have q1:decide (lo<=(n2:Int)-1)=false:=by rw[decide_eq_false_iff_not];have:=mt hA.1 h1;omega
        have hin:inn=false:=by rw[HIn.out];simp[h1]
        clear h1 hA hB
        go_wp2
        go_meet
        exact⟨by rw[hin],rfl⟩
     case rest =>
      obtain⟨rfl,hw⟩:=hcut
      obtain rfl:=hw.symm
      clear hA hB
      go_upto_if 40 with fail
      go_cut [] (fun wx=>Hid (PoI W w0 c.id md c a b (i+1) (i+1) i wx))
      case first =>
       cases inn
       · have hno:¬ (a<=i/\i<b):=by have h:=HIn.out;simpa using h
         have HP:Hid (PoI W w0 c.id md c a b (i+1) (i+1) i wr):=⟨by rw[cutL_out c.rs hno,cutL_out c.ds hno];exact HI.out.acc,HI.out.fr⟩
         clear hno
         go_wp2
         go_meet
         exact HP
       · have hyes:a<=i/\i<b:=by have h:=HIn.out;simpa using h
         have HCr:Hid (cutL c.rs a (min (i+1) b)=cutL c.rs a (min i b)++[r]):=(by show _=_;rw[HRE.out];exact cutL_in c.rs hyes.1 hyes.2 hlt)
         have HCd:Hid (cutL c.ds a (min (i+1) b)=cutL c.ds a (min i b)++[d]):=(by show _=_;rw[HDE.out];exact cutL_in c.ds hyes.1 hyes.2 hlt2)
         clear hyes
         go_wp2_with fail
         go_upto_region 11 with fail
         go_cut [] (fun wx=>Hid (PoI W w0 c.id md c a b (i+1) i i wx))
         case first =>
          obtain⟨rv,dv,vv,hI⟩:=HI.out.acc
          obtain⟨ra,rc,rfl⟩:=own_slC hI.rrow
          obtain⟨da,dc,rfl⟩:=own_slC hI.drow
          obtain⟨va,vc,rfl⟩:=own_slC hI.vrow
          obtain⟨g0,g1,g2,g3⟩:=row_four hI.cell
          obtain⟨f0,f1,f2,f3⟩:=row_fourA hI.cell
          obtain⟨y0,y1,y2,y3⟩:=row_four (blk_alloc (o':=.cells #[.int .i64 r] 3) hI.cell)
          have HBa:Hid (Below wr.heap.size wr (wr.alloc (.cells #[.int .i64 r] 3)).drew):=((Below.refl _ _).alloc (Nat.le_refl _) _).drew
          have HAa:Hid _:=hI.stay HBa.out
          have HDa:Hid (DFr (W.heap.size+1+1+1) (W.heap.size+1+1+1+1) w0 _):=HI.out.fr.trans (.of_below HBa.out)
          have hs1:W.heap.size+1+1+1+1<=wr.heap.size:=Nat.le_trans HSz.out HI.out.fr.size
          have hl1:(cutL c.rs a (min i b)).length<=20000:=by rw[cutL_len _ _ _ (by omega)];omega
          clear hI
          go_wp2_with fail
          go_region_law (refine step_append_any _ rfl _ _ 22 rfl (W.heap.size+1+1+1+1) 3 iv (.int .i64 0) 1 8 Tryz.underlying22 hvi hv0 hv1 hv2 rfl (by decide) _ _ (i64s (cutL c.rs a (min i b))) rfl HAa.out.rrow (some ⟨wr.heap.size,0,none⟩) 1 1 (i64s [r]) rfl rfl (fun j u hu=>⟨_,rfl,(show (wr.alloc _).cell? _=some u from cell_one_new _ _ _ j u hu)⟩) (one_i _) (by unfold maxLen;omega) (by omega) (by simp;omega) ?_;intro v1 x1 hown1 hg1 hw1;obtain⟨e1,e2,e3⟩:=AcI.appR HAa.out hown1 hg1 hw1;obtain⟨a1,c1,rfl⟩:=own_slC hown1;have HA1:Hid _:=e2;have HD1:Hid (DFr (W.heap.size+1+1+1) (W.heap.size+1+1+1+1) w0 _):=HDa.out.trans e3;clear hown1 hg1 hw1 e2 e3 g0 g1 g2 g3 f0 f1 f2 f3;obtain⟨g0,g1,g2,g3⟩:=row_four e1;obtain⟨f0,f1,f2,f3⟩:=row_fourA e1;clear e1)
          all_goals
           go_wp2_with fail
           go_meet
           exact⟨⟨_,_,_,by rw[HCr.out];exact HA1.out⟩,HD1.out⟩
         case rest =>
          have HI1:Hid _:=hcut
          rename World=>w1
          clear p0 p1 p2 p3 p4 k0 k1 k2 k3 hr hd
          have hy:=HI1.out.fr.box HY.out (by omega) (by decide)
          have hx:=HI1.out.fr.box HX.out (by omega) (by decide)
          obtain⟨⟨p0,p1,p2,p3,p4⟩,_⟩:=row_five hx
          obtain⟨k0,k1,k2,k3⟩:=row_four hy
          have hat:=HAT.out w1 HI1.out.fr
          rw[HRA.out] at k1
          rw[HDA.out] at k2
          have hd:∀o',o'=dO+i->w1.cell? ⟨db,o',none⟩=some (.int .i64 d):=fun o' ho=>by
           obtain⟨b',o'',e,h⟩:=lies_ints hat.d i hlt2
           rw[HDA.out] at e;injection e with e;injection e with e1 e2 _;subst e1 e2 ho;rw[HDE.out];exact h
          have hd:=hd _ rfl
          clear hx hy hat
          go_upto_region 12 with fail
          go_cut [] (fun wx=>Hid (PoI W w0 c.id md c a b (i+1) (i+1) i wx))
          case first =>
           obtain⟨rv,dv,vv,hI⟩:=HI1.out.acc
           obtain⟨ra,rc,rfl⟩:=own_slC hI.rrow
           obtain⟨da,dc,rfl⟩:=own_slC hI.drow
           obtain⟨va,vc,rfl⟩:=own_slC hI.vrow
           obtain⟨g0,g1,g2,g3⟩:=row_four hI.cell
           obtain⟨f0,f1,f2,f3⟩:=row_fourA hI.cell
           obtain⟨y0,y1,y2,y3⟩:=row_four (blk_alloc (o':=.cells #[.int .i64 d] 3) hI.cell)
           have HBa:Hid (Below w1.heap.size w1 (w1.alloc (.cells #[.int .i64 d] 3)).drew):=((Below.refl _ _).alloc (Nat.le_refl _) _).drew
           have HAa:Hid _:=hI.stay HBa.out
           have HDa:Hid (DFr (W.heap.size+1+1+1) (W.heap.size+1+1+1+1) w0 _):=HI1.out.fr.trans (.of_below HBa.out)
           have hs1:W.heap.size+1+1+1+1<=w1.heap.size:=Nat.le_trans HSz.out HI1.out.fr.size
           have hl1:(cutL c.ds a (min i b)).length<=20000:=by rw[cutL_len _ _ _ (by omega)];omega
           clear hI
           go_wp2_with fail
           go_region_law (refine step_append_any _ rfl _ _ 22 rfl (W.heap.size+1+1+1+1) 3 iv (.int .i64 0) 1 8 Tryz.underlying22 hvi hv0 hv1 hv2 rfl (by decide) _ _ (i64s (cutL c.ds a (min i b))) rfl HAa.out.drow (some ⟨w1.heap.size,0,none⟩) 1 1 (i64s [d]) rfl rfl (fun j u hu=>⟨_,rfl,(show (w1.alloc _).cell? _=some u from cell_one_new _ _ _ j u hu)⟩) (one_i _) (by unfold maxLen;omega) (by omega) (by simp;omega) ?_;intro v1 x1 hown1 hg1 hw1;obtain⟨e1,e2,e3⟩:=AcI.appD HAa.out hown1 hg1 hw1;obtain⟨a1,c1,rfl⟩:=own_slC hown1;have HA1:Hid _:=e2;have HD1:Hid (DFr (W.heap.size+1+1+1) (W.heap.size+1+1+1+1) w0 _):=HDa.out.trans e3;clear hown1 hg1 hw1 e2 e3 g0 g1 g2 g3 f0 f1 f2 f3;obtain⟨g0,g1,g2,g3⟩:=row_four e1;obtain⟨f0,f1,f2,f3⟩:=row_fourA e1;clear e1)
           all_goals
            go_wp2_with fail
            go_meet
            exact⟨⟨_,_,_,by rw[HCd.out];exact HA1.out⟩,HD1.out⟩
          case rest =>
           go_wp2
           go_meet
           exact hcut
      case rest =>
       have HI2:Hid _:=hcut
       rename World=>w2
       clear p0 p1 p2 p3 p4 k0 k1 k2 k3 hr hd HI
       have hy:=HI2.out.fr.box HY.out (by omega) (by decide)
       have hx:=HI2.out.fr.box HX.out (by omega) (by decide)
       obtain⟨⟨p0,p1,p2,p3,p4⟩,_⟩:=row_five hx
       obtain⟨k0,k1,k2,k3⟩:=row_four hy
       have hat:=HAT.out w2 HI2.out.fr
       rw[HRA.out] at k1
       rw[HDA.out] at k2
       have hd:∀o',o'=dO+i->w2.cell? ⟨db,o',none⟩=some (.int .i64 d):=fun o' ho=>by
        obtain⟨b',o'',e,h⟩:=lies_ints hat.d i hlt2
        rw[HDA.out] at e;injection e with e;injection e with e1 e2 _;subst e1 e2 ho;rw[HDE.out];exact h
       have hd:=hd _ rfl
       clear hx hy hat
       by_cases hdm:d=md
       · have q:(d == md)=true:=by simp[hdm]
         have HDM:Hid (c.ds[i]=md):=(by show _=_;rw[←HDE.out];exact hdm)
         have HM1:Hid (cntE md (c.ds.take (i+1))=m+1):=(by show _=_;rw[HM.out,if_pos hdm])
         have hmv:m<c.vs.length:=by rw[HVn.out];have h:=cntE_all md c.ds (i+1);rw[HM1.out] at h;omega
         clear hdm
         have hat:=HAT.out w2 HI2.out.fr
         obtain⟨vb,vo,hva,d0,d1,d2⟩:=hat.v m hmv
         obtain⟨x,hxE⟩:∃x,x=c.vs[m]:=⟨_,rfl⟩
         rw[←hxE] at d0 d1 d2
         rw[hva] at k3
         have HXE:Hid _:=hxE
         have HLen:Hid ((cutL c.vs (cntE md (c.ds.take a)) (cntE md (c.ds.take (min i b)))).length<=20000):=Nat.le_trans (cutL_le _ _ _) hv
         clear hat hva hxE
         go_wp2_with fail
         go_quiet (fail)
         have HI3:Hid _:=HI2.out.keep (below_dQ (Below.refl _ _) nq)
         cases inn
         · have hno:¬ (a<=i/\i<b):=by have h:=HIn.out;simpa using h
           have HP:Hid (PoI W w0 c.id md c a b (i+1) (i+1) (i+1) _):=⟨by rw[cutV_out c.vs md c.ds hlt2 (.inl hno)];exact HI3.out.acc,HI3.out.fr⟩
           clear hno
           go_wp2
           go_roundw
           case rel=>exact⟨i+1,by omega,by go_num,by rw[HNm.out],by rw[HM1.out];go_num,HP⟩
           case measure=>simp[intOf];omega
         · have hyes:a<=i/\i<b:=by have h:=HIn.out;simpa using h
           have HCv:Hid (cutL c.vs (cntE md (c.ds.take a)) (cntE md (c.ds.take (min (i+1) b)))=cutL c.vs (cntE md (c.ds.take a)) (cntE md (c.ds.take (min i b)))++[x]):=(by
            show _=_
            rw[cutV_in c.vs md c.ds hyes.1 hyes.2 hlt2 HDM.out (by rw[HMm.out];exact hmv),HXE.out]
            congr 2
            simp only[HMm.out])
           clear hyes p0 p1 p2 p3 p4 k0 k1 k2 k3 hd d0 d1 d2
           obtain⟨w3,HW3⟩:∃w3,Hid (w2.drewN nq=w3):=⟨_,rfl⟩
           rw[HW3.out] at HI3
           rw[HW3.out]
           clear HI2
           have hy:=HI3.out.fr.box HY.out (by omega) (by decide)
           have hx:=HI3.out.fr.box HX.out (by omega) (by decide)
           obtain⟨⟨p0,p1,p2,p3,p4⟩,_⟩:=row_five hx
           obtain⟨k0,k1,k2,k3⟩:=row_four hy
           have hat:=HAT.out w3 HI3.out.fr
           rw[HRA.out] at k1
           rw[HDA.out] at k2
           have hd:∀o',o'=dO+i->w3.cell? ⟨db,o',none⟩=some (.int .i64 d):=fun o' ho=>by
            obtain⟨b',o'',e,h⟩:=lies_ints hat.d i hlt2
            rw[HDA.out] at e;injection e with e;injection e with e1 e2 _;subst e1 e2 ho;rw[HDE.out];exact h
           have hd:=hd _ rfl
           clear hx hy hat
           have hat:=HAT.out w3 HI3.out.fr
           obtain⟨vb,vo,hva,d0,d1,d2⟩:=hat.v m hmv
           rw[←HXE.out] at d0 d1 d2
           rw[hva] at k3
           clear hat hva
           go_upto_region 15 with fail
           go_cut [] (fun wx=>Hid (PoI W w0 c.id md c a b (i+1) (i+1) (i+1) wx))
           case first =>
            obtain⟨rv,dv,vv,hI⟩:=HI3.out.acc
            obtain⟨ra,rc,rfl⟩:=own_slC hI.rrow
            obtain⟨da,dc,rfl⟩:=own_slC hI.drow
            obtain⟨va,vc,rfl⟩:=own_slC hI.vrow
            obtain⟨g0,g1,g2,g3⟩:=row_four hI.cell
            obtain⟨f0,f1,f2,f3⟩:=row_fourA hI.cell
            obtain⟨y0,y1,y2,y3⟩:=row_four (blk_alloc (o':=.cells #[.int .i64 x.k,.int .i64 x.n,.string x.s] 46) hI.cell)
            have HBa:Hid (Below w3.heap.size w3 (w3.alloc (.cells #[.int .i64 x.k,.int .i64 x.n,.string x.s] 46)).drew):=((Below.refl _ _).alloc (Nat.le_refl _) _).drew
            have HAa:Hid _:=hI.stay HBa.out
            have HDa:Hid (DFr (W.heap.size+1+1+1) (W.heap.size+1+1+1+1) w0 _):=HI3.out.fr.trans (.of_below HBa.out)
            have hs1:W.heap.size+1+1+1+1<=w3.heap.size:=Nat.le_trans HSz.out HI3.out.fr.size
            have hl1:(cutL c.vs (cntE md (c.ds.take a)) (cntE md (c.ds.take (min i b)))).length<=20000:=HLen.out
            clear hI
            go_wp2_with fail
            go_region_law (refine step_append_any _ rfl _ _ 25 rfl (W.heap.size+1+1+1+1) 46 iw (.agg #[.int .i64 0,.int .i64 0,.string ⟨#[]⟩]) 3 32 Tryz.underlying25 hwi hw0 hw1 hw2 rfl (by decide) _ _ (vcells (cutL c.vs (cntE md (c.ds.take a)) (cntE md (c.ds.take (min i b))))) rfl HAa.out.vrow (some ⟨w3.heap.size,0,none⟩) 1 1 (vcells [x]) rfl rfl (fun j u hu=>⟨_,rfl,(show (w3.alloc _).cell? _=some u from cell_new_v _ x j u hu)⟩) (one_v _) (by unfold maxLen;omega) (by omega) (by simp;omega) ?_;intro v1 x1 hown1 hg1 hw1;obtain⟨e1,e2,e3⟩:=AcI.appV HAa.out hown1 hg1 hw1;obtain⟨a1,c1,rfl⟩:=own_slC hown1;have HA1:Hid _:=e2;have HD1:Hid (DFr (W.heap.size+1+1+1) (W.heap.size+1+1+1+1) w0 _):=HDa.out.trans e3;clear hown1 hg1 hw1 e2 e3 g0 g1 g2 g3 f0 f1 f2 f3;obtain⟨g0,g1,g2,g3⟩:=row_four e1;obtain⟨f0,f1,f2,f3⟩:=row_fourA e1;clear e1)
            all_goals
             go_wp2_with fail
             go_meet
             exact⟨⟨_,_,_,by rw[HCv.out];exact HA1.out⟩,HD1.out⟩
           case rest =>
            have HI4:Hid _:=hcut
            go_wp2
            go_roundw
            case rel=>exact⟨i+1,by omega,by go_num,by rw[HNm.out],by rw[HM1.out];go_num,HI4⟩
            case measure=>simp[intOf];omega
       · have q:(d == md)=false:=by simp[hdm]
         have HDM:Hid (c.ds[i]≠md):=(by show _≠_;rw[←HDE.out];exact hdm)
         have HM1:Hid (cntE md (c.ds.take (i+1))=m):=(by show _=_;rw[HM.out,if_neg hdm];rfl)
         clear hdm
         go_wp2_with fail
         go_quiet (fail)
         have HP:Hid (PoI W w0 c.id md c a b (i+1) (i+1) (i+1) _):=⟨by rw[cutV_out c.vs md c.ds hlt2 (.inr HDM.out)];exact (HI2.out.keep (below_dQ (Below.refl _ _) nq)).acc,(HI2.out.keep (below_dQ (Below.refl _ _) nq)).fr⟩
         go_wp2
         go_roundw
         case rel=>exact⟨i+1,by omega,by go_num,by rw[HNm.out],by rw[HM1.out],HP⟩
         case measure=>simp[intOf];omega
  · obtain rfl:i=c.rs.length:=by omega
    obtain⟨rv,dv,vv,hI⟩:=HI.out.acc
    rw[HLn.out,Nat.min_eq_right (by rw[←HLn.out];exact HSB.out.1)] at hI
    obtain⟨ra,rc,rfl⟩:=own_slC hI.rrow
    obtain⟨da,dc,rfl⟩:=own_slC hI.drow
    obtain⟨va,vc,rfl⟩:=own_slC hI.vrow
    have HA:Hid _:=hI
    obtain⟨g0,g1,g2,g3⟩:=row_four hI.cell
    have hz:=HI.out.fr.box HZ.out (by omega) (by decide)
    obtain⟨z0,z1,z2,z3⟩:=row_four hz
    obtain⟨f0,f1,f2,f3⟩:=row_fourA hz
    have HZr:Hid _:=hz
    clear hz hI
    go_wp2
    have f1':∀p,ra=some p->W.heap.size+1+1<p.block:=fun p hp=>by have:=own_fresh HA.out.rrow rfl p hp;omega
    have f2':∀p,da=some p->W.heap.size+1+1<p.block:=fun p hp=>by have:=own_fresh HA.out.drow rfl p hp;omega
    have f3':∀p,va=some p->W.heap.size+1+1<p.block:=fun p hp=>by have:=own_fresh HA.out.vrow rfl p hp;omega
    have l1:Lies wr ra (i64s (cutL c.rs a b)):=by
     obtain⟨a',c',he,hl⟩:=lies_own HA.out.rrow
     injection he with e1 _ _;subst e1;exact hl
    have l2:Lies wr da (i64s (cutL c.ds a b)):=by
     obtain⟨a',c',he,hl⟩:=lies_own HA.out.drow
     injection he with e1 _ _;subst e1;exact hl
    have l3:LiesV wr va (cutL c.vs (cntE md (c.ds.take a)) (cntE md (c.ds.take b))):=by
     obtain⟨a',c',he,hl⟩:=liesV_own HA.out.vrow
     injection he with e1 _ _;subst e1;exact hl
    have hbw:Below W.heap.size W wr:=HB.out.trans (HI.out.fr.below HB.out.size (by omega) (by omega))
    exact bodyPost_ret (v:=.agg #[.int .i64 c.id,.slice ra (cutL c.rs a b).length rc,.slice da (cutL c.ds a b).length dc,.slice va (cutL c.vs (cntE md (c.ds.take a)) (cntE md (c.ds.take b))).length vc]) (results_cell_row Tryz.results27 _ _ (W.heap.size+1+1) 27 #[.int .i64 c.id,.slice ra (cutL c.rs a b).length rc,.slice da (cutL c.ds a b).length dc,.slice va (cutL c.vs (cntE md (c.ds.take a)) (cntE md (c.ds.take b))).length vc] (0,0) _ rfl (row_setCell (row_setCell (row_setCell (row_setCell HZr.out _) _) _) _) Tryz.underlying27 rfl (by kernel_rfl)) rfl ⟨⟨⟨c.id,ra,cutL c.rs a b,rc,da,cutL c.ds a b,dc,va,cutL c.vs (cntE md (c.ds.take a)) (cntE md (c.ds.take b)),vc⟩,rfl,⟨(((l1.off f1').off f1').off f1').off f1',(((l2.off f2').off f2').off f2').off f2',(((l3.off f3').off f3').off f3').off f3'⟩,⟨fun p hp=>by have:=f1' p hp;omega,fun p hp=>by have:=f2' p hp;omega,fun p hp=>by have:=f3' p hp;omega⟩,rfl,rfl,rfl,rfl⟩,(((hbw.setCell (by simp;omega) _).setCell (by simp;omega) _).setCell (by simp;omega) _).setCell (by simp;omega) _⟩
theorem partOf_any (lid kind mr md lo hi:Int)(pa:Option Addr)(pn pc:Nat)(c:Cl)(W:World)(a b:Nat)
    (hn:c.rs.length<=20000) (hv:c.vs.length<=20000) (hln:c.rs.length=c.ds.length) (hvn:c.vs.length=cntE md c.ds) (hsa:StAt c.rs lo a) (hsb:StAt c.rs hi b) (hat:c.At W) :
    Calls Tryz.prog 27 #[.agg #[.int .i64 lid,.int .i64 kind,.int .i64 mr,.int .i64 md,.slice pa pn pc],.agg #[.int .i64 c.id,.slice c.ra c.rs.length c.rc,.slice c.da c.ds.length c.dc,.slice c.va c.vs.length c.vc],.int .i64 lo,.int .i64 hi] W fun e w'=>(∃k:Cl,e=.returned (.agg #[.int .i64 k.id,.slice k.ra k.rs.length k.rc,.slice k.da k.ds.length k.dc,.slice k.va k.vs.length k.vc])/\k.At w'/\k.id=c.id/\k.rs=cutL c.rs a b/\k.ds=cutL c.ds a b/\k.vs=cutL c.vs (cntE md (c.ds.take a)) (cntE md (c.ds.take b)))/\Below W.heap.size W w' :=
 (partOf_f lid kind mr md lo hi pa pn pc c W a b hn hv hln hvn hsa hsb hat).mono fun _ _ h=>by
  obtain⟨⟨k,h1,h2,_,h3⟩,h4⟩:=h
  exact⟨⟨k,h1,h2,h3⟩,h4⟩
end Go.Proofs.YtoeiahdjamkdgaaGreatDoor
