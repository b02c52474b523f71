/-
  A column that is put together: its rows grow.
  shred.joined: columns, one behind the other.
  The reference's OwnColumn, told of a column.
  The law's ownLeaf.
  Leaves, columns and slices of columns that came in: what they hold; that they read behind the call as they did before.
  shred.Part: cuts of lists; slices that are sliced; what Part answers.
  shred.Part, walked.
-/
import Derived.Test.YtoeiahdjamkdgaaGreatDoorWBRefVals
import Derived.Test.YtoeiahdjamkdgaaGreatDoorWBAppAny
import Derived.Deep.DeepCutAuto
set_option maxRecDepth 100000
set_option maxHeartbeats 12800000
namespace Go.Proofs.YtoeiahdjamkdgaaGreatDoor
open Go.RowKit
theorem news_v {w:World}{ad:Option Addr}{vs:List Vl}(hl:LiesV w ad vs):∀j u,(vcells vs)[j]? = some u->∃a,ad=some a/\w.cell? (a.add j)=some u:=fun j u hu=>by
 obtain⟨i,r,hi,rfl,hr⟩:=vcells_cell vs j u hu
 obtain⟨b,o,e,h0,h1,h2⟩:=hl i hi
 refine⟨_,e,?_⟩
 rw[addr_up]
 rcases hr with ⟨rfl,rfl⟩|⟨rfl,rfl⟩|⟨rfl,rfl⟩
 · exact h0
 · rw[←Nat.add_assoc];exact h1
 · rw[←Nat.add_assoc];exact h2
theorem one_v (vs:List Vl):∀u∈vcells vs,u.oneCell'=true:=fun u hu=>by obtain⟨x,_,hx⟩:=List.mem_flatMap.1 hu;simp at hx;rcases hx with rfl|rfl|rfl<;>rfl
theorem vcells_app (xs ys:List Vl):vcells (xs++ys)=vcells xs++vcells ys:=by simp[vcells]
structure AcI (g N:Nat) (id:Int) (rv:Value) (reps:List Int) (dv:Value) (defs:List Int) (vv:Value) (vals:List Vl) (W:World):Prop where
 cell:W.heap[g]? = some (.cells #[.int .i64 id,rv,dv,vv] 27 (0,0))
 rrow:W.ownsRow N 3 1 rv reps.length (i64s reps)
 drow:W.ownsRow N 3 1 dv defs.length (i64s defs)
 vrow:W.ownsRow N 46 3 vv vals.length (vcells vals)
 two:∀k,rv.ownBlock=some k->dv.ownBlock≠some k
theorem AcI.stay {g N:Nat}{id:Int}{rv dv vv:Value}{reps defs:List Int}{vals:List Vl}{W w':World}(h:AcI g N id rv reps dv defs vv vals W)(hb:Below W.heap.size W w'):AcI g N id rv reps dv defs vv vals w' :=
 ⟨blk_keep hb h.cell,ow_kept h.rrow hb,ow_kept h.drow hb,ow_kept h.vrow hb,h.two⟩
theorem AcI.start {g N:Nat}{id:Int}{W:World}(h:W.heap[g]? = some (.cells #[.int .i64 id,.slice none 0 0,.slice none 0 0,.slice none 0 0] 27 (0,0))):AcI g N id (.slice none 0 0) [] (.slice none 0 0) [] (.slice none 0 0) [] W :=
 ⟨h,World.ownsRow_nil W N 3 1,World.ownsRow_nil W N 3 1,World.ownsRow_nil W N 46 3,fun k hk=>by simp[Value.ownBlock] at hk⟩
theorem AcI.appR {g N:Nat}{id:Int}{rv dv vv:Value}{reps defs:List Int}{vals:List Vl}{W w1:World}{x2:Value}{xs:List Int}(h:AcI g N id rv reps dv defs vv vals W)
    (hown:w1.ownsRow N 3 1 x2 (reps.length+xs.length) (i64s reps++i64s xs)) (hg:W.grownBy w1 rv.ownBlock) (hw:x2.ownBlock=rv.ownBlock\/x2.ownBlock=some W.heap.size) :
    w1.heap[g]? = some (.cells #[.int .i64 id,rv,dv,vv] 27 (0,0))/\AcI g N id x2 (reps++xs) dv defs vv vals (w1.setCell ⟨g,1,none⟩ x2)/\DFr g N W (w1.setCell ⟨g,1,none⟩ x2):=by
 have hgl:=lt_of_block h.cell
 have hng:some g≠rv.ownBlock:=own_type h.rrow h.cell (by decide)
 have hng2:x2.ownBlock≠some g:=by
  rcases hw with e|e
  · rw[e];exact fun e2=>hng e2.symm
  · rw[e];simp;omega
 have eC:w1.heap[g]? = some (.cells #[.int .i64 id,rv,dv,vv] 27 (0,0)):=by
  rw[hg.block g (by omega) hng]
  exact h.cell
 have hset:∀k,k≠g->(w1.setCell ⟨g,1,none⟩ x2).heap[k]? = w1.heap[k]?:=fun k hk=>Below.heap_setCell _ ⟨g,1,none⟩ _ _ hk
 have hrow:∀{e s n:Nat} {v:Value} {xs:List Value},W.ownsRow N e s v n xs->e≠27->(∀k,v.ownBlock=some k->some k≠rv.ownBlock)->(w1.setCell ⟨g,1,none⟩ x2).ownsRow N e s v n xs:=fun hr he hne=>own_same hr fun k hk=>by
  obtain⟨q1,q2,cs,q3⟩:=own_block hr hk
  have hkg:k≠g:=fun e2=>by subst e2;rw[h.cell] at q3;injection q3 with q3;injection q3 with _ q3 _;exact he q3.symm
  rw[hset k hkg,hg.block k q2 (hne k hk)]
 have hty:∀{e s n:Nat} {v:Value} {xs:List Value},W.ownsRow N e s v n xs->3≠e->∀k,v.ownBlock=some k->some k≠rv.ownBlock:=fun hr he k hk=>by
  obtain⟨_,_,cs,q3⟩:=own_block hr hk
  exact own_type h.rrow q3 he
 refine⟨eC,?_,⟨hg.os,hg.tape,hg.output,by have:=hg.size;simp;omega,fun k hk hne ht=>?_⟩⟩
 · refine⟨?_,?_,hrow h.drow (by decide) (fun k hk e=>h.two k e.symm hk),hrow h.vrow (by decide) (hty h.vrow (by decide)),?_⟩
   · rw[row_setC eC];rfl
   · rw[List.length_append,i64s_app]
     exact own_same hown fun k hk=>hset k (fun e2=>by subst e2;exact hng2 hk)
   · intro k hk
     rcases hw with e|e
     · rw[e] at hk;exact h.two k hk
     · rw[e] at hk
       simp at hk
       intro e2
       have:=(own_block h.drow e2).2.1
       omega
 · rw[hset k hne,hg.block k hk (fun e=>?_)]
   obtain⟨q1,_,cs,q3⟩:=own_block h.rrow e.symm
   exact absurd rfl (ht q1 cs _ _ q3).1
theorem AcI.appD {g N:Nat}{id:Int}{rv dv vv:Value}{reps defs:List Int}{vals:List Vl}{W w1:World}{x2:Value}{xs:List Int}(h:AcI g N id rv reps dv defs vv vals W)
    (hown:w1.ownsRow N 3 1 x2 (defs.length+xs.length) (i64s defs++i64s xs)) (hg:W.grownBy w1 dv.ownBlock) (hw:x2.ownBlock=dv.ownBlock\/x2.ownBlock=some W.heap.size) :
    w1.heap[g]? = some (.cells #[.int .i64 id,rv,dv,vv] 27 (0,0))/\AcI g N id rv reps x2 (defs++xs) vv vals (w1.setCell ⟨g,2,none⟩ x2)/\DFr g N W (w1.setCell ⟨g,2,none⟩ x2):=by
 have hgl:=lt_of_block h.cell
 have hng:some g≠dv.ownBlock:=own_type h.drow h.cell (by decide)
 have hng2:x2.ownBlock≠some g:=by
  rcases hw with e|e
  · rw[e];exact fun e2=>hng e2.symm
  · rw[e];simp;omega
 have eC:w1.heap[g]? = some (.cells #[.int .i64 id,rv,dv,vv] 27 (0,0)):=by
  rw[hg.block g (by omega) hng]
  exact h.cell
 have hset:∀k,k≠g->(w1.setCell ⟨g,2,none⟩ x2).heap[k]? = w1.heap[k]?:=fun k hk=>Below.heap_setCell _ ⟨g,2,none⟩ _ _ hk
 have hrow:∀{e s n:Nat} {v:Value} {xs:List Value},W.ownsRow N e s v n xs->e≠27->(∀k,v.ownBlock=some k->some k≠dv.ownBlock)->(w1.setCell ⟨g,2,none⟩ x2).ownsRow N e s v n xs:=fun hr he hne=>own_same hr fun k hk=>by
  obtain⟨q1,q2,cs,q3⟩:=own_block hr hk
  have hkg:k≠g:=fun e2=>by subst e2;rw[h.cell] at q3;injection q3 with q3;injection q3 with _ q3 _;exact he q3.symm
  rw[hset k hkg,hg.block k q2 (hne k hk)]
 have hty:∀{e s n:Nat} {v:Value} {xs:List Value},W.ownsRow N e s v n xs->3≠e->∀k,v.ownBlock=some k->some k≠dv.ownBlock:=fun hr he k hk=>by
  obtain⟨_,_,cs,q3⟩:=own_block hr hk
  exact own_type h.drow q3 he
 refine⟨eC,?_,⟨hg.os,hg.tape,hg.output,by have:=hg.size;simp;omega,fun k hk hne ht=>?_⟩⟩
 · refine⟨?_,hrow h.rrow (by decide) (fun k hk e=>h.two k hk e.symm),?_,hrow h.vrow (by decide) (hty h.vrow (by decide)),?_⟩
   · rw[row_setC eC];rfl
   · rw[List.length_append,i64s_app]
     exact own_same hown fun k hk=>hset k (fun e2=>by subst e2;exact hng2 hk)
   · intro k hk e2
     rcases hw with e|e
     · rw[e] at e2;exact h.two k hk e2
     · rw[e] at e2
       simp at e2
       have:=(own_block h.rrow hk).2.1
       omega
 · rw[hset k hne,hg.block k hk (fun e=>?_)]
   obtain⟨q1,_,cs,q3⟩:=own_block h.drow e.symm
   exact absurd rfl (ht q1 cs _ _ q3).1
theorem AcI.appV {g N:Nat}{id:Int}{rv dv vv:Value}{reps defs:List Int}{vals:List Vl}{W w1:World}{x2:Value}{xs:List Vl}(h:AcI g N id rv reps dv defs vv vals W)
    (hown:w1.ownsRow N 46 3 x2 (vals.length+xs.length) (vcells vals++vcells xs)) (hg:W.grownBy w1 vv.ownBlock) (hw:x2.ownBlock=vv.ownBlock\/x2.ownBlock=some W.heap.size) :
    w1.heap[g]? = some (.cells #[.int .i64 id,rv,dv,vv] 27 (0,0))/\AcI g N id rv reps dv defs x2 (vals++xs) (w1.setCell ⟨g,3,none⟩ x2)/\DFr g N W (w1.setCell ⟨g,3,none⟩ x2):=by
 have hgl:=lt_of_block h.cell
 have hng:some g≠vv.ownBlock:=own_type h.vrow h.cell (by decide)
 have hng2:x2.ownBlock≠some g:=by
  rcases hw with e|e
  · rw[e];exact fun e2=>hng e2.symm
  · rw[e];simp;omega
 have eC:w1.heap[g]? = some (.cells #[.int .i64 id,rv,dv,vv] 27 (0,0)):=by
  rw[hg.block g (by omega) hng]
  exact h.cell
 have hset:∀k,k≠g->(w1.setCell ⟨g,3,none⟩ x2).heap[k]? = w1.heap[k]?:=fun k hk=>Below.heap_setCell _ ⟨g,3,none⟩ _ _ hk
 have hrow:∀{e s n:Nat} {v:Value} {xs:List Value},W.ownsRow N e s v n xs->e≠27->(∀k,v.ownBlock=some k->some k≠vv.ownBlock)->(w1.setCell ⟨g,3,none⟩ x2).ownsRow N e s v n xs:=fun hr he hne=>own_same hr fun k hk=>by
  obtain⟨q1,q2,cs,q3⟩:=own_block hr hk
  have hkg:k≠g:=fun e2=>by subst e2;rw[h.cell] at q3;injection q3 with q3;injection q3 with _ q3 _;exact he q3.symm
  rw[hset k hkg,hg.block k q2 (hne k hk)]
 have hty:∀{e s n:Nat} {v:Value} {xs:List Value},W.ownsRow N e s v n xs->46≠e->∀k,v.ownBlock=some k->some k≠vv.ownBlock:=fun hr he k hk=>by
  obtain⟨_,_,cs,q3⟩:=own_block hr hk
  exact own_type h.vrow q3 he
 refine⟨eC,?_,⟨hg.os,hg.tape,hg.output,by have:=hg.size;simp;omega,fun k hk hne ht=>?_⟩⟩
 · refine⟨?_,hrow h.rrow (by decide) (hty h.rrow (by decide)),hrow h.drow (by decide) (hty h.drow (by decide)),?_,h.two⟩
   · rw[row_setC eC];rfl
   · rw[List.length_append,vcells_app]
     exact own_same hown fun k hk=>hset k (fun e2=>by subst e2;exact hng2 hk)
 · rw[hset k hne,hg.block k hk (fun e=>?_)]
   obtain⟨q1,_,cs,q3⟩:=own_block h.vrow e.symm
   exact absurd rfl (ht q1 cs _ _ q3).2
structure Cl where
 id:Int
 ra:Option Addr
 rs:List Int
 rc:Nat
 da:Option Addr
 ds:List Int
 dc:Nat
 va:Option Addr
 vs:List Vl
 vc:Nat
abbrev Cl.val (c:Cl):Value:=colV c.id c.ra c.rs.length c.rc c.da c.ds.length c.dc c.va c.vs.length c.vc
structure Cl.At (w:World) (c:Cl):Prop where
 r:Lies w c.ra (i64s c.rs)
 d:Lies w c.da (i64s c.ds)
 v:LiesV w c.va c.vs
theorem Cl.At.keep {w w':World}{c:Cl}(h:c.At w)(hb:Below w.heap.size w w'):c.At w':=⟨h.r.keep hb,h.d.keep hb,h.v.keep hb⟩
structure Cl.Fr (N:Nat) (c:Cl):Prop where
 r:∀p,c.ra=some p->N<=p.block
 d:∀p,c.da=some p->N<=p.block
 v:∀p,c.va=some p->N<=p.block
theorem Cl.At.off {w:World}{c:Cl}{N:Nat}(h:c.At w)(hf:c.Fr N){g j:Nat}{v:Value}(hg:g<N):c.At (w.setCell ⟨g,j,none⟩ v) :=
 ⟨h.r.off fun p hp=>Nat.lt_of_lt_of_le hg (hf.r p hp),h.d.off fun p hp=>Nat.lt_of_lt_of_le hg (hf.d p hp),h.v.off fun p hp=>Nat.lt_of_lt_of_le hg (hf.v p hp)⟩
def LiesC (w:World)(a:Option Addr)(cs:List Cl):Prop:=∀j (h:j<cs.length),(∃b o,a=some ⟨b,o,none⟩/\w.cell? ⟨b,o+j*4,none⟩=some (.int .i64 cs[j].id)/\w.cell? ⟨b,o+j*4+1,none⟩=some (.slice cs[j].ra cs[j].rs.length cs[j].rc)/\w.cell? ⟨b,o+j*4+2,none⟩=some (.slice cs[j].da cs[j].ds.length cs[j].dc)/\w.cell? ⟨b,o+j*4+3,none⟩=some (.slice cs[j].va cs[j].vs.length cs[j].vc))/\cs[j].At w
theorem LiesC.keep {w w':World}{a:Option Addr}{cs:List Cl}(h:LiesC w a cs)(hb:Below w.heap.size w w'):LiesC w' a cs:=fun j hj=>by
 obtain⟨⟨b,o,e,h0,h1,h2,h3⟩,h4⟩:=h j hj
 exact⟨⟨b,o,e,(hb.cell (World.block_lt_of_cell? w _ h0)).trans h0,(hb.cell (World.block_lt_of_cell? w _ h1)).trans h1,(hb.cell (World.block_lt_of_cell? w _ h2)).trans h2,(hb.cell (World.block_lt_of_cell? w _ h3)).trans h3⟩,h4.keep hb⟩
def jR (cs:List Cl):List Int:=cs.flatMap (·.rs)
def jD (cs:List Cl):List Int:=cs.flatMap (·.ds)
def jV (cs:List Cl):List Vl:=cs.flatMap (·.vs)
theorem jR_succ {cs:List Cl}{i:Nat}(h:i<cs.length):jR (cs.take (i+1))=jR (cs.take i)++cs[i].rs:=by rw[jR,jR,List.take_succ_eq_append_getElem h,List.flatMap_append];simp
theorem jD_succ {cs:List Cl}{i:Nat}(h:i<cs.length):jD (cs.take (i+1))=jD (cs.take i)++cs[i].ds:=by rw[jD,jD,List.take_succ_eq_append_getElem h,List.flatMap_append];simp
theorem jV_succ {cs:List Cl}{i:Nat}(h:i<cs.length):jV (cs.take (i+1))=jV (cs.take i)++cs[i].vs:=by rw[jV,jV,List.take_succ_eq_append_getElem h,List.flatMap_append];simp
theorem jR_split (cs:List Cl)(i:Nat):jR cs=jR (cs.take i)++jR (cs.drop i):=by simp[jR,←List.flatMap_append]
theorem jD_split (cs:List Cl)(i:Nat):jD cs=jD (cs.take i)++jD (cs.drop i):=by simp[jD,←List.flatMap_append]
theorem jV_split (cs:List Cl)(i:Nat):jV cs=jV (cs.take i)++jV (cs.drop i):=by simp[jV,←List.flatMap_append]
theorem jR_le (cs:List Cl)(i:Nat):(jR (cs.take i)).length<=(jR cs).length:=by rw[jR_split cs i,List.length_append];omega
theorem jD_le (cs:List Cl)(i:Nat):(jD (cs.take i)).length<=(jD cs).length:=by rw[jD_split cs i,List.length_append];omega
theorem jV_le (cs:List Cl)(i:Nat):(jV (cs.take i)).length<=(jV cs).length:=by rw[jV_split cs i,List.length_append];omega
def JnI (W w2:World)(lid:Int)(cs:List Cl)(i:Nat)(wr:World):Prop:=(∃rv dv vv,AcI (W.heap.size+1+1) (W.heap.size+1+1+1) lid rv (jR (cs.take i)) dv (jD (cs.take i)) vv (jV (cs.take i)) wr)/\DFr (W.heap.size+1+1) (W.heap.size+1+1+1) w2 wr
def Cl.Cap (k:Cl):Prop:=k.rs.length<=k.rc/\k.ds.length<=k.dc/\k.vs.length<=k.vc
theorem joined_cap (lid kind mr md:Int)(pa:Option Addr)(pn pc:Nat)(a:Option Addr)(c:Nat)(cs:List Cl)(W:World)(hn:cs.length<=1048576)(hjr:(jR cs).length<=1048576)(hjd:(jD cs).length<=1048576)(hjv:(jV cs).length<=1048576)(hl:LiesC W a cs) :
    Calls Tryz.prog 57 #[leafV lid kind mr md pa pn pc,.slice a cs.length c] W fun e w'=>(∃k:Cl,e=.returned k.val/\k.At w'/\k.Fr W.heap.size/\k.id=lid/\k.rs=jR cs/\k.ds=jD cs/\k.vs=jV cs/\k.Cap)/\Below W.heap.size W w':=by
 obtain⟨iv,hvi,hv0,hv1,hv2⟩:=info_parts Tryz.info3
 obtain⟨iw,hwi,hw0,hw1,hw2⟩:=info_parts Tryz.infoV
 unfold leafV
 obtain⟨w0,HW0,HX,HY,HB⟩:=two_boxes W #[.int .i64 lid,.int .i64 kind,.int .i64 mr,.int .i64 md,.slice pa pn pc] #[.int .i64 0,.slice none 0 0,.slice none 0 0,.slice none 0 0] 39 27
 have hz:w0.heap.size=W.heap.size+1+1:=by rw[←HW0.out];simp
 obtain⟨w2,HW2⟩:∃w2,Hid (w0.alloc (.cells #[.int .i64 lid,.slice none 0 0,.slice none 0 0,.slice none 0 0] 27)=w2):=⟨_,rfl⟩
 have hz2:w2.heap.size=W.heap.size+1+1+1:=by rw[←HW2.out];simp[hz]
 have HA:Hid (w2.heap[W.heap.size+1+1]? = some (.cells #[.int .i64 lid,.slice none 0 0,.slice none 0 0,.slice none 0 0] 27 (0,0))):=(by
  have h:=heap_alloc_new w0 (.cells #[.int .i64 lid,.slice none 0 0,.slice none 0 0,.slice none 0 0] 27)
  rw[hz,HW2.out] at h
  exact h)
 have HB2:Hid (Below W.heap.size W w2):=(by
  have h:=HB.out.alloc HB.out.size (.cells #[.int .i64 lid,.slice none 0 0,.slice none 0 0,.slice none 0 0] 27)
  rw[HW2.out] at h
  exact h)
 have HY2:Hid (w2.heap[W.heap.size+1]? = some (.cells #[.int .i64 0,.slice none 0 0,.slice none 0 0,.slice none 0 0] 27 (0,0))):=(by
  have h:=blk_alloc (o':=.cells #[.int .i64 lid,.slice none 0 0,.slice none 0 0,.slice none 0 0] 27) HY.out
  rw[HW2.out] at h
  exact h)
 have HL:Hid (∀wr,DFr (W.heap.size+1+1) (W.heap.size+1+1+1) w2 wr->LiesC wr a cs):=fun wr hd=>hl.keep (HB2.out.trans (hd.below (by omega) (by omega) (by omega)))
 have HZ2:Hid _:=hz2
 have p0:=(row_five HX.out).1.1
 clear hl hz hz2
 go_enter Tryz.func57,Tryz.ntmps57
 go_wp2
 rw[HW0.out,HW2.out]
 clear p0
 go_loopw [13] (fun x wr=>∃i:Nat,i<=cs.length/\x=.int .i64 i/\Hid (JnI W w2 lid cs i wr)) (fun x _=>cs.length-(intOf x).toNat)
 case atStart=>exact⟨0,Nat.zero_le _,rfl,⟨_,_,_,AcI.start HA.out⟩,DFr.refl _ _ _⟩
 case round =>
  obtain⟨i,hi,rfl,HJ⟩:=hrel
  have hsz:W.heap.size+1+1+1<=wr.heap.size:=by have:=HJ.out.2.size;rw[HZ2.out] at this;exact this
  obtain⟨rv,dv,vv,hI⟩:=HJ.out.1
  obtain⟨ra,rc,rfl⟩:=own_slC hI.rrow
  obtain⟨da,dc,rfl⟩:=own_slC hI.drow
  obtain⟨va,vc,rfl⟩:=own_slC hI.vrow
  have HI:Hid _:=hI
  clear hI
  by_cases hlt:i<cs.length
  · obtain⟨⟨b,o,rfl,c0,c1,c2,c3⟩,hat⟩:=HL.out wr HJ.out.2 i hlt
    have HAT:Hid (∀X,DFr (W.heap.size+1+1) (W.heap.size+1+1+1) w2 X->cs[i].At X):=fun X hX=>(HL.out X hX i hlt).2
    have HJr:Hid (jR (cs.take (i+1))=jR (cs.take i)++cs[i].rs):=jR_succ hlt
    have HJd:Hid (jD (cs.take (i+1))=jD (cs.take i)++cs[i].ds):=jD_succ hlt
    have HJv:Hid (jV (cs.take (i+1))=jV (cs.take i)++cs[i].vs):=jV_succ hlt
    have HLr:Hid ((jR (cs.take i)).length+cs[i].rs.length<=1048576):=(by have h:=jR_le cs (i+1);rw[HJr.out,List.length_append] at h;show _<=_;omega)
    have HLd:Hid ((jD (cs.take i)).length+cs[i].ds.length<=1048576):=(by have h:=jD_le cs (i+1);rw[HJd.out,List.length_append] at h;show _<=_;omega)
    have HLv:Hid ((jV (cs.take i)).length+cs[i].vs.length<=1048576):=(by have h:=jV_le cs (i+1);rw[HJv.out,List.length_append] at h;show _<=_;omega)
    generalize cs[i]=k at *
    clear hat
    have hne:wr.heap.size≠W.heap.size+1+1:=by omega
    have HB0:Hid (Below wr.heap.size wr (wr.alloc (.cells #[.int .i64 k.id,.slice k.ra k.rs.length k.rc,.slice k.da k.ds.length k.dc,.slice k.va k.vs.length k.vc] 27))):=(Below.refl _ _).alloc (Nat.le_refl _) _
    have HI0:Hid _:=HI.out.stay HB0.out
    have HD0:Hid (DFr (W.heap.size+1+1) (W.heap.size+1+1+1) w2 _):=HJ.out.2.trans (.of_below HB0.out)
    have HC0:Hid _:=heap_alloc_new wr (.cells #[.int .i64 k.id,.slice k.ra k.rs.length k.rc,.slice k.da k.ds.length k.dc,.slice k.va k.vs.length k.vc] 27)
    obtain⟨g0,g1,g2,g3⟩:=row_four HI0.out.cell
    go_wp2_with (first
     | (at_builtin;refine wpList_append_any _ rfl _ _ 22 rfl (W.heap.size+1+1+1) 3 iv (.int .i64 0) 1 8 Tryz.underlying22 hvi hv0 hv1 hv2 rfl (by decide) _ _ (i64s (jR (cs.take i))) rfl HI0.out.rrow k.ra k.rs.length k.rc (i64s k.rs) rfl (by rw[i64s_len,Nat.mul_one]) (news_i (HAT.out _ HD0.out).r) (one_i _) (by have:=HLr.out;unfold maxLen;omega) (by have:=HLr.out;omega) (by have h5:=HD0.out.size;rw[HZ2.out] at h5;exact h5) ?_;intro v1 x1 hown1 hg1 hw1;obtain⟨k1,k2,k3⟩:=AcI.appR HI0.out hown1 hg1 hw1;obtain⟨a1,e1,rfl⟩:=own_slC hown1;have HI1:Hid _:=k2;have HD1:Hid (DFr (W.heap.size+1+1) (W.heap.size+1+1+1) w2 _):=HD0.out.trans k3;have HC1:Hid _:=k3.box HC0.out hne (by decide);clear hown1 hg1 hw1 k2 k3 g0 g1 g2 g3;obtain⟨g0,g1,g2,g3⟩:=row_four k1;obtain⟨f0,f1,f2,f3⟩:=row_fourA k1;obtain⟨d0,d1,d2,d3⟩:=row_four HC1.out;clear k1)
     | (at_builtin;refine wpList_append_any _ rfl _ _ 22 rfl (W.heap.size+1+1+1) 3 iv (.int .i64 0) 1 8 Tryz.underlying22 hvi hv0 hv1 hv2 rfl (by decide) _ _ (i64s (jD (cs.take i))) rfl HI1.out.drow k.da k.ds.length k.dc (i64s k.ds) rfl (by rw[i64s_len,Nat.mul_one]) (news_i (HAT.out _ HD1.out).d) (one_i _) (by have:=HLd.out;unfold maxLen;omega) (by have:=HLd.out;omega) (by have h5:=HD1.out.size;rw[HZ2.out] at h5;exact h5) ?_;intro v2 x2 hown2 hg2 hw2;obtain⟨k1,k2,k3⟩:=AcI.appD HI1.out hown2 hg2 hw2;obtain⟨a2,e2,rfl⟩:=own_slC hown2;have HI2:Hid _:=k2;have HD2:Hid (DFr (W.heap.size+1+1) (W.heap.size+1+1+1) w2 _):=HD1.out.trans k3;have HC2:Hid _:=k3.box HC1.out hne (by decide);clear hown2 hg2 hw2 k2 k3 g0 g1 g2 g3;obtain⟨g0,g1,g2,g3⟩:=row_four k1;obtain⟨f0,f1,f2,f3⟩:=row_fourA k1;obtain⟨d0,d1,d2,d3⟩:=row_four HC2.out;clear k1)
     | (at_builtin;refine wpList_append_any _ rfl _ _ 25 rfl (W.heap.size+1+1+1) 46 iw (.agg #[.int .i64 0,.int .i64 0,.string ⟨#[]⟩]) 3 32 Tryz.underlying25 hwi hw0 hw1 hw2 rfl (by decide) _ _ (vcells (jV (cs.take i))) rfl HI2.out.vrow k.va k.vs.length k.vc (vcells k.vs) rfl (vcells_len _) (news_v (HAT.out _ HD2.out).v) (one_v _) (by have:=HLv.out;unfold maxLen;omega) (by have:=HLv.out;omega) (by have h5:=HD2.out.size;rw[HZ2.out] at h5;exact h5) ?_;intro v3 x3 hown3 hg3 hw3;obtain⟨k1,k2,k3⟩:=AcI.appV HI2.out hown3 hg3 hw3;obtain⟨a3,e3,rfl⟩:=own_slC hown3;have HI3:Hid _:=k2;have HD3:Hid (DFr (W.heap.size+1+1) (W.heap.size+1+1+1) w2 _):=HD2.out.trans k3;have HC3:Hid _:=k3.box HC2.out hne (by decide);clear hown3 hg3 hw3 k2 k3 g0 g1 g2 g3;obtain⟨g0,g1,g2,g3⟩:=row_four k1;obtain⟨f0,f1,f2,f3⟩:=row_fourA k1;obtain⟨d0,d1,d2,d3⟩:=row_four HC3.out;clear k1))
    go_roundw
    case rel=>exact⟨i+1,by omega,by go_num,⟨_,_,_,by rw[HJr.out,HJd.out,HJv.out];exact HI3.out⟩,HD3.out⟩
    case measure=>simp[intOf];omega
  · obtain rfl:i=cs.length:=by omega
    obtain⟨g0,g1,g2,g3⟩:=row_four HI.out.cell
    have hy:=HJ.out.2.box HY2.out (by omega) (by decide)
    obtain⟨z0,z1,z2,z3⟩:=row_four hy
    obtain⟨f0,f1,f2,f3⟩:=row_fourA hy
    have HYr:Hid _:=hy
    clear hy
    go_wp2
    have f1:=own_fresh HI.out.rrow rfl
    have f2:=own_fresh HI.out.drow rfl
    have f3:=own_fresh HI.out.vrow rfl
    have f1':∀p,ra=some p->W.heap.size+1<p.block:=fun p hp=>by have:=f1 p hp;omega
    have f2':∀p,da=some p->W.heap.size+1<p.block:=fun p hp=>by have:=f2 p hp;omega
    have f3':∀p,va=some p->W.heap.size+1<p.block:=fun p hp=>by have:=f3 p hp;omega
    have l1:Lies wr ra (i64s (jR (cs.take cs.length))):=by
     obtain⟨a',c',he,hl⟩:=lies_own HI.out.rrow
     injection he with e1 _ _;subst e1;exact hl
    have l2:Lies wr da (i64s (jD (cs.take cs.length))):=by
     obtain⟨a',c',he,hl⟩:=lies_own HI.out.drow
     injection he with e1 _ _;subst e1;exact hl
    have l3:LiesV wr va (jV (cs.take cs.length)):=by
     obtain⟨a',c',he,hl⟩:=liesV_own HI.out.vrow
     injection he with e1 _ _;subst e1;exact hl
    rw[List.take_length] at l1 l2 l3
    have cap1:(jR cs).length<=rc:=by have h:=own_capJ HI.out.rrow;rw[List.take_length] at h;simpa using h
    have cap2:(jD cs).length<=dc:=by have h:=own_capJ HI.out.drow;rw[List.take_length] at h;simpa using h
    have cap3:(jV cs).length<=vc:=by have h:=own_capJ HI.out.vrow;rw[List.take_length] at h;simpa using h
    have hbw:Below W.heap.size W wr:=HB2.out.trans (HJ.out.2.below (by have:=HZ2.out;omega) (by omega) (by omega))
    exact bodyPost_ret (v:=.agg #[.int .i64 lid,.slice ra (jR cs).length rc,.slice da (jD cs).length dc,.slice va (jV cs).length vc]) (results_cell_row Tryz.results57 _ _ (W.heap.size+1) 27 #[.int .i64 lid,.slice ra (jR cs).length rc,.slice da (jD cs).length dc,.slice va (jV cs).length vc] (0,0) _ rfl (row_setCell (row_setCell (row_setCell (row_setCell HYr.out _) _) _) _) Tryz.underlying27 rfl (by kernel_rfl)) rfl ⟨⟨⟨lid,ra,jR cs,rc,da,jD cs,dc,va,jV cs,vc⟩,rfl,⟨(((l1.off f1').off f1').off f1').off f1',(((l2.off f2').off f2').off f2').off f2',(((l3.off f3').off f3').off f3').off f3'⟩,⟨fun p hp=>by have:=f1' p hp;omega,fun p hp=>by have:=f2' p hp;omega,fun p hp=>by have:=f3' p hp;omega⟩,rfl,rfl,rfl,rfl,⟨cap1,cap2,cap3⟩⟩,(((hbw.setCell (by simp) _).setCell (by simp) _).setCell (by simp) _).setCell (by simp) _⟩
theorem joined_any (lid kind mr md:Int)(pa:Option Addr)(pn pc:Nat)(a:Option Addr)(c:Nat)(cs:List Cl)(W:World)(hn:cs.length<=1048576)(hjr:(jR cs).length<=1048576)(hjd:(jD cs).length<=1048576)(hjv:(jV cs).length<=1048576)(hl:LiesC W a cs) :
    Calls Tryz.prog 57 #[leafV lid kind mr md pa pn pc,.slice a cs.length c] W fun e w'=>(∃k:Cl,e=.returned k.val/\k.At w'/\k.Fr W.heap.size/\k.id=lid/\k.rs=jR cs/\k.ds=jD cs/\k.vs=jV cs)/\Below W.heap.size W w' :=
 (joined_cap lid kind mr md pa pn pc a c cs W hn hjr hjd hjv hl).mono fun _ _ h=>by
  obtain⟨⟨k,h1,h2,h3,h4,h5,h6,h7,_⟩,hb⟩:=h
  exact⟨⟨k,h1,h2,h3,h4,h5,h6,h7⟩,hb⟩
structure SameC (c k:Cl):Prop where
 id:k.id=c.id
 rs:k.rs=c.rs
 ds:k.ds=c.ds
 vs:k.vs=c.vs
 cap:k.rs.length<=k.rc/\k.ds.length<=k.dc/\k.vs.length<=k.vc
theorem ownColumn_cl (c:Cl)(W:World)(mr:c.rs.length<=20000)(md:c.ds.length<=20000)(mv:c.vs.length<=20000)(h:c.At W) :
    Calls Tryz.prog 11 #[.agg #[.int .i64 c.id,.slice c.ra c.rs.length c.rc,.slice c.da c.ds.length c.dc,.slice c.va c.vs.length c.vc]] W fun e w'=>(∃k:Cl,e=.returned (.agg #[.int .i64 k.id,.slice k.ra k.rs.length k.rc,.slice k.da k.ds.length k.dc,.slice k.va k.vs.length k.vc])/\k.At w'/\k.Fr W.heap.size/\SameC c k)/\Below W.heap.size W w' :=
 (ownColumn_any c.id c.ra c.da c.va c.rc c.dc c.vc c.rs c.ds c.vs W mr md mv h.r h.d h.v).mono fun e w' h=>by
  obtain⟨⟨ra,rc,da,dc,va,vc,rfl,h1,h2,h3,h4,h5,h6,h7⟩,hb⟩:=h
  exact⟨⟨⟨c.id,ra,c.rs,rc,da,c.ds,dc,va,c.vs,vc⟩,rfl,⟨h1,h2,h3⟩,⟨h5,h6,h7⟩,rfl,rfl,rfl,rfl,h4⟩,hb⟩
theorem ints_fresh (a:Option Addr)(c:Nat)(xs:List Int)(w:World)(hn:xs.length<=20000)(h:Lies w a (i64s xs)) :
    Calls Tryz.prog 24 #[.slice a xs.length c] w fun e w'=>(∃a' c',e=.returned (.slice a' xs.length c')/\Lies w' a' (i64s xs)/\∀p,a'=some p->w.heap.size<=p.block)/\Below w.heap.size w w':=by
 have HL:Hid (Lies w a (i64s xs)):=h
 clear h
 go_enter Tryz.func24,Tryz.ntmps24
 go_wp2_with (at_builtin;refine wp_app0I _ rfl _ _ rfl rfl a xs c rfl rfl HL.out hn ?_;intro a1 c1 w1 hl1 hb1 hf1)
 go_ret
 exact⟨⟨a1,c1,rfl,hl1,hf1.1⟩,hb1⟩
theorem ownLeaf_any (id kind mr md:Int)(pa:Option Addr)(pc:Nat)(ps:List Int)(W:World)(hn:ps.length<=20000)(hp:Lies W pa (i64s ps)) :
    Calls Tryz.prog 10 #[.agg #[.int .i64 id,.int .i64 kind,.int .i64 mr,.int .i64 md,.slice pa ps.length pc]] W fun e w'=>(∃pa' pc',e=.returned (leafV id kind mr md pa' ps.length pc')/\Lies w' pa' (i64s ps))/\Below W.heap.size W w':=by
 have b0:Below W.heap.size W ((W.alloc (.cells #[.int .i64 id,.int .i64 kind,.int .i64 mr,.int .i64 md,.slice pa ps.length pc] 24)).alloc (.cells #[.int .i64 0,.int .i64 0,.int .i64 0,.int .i64 0,.slice none 0 0] 39)):=((Below.refl _ _).alloc (Nat.le_refl _) _).alloc (by simp) _
 have HZ:Hid (((W.alloc (.cells #[.int .i64 id,.int .i64 kind,.int .i64 mr,.int .i64 md,.slice pa ps.length pc] 24)).alloc (.cells #[.int .i64 0,.int .i64 0,.int .i64 0,.int .i64 0,.slice none 0 0] 39)).heap[W.heap.size+1]? = some (.cells #[.int .i64 0,.int .i64 0,.int .i64 0,.int .i64 0,.slice none 0 0] 39 (0,0))):=(by
  have h:=heap_alloc_new (W.alloc (.cells #[.int .i64 id,.int .i64 kind,.int .i64 mr,.int .i64 md,.slice pa ps.length pc] 24)) (.cells #[.int .i64 0,.int .i64 0,.int .i64 0,.int .i64 0,.slice none 0 0] 39)
  rwa [show (W.alloc (.cells #[.int .i64 id,.int .i64 kind,.int .i64 mr,.int .i64 md,.slice pa ps.length pc] 24)).heap.size=W.heap.size+1 by simp] at h)
 have HP:Hid (((W.alloc (.cells #[.int .i64 id,.int .i64 kind,.int .i64 mr,.int .i64 md,.slice pa ps.length pc] 24)).alloc (.cells #[.int .i64 0,.int .i64 0,.int .i64 0,.int .i64 0,.slice none 0 0] 39)).heap[W.heap.size]? = some (.cells #[.int .i64 id,.int .i64 kind,.int .i64 mr,.int .i64 md,.slice pa ps.length pc] 24 (0,0))):=blk_alloc (heap_alloc_new W _)
 have HL:Hid (Lies ((W.alloc (.cells #[.int .i64 id,.int .i64 kind,.int .i64 mr,.int .i64 md,.slice pa ps.length pc] 24)).alloc (.cells #[.int .i64 0,.int .i64 0,.int .i64 0,.int .i64 0,.slice none 0 0] 39)) pa (i64s ps)):=hp.keep b0
 have HB:Hid _:=b0
 clear hp b0
 unfold leafV
 go_enter Tryz.func10,Tryz.ntmps10
 go_wp2
 generalize ((W.alloc (.cells #[.int .i64 id,.int .i64 kind,.int .i64 mr,.int .i64 md,.slice pa ps.length pc] 24)).alloc (.cells #[.int .i64 0,.int .i64 0,.int .i64 0,.int .i64 0,.slice none 0 0] 39))=w0 at *
 have b10:Below (W.heap.size+1) w0 w0:=Below.refl _ _
 have hsz:W.heap.size+1<=w0.heap.size:=Nat.le_of_lt (lt_of_block HZ.out)
 have HN:Hid (∀X,Below (W.heap.size+1) w0 X->(X.cell? ⟨W.heap.size,0,none⟩=some (.int .i64 id)/\X.cell? ⟨W.heap.size,1,none⟩=some (.int .i64 kind)/\X.cell? ⟨W.heap.size,2,none⟩=some (.int .i64 mr)/\X.cell? ⟨W.heap.size,3,none⟩=some (.int .i64 md)/\X.cell? ⟨W.heap.size,4,none⟩=some (.slice pa ps.length pc))/\Below (W.heap.size+1) w0 X):=fun X hX=>⟨(row_five ((hX.block W.heap.size (by omega)).trans HP.out)).1,hX⟩
 obtain⟨⟨p0,p1,p2,p3,p4⟩,_⟩:=row_five HP.out
 obtain⟨⟨z0,z1,z2,z3,z4⟩,y0,y1,y2,y3,y4⟩:=row_five HZ.out
 go_region_held3 (fun X=>(X.cell? ⟨W.heap.size,0,none⟩=some (.int .i64 id)/\X.cell? ⟨W.heap.size,1,none⟩=some (.int .i64 kind)/\X.cell? ⟨W.heap.size,2,none⟩=some (.int .i64 mr)/\X.cell? ⟨W.heap.size,3,none⟩=some (.int .i64 md)/\X.cell? ⟨W.heap.size,4,none⟩=some (.slice pa ps.length pc))/\Below (W.heap.size+1) w0 X) (first|(with_reducible refine HN.out _ ?_;repeat' (first|with_reducible assumption|with_reducible exact b10.drew|with_reducible exact b10|with_reducible exact hbb.mono hsz|with_reducible refine Below.setCell ?_ ?_ _|(simp;done)))) (first|(go_at_call 24;refine (ints_fresh pa pc ps _ hn (HL.out.keep (Below.refl _ _).drew)).mono ?_;rintro e w1 ⟨⟨a1,c1,rfl,hl1,hf1⟩,hb1⟩;have hbb:Below w0.heap.size w0 w1:=(Below.refl _ _).drew.trans hb1;have HL1:Hid (Lies w1 a1 (i64s ps)):=hl1;have HBB:Hid (Below w0.heap.size w0 w1):=hbb;obtain⟨⟨x0,x1,x2,x3,x4⟩,v0,v1,v2,v3,v4⟩:=row_five (blk_keep hbb HZ.out);have HF:Hid (∀p,a1=some p->w0.drew.heap.size<=p.block):=hf1;clear hl1 hb1 hf1))
 all_goals
  go_wp2
  have f1:∀p,a1=some p->W.heap.size+1<p.block:=fun p hp=>by have:=HF.out p hp;have h2:=lt_of_block HZ.out;simp at this;omega
  exact bodyPost_ret (v:=.agg #[.int .i64 id,.int .i64 kind,.int .i64 mr,.int .i64 md,.slice a1 ps.length c1]) (results_cell_row Tryz.results10 _ _ (W.heap.size+1) 39 #[.int .i64 id,.int .i64 kind,.int .i64 mr,.int .i64 md,.slice a1 ps.length c1] (0,0) _ rfl (row_setCell (row_setCell (row_setCell (row_setCell (row_setCell (blk_keep HBB.out HZ.out) _) _) _) _) _) Tryz.underlying39 rfl (by kernel_rfl)) rfl ⟨⟨a1,c1,rfl,((((HL1.out.off f1).off f1).off f1).off f1).off f1⟩,(((((HB.out.trans (HBB.out.mono HB.out.size)).setCell (by simp) _).setCell (by simp) _).setCell (by simp) _).setCell (by simp) _).setCell (by simp) _⟩
end Go.Proofs.YtoeiahdjamkdgaaGreatDoor
namespace Go.Proofs.YtoeiahdjamkdgaaGreatDoor
open Go.ChangeShapes Go.WideShapes Go.ChangeAt Go.RowKit
theorem Tryz.cellsC:Tryz.prog.cellsOf 27=4:=by kernel_rfl
theorem Tryz.cellsLf:Tryz.prog.cellsOf 24=5:=by kernel_rfl
theorem Tryz.cellsIs:Tryz.prog.cellsOf 22=1:=by kernel_rfl
theorem Tryz.cellsVs:Tryz.prog.cellsOf 25=1:=by kernel_rfl
theorem ints_cells {H:Type}{enc:TypeId × Value->H}{W:World}{n:Nat}{cs:List Value}{x:DataW H × List MemPlace}(hf:DataW.trod enc Tryz.prog W 0 (fun _=>true) true n 22 cs=some x) :
    ∃a c xs,cs=[.slice a (List.length xs) c]/\List.length xs<=maxLen/\Lies W a (i64s xs):=by
 rcases open_ints Tryz.underlying22 Tryz.underlying3 Tryz.cells3 hf with ⟨hcs,_⟩|⟨a,len,cap,zs,hcs,_,hl,hm,hz,_,hcell,hwz⟩
 · exact⟨none,0,[],hcs,Nat.zero_le _,fun j hj=>absurd hj (by simp[i64s])⟩
 · simp only[if_true] at hz
   have hlz:(zs.take len).length=len:=by simp;omega
   refine⟨some a,cap,zs.take len,by rw[hlz];exact hcs,by omega,fun j hj=>?_⟩
   rw[i64s_len,hlz] at hj
   have hc:=hcell j (by omega)
   obtain⟨b,off,spot⟩:=a
   have hspot:spot=none:=by simpa [Addr.add] using World.cell?_spot (hcell 0 (by omega))
   subst hspot
   refine⟨b,off,rfl,?_⟩
   rw[addr_add] at hc
   rw[hc]
   have hjz:j<zs.length:=by omega
   simp[i64s,List.getD,hjz]
theorem shut_column {H:Type}{enc:TypeId × Value->H}{W W':World}{v:Value}{d:DataW H}{ps:List MemPlace}(h:DataW.Trod enc Tryz.prog W 0 (fun _=>true) true 27 v d ps)(hb:Below W.heap.size W W')(hlt:∀x∈ps,x.block<W.heap.size) :
    DataW.Trod enc Tryz.prog W' 0 (fun b=>decide (b<W.heap.size)) true 27 v d ps :=
 Below.trod Tryz.laidV (by kernel_rfl) (of_decide_eq_true (by kernel_rfl)) h hb hlt
theorem open_leaf {H:Type}{enc:TypeId × Value->H}{W:World}{base:Nat}{v:Value}{d:DataW H}{ps:List MemPlace}(hv:Value.okWide Tryz.prog W .any base 24 v)(h:DataW.Trod enc Tryz.prog W 0 (fun _=>true) true 24 v d ps) :
    ∃id kind mr md pa pc xs,v=.agg #[.int .i64 id,.int .i64 kind,.int .i64 mr,.int .i64 md,.slice pa (List.length xs) pc]/\List.length xs<=maxLen/\Lies W pa (i64s xs):=by
 obtain⟨cs,rfl,_⟩:=okWide_struct Tryz.underlying24 hv
 obtain⟨fuel,hf0⟩:=h
 obtain⟨xs,m,_,_,hl,hlen,hf⟩:=DataW.trod_struct Tryz.underlying24 hf0
 rw[Tryz.cellsLf] at hl
 obtain⟨cl,hcl⟩:∃cl,(Value.agg cs).cells.toList=cl:=⟨_,rfl⟩
 have hcs:cs.toList=cl:=hcl
 rw[hcl] at hl hf
 match cl,hl,hcs,hf with
 | [c0,c1,c2,c3,c4],_,hcs,hf =>
  match xs,hlen,hf with
  | [y0,y1,y2,y3,y4],_,hf =>
   have g0:=hf 0 _ rfl
   have g1:=hf 1 _ rfl
   have g2:=hf 2 _ rfl
   have g3:=hf 3 _ rfl
   have g4:=hf 4 _ rfl
   simp[Tryz.cellsI,Tryz.cellsIs] at g0 g1 g2 g3 g4
   obtain⟨k0,e0,_,_⟩:=DataW.trod_int Tryz.underlying3 g0
   obtain⟨k1,e1,_,_⟩:=DataW.trod_int Tryz.underlying3 g1
   obtain⟨k2,e2,_,_⟩:=DataW.trod_int Tryz.underlying3 g2
   obtain⟨k3,e3,_,_⟩:=DataW.trod_int Tryz.underlying3 g3
   obtain⟨pa,pc,ys,e4,m4,l4⟩:=ints_cells g4
   simp at e0 e1 e2 e3 e4
   subst e0 e1 e2 e3 e4
   exact⟨k0,k1,k2,k3,pa,pc,ys,by congr 1;exact Array.toList_inj.1 hcs,m4,l4⟩
theorem shut_leaf {H:Type}{enc:TypeId × Value->H}{W W':World}{v:Value}{d:DataW H}{ps:List MemPlace}(h:DataW.Trod enc Tryz.prog W 0 (fun _=>true) true 24 v d ps)(hb:Below W.heap.size W W')(hlt:∀x∈ps,x.block<W.heap.size) :
    DataW.Trod enc Tryz.prog W' 0 (fun b=>decide (b<W.heap.size)) true 24 v d ps :=
 Below.trod Tryz.laidV (by kernel_rfl) (of_decide_eq_true (by kernel_rfl)) h hb hlt
end Go.Proofs.YtoeiahdjamkdgaaGreatDoor
namespace Go.Proofs.YtoeiahdjamkdgaaGreatDoor
open Go.RowKit
theorem results_cR {P:Program}{fn:Func}{p u:Tmp}{ty:TypeId}(h:fn.results=#[.cell p ty,.tmp u])(tmps:Array Value)(w:World)(g:Nat)(t:TypeId)(cs:Array Value)(fr:Nat × Nat)(d:TypeDesc)(y:Value)
    (hp:tmps.getD p undef=.pointer (some ⟨g,0,none⟩)) (hy:tmps.getD u undef=y) (hg:w.heap[g]? = some (.cells cs t fr))
    (hu:P.underlying ty=some d) (hd:(match d with|.struct _|.array _ _=>true|_=>false)=true) (hi:(P.info? ty).map (·.size)=some cs.size) :
    (results fn tmps).run P w=.ok (.tuple #[.agg cs,y]) w:=by
 have hp':tmps[p]?.getD undef=.pointer (some ⟨g,0,none⟩):=by simpa using hp
 have hy':tmps[u]?.getD undef=y:=by simpa using hy
 simp[results,h,hp',hy',asAddr,Result.andThen,run_loadVar_row w g t ty cs fr d hg hu hd hi]
def cutL {α:Type}(l:List α)(a b:Nat):List α:=(l.take b).drop a
theorem cutL_len {α:Type}(l:List α)(a b:Nat)(h:b<=l.length):(cutL l a b).length=b-a:=by simp[cutL];omega
theorem cutL_at {α:Type}(l:List α)(a b j:Nat)(h:j<(cutL l a b).length):∃h2:a+j<l.length,(cutL l a b)[j]=l[a+j]:=by
 unfold cutL at *
 simp at h
 exact⟨by omega,by simp⟩
theorem three_boxes (W:World)(c1 c2 c3:Array Value)(t1 t2 t3:TypeId):∃w0,Hid (((W.alloc (.cells c1 t1)).alloc (.cells c2 t2)).alloc (.cells c3 t3)=w0)/\Hid (w0.heap[W.heap.size]? = some (.cells c1 t1 (0,0)))/\Hid (w0.heap[W.heap.size+1]? = some (.cells c2 t2 (0,0)))/\Hid (w0.heap[W.heap.size+1+1]? = some (.cells c3 t3 (0,0)))/\Hid (Below W.heap.size W w0):=by
 obtain⟨w1,H1,H2,H3,H4⟩:=two_boxes W c1 c2 t1 t2
 refine⟨w1.alloc (.cells c3 t3),by show _=_;rw[H1.out],blk_alloc H2.out,blk_alloc H3.out,?_,H4.out.alloc H4.out.size _⟩
 have h:=heap_alloc_new w1 (.cells c3 t3)
 rw[show w1.heap.size=W.heap.size+1+1 by rw[←H1.out];simp] at h
 exact h
theorem bel_next {B:Nat}{w X x':World}(h:Below B w X)(hB:B<=w.heap.size)(hb:Below X.heap.size X x'):Below B w x':=h.trans (hb.mono (Nat.le_trans hB h.size))
theorem Cl.Fr.low {N M:Nat}{c:Cl}(h:c.Fr N)(hm:M<=N):c.Fr M:=⟨fun p hp=>Nat.le_trans hm (h.r p hp),fun p hp=>Nat.le_trans hm (h.d p hp),fun p hp=>Nat.le_trans hm (h.v p hp)⟩
theorem four_boxes (W:World)(c1 c2 c3 c4:Array Value)(t1 t2 t3 t4:TypeId):∃w0,Hid ((((W.alloc (.cells c1 t1)).alloc (.cells c2 t2)).alloc (.cells c3 t3)).alloc (.cells c4 t4)=w0)/\Hid (w0.heap[W.heap.size]? = some (.cells c1 t1 (0,0)))/\Hid (w0.heap[W.heap.size+1]? = some (.cells c2 t2 (0,0)))/\Hid (w0.heap[W.heap.size+1+1]? = some (.cells c3 t3 (0,0)))/\Hid (w0.heap[W.heap.size+1+1+1]? = some (.cells c4 t4 (0,0)))/\Hid (Below W.heap.size W w0):=by
 obtain⟨w1,H1,H2,H3,H5,H4⟩:=three_boxes W c1 c2 c3 t1 t2 t3
 refine⟨w1.alloc (.cells c4 t4),by show _=_;rw[H1.out],blk_alloc H2.out,blk_alloc H3.out,blk_alloc H5.out,?_,H4.out.alloc H4.out.size _⟩
 have h:=heap_alloc_new w1 (.cells c4 t4)
 rw[show w1.heap.size=W.heap.size+1+1+1 by rw[←H1.out];simp] at h
 exact h
theorem lies_cut {w:World}{a:Option Addr}{cs:List Value}(h:Lies w a cs)(l m c:Nat)(hm:m<=cs.length)(hc:cs.length<=c){x:Option Addr}(hx:x=if c=l then a else a.map (fun p=>p.add (l*1))):Lies w x (cutL cs l m):=fun j hj=>by
 obtain⟨h2,e⟩:=cutL_at cs l m j hj
 have hj2:j<m-l:=by rw[cutL_len cs l m hm] at hj;exact hj
 obtain⟨b,o,rfl,hcell⟩:=h (l+j) h2
 rw[if_neg (by omega)] at hx
 refine⟨b,o+l,by rw[hx];simp[addr_add],?_⟩
 rw[e,Nat.add_assoc];exact hcell
theorem liesV_cut {w:World}{a:Option Addr}{vs:List Vl}(h:LiesV w a vs)(l m c:Nat)(hm:m<=vs.length)(hc:vs.length<=c){x:Option Addr}(hx:x=if c=l then a else a.map (fun p=>p.add (l*3))):LiesV w x (cutL vs l m):=fun j hj=>by
 obtain⟨h2,e⟩:=cutL_at vs l m j hj
 have hj2:j<m-l:=by rw[cutL_len vs l m hm] at hj;exact hj
 obtain⟨b,o,rfl,h0,h1,h3⟩:=h (l+j) h2
 rw[if_neg (by omega)] at hx
 have e3:o+(l+j)*3=o+l*3+j*3:=by omega
 rw[e3] at h0 h1 h3
 refine⟨b,o+l*3,by rw[hx];simp[addr_up],?_,?_,?_⟩<;>rw[e]<;>assumption
theorem i64s_cut (xs:List Int)(a b:Nat):i64s (cutL xs a b)=cutL (i64s xs) a b:=by simp[i64s,cutL]
theorem cntE_app (md:Int)(xs ys:List Int):cntE md (xs++ys)=cntE md xs+cntE md ys:=by simp[cntE]
theorem cntE_cut (md:Int)(xs:List Int)(a b:Nat)(h:a<=b):cntE md (xs.take b)=cntE md (xs.take a)+cntE md (cutL xs a b):=by
 have e:xs.take b=xs.take a++cutL xs a b:=by
  have e1:=(List.take_append_drop a (xs.take b)).symm
  rw[List.take_take,Nat.min_eq_left h] at e1
  exact e1
 exact (congrArg (cntE md) e).trans (cntE_app _ _ _)
theorem cntE_mono (md:Int)(xs:List Int){a b:Nat}(h:a<=b):cntE md (xs.take a)<=cntE md (xs.take b):=by rw[cntE_cut md xs a b h];omega
theorem cntE_all (md:Int)(xs:List Int)(a:Nat):cntE md (xs.take a)<=cntE md xs:=by
 have h:cntE md xs=cntE md (xs.take a)+cntE md (xs.drop a):=by rw[←cntE_app,List.take_append_drop]
 omega
theorem StAt.le {rs:List Int}{x y:Int}{a b:Nat}(ha:StAt rs x a)(hb:StAt rs y b)(h:x<=y):a<=b:=by
 rcases Nat.lt_or_ge b a with hlt|hge
 · exfalso
   have h1:=ha.2.1 b hlt
   have h2:=hb.2.2 (by have:=ha.1;omega)
   omega
 · exact hge
theorem valuesOf_n (id kind mr md:Int)(pa:Option Addr)(pn pc:Nat)(a:Option Addr)(n c:Nat)(xs:List Int)(hn:xs.length<=1048576)(W:World)(hl:Lies W a (i64s xs))(he:n=xs.length) :
    Calls Tryz.prog 56 #[leafV id kind mr md pa pn pc,.slice a n c] W fun e w'=>e=.returned (.int .i64 (cntE md xs:Nat))/\Below W.heap.size W w':=by
 subst he
 exact valuesOf_any id kind mr md pa pn pc a c xs hn W hl
theorem joined_n (lid kind mr md:Int)(pa:Option Addr)(pn pc:Nat)(a:Option Addr)(n c:Nat)(cs:List Cl)(W:World)(hn:cs.length<=1048576)(hjr:(jR cs).length<=1048576)(hjd:(jD cs).length<=1048576)(hjv:(jV cs).length<=1048576)(hl:LiesC W a cs)(he:n=cs.length) :
    Calls Tryz.prog 57 #[leafV lid kind mr md pa pn pc,.slice a n c] W fun e w'=>(∃k:Cl,e=.returned (.agg #[.int .i64 k.id,.slice k.ra k.rs.length k.rc,.slice k.da k.ds.length k.dc,.slice k.va k.vs.length k.vc])/\k.At w'/\k.Fr W.heap.size/\k.id=lid/\k.rs=jR cs/\k.ds=jD cs/\k.vs=jV cs)/\Below W.heap.size W w':=by
 subst he
 exact joined_any lid kind mr md pa pn pc a c cs W hn hjr hjd hjv hl
abbrev zeroC:Value:=.agg #[.int .i64 0,.slice none 0 0,.slice none 0 0,.slice none 0 0]
def GoodC (lid kind mr md:Int)(c:Cl):Prop:=(isLfB kind mr md && fitB lid mr md c.id c.rs c.ds c.vs.length)=true/\∀j (h:j<c.vs.length),badV kind c.vs[j]=false
def BadRet (N:Nat)(lid kind mr md:Int)(c:Cl)(sv kv:Value)(e:Ending)(w':World):Prop :=
 ((isLfB kind mr md && fitB lid mr md c.id c.rs c.ds c.vs.length)=false/\e=.returned (.tuple #[zeroC,sv])) ∨
 ((isLfB kind mr md && fitB lid mr md c.id c.rs c.ds c.vs.length)=true/\∃p:Nat,∃hp:p<c.vs.length,badV kind c.vs[p]=true/\(∀j (h:j<c.vs.length),j<p->badV kind c.vs[j]=false)/\∃q,N<=q/\e=.returned (.tuple #[zeroC,.iface 83 (.pointer (some ⟨q,0,none⟩))])/\w'.cell? ⟨q,0,none⟩=some (.int .i64 p)/\w'.cell? ⟨q,1,none⟩=some kv)
def PtRet (N:Nat)(lid kind mr md:Int)(c:Cl)(lo hi:Int)(sv kv bv:Value)(e:Ending)(w':World):Prop :=
 BadRet N lid kind mr md c sv kv e w' ∨
 (GoodC lid kind mr md c/\¬ (0<=lo/\lo<=hi/\hi<=(cntE 0 c.rs:Nat))/\e=.returned (.tuple #[zeroC,bv])) ∨
 (GoodC lid kind mr md c/\(0<=lo/\lo<=hi/\hi<=(cntE 0 c.rs:Nat))/\∃(k:Cl) (a b:Nat),e=.returned (.tuple #[k.val,.nilIface])/\k.At w'/\k.Fr N/\StAt c.rs lo a/\StAt c.rs hi b/\k.id=lid/\k.rs=cutL c.rs a b/\k.ds=cutL c.ds a b/\k.vs=cutL c.vs (cntE md (c.ds.take a)) (cntE md (c.ds.take b)))
structure PtI (W:World) (lid kind mr md:Int) (pa:Option Addr) (pn pc:Nat) (c:Cl) (X:World):Prop where
 lf:X.heap[W.heap.size]? = some (.cells #[.int .i64 lid,.int .i64 kind,.int .i64 mr,.int .i64 md,.slice pa pn pc] 39 (0,0))
 co:X.heap[W.heap.size+1]? = some (.cells #[.int .i64 c.id,.slice c.ra c.rs.length c.rc,.slice c.da c.ds.length c.dc,.slice c.va c.vs.length c.vc] 27 (0,0))
 re:X.heap[W.heap.size+1+1]? = some (.cells #[.int .i64 0,.slice none 0 0,.slice none 0 0,.slice none 0 0] 27 (0,0))
 old:Below W.heap.size W X
theorem PtI.keep {W:World}{lid kind mr md:Int}{pa:Option Addr}{pn pc:Nat}{c:Cl}{X w':World}(h:PtI W lid kind mr md pa pn pc c X)(hb:Below (W.heap.size+1+1+1) X w'):PtI W lid kind mr md pa pn pc c w' :=
 ⟨(hb.block _ (by omega)).trans h.lf,(hb.block _ (by omega)).trans h.co,(hb.block _ (by omega)).trans h.re,h.old.trans (hb.mono (by omega))⟩
theorem addr_add0 (a:Addr):a.add 0=a:=by
 obtain⟨b,o,r⟩:=a
 unfold Addr.add
 split<;>simp_all
theorem blk_drew {w:World}{g:Nat}{o:Obj}(h:w.heap[g]? = some o):w.drew.heap[g]? = some o:=h
theorem part_any (lid kind mr md lo hi:Int)(pa:Option Addr)(pn pc:Nat)(c:Cl)(W:World)(st kt bt:TypeId)(sp kp bp:Value)
    (hn:c.rs.length<=1048576) (hn2:c.ds.length<=1048576) (hv:c.vs.length<=1048576) (hcr:c.rs.length<=c.rc) (hcd:c.ds.length<=c.dc) (hcv:c.vs.length<=c.vc)
    (hs:W.cell? ⟨0,0,none⟩=some (.iface st sp)) (hk:W.cell? ⟨3,0,none⟩=some (.iface kt kp)) (hbd:W.cell? ⟨1,0,none⟩=some (.iface bt bp)) (hat:c.At W) :
    Calls Tryz.prog 33 #[leafV lid kind mr md pa pn pc,c.val,.int .i64 lo,.int .i64 hi] W fun e w'=>PtRet W.heap.size lid kind mr md c lo hi (.iface st sp) (.iface kt kp) (.iface bt bp) e w'/\Below W.heap.size W w':=by
 unfold leafV Cl.val colV
 obtain⟨w0,HW0,HX,HY,HZ,HB⟩:=three_boxes W #[.int .i64 lid,.int .i64 kind,.int .i64 mr,.int .i64 md,.slice pa pn pc] #[.int .i64 c.id,.slice c.ra c.rs.length c.rc,.slice c.da c.ds.length c.dc,.slice c.va c.vs.length c.vc] #[.int .i64 0,.slice none 0 0,.slice none 0 0,.slice none 0 0] 39 27 27
 have HI0:Hid (PtI W lid kind mr md pa pn pc c w0):=⟨HX.out,HY.out,HZ.out,HB.out⟩
 have HAT:Hid (∀X,PtI W lid kind mr md pa pn pc c X->c.At X):=fun X hX=>hat.keep hX.old
 have HS:Hid (∀X,PtI W lid kind mr md pa pn pc c X->X.cell? ⟨0,0,none⟩=some (.iface st sp)):=fun X hX=>ckB hs hX.old
 have HK:Hid (∀X,PtI W lid kind mr md pa pn pc c X->X.cell? ⟨3,0,none⟩=some (.iface kt kp)):=fun X hX=>ckB hk hX.old
 have HBD:Hid (∀X,PtI W lid kind mr md pa pn pc c X->X.cell? ⟨1,0,none⟩=some (.iface bt bp)):=fun X hX=>ckB hbd hX.old
 have HLE:Hid (∀X,PtI W lid kind mr md pa pn pc c X->W.heap.size+1+1+1<=X.heap.size):=fun X hX=>lt_of_block hX.re
 have hgN:1<W.heap.size:=World.block_lt_of_cell? W _ hbd
 have hgN1:¬ (1=W.heap.size+1+1):=by omega
 have hgN2:¬ (W.heap.size=0):=by omega
 have hgN3:¬ (W.heap=#[]):=fun h=>hgN2 (by rw[h];rfl)
 clear hat hs hk hbd HX HY HZ HB hgN
 obtain⟨⟨p0,p1,p2,p3,p4⟩,_⟩:=row_five HI0.out.lf
 obtain⟨k0,k1,k2,k3⟩:=row_four HI0.out.co
 go_enter Tryz.func33,Tryz.ntmps33
 go_wp2_with fail
 rw[HW0.out]
 refine (scheck_any lid kind mr md c.id pa c.ra c.da c.va pn pc c.rc c.dc c.vc c.rs c.ds c.vs w0 st kt sp kp hn hn2 hv (HS.out _ HI0.out) (HK.out _ HI0.out) (HAT.out _ HI0.out).r (HAT.out _ HI0.out).d (HAT.out _ HI0.out).v).mono ?_
 rintro e w1 ⟨hck,hb1⟩
 have HI1:Hid (PtI W lid kind mr md pa pn pc c w1):=HI0.out.keep (hb1.mono (HLE.out _ HI0.out))
 clear hb1 p0 p1 p2 p3 p4 k0 k1 k2 k3
 obtain⟨⟨p0,p1,p2,p3,p4⟩,_⟩:=row_five HI1.out.lf
 obtain⟨k0,k1,k2,k3⟩:=row_four HI1.out.co
 obtain⟨z0,z1,z2,z3⟩:=row_four HI1.out.re
 obtain⟨f0,f1,f2,f3⟩:=row_fourA HI1.out.re
 rcases hck with ⟨hb,rfl⟩|⟨hg,⟨hall,rfl⟩|⟨p,hp,hbad,hf,q,hqn,rfl,hq0,hq1⟩⟩
 · have HG:Hid _:=hb
   clear hb
   go_wp2
   exact bodyPost_ret (v:=.tuple #[zeroC,.iface st sp]) (results_cR Tryz.results33 _ _ (W.heap.size+1+1) 27 #[.int .i64 0,.slice none 0 0,.slice none 0 0,.slice none 0 0] (0,0) _ (.iface st sp) rfl rfl (row_setCell (row_setCell (row_setCell (row_setCell HI1.out.re _) _) _) _) Tryz.underlying27 rfl (by kernel_rfl)) rfl ⟨.inl (.inl ⟨HG.out,rfl⟩),(((HI1.out.old.setCell (by simp;omega) _).setCell (by simp;omega) _).setCell (by simp;omega) _).setCell (by simp;omega) _⟩
 · have HGood:Hid (GoodC lid kind mr md c):=⟨hg,hall⟩
   clear hg hall
   have hbe:=HBD.out _ HI1.out
   by_cases h1:lo<0
   · have HNo:Hid (¬ (0<=lo/\lo<=hi/\hi<=(cntE 0 c.rs:Nat))):=(by show ¬ _;omega)
     have q1:decide (lo<0)=true:=decide_eq_true h1
     clear h1
     go_wp2_with fail
     go_region
     all_goals
      go_wp2
      exact bodyPost_ret (v:=.tuple #[zeroC,.iface bt bp]) (results_cR Tryz.results33 _ _ (W.heap.size+1+1) 27 #[.int .i64 0,.slice none 0 0,.slice none 0 0,.slice none 0 0] (0,0) _ (.iface bt bp) rfl rfl (blk_drew (row_setCell (row_setCell (row_setCell (row_setCell HI1.out.re _) _) _) _)) Tryz.underlying27 rfl (by kernel_rfl)) rfl ⟨.inr (.inl ⟨HGood.out,HNo.out,rfl⟩),((((HI1.out.old.setCell (by simp;omega) _).setCell (by simp;omega) _).setCell (by simp;omega) _).setCell (by simp;omega) _).drew⟩
   · by_cases h2:hi<lo
     · have HNo:Hid (¬ (0<=lo/\lo<=hi/\hi<=(cntE 0 c.rs:Nat))):=(by show ¬ _;omega)
       have q1:decide (lo<0)=false:=decide_eq_false h1
       have q2:decide (hi<lo)=true:=decide_eq_true h2
       clear h1 h2
       go_wp2_with fail
       go_region
       all_goals
        go_wp2
        exact bodyPost_ret (v:=.tuple #[zeroC,.iface bt bp]) (results_cR Tryz.results33 _ _ (W.heap.size+1+1) 27 #[.int .i64 0,.slice none 0 0,.slice none 0 0,.slice none 0 0] (0,0) _ (.iface bt bp) rfl rfl (blk_drew (row_setCell (row_setCell (row_setCell (row_setCell HI1.out.re _) _) _) _)) Tryz.underlying27 rfl (by kernel_rfl)) rfl ⟨.inr (.inl ⟨HGood.out,HNo.out,rfl⟩),((((HI1.out.old.setCell (by simp;omega) _).setCell (by simp;omega) _).setCell (by simp;omega) _).setCell (by simp;omega) _).drew⟩
     · have q1:decide (lo<0)=false:=decide_eq_false h1
       have q2:decide (hi<lo)=false:=decide_eq_false h2
       go_wp2_with fail
       refine (count_any c.id c.ra c.rs c.rc c.da c.ds.length c.dc c.va c.vs.length c.vc hn w1 (HAT.out _ HI1.out).r).mono ?_
       rintro e w2 ⟨rfl,hb2⟩
       have HI2:Hid (PtI W lid kind mr md pa pn pc c w2):=HI1.out.keep (hb2.mono (HLE.out _ HI1.out))
       clear hb2 p0 p1 p2 p3 p4 k0 k1 k2 k3 z0 z1 z2 z3 f0 f1 f2 f3 hbe
       obtain⟨⟨p0,p1,p2,p3,p4⟩,_⟩:=row_five HI2.out.lf
       obtain⟨k0,k1,k2,k3⟩:=row_four HI2.out.co
       obtain⟨z0,z1,z2,z3⟩:=row_four HI2.out.re
       obtain⟨f0,f1,f2,f3⟩:=row_fourA HI2.out.re
       have hbe:=HBD.out _ HI2.out
       by_cases h3:(cntE 0 c.rs:Nat)<hi
       · have HNo:Hid (¬ (0<=lo/\lo<=hi/\hi<=(cntE 0 c.rs:Nat))):=(by show ¬ _;omega)
         have q3:decide (((cntE 0 c.rs:Nat):Int)<hi)=true:=decide_eq_true h3
         clear h1 h2 h3
         go_wp2_with fail
         go_region
         all_goals
          go_wp2
          exact bodyPost_ret (v:=.tuple #[zeroC,.iface bt bp]) (results_cR Tryz.results33 _ _ (W.heap.size+1+1) 27 #[.int .i64 0,.slice none 0 0,.slice none 0 0,.slice none 0 0] (0,0) _ (.iface bt bp) rfl rfl (blk_drew (row_setCell (row_setCell (row_setCell (row_setCell HI2.out.re _) _) _) _)) Tryz.underlying27 rfl (by kernel_rfl)) rfl ⟨.inr (.inl ⟨HGood.out,HNo.out,rfl⟩),((((HI2.out.old.setCell (by simp;omega) _).setCell (by simp;omega) _).setCell (by simp;omega) _).setCell (by simp;omega) _).drew⟩
       · have HYes:Hid (0<=lo/\lo<=hi/\hi<=(cntE 0 c.rs:Nat)):=(by show _/\_;omega)
         have q3:decide (((cntE 0 c.rs:Nat):Int)<hi)=false:=decide_eq_false h3
         clear h1 h2 h3
         go_upto_region 6 with fail
         go_cut [11,12] (fun x y wx=>∃a b:Nat,x=.int .i64 a/\y=.int .i64 b/\Hid (StAt c.rs lo a)/\Hid (StAt c.rs hi b)/\Hid (PtI W lid kind mr md pa pn pc c wx))
         case first =>
          have b0:Below (W.heap.size+1+1+1) w2 w2:=Below.refl _ _
          have hsz:=HLE.out _ HI2.out
          have HN:Hid (∀X,Below (W.heap.size+1+1+1) w2 X->(X.cell? ⟨W.heap.size,0,none⟩=some (.int .i64 lid)/\X.cell? ⟨W.heap.size,1,none⟩=some (.int .i64 kind)/\X.cell? ⟨W.heap.size,2,none⟩=some (.int .i64 mr)/\X.cell? ⟨W.heap.size,3,none⟩=some (.int .i64 md)/\X.cell? ⟨W.heap.size,4,none⟩=some (.slice pa pn pc))/\(X.cell? ⟨W.heap.size+1,0,none⟩=some (.int .i64 c.id)/\X.cell? ⟨W.heap.size+1,1,none⟩=some (.slice c.ra c.rs.length c.rc)/\X.cell? ⟨W.heap.size+1,2,none⟩=some (.slice c.da c.ds.length c.dc)/\X.cell? ⟨W.heap.size+1,3,none⟩=some (.slice c.va c.vs.length c.vc))/\Below (W.heap.size+1+1+1) w2 X):=fun X hX=>⟨(row_five ((hX.block _ (by omega)).trans HI2.out.lf)).1,row_four ((hX.block _ (by omega)).trans HI2.out.co),hX⟩
          have HCall:Hid (∀(z:Int) X,Below (W.heap.size+1+1+1) w2 X->Calls Tryz.prog 55 #[.agg #[.int .i64 c.id,.slice c.ra c.rs.length c.rc,.slice c.da c.ds.length c.dc,.slice c.va c.vs.length c.vc],.int .i64 z] X fun e w'=>(∃a:Nat,e=.returned (.int .i64 a)/\StAt c.rs z a)/\Below (W.heap.size+1+1+1) w2 w'):=fun z X hX=>(startOf_any c.id z c.ra c.rs c.rc c.da c.ds.length c.dc c.va c.vs.length c.vc hn X (HAT.out _ (HI2.out.keep hX)).r).mono fun e w' h=>⟨h.1,bel_next hX hsz h.2⟩
          go_region_held3 (fun X=>(X.cell? ⟨W.heap.size,0,none⟩=some (.int .i64 lid)/\X.cell? ⟨W.heap.size,1,none⟩=some (.int .i64 kind)/\X.cell? ⟨W.heap.size,2,none⟩=some (.int .i64 mr)/\X.cell? ⟨W.heap.size,3,none⟩=some (.int .i64 md)/\X.cell? ⟨W.heap.size,4,none⟩=some (.slice pa pn pc))/\(X.cell? ⟨W.heap.size+1,0,none⟩=some (.int .i64 c.id)/\X.cell? ⟨W.heap.size+1,1,none⟩=some (.slice c.ra c.rs.length c.rc)/\X.cell? ⟨W.heap.size+1,2,none⟩=some (.slice c.da c.ds.length c.dc)/\X.cell? ⟨W.heap.size+1,3,none⟩=some (.slice c.va c.vs.length c.vc))/\Below (W.heap.size+1+1+1) w2 X) (with_reducible refine HN.out _ ?_;repeat' (first|with_reducible assumption|with_reducible exact b0.drew|with_reducible exact b0)) (first|(go_at_call 55;(with_reducible refine Calls.mono (HCall.out lo _ ?_) ?_);(first|with_reducible assumption|with_reducible exact b0.drew);rintro e xa ⟨⟨a,rfl,ha⟩,hba⟩;have HSA:Hid _:=ha;clear ha)|(go_at_call 55;(with_reducible refine Calls.mono (HCall.out hi _ ?_) ?_);(first|with_reducible assumption|with_reducible exact b0.drew);rintro e xb ⟨⟨b,rfl,hb⟩,hbb⟩;have HSB:Hid _:=hb;clear hb))
          all_goals
           go_wp2_with fail
           go_meet
           exact⟨a,b,rfl,rfl,HSA,HSB,HI2.out.keep (by first|exact hbb|exact hba)⟩
         case rest =>
          obtain⟨a,b,rfl,rfl,HSA,HSB,HI3⟩:=hcut
          clear p0 p1 p2 p3 p4 k0 k1 k2 k3 z0 z1 z2 z3 f0 f1 f2 f3 hbe HI2 HI1 HI0
          obtain⟨hfid,hfl,_,_,_,hfv⟩:=fitB_iff.1 (show fitB lid mr md c.id c.rs c.ds c.vs.length=true from by have h:=HGood.out.1;simp at h;exact h.2)
          have HLn:Hid (c.rs.length=c.ds.length):=hfl
          have HVn:Hid (c.vs.length=cntE md c.ds):=hfv
          have HFid:Hid (c.id=lid):=hfid
          clear hfl hfv hfid
          have hab:a<=b:=HSA.out.le HSB.out HYes.out.2.1
          have hbl:b<=c.ds.length:=by rw[←HLn.out];exact HSB.out.1
          have hbr:b<=c.rs.length:=HSB.out.1
          go_upto_region 7 with fail
          go_cut [13] (fun x wx=>x=.int .i64 (cntE md (c.ds.take a):Nat)/\Hid (PtI W lid kind mr md pa pn pc c wx))
          case first =>
           have b0:Below (W.heap.size+1+1+1) wc wc:=Below.refl _ _
           have hsz:=HLE.out _ HI3.out
           have HN:Hid (∀X,Below (W.heap.size+1+1+1) wc X->(X.cell? ⟨W.heap.size,0,none⟩=some (.int .i64 lid)/\X.cell? ⟨W.heap.size,1,none⟩=some (.int .i64 kind)/\X.cell? ⟨W.heap.size,2,none⟩=some (.int .i64 mr)/\X.cell? ⟨W.heap.size,3,none⟩=some (.int .i64 md)/\X.cell? ⟨W.heap.size,4,none⟩=some (.slice pa pn pc))/\(X.cell? ⟨W.heap.size+1,0,none⟩=some (.int .i64 c.id)/\X.cell? ⟨W.heap.size+1,1,none⟩=some (.slice c.ra c.rs.length c.rc)/\X.cell? ⟨W.heap.size+1,2,none⟩=some (.slice c.da c.ds.length c.dc)/\X.cell? ⟨W.heap.size+1,3,none⟩=some (.slice c.va c.vs.length c.vc))/\Below (W.heap.size+1+1+1) wc X):=fun X hX=>⟨(row_five ((hX.block _ (by omega)).trans HI3.out.lf)).1,row_four ((hX.block _ (by omega)).trans HI3.out.co),hX⟩
           have qa:((a:Nat):Int)<=(c.dc:Int):=by omega
           have qb:(0:Int)<=((a:Nat):Int):=by omega
           have HV7:Hid (Calls Tryz.prog 56 #[.agg #[.int .i64 lid,.int .i64 kind,.int .i64 mr,.int .i64 md,.slice pa pn pc],.slice c.da a c.dc] wc.drew fun e w'=>e=.returned (.int .i64 (cntE md (c.ds.take a):Nat))/\Below (W.heap.size+1+1+1) wc w'):=(valuesOf_n lid kind mr md pa pn pc c.da a c.dc (c.ds.take a) (by simp;omega) wc.drew (by
            have h:=lies_cut ((HAT.out _ HI3.out).d) 0 a c.dc (by rw[i64s_len];omega) (by rw[i64s_len];omega) (x:=c.da) (by cases c.da<;>simp[addr_add0])
            rw[←i64s_cut] at h
            exact h.keep (Below.refl _ _).drew) (by simp;omega)).mono fun e w' h=>⟨h.1,bel_next b0.drew hsz h.2⟩
           go_region_held3 (fun X=>(X.cell? ⟨W.heap.size,0,none⟩=some (.int .i64 lid)/\X.cell? ⟨W.heap.size,1,none⟩=some (.int .i64 kind)/\X.cell? ⟨W.heap.size,2,none⟩=some (.int .i64 mr)/\X.cell? ⟨W.heap.size,3,none⟩=some (.int .i64 md)/\X.cell? ⟨W.heap.size,4,none⟩=some (.slice pa pn pc))/\(X.cell? ⟨W.heap.size+1,0,none⟩=some (.int .i64 c.id)/\X.cell? ⟨W.heap.size+1,1,none⟩=some (.slice c.ra c.rs.length c.rc)/\X.cell? ⟨W.heap.size+1,2,none⟩=some (.slice c.da c.ds.length c.dc)/\X.cell? ⟨W.heap.size+1,3,none⟩=some (.slice c.va c.vs.length c.vc))/\Below (W.heap.size+1+1+1) wc X) (with_reducible refine HN.out _ ?_;repeat' (first|with_reducible assumption|with_reducible exact b0.drew|with_reducible exact b0)) (first|(go_at_call 56;(with_reducible refine Calls.mono HV7.out ?_);rintro e xv ⟨rfl,hbv⟩))
           all_goals
            go_wp2_with fail
            go_meet
            exact⟨rfl,HI3.out.keep hbv⟩
          case rest =>
           obtain⟨hx4,HI4⟩:=hcut
           obtain⟨v1,HV1⟩:∃v,Hid (cntE md (c.ds.take a)=v):=⟨_,rfl⟩
           obtain⟨v2,HV2⟩:∃v,Hid (cntE md (c.ds.take b)=v):=⟨_,rfl⟩
           rw[HV1.out] at hx4
           subst hx4
           clear HI3
           rename World=>wd
           go_upto_region 8 with fail
           go_cut [14] (fun x wx=>x=.int .i64 (v2:Nat)/\Hid (PtI W lid kind mr md pa pn pc c wx))
           case first =>
            have b0:Below (W.heap.size+1+1+1) wd wd:=Below.refl _ _
            have hsz:=HLE.out _ HI4.out
            have HN:Hid (∀X,Below (W.heap.size+1+1+1) wd X->(X.cell? ⟨W.heap.size,0,none⟩=some (.int .i64 lid)/\X.cell? ⟨W.heap.size,1,none⟩=some (.int .i64 kind)/\X.cell? ⟨W.heap.size,2,none⟩=some (.int .i64 mr)/\X.cell? ⟨W.heap.size,3,none⟩=some (.int .i64 md)/\X.cell? ⟨W.heap.size,4,none⟩=some (.slice pa pn pc))/\(X.cell? ⟨W.heap.size+1,0,none⟩=some (.int .i64 c.id)/\X.cell? ⟨W.heap.size+1,1,none⟩=some (.slice c.ra c.rs.length c.rc)/\X.cell? ⟨W.heap.size+1,2,none⟩=some (.slice c.da c.ds.length c.dc)/\X.cell? ⟨W.heap.size+1,3,none⟩=some (.slice c.va c.vs.length c.vc))/\Below (W.heap.size+1+1+1) wd X):=fun X hX=>⟨(row_five ((hX.block _ (by omega)).trans HI4.out.lf)).1,row_four ((hX.block _ (by omega)).trans HI4.out.co),hX⟩
            have qa:((a:Nat):Int)<=((b:Nat):Int):=by omega
            have qc:((b:Nat):Int)<=(c.dc:Int):=by omega
            have qb:(0:Int)<=((a:Nat):Int):=by omega
            have HCt:Hid (v2=v1+cntE md (cutL c.ds a b)):=(by show _=_;rw[←HV1.out,←HV2.out];exact cntE_cut md c.ds a b hab)
            obtain⟨v3,HV3⟩:∃v,Hid (cntE md (cutL c.ds a b)=v):=⟨_,rfl⟩
            rw[HV3.out] at HCt
            obtain⟨x8,hif8⟩:∃x,(if c.dc=a then c.da else Option.map (fun x=>x.add a) c.da)=x:=⟨_,rfl⟩
            have HV8:Hid (Calls Tryz.prog 56 #[.agg #[.int .i64 lid,.int .i64 kind,.int .i64 mr,.int .i64 md,.slice pa pn pc],.slice x8 (b-a) (c.dc-a)] wd.drew fun e w'=>e=.returned (.int .i64 (v3:Nat))/\Below (W.heap.size+1+1+1) wd w'):=(valuesOf_n lid kind mr md pa pn pc _ (b-a) _ (cutL c.ds a b) (by rw[cutL_len _ _ _ hbl];omega) wd.drew (by
             have h:=lies_cut ((HAT.out _ HI4.out).d) a b c.dc (by rw[i64s_len];omega) (by rw[i64s_len];omega) (x:=x8) (by rw[←hif8];simp)
             rw[←i64s_cut] at h
             exact h.keep (Below.refl _ _).drew) (by rw[cutL_len _ _ _ hbl])).mono fun e w' h=>⟨by rw[←HV3.out];exact h.1,bel_next b0.drew hsz h.2⟩
            have hu2:=cntE_le md c.ds b
            have hu3:v1+v3<=1048576:=by rw[←HCt.out,←HV2.out];omega
            clear hu2
            have hwr:IntKind.i64.wrap ((v1:Int)+(v3:Int))=(v1:Int)+(v3:Int):=by rw[IntKind.wrap_i64];omega
            go_region_held3 (fun X=>(X.cell? ⟨W.heap.size,0,none⟩=some (.int .i64 lid)/\X.cell? ⟨W.heap.size,1,none⟩=some (.int .i64 kind)/\X.cell? ⟨W.heap.size,2,none⟩=some (.int .i64 mr)/\X.cell? ⟨W.heap.size,3,none⟩=some (.int .i64 md)/\X.cell? ⟨W.heap.size,4,none⟩=some (.slice pa pn pc))/\(X.cell? ⟨W.heap.size+1,0,none⟩=some (.int .i64 c.id)/\X.cell? ⟨W.heap.size+1,1,none⟩=some (.slice c.ra c.rs.length c.rc)/\X.cell? ⟨W.heap.size+1,2,none⟩=some (.slice c.da c.ds.length c.dc)/\X.cell? ⟨W.heap.size+1,3,none⟩=some (.slice c.va c.vs.length c.vc))/\Below (W.heap.size+1+1+1) wd X) (with_reducible refine HN.out _ ?_;repeat' (first|with_reducible assumption|with_reducible exact b0.drew|with_reducible exact b0)) (first|(go_at_call 56;(with_reducible refine Calls.mono HV8.out ?_);rintro e xv ⟨rfl,hbv⟩))
            all_goals
             go_wp2_with fail
             go_meet
             exact⟨by rw[HCt.out];simp,HI4.out.keep hbv⟩
           case rest =>
            obtain⟨rfl,HI5⟩:=hcut
            clear HI4
            rename World=>we
            have hv12:v1<=v2:=by rw[←HV1.out,←HV2.out];exact cntE_mono md c.ds hab
            have hv2n:v2<=c.vs.length:=by rw[HVn.out,←HV2.out];exact cntE_all md c.ds b
            have b0:Below (W.heap.size+1+1) we we:=Below.refl _ _
            have hsz:=HLE.out _ HI5.out
            have HN:Hid (∀X,Below (W.heap.size+1+1) we X->(X.cell? ⟨W.heap.size,0,none⟩=some (.int .i64 lid)/\X.cell? ⟨W.heap.size,1,none⟩=some (.int .i64 kind)/\X.cell? ⟨W.heap.size,2,none⟩=some (.int .i64 mr)/\X.cell? ⟨W.heap.size,3,none⟩=some (.int .i64 md)/\X.cell? ⟨W.heap.size,4,none⟩=some (.slice pa pn pc))/\(X.cell? ⟨W.heap.size+1,0,none⟩=some (.int .i64 c.id)/\X.cell? ⟨W.heap.size+1,1,none⟩=some (.slice c.ra c.rs.length c.rc)/\X.cell? ⟨W.heap.size+1,2,none⟩=some (.slice c.da c.ds.length c.dc)/\X.cell? ⟨W.heap.size+1,3,none⟩=some (.slice c.va c.vs.length c.vc))/\Below (W.heap.size+1+1) we X):=fun X hX=>⟨(row_five ((hX.block _ (by omega)).trans HI5.out.lf)).1,row_four ((hX.block _ (by omega)).trans HI5.out.co),hX⟩
            have qa:((a:Nat):Int)<=((b:Nat):Int):=by omega
            have qc:((b:Nat):Int)<=(c.dc:Int):=by omega
            have qd:((b:Nat):Int)<=(c.rc:Int):=by omega
            have qb:(0:Int)<=((a:Nat):Int):=by omega
            have qe:((v1:Nat):Int)<=((v2:Nat):Int):=by omega
            have qf:((v2:Nat):Int)<=(c.vc:Int):=by omega
            have qg:(0:Int)<=((v1:Nat):Int):=by omega
            obtain⟨x1,hif1⟩:∃x,(if c.rc=a then c.ra else Option.map (fun x=>x.add a) c.ra)=x:=⟨_,rfl⟩
            obtain⟨x2,hif2⟩:∃x,(if c.dc=a then c.da else Option.map (fun x=>x.add a) c.da)=x:=⟨_,rfl⟩
            obtain⟨x3,hif3⟩:∃x,(if c.vc=v1 then c.va else Option.map (fun x=>x.add (v1*3)) c.va)=x:=⟨_,rfl⟩
            have hsz2:W.heap.size+1+1<=we.heap.size:=by omega
            have HV9:Hid (Calls Tryz.prog 57 #[.agg #[.int .i64 lid,.int .i64 kind,.int .i64 mr,.int .i64 md,.slice pa pn pc],.slice (some ⟨we.heap.size,0,none⟩) 1 1] (we.alloc (.cells #[.int .i64 0,.slice x1 (b-a) (c.rc-a),.slice x2 (b-a) (c.dc-a),.slice x3 (v2-v1) (c.vc-v1)] 27)).drew fun e w'=>(∃k:Cl,e=.returned (.agg #[.int .i64 k.id,.slice k.ra k.rs.length k.rc,.slice k.da k.ds.length k.dc,.slice k.va k.vs.length k.vc])/\k.At w'/\k.Fr we.heap.size/\k.id=lid/\k.rs=cutL c.rs a b/\k.ds=cutL c.ds a b/\k.vs=cutL c.vs v1 v2)/\Below we.heap.size we w'):=(by
             have hbx:Below we.heap.size we (we.alloc (.cells #[.int .i64 0,.slice x1 (b-a) (c.rc-a),.slice x2 (b-a) (c.dc-a),.slice x3 (v2-v1) (c.vc-v1)] 27)).drew:=((Below.refl _ _).alloc (Nat.le_refl _) _).drew
             have hAt:=HAT.out _ HI5.out
             have l1:=(lies_cut hAt.r a b c.rc (by rw[i64s_len];omega) (by rw[i64s_len];omega) (x:=x1) (by rw[←hif1];simp)).keep hbx
             have l2:=(lies_cut hAt.d a b c.dc (by rw[i64s_len];omega) (by rw[i64s_len];omega) (x:=x2) (by rw[←hif2];simp)).keep hbx
             have l3:=(liesV_cut hAt.v v1 v2 c.vc (by omega) (by omega) (x:=x3) (by rw[←hif3])).keep hbx
             rw[←i64s_cut] at l1 l2
             obtain⟨y0,y1,y2,y3⟩:=row_four (blk_drew (heap_alloc_new we (.cells #[.int .i64 0,.slice x1 (b-a) (c.rc-a),.slice x2 (b-a) (c.dc-a),.slice x3 (v2-v1) (c.vc-v1)] 27)))
             have hj:=joined_n lid kind mr md pa pn pc (some ⟨we.heap.size,0,none⟩) 1 1 [⟨0,x1,cutL c.rs a b,c.rc-a,x2,cutL c.ds a b,c.dc-a,x3,cutL c.vs v1 v2,c.vc-v1⟩] (we.alloc (.cells #[.int .i64 0,.slice x1 (b-a) (c.rc-a),.slice x2 (b-a) (c.dc-a),.slice x3 (v2-v1) (c.vc-v1)] 27)).drew (by simp) (by simp[jR,cutL_len _ _ _ hbr];omega) (by simp[jD,cutL_len _ _ _ hbl];omega) (by simp[jV,cutL_len _ _ _ hv2n];omega) (fun j hj=>by
              obtain rfl:j=0:=by simp at hj;omega
              refine⟨⟨we.heap.size,0,rfl,y0,?_,?_,?_⟩,l1,l2,l3⟩
              · show _=some (Value.slice x1 (cutL c.rs a b).length (c.rc-a))
                rw[cutL_len _ _ _ hbr];exact y1
              · show _=some (Value.slice x2 (cutL c.ds a b).length (c.dc-a))
                rw[cutL_len _ _ _ hbl];exact y2
              · show _=some (Value.slice x3 (cutL c.vs v1 v2).length (c.vc-v1))
                rw[cutL_len _ _ _ hv2n];exact y3) rfl
             refine hj.mono fun e w' h=>?_
             obtain⟨⟨k,e0,e1,e2,e3,e4,e5,e6⟩,e7⟩:=h
             exact⟨⟨k,e0,e1,⟨fun p hp=>Nat.le_trans hbx.size (e2.r p hp),fun p hp=>Nat.le_trans hbx.size (e2.d p hp),fun p hp=>Nat.le_trans hbx.size (e2.v p hp)⟩,e3,by simpa [jR] using e4,by simpa [jD] using e5,by simpa [jV] using e6⟩,hbx.trans (e7.mono hbx.size)⟩)
            go_wp2_with fail
            go_region_held3 (fun X=>(X.cell? ⟨W.heap.size,0,none⟩=some (.int .i64 lid)/\X.cell? ⟨W.heap.size,1,none⟩=some (.int .i64 kind)/\X.cell? ⟨W.heap.size,2,none⟩=some (.int .i64 mr)/\X.cell? ⟨W.heap.size,3,none⟩=some (.int .i64 md)/\X.cell? ⟨W.heap.size,4,none⟩=some (.slice pa pn pc))/\(X.cell? ⟨W.heap.size+1,0,none⟩=some (.int .i64 c.id)/\X.cell? ⟨W.heap.size+1,1,none⟩=some (.slice c.ra c.rs.length c.rc)/\X.cell? ⟨W.heap.size+1,2,none⟩=some (.slice c.da c.ds.length c.dc)/\X.cell? ⟨W.heap.size+1,3,none⟩=some (.slice c.va c.vs.length c.vc))/\Below (W.heap.size+1+1) we X) (with_reducible refine HN.out _ ?_;repeat' (first|with_reducible assumption|with_reducible exact b0.drew|with_reducible exact b0|with_reducible exact (b0.alloc hsz2 _).drew|with_reducible refine Below.setCell ?_ ?_ _|with_reducible refine Below.alloc ?_ ?_ _|with_reducible exact Below.size (by assumption)|(simp;done)|(simp;omega)|omega)) (first|(go_at_call 57;(with_reducible refine Calls.mono HV9.out ?_);rintro e xj ⟨⟨⟨kid,kra,krs,krc,kda,kds,kdc,kva,kvs,kvc⟩,rfl,kat,kfr,rfl,rfl,rfl,rfl⟩,hbj⟩;have hbk:Below (W.heap.size+1+1) we xj:=hbj.mono hsz2;have HKA:Hid _:=kat;have HKF:Hid _:=kfr;have HBJ:Hid _:=hbj;clear kat kfr hbj;obtain⟨z0,z1,z2,z3⟩:=row_four (blk_keep HBJ.out HI5.out.re);obtain⟨f0,f1,f2,f3⟩:=row_fourA (blk_keep HBJ.out HI5.out.re)))
            all_goals
             go_wp2
             have hgN:W.heap.size+1+1<we.heap.size:=by omega
             have hol:Below W.heap.size W xj:=HI5.out.old.trans (HBJ.out.mono (by omega))
             exact bodyPost_ret (v:=.tuple #[.agg #[.int .i64 kid,.slice kra (cutL c.rs a b).length krc,.slice kda (cutL c.ds a b).length kdc,.slice kva (cutL c.vs v1 v2).length kvc],.nilIface]) (results_cR Tryz.results33 _ _ (W.heap.size+1+1) 27 #[.int .i64 kid,.slice kra (cutL c.rs a b).length krc,.slice kda (cutL c.ds a b).length kdc,.slice kva (cutL c.vs v1 v2).length kvc] (0,0) _ .nilIface rfl rfl (row_setCell (row_setCell (row_setCell (row_setCell (blk_keep HBJ.out HI5.out.re) _) _) _) _) Tryz.underlying27 rfl (by kernel_rfl)) rfl ⟨.inr (.inr ⟨HGood.out,HYes.out,⟨kid,kra,cutL c.rs a b,krc,kda,cutL c.ds a b,kdc,kva,cutL c.vs v1 v2,kvc⟩,a,b,rfl,(((HKA.out.off HKF.out hgN).off HKF.out hgN).off HKF.out hgN).off HKF.out hgN,HKF.out.low HI5.out.old.size,HSA.out,HSB.out,rfl,rfl,rfl,by rw[HV1.out,HV2.out]⟩),(((hol.setCell (by simp;omega) _).setCell (by simp;omega) _).setCell (by simp;omega) _).setCell (by simp;omega) _⟩
 · have HG:Hid _:=hg
   have HQ0:Hid _:=hq0
   have HQ1:Hid _:=hq1
   have HBa:Hid _:=hbad
   have HF:Hid _:=hf
   have HQN:Hid (W.heap.size+1+1<q):=(by have:=HLE.out _ HI0.out;show _<_;omega)
   clear hg hq0 hq1 hbad hf hqn
   go_wp2
   have hoff:∀(X:World) (o j:Nat) (v:Value),(X.setCell ⟨W.heap.size+1+1,j,none⟩ v).cell? ⟨q,o,none⟩=X.cell? ⟨q,o,none⟩:=fun X o j v=>cell_off (by have:=HQN.out;omega)
   exact bodyPost_ret (v:=.tuple #[zeroC,.iface 83 (.pointer (some ⟨q,0,none⟩))]) (results_cR Tryz.results33 _ _ (W.heap.size+1+1) 27 #[.int .i64 0,.slice none 0 0,.slice none 0 0,.slice none 0 0] (0,0) _ (.iface 83 (.pointer (some ⟨q,0,none⟩))) rfl rfl (row_setCell (row_setCell (row_setCell (row_setCell HI1.out.re _) _) _) _) Tryz.underlying27 rfl (by kernel_rfl)) rfl ⟨.inl (.inr ⟨HG.out,p,hp,HBa.out,HF.out,q,(by have:=HQN.out;omega),rfl,by rw[hoff,hoff,hoff,hoff];exact HQ0.out,by rw[hoff,hoff,hoff,hoff];exact HQ1.out⟩),(((HI1.out.old.setCell (by simp;omega) _).setCell (by simp;omega) _).setCell (by simp;omega) _).setCell (by simp;omega) _⟩
end Go.Proofs.YtoeiahdjamkdgaaGreatDoor
