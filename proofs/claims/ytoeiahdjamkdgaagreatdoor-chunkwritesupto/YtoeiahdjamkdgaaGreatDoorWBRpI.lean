/-
  page.readBody: what column a page's body is.
  page.readBody, its walk.
  page.Read and page.Peek: what page a text begins with.
  The walk of the law EncTwice.
  What page.Write writes is a page, and its body the column: mathematics, without the program.
  Chunks: their bytes, and how many they are: mathematics, without the program.
-/
import Derived.Test.YtoeiahdjamkdgaaGreatDoorWRpB
import Derived.Test.YtoeiahdjamkdgaaGreatDoorWBRdBest
import Derived.Test.YtoeiahdjamkdgaaGreatDoorWBRsC
import Derived.Test.YtoeiahdjamkdgaaGreatDoorWBPgD
set_option maxRecDepth 100000
set_option maxHeartbeats 12800000
namespace Go.Proofs.YtoeiahdjamkdgaaGreatDoor
open Go.RowKit
theorem isBs_len {kd code:Int}{l:List UInt8}{n:Nat}{vs:List Vl}(h:IsBs kd code l n vs):vs.length=n:=by
 unfold IsBs at h
 split at h
 · exact h.1
 split at h
 · obtain⟨us,e,ps,_,h2,h3⟩:=h
   rw[←h3.len.1]
   exact Um.runs_length h2
 split at h
 · obtain⟨xs,_,h2,h3,_⟩:=h
   rw[h3,kvs_len,h2]
 · obtain⟨ss,h1,rfl⟩:=h
   rw[pvs_len,(Um.rdp_some _ _ _ _ h1).1]
theorem isBs_low {kd code:Int}{l:List UInt8}{n:Nat}{vs:List Vl}(h:IsBs kd code l n vs):∀v∈vs,v.Low:=by
 unfold IsBs at h
 split at h
 · exact fun v hv=>(h.2.1.2 v hv).2.2.1.1
 split at h
 · obtain⟨us,e,ps,⟨m,k,z,j,_,_,_,_,_,_,h1,_⟩,h2,h3⟩:=h
   intro v hv
   obtain⟨i,hi,rfl⟩:=List.getElem_of_mem hv
   obtain⟨p,_,hp⟩:=h3.at_ i hi
   exact (h1.2.1.2 _ (List.mem_of_getElem? hp)).2.2.1.1
 split at h
 · obtain⟨xs,_,_,h3,h4,_⟩:=h
   subst h3
   intro v hv
   unfold kvs at hv
   obtain⟨x,hx,rfl⟩:=List.mem_map.1 hv
   exact (h4 x hx).1
 · obtain⟨ss,h1,rfl⟩:=h
   intro v hv
   unfold pvs at hv
   obtain⟨x,hx,rfl⟩:=List.mem_map.1 hv
   show (-9223372036854775808:Int)<=0
   omega
theorem LvAt.fn {s:ByteArray}{most many n k n' k':Nat}{p p':List Nat}(h:LvAt s most many n k p)(h':LvAt s most many n' k' p'):n=n'/\k=k'/\p=p':=by
 obtain⟨rfl,rfl⟩:=h.tx.fn h'.tx
 have h1:=h.rn
 rw[h'.rn] at h1
 cases h1
 exact⟨rfl,rfl,rfl⟩
theorem BsAt.fn {s:ByteArray}{kd:Int}{many n k n' k':Nat}{b b':UInt8}{vs vs':List Vl}(h:BsAt s kd many b n k vs)(h':BsAt s kd many b' n' k' vs'):b=b'/\n=n'/\k=k'/\vs=vs':=by
 obtain⟨r,h1⟩:=h.code
 obtain⟨r',h2⟩:=h'.code
 rw[h1] at h2
 cases h2
 obtain⟨rfl,rfl⟩:=h.tx.fn h'.tx
 exact⟨rfl,rfl,rfl,isBs_fn h.is h'.is⟩
def lvI (p:List Nat):List Int:=p.map fun n:Nat=>(n:Int)
structure BdAt (lid kind:Int) (mr md:Nat) (s:ByteArray) (t:St) (n1 k1:Nat) (p:List Nat) (n2 k2:Nat) (d:List Nat) (b:UInt8) (n3 k3:Nat) (vs:List Vl):Prop where
 beg:∃r,BegS s.data.toList t r
 pgs:PgS kind t
 rep:LvAt (s.extract (stTx t).length s.size) mr t.e.toNat n1 k1 p
 def_:LvAt ((s.extract (stTx t).length s.size).extract (k1+n1) (s.extract (stTx t).length s.size).size) md t.e.toNat n2 k2 d
 val:BsAt (((s.extract (stTx t).length s.size).extract (k1+n1) (s.extract (stTx t).length s.size).size).extract (k2+n2) ((s.extract (stTx t).length s.size).extract (k1+n1) (s.extract (stTx t).length s.size).size).size) kind (t.e-t.u).toNat b n3 k3 vs
 fin:((((s.extract (stTx t).length s.size).extract (k1+n1) (s.extract (stTx t).length s.size).size).extract (k2+n2) ((s.extract (stTx t).length s.size).extract (k1+n1) (s.extract (stTx t).length s.size).size).size).extract 1 (((s.extract (stTx t).length s.size).extract (k1+n1) (s.extract (stTx t).length s.size).size).extract (k2+n2) ((s.extract (stTx t).length s.size).extract (k1+n1) (s.extract (stTx t).length s.size).size).size).size).size=k3+n3
 good:GoodC lid kind mr md ⟨lid,none,0 :: (lvI p).tail,0,none,lvI d,0,none,vs,0⟩
 told:ofC ⟨lid,none,lvI p,0,none,lvI d,0,none,vs,0⟩=t
def IsBd (lid kind:Int)(mr md:Nat)(s:ByteArray)(p d:List Nat)(vs:List Vl):Prop:=∃t n1 k1 n2 k2 b n3 k3,BdAt lid kind mr md s t n1 k1 p n2 k2 d b n3 k3 vs
theorem isBd_fn {lid kind:Int}{mr md:Nat}{s:ByteArray}{p d p' d':List Nat}{vs vs':List Vl}(h:IsBd lid kind mr md s p d vs)(h':IsBd lid kind mr md s p' d' vs'):p=p'/\d=d'/\vs=vs':=by
 obtain⟨t,n1,k1,n2,k2,b,n3,k3,h⟩:=h
 obtain⟨t',n1',k1',n2',k2',b',n3',k3',h'⟩:=h'
 obtain⟨r,hr⟩:=h.beg
 obtain⟨r',hr'⟩:=h'.beg
 obtain rfl:=begS_fn hr hr'
 obtain⟨rfl,rfl,rfl⟩:=h.rep.fn h'.rep
 obtain⟨rfl,rfl,rfl⟩:=h.def_.fn h'.def_
 obtain⟨_,_,_,rfl⟩:=h.val.fn h'.val
 exact⟨rfl,rfl,rfl⟩
structure RbI (W:World) (lid kind:Int) (mr md:Nat) (pa:Option Addr) (pn pc:Nat) (e u:Nat) (th:Bool) (tn tx:Vl) (T:Nat) (s:ByteArray) (f:Bool) (vr vd vv:Value) (X:World):Prop where
 lf:X.heap[W.heap.size]? = some (.cells #[.int .i64 lid,.int .i64 kind,.int .i64 (mr:Nat),.int .i64 (md:Nat),.slice pa pn pc] 39 (0,0))
 re:X.heap[W.heap.size+1]? = some (.cells #[.int .i64 0,.slice none 0 0,.slice none 0 0,.slice none 0 0] 27 (0,0))
 st:X.heap[T]? = some (.cells #[.int .i64 (e:Nat),.int .i64 (u:Nat),.bool th,.int .i64 tn.k,.int .i64 tn.n,.string tn.s,.int .i64 tx.k,.int .i64 tx.n,.string tx.s] 51 (0,0))
 rd:Rdr 188 X (T+1) s f
 co:X.heap[T+1+1]? = some (.cells #[.int .i64 lid,vr,vd,vv] 27 (0,0))
 lo:W.heap.size+1<T
 old:Below W.heap.size W X
theorem RbI.call {W:World}{lid kind:Int}{mr md:Nat}{pa:Option Addr}{pn pc e u:Nat}{th:Bool}{tn tx:Vl}{T:Nat}{s s':ByteArray}{f f':Bool}{vr vd vv:Value}{X w':World}(h:RbI W lid kind mr md pa pn pc e u th tn tx T s f vr vd vv X)(hf:PFr (T+1) X w')(hr:Rdr 188 w' (T+1) s' f'):RbI W lid kind mr md pa pn pc e u th tn tx T s' f' vr vd vv w':=by
 have hl:=h.lo
 have hz:=lt_of_block h.lf
 exact⟨hf.box h.lf (by omega),hf.box h.re (by omega),hf.box h.st (by omega),hr,hf.box h.co (by omega),h.lo,h.old.trans (hf.below (by omega) (by omega))⟩
theorem RbI.keep {W:World}{lid kind:Int}{mr md:Nat}{pa:Option Addr}{pn pc e u:Nat}{th:Bool}{tn tx:Vl}{T:Nat}{s:ByteArray}{f:Bool}{vr vd vv:Value}{X w':World}(h:RbI W lid kind mr md pa pn pc e u th tn tx T s f vr vd vv X)(hb:Below X.heap.size X w'):RbI W lid kind mr md pa pn pc e u th tn tx T s f vr vd vv w' :=
 ⟨blk_keep hb h.lf,blk_keep hb h.re,blk_keep hb h.st,h.rd.keep hb,blk_keep hb h.co,h.lo,h.old.trans (hb.mono h.old.size)⟩
theorem RbI.putR {W:World}{lid kind:Int}{mr md:Nat}{pa:Option Addr}{pn pc e u:Nat}{th:Bool}{tn tx:Vl}{T:Nat}{s:ByteArray}{f:Bool}{vr vd vv:Value}{X:World}(h:RbI W lid kind mr md pa pn pc e u th tn tx T s f vr vd vv X)(v:Value):RbI W lid kind mr md pa pn pc e u th tn tx T s f v vd vv (X.setCell ⟨T+1+1,1,none⟩ v):=by
 have hl:=h.lo
 exact⟨blk_other h.lf (by omega) _,blk_other h.re (by omega) _,blk_other h.st (by omega) _,blk_other h.rd (by omega) _,row_setCell h.co v,h.lo,h.old.setCell (by simp;omega) _⟩
theorem RbI.putD {W:World}{lid kind:Int}{mr md:Nat}{pa:Option Addr}{pn pc e u:Nat}{th:Bool}{tn tx:Vl}{T:Nat}{s:ByteArray}{f:Bool}{vr vd vv:Value}{X:World}(h:RbI W lid kind mr md pa pn pc e u th tn tx T s f vr vd vv X)(v:Value):RbI W lid kind mr md pa pn pc e u th tn tx T s f vr v vv (X.setCell ⟨T+1+1,2,none⟩ v):=by
 have hl:=h.lo
 exact⟨blk_other h.lf (by omega) _,blk_other h.re (by omega) _,blk_other h.st (by omega) _,blk_other h.rd (by omega) _,row_setCell h.co v,h.lo,h.old.setCell (by simp;omega) _⟩
theorem RbI.putV {W:World}{lid kind:Int}{mr md:Nat}{pa:Option Addr}{pn pc e u:Nat}{th:Bool}{tn tx:Vl}{T:Nat}{s:ByteArray}{f:Bool}{vr vd vv:Value}{X:World}(h:RbI W lid kind mr md pa pn pc e u th tn tx T s f vr vd vv X)(v:Value):RbI W lid kind mr md pa pn pc e u th tn tx T s f vr vd v (X.setCell ⟨T+1+1,3,none⟩ v):=by
 have hl:=h.lo
 exact⟨blk_other h.lf (by omega) _,blk_other h.re (by omega) _,blk_other h.st (by omega) _,blk_other h.rd (by omega) _,row_setCell h.co v,h.lo,h.old.setCell (by simp;omega) _⟩
theorem Lies.pfr {X w':World}{a:Option Addr}{cs:List Value}{N R:Nat}(h:Lies X a cs)(hf:Fsh N a)(hR:R<N)(hp:PFr R X w'):Lies w' a cs:=fun j hj=>by
 obtain⟨b,o,rfl,hc⟩:=h j hj
 have:=hf _ rfl
 exact⟨b,o,rfl,hp.cell hc (by show b≠R;have:N<=b:=this;omega)⟩
theorem Lies.fset {X:World}{a:Option Addr}{cs:List Value}{N g j:Nat}{v:Value}(h:Lies X a cs)(hf:Fsh N a)(hg:g<N):Lies (X.setCell ⟨g,j,none⟩ v) a cs:=h.off fun p hp=>Nat.lt_of_lt_of_le hg (hf p hp)
theorem LiesV.fset {X:World}{a:Option Addr}{vs:List Vl}{N g j:Nat}{v:Value}(h:LiesV X a vs)(hf:Fsh N a)(hg:g<N):LiesV (X.setCell ⟨g,j,none⟩ v) a vs:=h.off fun p hp=>Nat.lt_of_lt_of_le hg (hf p hp)
def LvF (N:Nat)(s:ByteArray)(most many:Nat)(f f2:Bool)(a:Option Addr)(l c:Nat)(s2:ByteArray)(X:World):Prop :=
 (f2=f/\∃n k p,LvAt s most many n k p/\l=p.length/\l<=c/\Fsh N a/\Lies X a (i64s (lvI p))/\s2=s.extract (k+n) s.size)\/(f2=true/\¬ ∃n k p,LvAt s most many n k p)
theorem LvF.pfr {N:Nat}{s:ByteArray}{most many:Nat}{f f2:Bool}{a:Option Addr}{l c:Nat}{s2:ByteArray}{X w':World}{R:Nat}(h:LvF N s most many f f2 a l c s2 X)(hR:R<N)(hp:PFr R X w'):LvF N s most many f f2 a l c s2 w':=by
 rcases h with ⟨h0,n,k,p,h1,h2,h3,h4,h5,h6⟩|h
 · exact .inl ⟨h0,n,k,p,h1,h2,h3,h4,h5.pfr h4 hR hp,h6⟩
 · exact .inr h
theorem LvF.fset {N:Nat}{s:ByteArray}{most many:Nat}{f f2:Bool}{a:Option Addr}{l c:Nat}{s2:ByteArray}{X:World}{g j:Nat}{v:Value}(h:LvF N s most many f f2 a l c s2 X)(hg:g<N):LvF N s most many f f2 a l c s2 (X.setCell ⟨g,j,none⟩ v):=by
 rcases h with ⟨h0,n,k,p,h1,h2,h3,h4,h5,h6⟩|h
 · exact .inl ⟨h0,n,k,p,h1,h2,h3,h4,h5.fset h4 hg,h6⟩
 · exact .inr h
theorem LvF.of {N R:Nat}{s:ByteArray}{f:Bool}{most many:Nat}{e:Ending}{w':World}(h:LevR N R s f most many e w'):∃a l c s2 f2,e=.returned (.slice a l c)/\s2.size<=s.size/\Rdr 188 w' R s2 f2/\LvF N s most many f f2 a l c s2 w':=by
 rcases h with ⟨n,k,p,a,c,h1,h2,h3,h4,h5,h6⟩|⟨h1,a,l,c,s',h2,h3,h4⟩
 · exact⟨a,p.length,c,_,f,h2,by rw[ByteArray.size_extract];omega,h6,.inl ⟨rfl,n,k,p,h1,rfl,h4,h5,h3,rfl⟩⟩
 · exact⟨a,l,c,s',true,h2,h3,h4,.inr ⟨rfl,h1⟩⟩
def VsF (N:Nat)(s:ByteArray)(kd:Int)(many:Nat)(f f2:Bool)(a:Option Addr)(l c:Nat)(s2:ByteArray)(X:World):Prop :=
 (f2=f/\∃b n k vs,BsAt s kd many b n k vs/\l=many/\l<=c/\Fsh N a/\LiesV X a vs/\s2=(s.extract 1 s.size).extract (k+n) (s.extract 1 s.size).size)\/(f2=true/\¬ ∃b n k vs,BsAt s kd many b n k vs)
theorem VsF.fset {N:Nat}{s:ByteArray}{kd:Int}{many:Nat}{f f2:Bool}{a:Option Addr}{l c:Nat}{s2:ByteArray}{X:World}{g j:Nat}{v:Value}(h:VsF N s kd many f f2 a l c s2 X)(hg:g<N):VsF N s kd many f f2 a l c s2 (X.setCell ⟨g,j,none⟩ v):=by
 rcases h with ⟨h0,b,n,k,p,h1,h2,h3,h4,h5,h6⟩|h
 · exact .inl ⟨h0,b,n,k,p,h1,h2,h3,h4,h5.fset h4 hg,h6⟩
 · exact .inr h
theorem VsF.of {N R:Nat}{s:ByteArray}{f:Bool}{kd:Int}{many:Nat}{e:Ending}{w':World}(h:VlsR N R s f kd many e w'):∃a l c s2 f2,e=.returned (.slice a l c)/\s2.size<=s.size/\Rdr 188 w' R s2 f2/\VsF N s kd many f f2 a l c s2 w':=by
 rcases h with ⟨b,n,k,vs,a,c,h1,h2,h3,h4,h5,h6⟩|⟨h1,a,l,c,s',h2,h3,h4⟩
 · exact⟨a,many,c,_,f,h2,by rw[ByteArray.size_extract,ByteArray.size_extract];omega,h6,.inl ⟨rfl,b,n,k,vs,h1,rfl,h4,h5,h3,rfl⟩⟩
 · exact⟨a,l,c,s',true,h2,h3,h4,.inr ⟨rfl,h1⟩⟩
def RbR (N:Nat)(lid kind:Int)(mr md:Nat)(s:ByteArray)(ev:Value)(e:Ending)(w':World):Prop :=
 (∃(p d:List Nat) (k:Cl),IsBd lid kind mr md s p d k.vs/\k.id=lid/\k.rs=lvI p/\k.ds=lvI d/\e=.returned (.tuple #[.agg #[.int .i64 k.id,.slice k.ra k.rs.length k.rc,.slice k.da k.ds.length k.dc,.slice k.va k.vs.length k.vc],.nilIface])/\k.At w'/\k.Fr N/\k.Cap) ∨
 ((¬ ∃p d vs,IsBd lid kind mr md s p d vs)/\e=.returned (.tuple #[.agg #[.int .i64 0,.slice none 0 0,.slice none 0 0,.slice none 0 0],ev]))
theorem ext_zero {s:ByteArray}(h:s.size=0):s=⟨#[]⟩:=by
 cases s with
 | mk d=>simp[ByteArray.size] at h;subst h;rfl
theorem lvI_len (p:List Nat):(lvI p).length=p.length:=List.length_map ..
theorem lvI_inj {p q:List Nat}(h:i64s (lvI p)=i64s (lvI q)):p=q:=by
 have hl:p.length=q.length:=by
  have:=congrArg List.length h
  rwa [i64s_len,i64s_len,lvI_len,lvI_len] at this
 refine List.ext_getElem hl fun j h1 h2=>?_
 have h3:(i64s (lvI p))[j]? = (i64s (lvI q))[j]?:=by rw[h]
 simp[i64s,lvI,h1,h2] at h3
 exact Int.ofNat.inj h3
theorem lies_inj {w:World}{a:Option Addr}{xs ys:List Value}(h:Lies w a xs)(h':Lies w a ys)(hl:xs.length=ys.length):xs=ys:=by
 refine List.ext_getElem hl fun j h1 h2=>?_
 obtain⟨b,o,e,hc⟩:=h j h1
 obtain⟨b',o',e',hc'⟩:=h' j h2
 rw[e] at e'
 cases e'
 rw[hc] at hc'
 injection hc'
theorem liesV_inj {w:World}{a:Option Addr}{xs ys:List Vl}(h:LiesV w a xs)(h':LiesV w a ys)(hl:xs.length=ys.length):xs=ys:=by
 refine List.ext_getElem hl fun j h1 h2=>?_
 obtain⟨b,o,e,c0,c1,c2⟩:=h j h1
 obtain⟨b',o',e',d0,d1,d2⟩:=h' j h2
 rw[e] at e'
 cases e'
 rw[c0] at d0
 rw[c1] at d1
 rw[c2] at d2
 generalize xs[j]=x at *
 generalize ys[j]=y at *
 obtain⟨x0,x1,x2⟩:=x
 obtain⟨y0,y1,y2⟩:=y
 cases d0
 cases d1
 cases d2
 rfl
theorem readBody_any (lid kind:Int)(mr md:Nat)(pa:Option Addr)(pn pc:Nat)(s:ByteArray)(hs:s.size<=1000000)(hk1:1<=kind)(hk5:kind<=5)(hmr:mr<=40)(hmd:md<=40)(W:World)(st kt bt tt:TypeId)(sp kp bp tp:Value)
    (hgs:W.cell? ⟨0,0,none⟩=some (.iface st sp)) (hgk:W.cell? ⟨3,0,none⟩=some (.iface kt kp)) (hgb:W.cell? ⟨1,0,none⟩=some (.iface bt bp)) (hgt:W.cell? ⟨2,0,none⟩=some (.iface tt tp)) :
    Calls Tryz.prog 84 #[.agg #[.int .i64 lid,.int .i64 kind,.int .i64 (mr:Nat),.int .i64 (md:Nat),.slice pa pn pc],.string s] W fun e w'=>RbR W.heap.size lid kind mr md s (.iface tt tp) e w'/\Below W.heap.size W w':=by
 obtain⟨w0,HW0,HX,HY,HB⟩:=two_boxesP W #[.int .i64 lid,.int .i64 kind,.int .i64 (mr:Nat),.int .i64 (md:Nat),.slice pa pn pc] #[.int .i64 0,.slice none 0 0,.slice none 0 0,.slice none 0 0] 39 27
 have ck:∀{g:Nat} {v:Value},W.cell? ⟨g,0,none⟩=some v->∀X,Below W.heap.size W X->X.cell? ⟨g,0,none⟩=some v:=fun h X hX=>(hX.cell (World.block_lt_of_cell? W _ h)).trans h
 have HGS:Hid (∀X,Below W.heap.size W X->X.cell? ⟨0,0,none⟩=some (.iface st sp)):=ck hgs
 have HGK:Hid (∀X,Below W.heap.size W X->X.cell? ⟨3,0,none⟩=some (.iface kt kp)):=ck hgk
 have HGB:Hid (∀X,Below W.heap.size W X->X.cell? ⟨1,0,none⟩=some (.iface bt bp)):=ck hgb
 have HGT:Hid (∀X,Below W.heap.size W X->X.cell? ⟨2,0,none⟩=some (.iface tt tp)):=ck hgt
 have hgN:2≠W.heap.size+1:=by have:2<W.heap.size:=World.block_lt_of_cell? W _ hgt;omega
 clear ck hgs hgk hgb hgt
 go_enter Tryz.func84,Tryz.ntmps84
 go_upto_region 1 with fail
 rw[HW0.out]
 obtain⟨⟨p0,p1,p2,p3,p4⟩,_⟩:=row_five HX.out
 go_wp2_with fail
 refine Calls.mono (readStats_any lid kind mr md pa pn pc s hs w0 tt tp (HGT.out w0 HB.out)) ?_
 rintro e w1 ⟨hx,hb1⟩
 have HB1:Hid (Below W.heap.size W w1):=HB.out.trans (hb1.mono HB.out.size)
 have HX1:Hid (w1.heap[W.heap.size]? = some (.cells #[.int .i64 lid,.int .i64 kind,.int .i64 (mr:Nat),.int .i64 (md:Nat),.slice pa pn pc] 39 (0,0))):=blk_keep hb1 HX.out
 have HY1:Hid (w1.heap[W.heap.size+1]? = some (.cells #[.int .i64 0,.slice none 0 0,.slice none 0 0,.slice none 0 0] 27 (0,0))):=blk_keep hb1 HY.out
 have hlo:W.heap.size+1<w1.heap.size:=lt_of_block HY1.out
 clear hb1 HX HY HB HW0 p0 p1 p2 p3 p4
 rcases hx with ⟨t,r,hbg,hps,rfl⟩|⟨hno,rfl⟩
 rotate_left
 · have HNo : Hid (¬ ∃ p d vs, IsBd lid kind mr md s p d vs) := fun ⟨p, d, vs, t, n1, k1, n2, k2, b, n3, k3, h⟩ => by
     obtain⟨r,hr⟩:=h.beg
     exact hno ⟨t,r,hr,h.pgs⟩
   clear hno
   obtain⟨w5,HW5,HS5,HB5'⟩:=boxed1 w1 St.zero.cs 51
   have HY5:Hid (w5.heap[W.heap.size+1]? = some (.cells #[.int .i64 0,.slice none 0 0,.slice none 0 0,.slice none 0 0] 27 (0,0))):=blk_keep HB5'.out HY1.out
   have HB5:Hid (Below W.heap.size W w5):=HB1.out.trans (HB5'.out.mono HB1.out.size)
   unfold St.val St.cs St.zero Vl.zero
   unfold St.cs St.zero Vl.zero at HW5
   go_upto_region 2 with fail
   rw[HW5.out]
   obtain⟨k0,k1,k2,k3⟩:=row_four HY5.out
   obtain⟨m0,m1,m2,m3⟩:=row_fourA HY5.out
   go_wp2
   exact bodyPost_ret (v:=.tuple #[.agg #[.int .i64 0,.slice none 0 0,.slice none 0 0,.slice none 0 0],.iface tt tp]) (results_cR Tryz.results84 _ _ (W.heap.size+1) 27 #[.int .i64 0,.slice none 0 0,.slice none 0 0,.slice none 0 0] (0,0) _ _ rfl rfl (row_setCell (row_setCell (row_setCell (row_setCell HY5.out _) _) _) _) Tryz.underlying27 rfl (by kernel_rfl)) rfl ⟨.inr ⟨HNo.out,rfl⟩,(((HB5.out.setCell (by simp) _).setCell (by simp) _).setCell (by simp) _).setCell (by simp) _⟩
 obtain⟨te,tu,th,tn,tx⟩:=t
 obtain⟨e,rfl⟩:=Int.eq_ofNat_of_zero_le hbg.1.e.1
 obtain⟨u,rfl⟩:=Int.eq_ofNat_of_zero_le hbg.1.u.1
 have he:e<=20000:=(by have h:((e:Nat):Int)<=20000:=hbg.1.e.2;omega)
 have hu:u<=e:=(by have h:((u:Nat):Int)<=((e:Nat):Int):=hbg.1.u.2;omega)
 have he0:0<e:=(by have h:(0:Int)<((e:Nat):Int):=hps.1;omega)
 obtain⟨z,HZ⟩:∃z,Hid ((stTx ⟨(e:Int),(u:Int),th,tn,tx⟩).length=z):=⟨_,rfl⟩
 have hzs:z<=s.size:=(by
  have h:=congrArg List.length hbg.2
  rw[List.length_append,HZ.out,Array.length_toList] at h
  show z<=s.data.size
  omega)
 have HBg:Hid (BegS s.data.toList ⟨(e:Int),(u:Int),th,tn,tx⟩ r/\PgS kind ⟨(e:Int),(u:Int),th,tn,tx⟩):=⟨hbg,hps⟩
 clear hbg hps
 rw[HZ.out]
 obtain⟨s1,HS1⟩:∃x,Hid (s.extract z s.size=x):=⟨_,rfl⟩
 have hs1:s1.size<=1000000:=by rw[←HS1.out,ByteArray.size_extract];omega
 obtain⟨wa,HWa,HTa,HRa,HBa⟩:=two_boxesP w1 #[.int .i64 (e:Nat),.int .i64 (u:Nat),.bool th,.int .i64 tn.k,.int .i64 tn.n,.string tn.s,.int .i64 tx.k,.int .i64 tx.n,.string tx.s] #[.string s1,.bool false] 51 188
 obtain⟨w2,HW2,HC2,HB2⟩:=boxed1 wa #[.int .i64 lid,.slice none 0 0,.slice none 0 0,.slice none 0 0] 27
 have HXa:Hid _:=blk_keep HBa.out HX1.out
 have haz:wa.heap.size=w1.heap.size+1+1:=by rw[←HWa.out];simp
 rw[haz] at HC2
 have HBw:Hid (Below W.heap.size W w2):=(HB1.out.trans (HBa.out.mono HB1.out.size)).trans (HB2.out.mono (Nat.le_trans HB1.out.size HBa.out.size))
 have HI2:Hid (RbI W lid kind mr md pa pn pc e u th tn tx w1.heap.size s1 false (.slice none 0 0) (.slice none 0 0) (.slice none 0 0) w2):=⟨blk_keep HB2.out HXa.out,blk_keep HB2.out (blk_keep HBa.out HY1.out),blk_keep HB2.out HTa.out,blk_keep HB2.out HRa.out,HC2.out,hlo,HBw.out⟩
 have hzi:(z:Int)<=(s.size:Int):=by omega
 have hex:s.extract z s.size=s1:=HS1.out
 unfold St.val St.cs
 go_upto_region 5 with fail
 rw[HWa.out]
 obtain⟨⟨p0,p1,p2,p3,p4⟩,_⟩:=row_five HXa.out
 go_upto_region 6 with fail
 rw[HW2.out]
 have hz2:w1.heap.size+1+1<w2.heap.size:=lt_of_block HI2.out.co
 clear p0 p1 p2 p3 p4 HXa HWa HTa HRa HBa HW2 HC2 HB2 haz HBw HX1 HY1 HB1 hex hzi
 generalize w1.heap.size=T at *
 clear w1
 obtain⟨⟨p0,p1,p2,p3,p4⟩,_⟩:=row_five HI2.out.lf
 obtain⟨⟨t0,t1,t2,t3,t4,t5,t6,t7,t8⟩,_⟩:=row_nine HI2.out.st
 go_wp2_with fail
 refine Calls.mono (levels_any (T+1) s1 false mr e w2 HI2.out.rd hs1 hmr he tt tp (HGT.out w2 HI2.out.old)) ?_
 rintro e1 w3 ⟨hx,hfr⟩
 obtain⟨a1,l1,c1,s2,f2,rfl,hz3,hr3,hF⟩:=LvF.of hx
 have HI3:Hid _:=HI2.out.call hfr hr3
 have HF3:Hid (LvF w2.heap.size s1 mr e false f2 a1 l1 c1 s2 w3):=hF
 have hzz3:w2.heap.size<=w3.heap.size:=hfr.size
 clear hx hfr hr3 hF p0 p1 p2 p3 p4 t0 t1 t2 t3 t4 t5 t6 t7 t8 HI2
 obtain⟨k0,k1,k2,k3⟩:=row_four HI3.out.co
 obtain⟨m0,m1,m2,m3⟩:=row_fourA HI3.out.co
 have HI4:Hid _:=HI3.out.putR (.slice a1 l1 c1)
 have HF4:Hid (LvF w2.heap.size s1 mr e false f2 a1 l1 c1 s2 (w3.setCell ⟨T+1+1,1,none⟩ (.slice a1 l1 c1))):=HF3.out.fset (j:=1) (v:=.slice a1 l1 c1) hz2
 have hzz4:w2.heap.size<=(w3.setCell ⟨T+1+1,1,none⟩ (.slice a1 l1 c1)).heap.size:=by simpa using hzz3
 go_upto_region 7 with fail
 generalize w3.setCell ⟨T+1+1,1,none⟩ (.slice a1 l1 c1)=w4 at HI4 HF4 hzz4 ⊢
 clear HI3 HF3 hzz3 k0 k1 k2 k3 m0 m1 m2 m3
 clear w3
 obtain⟨⟨p0,p1,p2,p3,p4⟩,_⟩:=row_five HI4.out.lf
 obtain⟨⟨t0,t1,t2,t3,t4,t5,t6,t7,t8⟩,_⟩:=row_nine HI4.out.st
 go_wp2_with fail
 refine Calls.mono (levels_any (T+1) s2 f2 md e w4 HI4.out.rd (by omega) hmd he tt tp (HGT.out w4 HI4.out.old)) ?_
 rintro e1 w5 ⟨hx,hfr⟩
 obtain⟨a2,l2,c2,s3,f3,rfl,hz5,hr5,hF⟩:=LvF.of hx
 have HI5:Hid _:=HI4.out.call hfr hr5
 have HG5:Hid (LvF w4.heap.size s2 md e f2 f3 a2 l2 c2 s3 w5):=hF
 have HF5:Hid (LvF w2.heap.size s1 mr e false f2 a1 l1 c1 s2 w5):=HF4.out.pfr (by omega) hfr
 have hzz5:w4.heap.size<=w5.heap.size:=hfr.size
 clear hx hfr hr5 hF p0 p1 p2 p3 p4 t0 t1 t2 t3 t4 t5 t6 t7 t8 HI4 HF4
 obtain⟨k0,k1,k2,k3⟩:=row_four HI5.out.co
 obtain⟨m0,m1,m2,m3⟩:=row_fourA HI5.out.co
 have HI6:Hid _:=HI5.out.putD (.slice a2 l2 c2)
 have HF6:Hid (LvF w2.heap.size s1 mr e false f2 a1 l1 c1 s2 (w5.setCell ⟨T+1+1,2,none⟩ (.slice a2 l2 c2))):=HF5.out.fset (j:=2) (v:=.slice a2 l2 c2) hz2
 have HG6:Hid (LvF w4.heap.size s2 md e f2 f3 a2 l2 c2 s3 (w5.setCell ⟨T+1+1,2,none⟩ (.slice a2 l2 c2))):=HG5.out.fset (g:=T+1+1) (j:=2) (v:=.slice a2 l2 c2) (by omega)
 have hzz6:w4.heap.size<=(w5.setCell ⟨T+1+1,2,none⟩ (.slice a2 l2 c2)).heap.size:=by simpa using hzz5
 go_upto_region 8 with fail
 generalize w5.setCell ⟨T+1+1,2,none⟩ (.slice a2 l2 c2)=w6 at HI6 HF6 HG6 hzz6 ⊢
 clear HI5 HF5 HG5 hzz5 k0 k1 k2 k3 m0 m1 m2 m3
 clear w5
 obtain⟨⟨p0,p1,p2,p3,p4⟩,_⟩:=row_five HI6.out.lf
 obtain⟨⟨t0,t1,t2,t3,t4,t5,t6,t7,t8⟩,_⟩:=row_nine HI6.out.st
 have hsb:IntKind.i64.wrap ((e:Int)-(u:Int))=((e-u:Nat):Int):=by rw[IntKind.wrap_i64];omega
 go_wp2_with fail
 refine Calls.mono (pvals_any (T+1) s3 f3 kind (e-u) w6 HI6.out.rd (by omega) hk1 hk5 (by omega) tt kt st tp kp sp (HGT.out w6 HI6.out.old) (HGK.out w6 HI6.out.old) (HGS.out w6 HI6.out.old)) ?_
 rintro e1 w7 ⟨hx,hfr⟩
 obtain⟨a3,l3,c3,s4,f4,rfl,hz7,hr7,hF⟩:=VsF.of hx
 have HI7:Hid (RbI W lid kind mr md pa pn pc e u th tn tx T s4 f4 (.slice a1 l1 c1) (.slice a2 l2 c2) (.slice none 0 0) w7):=HI6.out.call hfr hr7
 have HV7:Hid (VsF w6.heap.size s3 kind (e-u) f3 f4 a3 l3 c3 s4 w7):=hF
 have HF7:Hid (LvF w2.heap.size s1 mr e false f2 a1 l1 c1 s2 w7):=HF6.out.pfr (by omega) hfr
 have HG7:Hid (LvF w4.heap.size s2 md e f2 f3 a2 l2 c2 s3 w7):=HG6.out.pfr (by omega) hfr
 have hzz7:w6.heap.size<=w7.heap.size:=hfr.size
 clear hx hfr hr7 hF p0 p1 p2 p3 p4 t0 t1 t2 t3 t4 t5 t6 t7 t8 HI6 HF6 HG6
 obtain⟨k0,k1,k2,k3⟩:=row_four HI7.out.co
 obtain⟨m0,m1,m2,m3⟩:=row_fourA HI7.out.co
 have HI8:Hid (RbI W lid kind mr md pa pn pc e u th tn tx T s4 f4 (.slice a1 l1 c1) (.slice a2 l2 c2) (.slice a3 l3 c3) (w7.setCell ⟨T+1+1,3,none⟩ (.slice a3 l3 c3))):=HI7.out.putV (.slice a3 l3 c3)
 have HF8:Hid (LvF w2.heap.size s1 mr e false f2 a1 l1 c1 s2 (w7.setCell ⟨T+1+1,3,none⟩ (.slice a3 l3 c3))):=HF7.out.fset (j:=3) (v:=.slice a3 l3 c3) hz2
 have HG8:Hid (LvF w4.heap.size s2 md e f2 f3 a2 l2 c2 s3 (w7.setCell ⟨T+1+1,3,none⟩ (.slice a3 l3 c3))):=HG7.out.fset (g:=T+1+1) (j:=3) (v:=.slice a3 l3 c3) (by omega)
 have HV8:Hid (VsF w6.heap.size s3 kind (e-u) f3 f4 a3 l3 c3 s4 (w7.setCell ⟨T+1+1,3,none⟩ (.slice a3 l3 c3))):=HV7.out.fset (g:=T+1+1) (j:=3) (v:=.slice a3 l3 c3) (by omega)
 have hlos:W.heap.size<=w2.heap.size/\w2.heap.size<=w4.heap.size/\w4.heap.size<=w6.heap.size:=⟨by omega,by omega,by omega⟩
 go_upto_region 9 with fail
 generalize w7.setCell ⟨T+1+1,3,none⟩ (.slice a3 l3 c3)=w8 at HI8 HF8 HG8 HV8 ⊢
 clear HI7 HF7 HG7 HV7 hzz7 k0 k1 k2 k3 m0 m1 m2 m3
 clear w7
 have HFn:Hid (∀p d vs,IsBd lid kind mr md s p d vs->f4=false/\s4.size=0/\l1=p.length/\l2=d.length/\l3=vs.length/\GoodC lid kind mr md ⟨lid,none,0 :: (lvI p).tail,0,none,lvI d,0,none,vs,0⟩/\ofC ⟨lid,none,lvI p,0,none,lvI d,0,none,vs,0⟩=⟨(e:Int),(u:Int),th,tn,tx⟩/\Lies w8 a1 (i64s (lvI p))/\Lies w8 a2 (i64s (lvI d))/\LiesV w8 a3 vs):=(by
  rintro p d vs ⟨t,n1,k1,n2,k2,b,n3,k3,h⟩
  obtain⟨r',hr'⟩:=h.beg
  obtain rfl:=begS_fn HBg.out.1 hr'
  have e1:=h.rep
  have e2:=h.def_
  have e3:=h.val
  have e4:=h.fin
  rw[HZ.out,HS1.out] at e1 e2 e3 e4
  have e1':LvAt s1 mr e n1 k1 p:=e1
  have e2':LvAt (s1.extract (k1+n1) s1.size) md e n2 k2 d:=e2
  rcases HF8.out with ⟨g0,n,k,p',g1,g2,g3,g4,g5,g6⟩|⟨_,h2⟩
  · obtain⟨rfl,rfl,rfl⟩:=e1'.fn g1
    rw[←g6] at e2' e3 e4
    rcases HG8.out with ⟨i0,n,k,p',i1,i2,i3,i4,i5,i6⟩|⟨_,h2⟩
    · obtain⟨rfl,rfl,rfl⟩:=e2'.fn i1
      rw[←i6] at e3 e4
      have e3':BsAt s3 kind (e-u) b n3 k3 vs:=(by
       have:((e:Int)-(u:Int)).toNat=e-u:=by omega
       rw[←this]
       exact e3)
      rcases HV8.out with ⟨j0,b',n,k,vs',j1,j2,j3,j4,j5,j6⟩|⟨_,h2⟩
      · obtain⟨rfl,rfl,rfl,rfl⟩:=e3'.fn j1
        refine⟨by rw[j0,i0,g0],?_,g2,i2,by rw[j2];exact (isBs_len e3'.is).symm,h.good,h.told,g5,i5,j5⟩
        rw[j6,ByteArray.size_extract,e4]
        omega
      · exact absurd ⟨_,_,_,_,e3'⟩ h2
    · exact absurd ⟨_,_,_,e2'⟩ h2
  · exact absurd ⟨_,_,_,e1'⟩ h2)
 obtain⟨⟨r0,r1⟩,r2,r3⟩:=HI8.out.rd.cells
 cases f4 with
 | true =>
  have HNo:Hid (¬ ∃p d vs,IsBd lid kind mr md s p d vs):=fun ⟨p,d,vs,h⟩=>by
   have:=(HFn.out p d vs h).1
   cases this
  obtain⟨k0,k1,k2,k3⟩:=row_four HI8.out.re
  obtain⟨m0,m1,m2,m3⟩:=row_fourA HI8.out.re
  have hgt:=HGT.out w8 HI8.out.old
  clear HFn HF8 HG8 HV8
  go_upto_region 10 with fail
  go_region
  all_goals
   go_wp2
   exact bodyPost_ret (v:=.tuple #[.agg #[.int .i64 0,.slice none 0 0,.slice none 0 0,.slice none 0 0],.iface tt tp]) (results_cR Tryz.results84 _ _ (W.heap.size+1) 27 #[.int .i64 0,.slice none 0 0,.slice none 0 0,.slice none 0 0] (0,0) _ _ rfl rfl (blk_drw (row_setCell (row_setCell (row_setCell (row_setCell HI8.out.re _) _) _) _)) Tryz.underlying27 rfl (by kernel_rfl)) rfl ⟨.inr ⟨HNo.out,rfl⟩,((((HI8.out.old.setCell (by simp) _).setCell (by simp) _).setCell (by simp) _).setCell (by simp) _).drew⟩
 | false =>
  by_cases h4:s4.size=0
  rotate_left
  · have HNo:Hid (¬ ∃p d vs,IsBd lid kind mr md s p d vs):=fun ⟨p,d,vs,h⟩=>h4 (HFn.out p d vs h).2.1
    have hE:s4.toList.isEmpty=false:=by
     cases hh:s4.toList with
     | nil => exact absurd (by have h2 : s4.toList.length = 0 := by rw [hh]; rfl
                               rw[ByteArray.toList_eq,Array.length_toList] at h2;exact h2) h4
     | cons _ _=>rfl
    obtain⟨k0,k1,k2,k3⟩:=row_four HI8.out.re
    obtain⟨m0,m1,m2,m3⟩:=row_fourA HI8.out.re
    have hgt:=HGT.out w8 HI8.out.old
    clear HFn HF8 HG8 HV8 h4
    go_upto_region 10 with fail
    go_region
    all_goals
     go_wp2
     exact bodyPost_ret (v:=.tuple #[.agg #[.int .i64 0,.slice none 0 0,.slice none 0 0,.slice none 0 0],.iface tt tp]) (results_cR Tryz.results84 _ _ (W.heap.size+1) 27 #[.int .i64 0,.slice none 0 0,.slice none 0 0,.slice none 0 0] (0,0) _ _ rfl rfl (blk_drw (row_setCell (row_setCell (row_setCell (row_setCell HI8.out.re _) _) _) _)) Tryz.underlying27 rfl (by kernel_rfl)) rfl ⟨.inr ⟨HNo.out,rfl⟩,((((HI8.out.old.setCell (by simp) _).setCell (by simp) _).setCell (by simp) _).setCell (by simp) _).drew⟩
  obtain rfl:=ext_zero h4
  rcases HF8.out with ⟨g0,n1,k1,p,g1,rfl,g3,g4,g5,g6⟩|⟨h1,h2⟩
  rotate_left
  · subst h1
    exfalso
    rcases HG8.out with ⟨i0,_⟩|⟨i0,_⟩
    · rw[i0] at HV8
      rcases HV8.out with ⟨j0,_⟩|⟨j0,_⟩<;>cases j0
    · rw[i0] at HV8
      rcases HV8.out with ⟨j0,_⟩|⟨j0,_⟩<;>cases j0
  subst g0
  rcases HG8.out with ⟨i0,n2,k2,d,i1,rfl,i3,i4,i5,i6⟩|⟨h1,h2⟩
  rotate_left
  · subst h1
    exfalso
    rcases HV8.out with ⟨j0,_⟩|⟨j0,_⟩<;>cases j0
  subst i0
  rcases HV8.out with ⟨_,b,n3,k3,vs,j1,rfl,j3,j4,j5,j6⟩|⟨h1,_⟩
  rotate_left
  · cases h1
  have hvl:vs.length=e-u:=isBs_len j1.is
  have hpl:p.length=e:=runs_lenP _ _ _ _ _ _ (Nat.le_refl _) g1.rn
  have hdl:d.length=e:=runs_lenP _ _ _ _ _ _ (Nat.le_refl _) i1.rn
  have HIs:Hid (GoodC lid kind mr md ⟨lid,none,0 :: (lvI p).tail,0,none,lvI d,0,none,vs,0⟩/\ofC ⟨lid,none,lvI p,0,none,lvI d,0,none,vs,0⟩=⟨(e:Int),(u:Int),th,tn,tx⟩->IsBd lid kind mr md s p d vs):=(by
   rintro ⟨q1,q2⟩
   refine⟨⟨(e:Int),(u:Int),th,tn,tx⟩,n1,k1,n2,k2,b,n3,k3,⟨⟨_,HBg.out.1⟩,HBg.out.2,?_,?_,?_,?_,q1,q2⟩⟩
   · rw[HZ.out,HS1.out];exact g1
   · rw[HZ.out,HS1.out,←g6];exact i1
   · rw[HZ.out,HS1.out,←g6,←i6]
     have:((e:Int)-(u:Int)).toNat=e-u:=by omega
     show BsAt s3 kind ((e:Int)-(u:Int)).toNat b n3 k3 vs
     rw[this]
     exact j1
   · rw[HZ.out,HS1.out,←g6,←i6]
     have h5:=congrArg ByteArray.size j6
     rw[ByteArray.size_extract] at h5
     have h6:(0:Nat)=min (s3.extract 1 s3.size).size (s3.extract 1 s3.size).size-(k3+n3):=h5
     have h7:=j1.tx.fit
     omega)
  have HFq:Hid (∀p' d' vs',IsBd lid kind mr md s p' d' vs'->(p'=p/\d'=d/\vs'=vs)/\GoodC lid kind mr md ⟨lid,none,0 :: (lvI p').tail,0,none,lvI d',0,none,vs',0⟩/\ofC ⟨lid,none,lvI p',0,none,lvI d',0,none,vs',0⟩=⟨(e:Int),(u:Int),th,tn,tx⟩):=(by
   intro p' d' vs' h
   obtain⟨_,_,q1,q2,q3,q4,q5,q6,q7,q8⟩:=HFn.out p' d' vs' h
   refine⟨⟨?_,?_,?_⟩,q4,q5⟩
   · exact lvI_inj (lies_inj q6 g5 (by rw[i64s_len,i64s_len,lvI_len,lvI_len];exact q1.symm))
   · exact lvI_inj (lies_inj q7 i5 (by rw[i64s_len,i64s_len,lvI_len,lvI_len];exact q2.symm))
   · exact liesV_inj q8 j5 (by rw[hvl];exact q3.symm))
  have HLw:Hid (∀v∈vs,v.Low):=isBs_low j1.is
  have HL1:Hid (Lies w8 a1 (i64s (lvI p))):=g5
  have HL2:Hid (Lies w8 a2 (i64s (lvI d))):=i5
  have HL3:Hid (LiesV w8 a3 vs):=j5
  have HFs:Hid (Fsh w2.heap.size a1/\Fsh w2.heap.size a2/\Fsh w2.heap.size a3):=⟨g4,i4.low (by omega),j4.low (by omega)⟩
  have hlp:(lvI p).length=p.length:=List.length_map ..
  have hld:(lvI d).length=d.length:=List.length_map ..
  have HTo:Hid (Calls Tryz.prog 123 #[.agg #[.int .i64 lid,.int .i64 kind,.int .i64 (mr:Nat),.int .i64 (md:Nat),.slice pa pn pc],.agg #[.int .i64 lid,.slice a1 p.length c1,.slice a2 d.length c2,.slice a3 (e-u) c3],.agg #[.int .i64 (e:Nat),.int .i64 (u:Nat),.bool th,.int .i64 tn.k,.int .i64 tn.n,.string tn.s,.int .i64 tx.k,.int .i64 tx.n,.string tx.s]] w8 fun e' w'=>(∃b,e'=.returned (.bool b)/\(b=true ↔ GoodC lid kind mr md ⟨lid,none,0 :: (lvI p).tail,0,none,lvI d,0,none,vs,0⟩/\ofC ⟨lid,none,lvI p,0,none,lvI d,0,none,vs,0⟩=⟨(e:Int),(u:Int),th,tn,tx⟩))/\Below w8.heap.size w8 w'):=(by
   have h:=isTold_any lid kind mr md pa pn pc ⟨lid,a1,lvI p,c1,a2,lvI d,c2,a3,vs,c3⟩ ⟨(e:Int),(u:Int),th,tn,tx⟩ w8 st kt bt sp kp bp (by show 0<(lvI p).length;omega) (by show (lvI p).length<=_;omega) (by show (lvI d).length<=_;omega) (by show vs.length<=_;omega) (by show (lvI d).length<=c2;omega) (by show vs.length<=c3;omega) (HGS.out w8 HI8.out.old) (HGK.out w8 HI8.out.old) (HGB.out w8 HI8.out.old) ⟨HL1.out,HL2.out,HL3.out⟩ HLw.out
   simp only[hlp,hld,hvl] at h
   exact h)
  have HCp:Hid (p.length<=c1/\d.length<=c2/\e-u<=c3):=⟨g3,i3,j3⟩
  have HVl:Hid (vs.length=e-u/\(lvI p).length=p.length/\(lvI d).length=d.length):=⟨hvl,hlp,hld⟩
  obtain⟨⟨p0,p1,p2,p3,p4⟩,_⟩:=row_five HI8.out.lf
  obtain⟨k0,k1',k2',k3'⟩:=row_four HI8.out.co
  obtain⟨⟨t0,t1,t2,t3,t4,t5,t6,t7,t8⟩,_⟩:=row_nine HI8.out.st
  clear g1 g3 g4 g5 g6 i1 i3 i4 i5 i6 j1 j3 j4 j5 j6 hvl hpl hdl hlp hld HF8 HG8 HV8 HFn h4
  go_wp2_with fail
  refine Calls.mono HTo.out ?_
  rintro e' w9 ⟨⟨bo,rfl,hbo⟩,hb9⟩
  have HI9:Hid (RbI W lid kind mr md pa pn pc e u th tn tx T ⟨#[]⟩ false (.slice a1 p.length c1) (.slice a2 d.length c2) (.slice a3 (e-u) c3) w9):=HI8.out.keep hb9
  have HM1:Hid (Lies w9 a1 (i64s (lvI p))):=HL1.out.keep hb9
  have HM2:Hid (Lies w9 a2 (i64s (lvI d))):=HL2.out.keep hb9
  have HM3:Hid (LiesV w9 a3 vs):=HL3.out.keep hb9
  have HBo:Hid (bo=true ↔ GoodC lid kind mr md ⟨lid,none,0 :: (lvI p).tail,0,none,lvI d,0,none,vs,0⟩/\ofC ⟨lid,none,lvI p,0,none,lvI d,0,none,vs,0⟩=⟨(e:Int),(u:Int),th,tn,tx⟩):=hbo
  clear hbo hb9 HL1 HL2 HL3 HI8 p0 p1 p2 p3 p4 k0 k1' k2' k3' t0 t1 t2 t3 t4 t5 t6 t7 t8 r0 r1 r2 r3 HTo
  obtain⟨k0,k1',k2',k3'⟩:=row_four HI9.out.re
  obtain⟨m0,m1,m2,m3⟩:=row_fourA HI9.out.re
  cases bo with
  | false =>
   have HNo:Hid (¬ ∃p d vs,IsBd lid kind mr md s p d vs):=fun ⟨p',d',vs',h⟩=>by
    have hq:=HFq.out p' d' vs' h
    rw[hq.1.1,hq.1.2.1,hq.1.2.2] at hq
    have:=HBo.out.2 hq.2
    cases this
   have hgt:=HGT.out w9 HI9.out.old
   go_upto_region 10 with fail
   go_region
   all_goals
    go_wp2
    exact bodyPost_ret (v:=.tuple #[.agg #[.int .i64 0,.slice none 0 0,.slice none 0 0,.slice none 0 0],.iface tt tp]) (results_cR Tryz.results84 _ _ (W.heap.size+1) 27 #[.int .i64 0,.slice none 0 0,.slice none 0 0,.slice none 0 0] (0,0) _ _ rfl rfl (blk_drw (row_setCell (row_setCell (row_setCell (row_setCell HI9.out.re _) _) _) _)) Tryz.underlying27 rfl (by kernel_rfl)) rfl ⟨.inr ⟨HNo.out,rfl⟩,((((HI9.out.old.setCell (by simp) _).setCell (by simp) _).setCell (by simp) _).setCell (by simp) _).drew⟩
  | true =>
   have HBd:Hid (IsBd lid kind mr md s p d vs):=HIs.out (HBo.out.1 rfl)
   obtain⟨q0,q1,q2,q3⟩:=row_four HI9.out.co
   have hlt:W.heap.size+1<w2.heap.size:=by omega
   go_wp2
   refine bodyPost_ret (v:=.tuple #[.agg #[.int .i64 lid,.slice a1 p.length c1,.slice a2 d.length c2,.slice a3 (e-u) c3],.nilIface]) (results_cR Tryz.results84 _ _ (W.heap.size+1) 27 #[.int .i64 lid,.slice a1 p.length c1,.slice a2 d.length c2,.slice a3 (e-u) c3] (0,0) _ _ rfl rfl (row_setCell (row_setCell (row_setCell (row_setCell HI9.out.re _) _) _) _) Tryz.underlying27 rfl (by kernel_rfl)) rfl ⟨.inl ⟨p,d,⟨lid,a1,lvI p,c1,a2,lvI d,c2,a3,vs,c3⟩,HBd.out,rfl,rfl,rfl,?_,⟨?_,?_,?_⟩,⟨?_,?_,?_⟩,?_⟩,(((HI9.out.old.setCell (by simp) _).setCell (by simp) _).setCell (by simp) _).setCell (by simp) _⟩
   · show Ending.returned _=Ending.returned (.tuple #[.agg #[.int .i64 lid,.slice a1 (lvI p).length c1,.slice a2 (lvI d).length c2,.slice a3 vs.length c3],.nilIface])
     rw[HVl.out.1,HVl.out.2.1,HVl.out.2.2]
   · exact (((HM1.out.fset HFs.out.1 hlt).fset HFs.out.1 hlt).fset HFs.out.1 hlt).fset HFs.out.1 hlt
   · exact (((HM2.out.fset HFs.out.2.1 hlt).fset HFs.out.2.1 hlt).fset HFs.out.2.1 hlt).fset HFs.out.2.1 hlt
   · exact (((HM3.out.fset HFs.out.2.2 hlt).fset HFs.out.2.2 hlt).fset HFs.out.2.2 hlt).fset HFs.out.2.2 hlt
   · exact HFs.out.1.low (by omega)
   · exact HFs.out.2.1.low (by omega)
   · exact HFs.out.2.2.low (by omega)
   · refine⟨?_,?_,?_⟩
     · show (lvI p).length<=c1
       rw[HVl.out.2.1];exact HCp.out.1
     · show (lvI d).length<=c2
       rw[HVl.out.2.2];exact HCp.out.2.1
     · show vs.length<=c3
       rw[HVl.out.1];exact HCp.out.2.2
abbrev bodyAt (s:ByteArray) (n k:Nat):ByteArray:=s.extract (k+5) (k+5+n)
def PgOk (s:ByteArray)(n k:Nat):Prop:=PgAt s n k/\Crc.rem (bodyAt s n k).data.toList=sumAt s k
theorem PgOk.fn {s:ByteArray}{n k n' k':Nat}(h:PgOk s n k)(h':PgOk s n' k'):n=n'/\k=k':=h.1.fn h'.1
def NoPg (lf:Bool)(s:ByteArray)(sh tx su ev:Value):Prop :=
 (lf=false/\ev=sh)\/(lf=true/\(¬ ∃n k,PgAt s n k)/\ev=tx)\/(lf=true/\(∃n k,PgAt s n k/\Crc.rem (bodyAt s n k).data.toList≠sumAt s k)/\ev=su)
def PrdR (N:Nat)(lid kind mr md:Int)(s:ByteArray)(sh tx su:Value)(e:Ending)(w':World):Prop :=
 (∃ev,NoPg (isLfB kind mr md) s sh tx su ev/\e=.returned (.tuple #[.agg #[.int .i64 0,.slice none 0 0,.slice none 0 0,.slice none 0 0],.int .i64 0,ev])) ∨
 (isLfB kind mr md=true/\∃n k,PgOk s n k ∧
  ((∃(p d:List Nat) (c:Cl),IsBd lid kind mr.toNat md.toNat (bodyAt s n k) p d c.vs/\c.id=lid/\c.rs=lvI p/\c.ds=lvI d/\e=.returned (.tuple #[.agg #[.int .i64 c.id,.slice c.ra c.rs.length c.rc,.slice c.da c.ds.length c.dc,.slice c.va c.vs.length c.vc],.int .i64 ((k+5+n:Nat):Int),.nilIface])/\c.At w'/\c.Fr N/\c.Cap) ∨
   ((¬ ∃p d vs,IsBd lid kind mr.toNat md.toNat (bodyAt s n k) p d vs)/\e=.returned (.tuple #[.agg #[.int .i64 0,.slice none 0 0,.slice none 0 0,.slice none 0 0],.int .i64 0,tx]))))
theorem insR_two {lf:Bool}{s:ByteArray}{sh tx su:Value}{e:Ending}(h:InsR lf s sh tx su e) :
    (∃ev,NoPg lf s sh tx su ev/\e=.returned (.tuple #[.string ⟨#[]⟩,.int .i64 0,ev]))\/(lf=true/\∃n k,PgOk s n k/\e=.returned (.tuple #[.string (bodyAt s n k),.int .i64 ((k+5+n:Nat):Int),.nilIface])):=by
 rcases h with ⟨h1,h2⟩|⟨h1,h2,h3⟩|⟨h1,n,k,h2,h3,h4⟩|⟨h1,n,k,h2,h3,h4⟩
 · exact .inl ⟨sh,.inl ⟨h1,rfl⟩,h2⟩
 · exact .inl ⟨tx,.inr (.inl ⟨h1,h2,rfl⟩),h3⟩
 · exact .inl ⟨su,.inr (.inr ⟨h1,⟨n,k,h2,h3⟩,rfl⟩),h4⟩
 · exact .inr ⟨h1,n,k,⟨h2,h3⟩,h4⟩
theorem noPg_iface {lf:Bool}{s:ByteArray}{st tt ut:TypeId}{sp tp up ev:Value}(h:NoPg lf s (.iface st sp) (.iface tt tp) (.iface ut up) ev):∃t p,ev=.iface t p:=by
 rcases h with ⟨_,h⟩|⟨_,_,h⟩|⟨_,_,h⟩<;>exact⟨_,_,h⟩
theorem isLfB_nat {kind mr md:Int}(h:isLfB kind mr md=true):(1<=kind/\kind<=5)/\∃m d:Nat,mr=m/\md=d/\m<=40/\d<=40:=by
 unfold isLfB btw at h
 simp only[Bool.and_eq_true,decide_eq_true_eq] at h
 exact⟨by omega,mr.toNat,md.toNat,by omega,by omega,by omega,by omega⟩
theorem pgRead_any (lid kind mr md:Int)(pa:Option Addr)(pn pc:Nat)(s:ByteArray)(hsz:s.size<=1000000)(W:World)(st kt bt tt ut:TypeId)(sp kp bp tp up:Value)
    (hs:W.cell? ⟨0,0,none⟩=some (.iface st sp)) (hk:W.cell? ⟨3,0,none⟩=some (.iface kt kp)) (hbd:W.cell? ⟨1,0,none⟩=some (.iface bt bp)) (ht:W.cell? ⟨2,0,none⟩=some (.iface tt tp)) (hu:W.cell? ⟨6,0,none⟩=some (.iface ut up)) :
    Calls Tryz.prog 50 #[.agg #[.int .i64 lid,.int .i64 kind,.int .i64 mr,.int .i64 md,.slice pa pn pc],.string s] W fun e w'=>PrdR W.heap.size lid kind mr md s (.iface st sp) (.iface tt tp) (.iface ut up) e w'/\Below W.heap.size W w':=by
 obtain⟨w0,HW0,HX,HY,HB⟩:=two_boxesP W #[.int .i64 lid,.int .i64 kind,.int .i64 mr,.int .i64 md,.slice pa pn pc] #[.int .i64 0,.slice none 0 0,.slice none 0 0,.slice none 0 0] 39 27
 have ck:∀{g:Nat} {v:Value},W.cell? ⟨g,0,none⟩=some v->∀X,Below W.heap.size W X->X.cell? ⟨g,0,none⟩=some v:=fun h X hX=>(hX.cell (World.block_lt_of_cell? W _ h)).trans h
 have HS:Hid (∀X,Below W.heap.size W X->X.cell? ⟨0,0,none⟩=some (.iface st sp)):=ck hs
 have HK:Hid (∀X,Below W.heap.size W X->X.cell? ⟨3,0,none⟩=some (.iface kt kp)):=ck hk
 have HBd:Hid (∀X,Below W.heap.size W X->X.cell? ⟨1,0,none⟩=some (.iface bt bp)):=ck hbd
 have HT:Hid (∀X,Below W.heap.size W X->X.cell? ⟨2,0,none⟩=some (.iface tt tp)):=ck ht
 have HIn:Hid (Calls Tryz.prog 83 #[.agg #[.int .i64 lid,.int .i64 kind,.int .i64 mr,.int .i64 md,.slice pa pn pc],.string s] w0 fun e w'=>InsR (isLfB kind mr md) s (.iface st sp) (.iface tt tp) (.iface ut up) e/\Below w0.heap.size w0 w'):=pgIns_any lid kind mr md pa pn pc s hsz w0 st kt bt tt ut sp kp bp tp up (ck hs w0 HB.out) (ck hk w0 HB.out) (ck hbd w0 HB.out) (ck ht w0 HB.out) (ck hu w0 HB.out)
 clear ck hs hk hbd ht hu
 obtain⟨⟨p0,p1,p2,p3,p4⟩,_⟩:=row_five HX.out
 go_enter Tryz.func50,Tryz.ntmps50
 go_upto_region 1 with fail
 rw[HW0.out]
 go_wp2_with fail
 refine Calls.mono HIn.out ?_
 rintro e w1 ⟨hx,hb1⟩
 have HB1:Hid (Below W.heap.size W w1):=HB.out.trans (hb1.mono HB.out.size)
 have HX1:Hid (w1.heap[W.heap.size]? = some (.cells #[.int .i64 lid,.int .i64 kind,.int .i64 mr,.int .i64 md,.slice pa pn pc] 39 (0,0))):=blk_keep hb1 HX.out
 have HY1:Hid (w1.heap[W.heap.size+1]? = some (.cells #[.int .i64 0,.slice none 0 0,.slice none 0 0,.slice none 0 0] 27 (0,0))):=blk_keep hb1 HY.out
 clear hb1 HX HY HB HW0 HIn p0 p1 p2 p3 p4
 obtain⟨k0,k1,k2,k3⟩:=row_four HY1.out
 obtain⟨m0,m1,m2,m3⟩:=row_fourA HY1.out
 rcases insR_two hx with ⟨ev,hno,rfl⟩|⟨hlf,n,k,hok,rfl⟩
 · obtain⟨et,ep,rfl⟩:=noPg_iface hno
   have HNo:Hid (PrdR W.heap.size lid kind mr md s (.iface st sp) (.iface tt tp) (.iface ut up) (.returned (.tuple #[.agg #[.int .i64 0,.slice none 0 0,.slice none 0 0,.slice none 0 0],.int .i64 0,.iface et ep])) ((((w1.setCell ⟨W.heap.size+1,0,none⟩ (.int .i64 0)).setCell ⟨W.heap.size+1,1,none⟩ (.slice none 0 0)).setCell ⟨W.heap.size+1,2,none⟩ (.slice none 0 0)).setCell ⟨W.heap.size+1,3,none⟩ (.slice none 0 0))):=.inl ⟨_,hno,rfl⟩
   clear hno hx
   go_wp2
   exact bodyPost_ret (v:=.tuple #[.agg #[.int .i64 0,.slice none 0 0,.slice none 0 0,.slice none 0 0],.int .i64 0,.iface et ep]) (results_ctt Tryz.results50 _ _ (W.heap.size+1) 27 #[.int .i64 0,.slice none 0 0,.slice none 0 0,.slice none 0 0] (0,0) _ _ _ rfl rfl rfl (row_setCell (row_setCell (row_setCell (row_setCell HY1.out _) _) _) _) Tryz.underlying27 rfl (by kernel_rfl)) rfl ⟨HNo.out,(((HB1.out.setCell (by simp) _).setCell (by simp) _).setCell (by simp) _).setCell (by simp) _⟩
 obtain⟨⟨hk1,hk5⟩,m,dd,rfl,rfl,hm,hd⟩:=isLfB_nat hlf
 have HLf:Hid (isLfB kind m dd=true):=hlf
 have HOk:Hid (PgOk s n k):=hok
 obtain⟨u,HU⟩:∃u,Hid (k+5+n=u):=⟨_,rfl⟩
 obtain⟨bd,HBy⟩:∃b,Hid (bodyAt s n k=b):=⟨_,rfl⟩
 have hbs:bd.size<=1000000:=by rw[←HBy.out,ByteArray.size_extract];omega
 rw[HU.out,HBy.out]
 clear hlf hok hx k0 k1 k2 k3 m0 m1 m2 m3
 obtain⟨⟨p0,p1,p2,p3,p4⟩,_⟩:=row_five HX1.out
 go_wp2_with fail
 refine Calls.mono (readBody_any lid kind m dd pa pn pc bd hbs hk1 hk5 hm hd w1 st kt bt tt sp kp bp tp (HS.out w1 HB1.out) (HK.out w1 HB1.out) (HBd.out w1 HB1.out) (HT.out w1 HB1.out)) ?_
 rintro e w2 ⟨hx,hb2⟩
 have hz1:W.heap.size+1<w1.heap.size:=lt_of_block HY1.out
 have HB2:Hid (Below W.heap.size W w2):=HB1.out.trans (hb2.mono HB1.out.size)
 have HY2:Hid (w2.heap[W.heap.size+1]? = some (.cells #[.int .i64 0,.slice none 0 0,.slice none 0 0,.slice none 0 0] 27 (0,0))):=blk_keep hb2 HY1.out
 clear hb2 HX1 HY1 HB1 p0 p1 p2 p3 p4
 obtain⟨k0,k1,k2,k3⟩:=row_four HY2.out
 obtain⟨m0,m1,m2,m3⟩:=row_fourA HY2.out
 rcases hx with ⟨p,d,⟨cid,cra,crs,crc,cda,cds,cdc,cva,cvs,cvc⟩,hbd,h1,h2,h3,rfl,hat,hfr,hcp⟩|⟨hno,rfl⟩
 · have HIs:Hid (IsBd lid kind m dd (bodyAt s n k) p d cvs):=(by show IsBd _ _ _ _ _ _ _ _;rw[HBy.out];exact hbd)
   have HE:Hid (cid=lid/\crs=lvI p/\cds=lvI d):=⟨h1,h2,h3⟩
   have HAt:Hid ((⟨cid,cra,crs,crc,cda,cds,cdc,cva,cvs,cvc⟩:Cl).At w2):=hat
   have HFr:Hid ((⟨cid,cra,crs,crc,cda,cds,cdc,cva,cvs,cvc⟩:Cl).Fr w1.heap.size/\(⟨cid,cra,crs,crc,cda,cds,cdc,cva,cvs,cvc⟩:Cl).Cap):=⟨hfr,hcp⟩
   clear hbd h1 h2 h3 hat hfr hcp
   go_upto_region 5 with fail
   obtain⟨w3,HW3⟩:∃w,Hid ((((w2.setCell ⟨W.heap.size+1,0,none⟩ (.int .i64 cid)).setCell ⟨W.heap.size+1,1,none⟩ (.slice cra crs.length crc)).setCell ⟨W.heap.size+1,2,none⟩ (.slice cda cds.length cdc)).setCell ⟨W.heap.size+1,3,none⟩ (.slice cva cvs.length cvc)=w):=⟨_,rfl⟩
   have HY3:Hid (w3.heap[W.heap.size+1]? = some (.cells #[.int .i64 cid,.slice cra crs.length crc,.slice cda cds.length cdc,.slice cva cvs.length cvc] 27 (0,0))):=(by show _=_;rw[←HW3.out];exact row_setCell (row_setCell (row_setCell (row_setCell HY2.out _) _) _) _)
   have HB3:Hid (Below W.heap.size W w3):=(by show Below _ _ _;rw[←HW3.out];exact (((HB2.out.setCell (by simp) _).setCell (by simp) _).setCell (by simp) _).setCell (by simp) _)
   have HA3:Hid ((⟨cid,cra,crs,crc,cda,cds,cdc,cva,cvs,cvc⟩:Cl).At w3):=(by show Cl.At _ _;rw[←HW3.out];exact (((HAt.out.off HFr.out.1 hz1).off HFr.out.1 hz1).off HFr.out.1 hz1).off HFr.out.1 hz1)
   rw[HW3.out]
   clear HW3 HAt HY2 HB2 k0 k1 k2 k3 m0 m1 m2 m3
   obtain⟨k0,k1,k2,k3⟩:=row_four HY3.out
   obtain⟨m0,m1,m2,m3⟩:=row_fourA HY3.out
   go_wp2
   refine bodyPost_ret (v:=.tuple #[.agg #[.int .i64 cid,.slice cra crs.length crc,.slice cda cds.length cdc,.slice cva cvs.length cvc],.int .i64 ((u:Nat):Int),.nilIface]) (results_ctt Tryz.results50 _ _ (W.heap.size+1) 27 #[.int .i64 cid,.slice cra crs.length crc,.slice cda cds.length cdc,.slice cva cvs.length cvc] (0,0) _ _ _ rfl rfl rfl (row_setCell (row_setCell (row_setCell (row_setCell HY3.out _) _) _) _) Tryz.underlying27 rfl (by kernel_rfl)) rfl ⟨.inr ⟨HLf.out,n,k,HOk.out,.inl ⟨p,d,⟨cid,cra,crs,crc,cda,cds,cdc,cva,cvs,cvc⟩,HIs.out,HE.out.1,HE.out.2.1,HE.out.2.2,by rw[HU.out],?_,?_,HFr.out.2⟩⟩,(((HB3.out.setCell (by simp) _).setCell (by simp) _).setCell (by simp) _).setCell (by simp) _⟩
   · exact (((HA3.out.off HFr.out.1 hz1).off HFr.out.1 hz1).off HFr.out.1 hz1).off HFr.out.1 hz1
   · exact⟨fun p e=>Nat.le_trans (by omega) (HFr.out.1.r p e),fun p e=>Nat.le_trans (by omega) (HFr.out.1.d p e),fun p e=>Nat.le_trans (by omega) (HFr.out.1.v p e)⟩
 · have HNo:Hid (¬ ∃p d vs,IsBd lid kind m dd (bodyAt s n k) p d vs):=(by show ¬ _;rw[HBy.out];exact hno)
   clear hno
   go_wp2
   exact bodyPost_ret (v:=.tuple #[.agg #[.int .i64 0,.slice none 0 0,.slice none 0 0,.slice none 0 0],.int .i64 0,.iface tt tp]) (results_ctt Tryz.results50 _ _ (W.heap.size+1) 27 #[.int .i64 0,.slice none 0 0,.slice none 0 0,.slice none 0 0] (0,0) _ _ _ rfl rfl rfl (row_setCell (row_setCell (row_setCell (row_setCell (row_setCell (row_setCell (row_setCell (row_setCell HY2.out _) _) _) _) _) _) _) _) Tryz.underlying27 rfl (by kernel_rfl)) rfl ⟨.inr ⟨HLf.out,n,k,HOk.out,.inr ⟨HNo.out,rfl⟩⟩,(((((((HB2.out.setCell (by simp) _).setCell (by simp) _).setCell (by simp) _).setCell (by simp) _).setCell (by simp) _).setCell (by simp) _).setCell (by simp) _).setCell (by simp) _⟩
theorem bst_cases (b:Int × ByteArray)(nc:Int)(t:ByteArray):bst b nc t=(nc,t)\/bst b nc t=b:=by
 unfold bst
 by_cases h:t.size<b.2.size
 · left;simp only[if_pos h]
 · right;simp only[if_neg h]
theorem take_app {α:Type}(a b:List α):(a++b).take a.length=a:=by simp
theorem drop_app {α:Type}(a b:List α):(a++b).drop a.length=b:=by simp
theorem ba_list (l:List UInt8):(⟨l.toArray⟩:ByteArray).data.toList=l:=by simp
theorem ba_size (l:List UInt8):(⟨l.toArray⟩:ByteArray).size=l.length:=by simp[ByteArray.size]
theorem ba_eq {s:ByteArray}{l:List UInt8}(h:s.data.toList=l):s=⟨l.toArray⟩:=by subst h;exact (ba_mk s).symm
theorem ltAt_txt {s:ByteArray}{x r:List UInt8}(h:s.data.toList=Um.txt x++r)(hx:x.length<18446744073709551616):LtAt s x.length (Um.uv x.length).length/\(s.extract (Um.uv x.length).length ((Um.uv x.length).length+x.length)).data.toList=x/\(s.extract ((Um.uv x.length).length+x.length) s.size).data.toList=r:=by
 unfold Um.txt at h
 have hl:s.size=(Um.uv x.length).length+x.length+r.length:=by
  have:=congrArg List.length h
  rw[Array.length_toList,List.length_append,List.length_append] at this
  exact this
 refine⟨⟨Um.uv_pos _,?_,by omega⟩,?_,?_⟩
 · rw[h,List.append_assoc,Um.rdv_whole _ _ hx]
 · rw[ext_take,h,List.append_assoc,drop_app,take_app]
 · rw[drop_ext,h,←List.length_append,drop_app]
theorem isBs_best {kd:Int}{vs us:List Vl}{ps:List Nat}(hu:Uq vs us ps)(hR:Right kd vs)(hn:vs.length<=20000):HasC kd (bestP kd vs us ps).1/\IsBs kd (bestP kd vs us ps).1 (bestP kd vs us ps).2.data.toList vs.length vs:=by
 have hpl:IsPl kd (plainB kd vs) vs.length vs:=⟨rfl,hR,rfl⟩
 have hun:=right_sub hR hu.sub
 have hul:=hu.len
 have hdc:IsDc kd (dictB kd us ps) vs.length vs:=by
  have hpb:=plainB_len hun
  have h1:Um.uv us.length++Um.txt (plainB kd us)++Um.wrs (Um.pw us.length) [] (pints ps)=Um.uv us.length++(Um.uv (plainB kd us).length++(plainB kd us++Um.wrs (Um.pw us.length) [] (pints ps))):=by
   unfold Um.txt
   simp only[List.append_assoc]
  have hd:(dictB kd us ps).drop ((Um.uv us.length).length+(Um.uv (plainB kd us).length).length)=plainB kd us++Um.wrs (Um.pw us.length) [] (pints ps):=by
   unfold dictB
   rw[h1,←List.drop_drop,drop_app,drop_app]
  refine⟨us,(Um.uv us.length).length+(Um.uv (plainB kd us).length).length+(plainB kd us).length,ps,⟨us.length,(Um.uv us.length).length,(plainB kd us).length,(Um.uv (plainB kd us).length).length,?_,Um.uv_pos _,hul.2,?_,Um.uv_pos _,?_,?_,rfl⟩,?_,hu⟩
  · unfold dictB
    rw[h1]
    exact Um.rdv_whole _ _ (by omega)
  · unfold dictB
    rw[h1,drop_app]
    exact Um.rdv_whole _ _ (by omega)
  · unfold dictB
    rw[h1]
    simp only[List.length_append]
    omega
  · rw[hd,take_app]
    exact⟨rfl,hun,rfl⟩
  · rw[←List.drop_drop,hd,drop_app]
    have hr:=Um.wrs_read (Um.pw us.length) (pints ps).length [] (pints ps) [] (Nat.le_refl _) (.inr rfl) (by simp[nats]) (fun x hx=>by
     unfold nats pints at hx
     rw[List.map_map] at hx
     obtain⟨p,hp,rfl⟩:=List.mem_map.1 hx
     exact Um.lt_pw (hu.lt p hp) (by omega)) (by rw[pints_len,hul.1];simp;omega)
    rw[List.append_nil,pints_len,hul.1] at hr
    have hn2:nats ([]++pints ps)=ps:=by
     unfold nats pints
     rw[List.nil_append,List.map_map]
     exact (List.map_congr_left fun x _=>by simp).trans (List.map_id ps)
    rw[hn2] at hr
    simpa using hr
 have hb0:∀(l:List UInt8),(⟨l.toArray⟩:ByteArray).data.toList=l:=ba_list
 have step:∀(b:Int × ByteArray) (nc:Int) (t:ByteArray),(HasC kd b.1/\IsBs kd b.1 b.2.data.toList vs.length vs)->(HasC kd nc/\IsBs kd nc t.data.toList vs.length vs)->HasC kd (bst b nc t).1/\IsBs kd (bst b nc t).1 (bst b nc t).2.data.toList vs.length vs:=fun b nc t h1 h2=>by
  rcases bst_cases b nc t with e|e<;>rw[e]
  · exact h2
  · exact h1
 have h0:HasC kd 0/\IsBs kd 0 (⟨(plainB kd vs).toArray⟩:ByteArray).data.toList vs.length vs:=⟨.inl rfl,by unfold IsBs;rw[if_pos rfl,hb0];exact hpl⟩
 have h1:HasC kd 1/\IsBs kd 1 (⟨(dictB kd us ps).toArray⟩:ByteArray).data.toList vs.length vs:=⟨.inr (.inl rfl),by unfold IsBs;rw[if_neg (by decide),if_pos rfl,hb0];exact hdc⟩
 unfold bestP
 split
 · rename_i hk
   exact step _ _ _ (step _ _ _ h0 h1) ⟨.inr (.inr (.inl ⟨rfl,hk⟩)),by unfold IsBs;rw[if_neg (by decide),if_neg (by decide),if_pos rfl,hb0];exact isDl_delta hk hR⟩
 split
 · rename_i hk
   subst hk
   refine step _ _ _ (step _ _ _ h0 h1) ⟨.inr (.inr (.inr ⟨rfl,rfl⟩)),?_⟩
   unfold IsBs
   rw[if_neg (by decide),if_neg (by decide),if_neg (by decide),hb0]
   refine⟨bys (vtx vs),?_,(pvs_back hR).symm⟩
   have h:=Um.rdp_back (bys (vtx vs)) [] (by simp) (fun t ht=>by
    obtain⟨b,hb,rfl⟩:=List.mem_map.1 ht
    obtain⟨v,hv,rfl⟩:=List.mem_map.1 hb
    rw[Array.length_toList]
    exact ok_bytes rfl (hR.2 v hv).1)
   rw[bys_len,vtx_len] at h
   exact h
 · exact step _ _ _ h0 h1
theorem nats_lvI {xs:List Int}(h:∀x∈xs,0<=x):lvI (nats xs)=xs:=by
 unfold lvI nats
 rw[List.map_map]
 refine (List.map_congr_left fun x hx=>?_).trans (List.map_id xs)
 have:=h x hx
 show ((x.toNat:Nat):Int)=x
 omega
theorem lvAt_wrs {s:ByteArray}{xs:List Int}{r:List UInt8}{most:Nat}(hm:most<=40)(h:s.data.toList=Um.txt (Um.wrs (Lib.bitLen most) [] xs)++r)(hx:∀x∈xs,0<=x/\x<=most)(hl:xs.length<=1000) :
    LvAt s most xs.length (Um.wrs (Lib.bitLen most) [] xs).length (Um.uv (Um.wrs (Lib.bitLen most) [] xs).length).length (nats xs)/\(s.extract ((Um.uv (Um.wrs (Lib.bitLen most) [] xs).length).length+(Um.wrs (Lib.bitLen most) [] xs).length) s.size).data.toList=r:=by
 have hw:Lib.bitLen most<=32:=Lib.bitLen_le _ 32 (by omega) (Nat.lt_of_le_of_lt hm (by decide))
 have hwl:=Um.wrs_len (Lib.bitLen most) hw xs hl
 obtain⟨h1,h2,h3⟩:=ltAt_txt h (by omega)
 refine⟨⟨h1,?_,fun x hxx=>?_⟩,h3⟩
 · rw[h2]
   have hr:=Um.wrs_read (Lib.bitLen most) xs.length [] xs [] (Nat.le_refl _) (.inr rfl) (by simp[nats]) (fun x hxx=>by
    unfold nats at hxx
    obtain⟨y,hy,rfl⟩:=List.mem_map.1 hxx
    have hb:=hx y hy
    exact Nat.lt_of_le_of_lt (by omega:y.toNat<=most) (Um.lt_bitLen 15 most (Nat.lt_of_le_of_lt hm (by decide)) (by omega))) (by simp;omega)
   rw[List.append_nil,List.nil_append] at hr
   simpa using hr
 · unfold nats at hxx
   obtain⟨y,hy,rfl⟩:=List.mem_map.1 hxx
   have hb:=hx y hy
   omega
theorem stOk_of {lid kind mr md:Int}{c:Cl}(hg:GoodC lid kind mr md c)(hin:∀v∈c.vs,v.In)(hn:c.rs.length<=20000):StOk (ofC c)/\((ofC c).h=true->(ofC c).mn.k=kind):=by
 obtain⟨hm1,hm2,hpg⟩:=goodC_pg hg hin
 have hl:=hpg.len
 have hv:=hpg.vl
 have heu:=ofK_eu c c.vs.length (Nat.le_refl _)
 rw[ofK_all] at heu
 have hRv:∀y∈c.vs,Rv kind y:=fun y hy=>⟨okV_iff.2 (hpg.rt.2 y hy).1,(hin y hy).2.1.1⟩
 by_cases h0:c.vs.length=0
 · have he:=ofC_none c h0
   refine⟨⟨by rw[heu.1];omega,by rw[heu.1,heu.2];omega,?_,fun h=>?_,fun h=>?_,fun _=>?_⟩,fun h=>?_⟩
   · rw[heu.1,heu.2,he]
     show false=decide _
     rw[h0]
     simp
   · rw[he] at h;cases h
   · rw[he] at h;cases h
   · rw[he];exact⟨rfl,rfl⟩
   · rw[he] at h;cases h
 · obtain⟨hh,hE⟩:=ofC_ends c hRv (by omega)
   refine⟨⟨by rw[heu.1];omega,by rw[heu.1,heu.2];omega,?_,ofC_fit hpg.rt,fun _=>hE.xb _ hE.mi,fun h=>?_⟩,fun _=>?_⟩
   · rw[heu.1,heu.2,hh]
     symm
     rw[decide_eq_true_eq]
     omega
   · rw[hh] at h;cases h
   · exact (hpg.rt.2 _ hE.mi).1.1
theorem bdAt_of {lid kind mr md:Int}{c:Cl}{us:List Vl}{ps:List Nat}(hu:Uq c.vs us ps)(hg:GoodC lid kind mr md c)(hin:∀v∈c.vs,v.In)(hr:c.rs≠[])(hbk:c.rs.length+c.ds.length+c.vs.length<=2000) :
    IsBd lid kind mr.toNat md.toNat ⟨(bodyW kind mr md c us ps).toArray⟩ (nats c.rs) (nats c.ds) c.vs/\lvI (nats c.rs)=c.rs/\lvI (nats c.ds)=c.ds/\c.id=lid:=by
 obtain⟨hm1,hm2,hpg⟩:=goodC_pg hg hin
 have hl:=hpg.len
 have hv:=hpg.vl
 have heu:=ofK_eu c c.vs.length (Nat.le_refl _)
 rw[ofK_all] at heu
 obtain⟨hok,hkd⟩:=stOk_of hg hin (by omega)
 have hf:=hg.1
 rw[Bool.and_eq_true,fitB_iff] at hf
 obtain⟨_,hid,_,hhd,hrb,hdb,hvc⟩:=hf
 have btw_iff:∀{x m:Int},btw 0 x m=true->0<=x/\x<=m:=fun h=>by
  unfold btw at h
  simpa using h
 have hr0:∀x∈c.rs,0<=x/\x<=(mr.toNat:Int):=fun x hx=>by have:=btw_iff (hrb x hx);omega
 have hd0:∀x∈c.ds,0<=x/\x<=(md.toNat:Int):=fun x hx=>by have:=btw_iff (hdb x hx);omega
 have hel:(ofC c).e.toNat=c.rs.length:=by rw[heu.1];omega
 have hul:((ofC c).e-(ofC c).u).toNat=c.vs.length:=by rw[heu.1,heu.2];omega
 have e1:lvI (nats c.rs)=c.rs:=nats_lvI fun x hx=>(hr0 x hx).1
 have e2:lvI (nats c.ds)=c.ds:=nats_lvI fun x hx=>(hd0 x hx).1
 obtain⟨hc,hbs⟩:=isBs_best hu hpg.rt (by omega)
 have hcode:=bestP_code kind c.vs us ps
 obtain⟨cd,hcd⟩:∃n:Nat,(bestP kind c.vs us ps).1=n:=⟨(bestP kind c.vs us ps).1.toNat,by omega⟩
 have hbt:(Um.bt (bestP kind c.vs us ps).1).toNat=cd:=by rw[hcd];exact Um.bt_nat (by omega)
 have hbl:=bestP_len (us:=us) (ps:=ps) hpg.rt
 have hblt:(bestP kind c.vs us ps).2.data.toList.length=(bestP kind c.vs us ps).2.size:=by rw[Array.length_toList];rfl
 have hb:bodyW kind mr md c us ps=stTx (ofC c)++(Um.txt (Um.wrs (Lib.bitLen mr.toNat) [] c.rs)++(Um.txt (Um.wrs (Lib.bitLen md.toNat) [] c.ds)++([Um.bt (bestP kind c.vs us ps).1]++Um.txt (bestP kind c.vs us ps).2.data.toList))):=by
  unfold bodyW bdB
  simp only[List.append_assoc]
 obtain⟨s,hs⟩:∃s:ByteArray,s=⟨(bodyW kind mr md c us ps).toArray⟩:=⟨_,rfl⟩
 have hsl:s.data.toList=bodyW kind mr md c us ps:=by rw[hs]
 rw[←hs]
 have h1:(s.extract (stTx (ofC c)).length s.size).data.toList=Um.txt (Um.wrs (Lib.bitLen mr.toNat) [] c.rs)++(Um.txt (Um.wrs (Lib.bitLen md.toNat) [] c.ds)++([Um.bt (bestP kind c.vs us ps).1]++Um.txt (bestP kind c.vs us ps).2.data.toList)):=by
  rw[drop_ext,hsl,hb,drop_app]
 obtain⟨l1,h2⟩:=lvAt_wrs hpg.m1 h1 hr0 (by omega)
 obtain⟨l2,h3⟩:=lvAt_wrs hpg.m2 h2 hd0 (by omega)
 refine⟨⟨ofC c,(Um.wrs (Lib.bitLen mr.toNat) [] c.rs).length,(Um.uv (Um.wrs (Lib.bitLen mr.toNat) [] c.rs).length).length,(Um.wrs (Lib.bitLen md.toNat) [] c.ds).length,(Um.uv (Um.wrs (Lib.bitLen md.toNat) [] c.ds).length).length,Um.bt (bestP kind c.vs us ps).1,(bestP kind c.vs us ps).2.data.toList.length,(Um.uv (bestP kind c.vs us ps).2.data.toList.length).length,⟨⟨_,hok,hsl.trans hb⟩,⟨?_,hkd⟩,?_,?_,?_,?_,?_,?_⟩⟩,e1,e2,hid⟩
 · rw[heu.1]
   have:=List.length_pos_iff.2 hr
   omega
 · rw[hel];exact l1
 · rw[hel,hl];exact l2
 · rw[hul]
   generalize ((s.extract (stTx (ofC c)).length s.size).extract _ _).extract _ _=s3 at h3 ⊢
   have h4:(s3.extract 1 s3.size).data.toList=Um.txt (bestP kind c.vs us ps).2.data.toList++[]:=by
    rw[drop_ext,h3,List.append_nil]
    rfl
   obtain⟨t1,t2,t3⟩:=ltAt_txt h4 (by omega)
   refine⟨⟨_,h3⟩,t1,?_,?_⟩
   · rw[hbt,←hcd];exact hc
   · rw[hbt,←hcd,t2];exact hbs
 · generalize ((s.extract (stTx (ofC c)).length s.size).extract _ _).extract _ _=s3 at h3 ⊢
   have h4:(s3.extract 1 s3.size).data.toList=Um.txt (bestP kind c.vs us ps).2.data.toList:=by
    rw[drop_ext,h3]
    rfl
   have h5:=congrArg List.length h4
   unfold Um.txt at h5
   rw[Array.length_toList,List.length_append] at h5
   exact h5
 · have h6 : (0 : Int) :: (lvI (nats c.rs)).tail = c.rs := by
     rw[e1]
     revert hr hhd
     cases c.rs with
     | nil=>intro h;exact absurd rfl h
     | cons x xs =>
      intro _ h
      have:x=0:=by simpa [headB] using h
      rw[this]
      rfl
   rw[h6,e2]
   have hg2:=hg
   unfold GoodC at hg2 ⊢
   rw[hid] at hg2
   have em:((mr.toNat:Nat):Int)=mr:=by omega
   have ed:((md.toNat:Nat):Int)=md:=by omega
   rw[em,ed]
   exact hg2
 · rw[e1,e2]
   rfl
theorem pgOk_of {b r:List UInt8}(hb:b.length<18446744073709551616):PgOk ⟨(pgB b++r).toArray⟩ b.length (Um.uv b.length).length/\bodyAt ⟨(pgB b++r).toArray⟩ b.length (Um.uv b.length).length=⟨b.toArray⟩:=by
 have hL:=pgB_len b
 have hp:pgB b++r=80 :: (Um.uv b.length++(Um.lit (Crc.rem b) 4++(b++r))):=by
  unfold pgB
  simp only[List.append_assoc,List.cons_append,List.nil_append]
 have hbody:bodyAt ⟨(pgB b++r).toArray⟩ b.length (Um.uv b.length).length=⟨b.toArray⟩:=by
  apply ba_eq
  rw[ext_take,ba_list,hp,show (Um.uv b.length).length+5=1+((Um.uv b.length).length+4) by omega,←List.drop_drop,List.drop_one,List.tail_cons,←List.drop_drop,drop_app]
  have h4:(Um.lit (Crc.rem b) 4++(b++r)).drop 4=b++r:=by
   have:=drop_app (Um.lit (Crc.rem b) 4) (b++r)
   rwa [Um.lit_len] at this
  rw[h4,take_app]
 refine⟨⟨⟨⟨_,by rw[ba_list];exact hp⟩,Um.uv_pos _,?_,?_⟩,?_⟩,hbody⟩
 · rw[ba_list,hp,List.drop_one,List.tail_cons]
   exact Um.rdv_whole _ _ hb
 · rw[ba_size,List.length_append]
   omega
 · rw[hbody,ba_list]
   unfold sumAt
   rw[drop_ext,ba_list,hp,←List.drop_drop,List.drop_one,List.tail_cons,drop_app]
   have h4:(Um.lit (Crc.rem b) 4++(b++r)).take 4=Um.lit (Crc.rem b) 4:=by
    have:=take_app (Um.lit (Crc.rem b) 4) (b++r)
    rwa [Um.lit_len] at this
   rw[h4,lev_lit4 (Crc.rem_lt b)]
def pgT (U:List Vl->List Vl × List Nat)(kind mr md:Int)(c:Cl):List UInt8:=pgB (bodyW kind mr md c (U c.vs).1 (U c.vs).2)
def chT (U:List Vl->List Vl × List Nat)(kind mr md:Int)(cs:List Cl):List UInt8:=cs.flatMap (pgT U kind mr md)
theorem chT_cons (U:List Vl->List Vl × List Nat)(kind mr md:Int)(c:Cl)(cs:List Cl):chT U kind mr md (c :: cs)=pgT U kind mr md c++chT U kind mr md cs:=by simp[chT]
theorem uq_pick:∃U:List Vl->List Vl × List Nat,∀vs,Uq vs (U vs).1 (U vs).2:=by
 have h:∀vs:List Vl,∃u:List Vl × List Nat,Uq vs u.1 u.2:=fun vs=>by
  obtain⟨us,ps,h⟩:=Uq.ex vs.length vs rfl
  exact⟨⟨us,ps⟩,h⟩
 exact⟨fun vs=>Classical.choose (h vs),fun vs=>Classical.choose_spec (h vs)⟩
theorem pgT_len {U:List Vl->List Vl × List Nat}{lid kind mr md:Int}{c:Cl}(hg:GoodC lid kind mr md c)(hin:∀v∈c.vs,v.In)(hbk:c.rs.length+c.ds.length+c.vs.length<=2000):(pgT U kind mr md c).length<=470+120*c.rs.length+110*c.vs.length:=by
 have hb:=bodyW_len (us:=(U c.vs).1) (ps:=(U c.vs).2) hg hin hbk
 obtain⟨hm1,hm2,hp⟩:=goodC_pg hg hin
 have hl:=hp.len
 have heu:=ofK_eu c c.vs.length (Nat.le_refl _)
 rw[ofK_all] at heu
 have hw1:Lib.bitLen mr.toNat<=32:=Lib.bitLen_le _ 32 (by omega) (Nat.lt_of_le_of_lt hp.m1 (by decide))
 have hw2:Lib.bitLen md.toNat<=32:=Lib.bitLen_le _ 32 (by omega) (Nat.lt_of_le_of_lt hp.m2 (by decide))
 have hl1:=Um.wr_len (Lib.bitLen mr.toNat) hw1 c.rs.length [] c.rs (by simp;omega)
 have hl2:=Um.wr_len (Lib.bitLen md.toNat) hw2 c.ds.length [] c.ds (by simp;omega)
 have hl1:(Um.wrs (Lib.bitLen mr.toNat) [] c.rs).length<=60+60*c.rs.length:=by unfold Um.wrs;simpa using hl1
 have hl2:(Um.wrs (Lib.bitLen md.toNat) [] c.ds).length<=60+60*c.ds.length:=by unfold Um.wrs;simpa using hl2
 have hl3:=bestP_len (us:=(U c.vs).1) (ps:=(U c.vs).2) hp.rt
 have hl4:=stTx_len (ofC c) (ofC_fit hp.rt) (by rw[heu.1];omega) (by rw[heu.2];omega)
 have h5:(bestP kind c.vs (U c.vs).1 (U c.vs).2).2.data.toList.length=(bestP kind c.vs (U c.vs).1 (U c.vs).2).2.size:=by rw[Array.length_toList];rfl
 have h1:=Um.txt_len (Um.wrs (Lib.bitLen mr.toNat) [] c.rs) (by omega)
 have h2:=Um.txt_len (Um.wrs (Lib.bitLen md.toNat) [] c.ds) (by omega)
 have h3:=Um.txt_len (bestP kind c.vs (U c.vs).1 (U c.vs).2).2.data.toList (by omega)
 have h6:=Um.uv_ten (n:=(bodyW kind mr md c (U c.vs).1 (U c.vs).2).length) (by omega)
 unfold pgT
 rw[pgB_len]
 unfold bodyW at h6 ⊢
 unfold bdB at h6 ⊢
 simp only[List.length_append,List.length_cons,List.length_nil] at h6 ⊢
 omega
theorem jR_cons (c:Cl)(cs:List Cl):jR (c :: cs)=c.rs++jR cs:=by simp[jR]
theorem jD_cons (c:Cl)(cs:List Cl):jD (c :: cs)=c.ds++jD cs:=by simp[jD]
theorem jV_cons (c:Cl)(cs:List Cl):jV (c :: cs)=c.vs++jV cs:=by simp[jV]
theorem chT_len {U:List Vl->List Vl × List Nat}{lid kind mr md:Int}:∀(cs:List Cl),(∀p∈cs,GoodC lid kind mr md p/\p.rs≠[]/\∀v∈p.vs,v.In)->(jR cs).length+(jD cs).length+(jV cs).length<=2000->(chT U kind mr md cs).length<=590*(jR cs).length+110*(jV cs).length
 | [],_,_=>by simp[chT]
 | c :: cs,h,hn=>by
  rw[jR_cons,jD_cons,jV_cons] at hn
  simp only[List.length_append] at hn
  obtain⟨hg,hr,hin⟩:=h c List.mem_cons_self
  have h1:=pgT_len (U:=U) hg hin (by omega)
  have ih:=chT_len (U:=U) cs (fun p hp=>h p (List.mem_cons_of_mem _ hp)) (by omega)
  have hp:=List.length_pos_iff.2 hr
  rw[chT_cons,jR_cons,jV_cons]
  simp only[List.length_append]
  omega
theorem pgs_mem {most:Nat}{md:Int}:∀(f:Nat) (c:Cl) (p:Cl),p∈pgs f most md c->∀v∈p.vs,v∈c.vs
 | 0,c,p,hp,v,hv=>by simp[pgs] at hp
 | f+1,c,p,hp,v,hv=>by
  unfold pgs at hp
  split at hp
  · cases hp
  · rcases List.mem_cons.1 hp with rfl|hp
    · exact List.mem_of_mem_take hv
    · have:=pgs_mem f _ p hp v hv
      exact List.mem_of_mem_drop this
end Go.Proofs.YtoeiahdjamkdgaaGreatDoor
