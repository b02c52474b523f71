/-
  Values as keys of a map: what a key reads as; what a map of places holds.
  Values by unlike ones and their places: the mathematics, without the program.
  enc.byFirst: the unlike values, in the order in which they come first, and the place of each value among them.
  The reference's UnlikeOf: the unlike values, in the order in which they come, and of each value its place.
-/
import Derived.Maps.Own
import Derived.Maps.OwnOps
import Derived.Maps.OwnSet
import Derived.Maps.Views
import Derived.DeepKeys4
import Derived.Test.YtoeiahdjamkdgaaGreatDoorWBWordsMath
import Derived.Lib.BitFns
import Derived.Deep.QuietTactic
import Derived.BigQuiet
set_option maxRecDepth 100000
set_option maxHeartbeats 3200000
namespace Go.Proofs.YtoeiahdjamkdgaaGreatDoor
open Go.RowKit Go.Maps Go.WideMaps
theorem Tryz.rowV:(46:TypeId)<Tryz.prog.types.size:=of_decide_eq_true (by kernel_rfl)
theorem Tryz.wideV:(match Tryz.prog.underlying 46 with|some (.array _ _)|some (.struct _)=>true|_=>false)=true:=by rw[Tryz.underlying46]
theorem Tryz.lawV:Keyed Tryz.prog 46:=Keyed.of_law (deep_law_laid Tryz.laidV (m:=2) (by omega) Tryz.rowV (by kernel_rfl) Tryz.wideV)
theorem Tryz.zeroI (w:World):(zeroValue 3).run Tryz.prog w=.ok (.int .i64 0) w:=by kernel_rfl
theorem Tryz.keyTypeV:Tryz.prog.keyType 46=true:=by kernel_rfl
def klit (v:Vl):Lit:=.string (keyBytes [.int .i64 v.k,.int .i64 v.n,.string v.s.data.toList])
theorem Tryz.sizeV:∃m,Tryz.prog.types.size=m+1:=⟨Tryz.prog.types.size-1,by have h:(46:Nat)<Tryz.prog.types.size:=Tryz.rowV;omega⟩
theorem klit_key (v:Vl)(hv:v.In):keyOf Tryz.prog 46 (.agg #[.int .i64 v.k,.int .i64 v.n,.string v.s])=some (klit v):=by
 obtain⟨m,hm⟩:=Tryz.sizeV
 have w1:(Lit.int .i64 v.k).wf=true:=WalkArith.wf_i64 hv.1
 have w2:(Lit.int .i64 v.n).wf=true:=WalkArith.wf_i64 hv.2.1
 have w3:=hv.2.2
 unfold keyOf
 rw[Tryz.underlying46,Tryz.keyTypeV]
 have hf:(Value.agg #[.int .i64 v.k,.int .i64 v.n,.string v.s]).formed Tryz.prog 46=true:=by simp[Value.formed,Tryz.underlying46,Tryz.cellsV]
 rw[hf]
 simp only[Bool.and_self,if_true]
 have hl:Tryz.prog.keyLits (Tryz.prog.types.size+1) 46 (Value.agg #[.int .i64 v.k,.int .i64 v.n,.string v.s]).cells.toList=some [.int .i64 v.k,.int .i64 v.n,.string v.s.data.toList]:=by
  rw[hm]
  unfold Program.keyLits
  rw[Tryz.underlying46]
  simp[Tryz.cellsV,Tryz.cellsI,Tryz.cellsI64,Tryz.cellsS,Value.cells,Program.keyLits,Tryz.underlying3,Tryz.underlying2,Tryz.underlying9,w1,w2,w3]
 rw[hl]
 rfl
theorem klit_inj {v u:Vl}(hv:v.In)(hu:u.In)(h:klit v=klit u):v=u:=by
 have h2:=klit_key u hu
 rw[←h] at h2
 have e:=Tryz.lawV.inj (klit_key v hv) h2
 cases v;cases u
 simp at e
 simp[e]
theorem klit_isKey (v:Vl)(_hv:v.In):WideAt.IsKeyLit (klit v):=by unfold klit;trivial
structure MInv (D:DataW Unit) (us:List Vl):Prop where
 isM:IsMap D
 old:∀p (h:p<us.length),D.atKey (klit us[p]) (.lit (.int .i64 0))=.lit (.int .i64 p)/\has D (klit us[p])=true
 new:∀v,v.In->v ∉ us->has D (klit v)=false
 ins:∀u∈us,u.In
theorem MInv.start:MInv (.map []) []:=⟨isMap_empty,fun p h=>absurd h (by simp),fun v _ _=>rfl,fun u h=>absurd h (by simp)⟩
theorem MInv.put {D:DataW Unit}{us:List Vl}(h:MInv D us)(v:Vl)(hv:v.In)(hn:v ∉ us):MInv (D.put (klit v) (.lit (.int .i64 us.length))) (us++[v]):=by
 refine⟨h.isM.put _ _,fun p hp=>?_,fun u hu hun=>?_,fun u hu=>?_⟩
 · by_cases e:p<us.length
   · have hne:klit us[p]≠klit v:=fun he=>hn (by rw[←klit_inj (h.ins _ (List.getElem_mem e)) hv he];exact List.getElem_mem e)
     rw[List.getElem_append_left e,atKey_put_other hne,has_put_other hne]
     exact h.old p e
   · obtain rfl:p=us.length:=by simp at hp;omega
     rw[List.getElem_concat_length rfl]
     exact⟨atKey_put_same h.isM (klit_isKey v hv) _ _,has_put_same h.isM (klit_isKey v hv) _⟩
 · have hne:klit u≠klit v:=fun he=>hun (by rw[klit_inj hu hv he];simp)
   rw[has_put_other hne]
   exact h.new u hu (fun hm=>hun (by simp[hm]))
 · rcases List.mem_append.1 hu with h1|h1
   · exact h.ins u h1
   · rw[List.mem_singleton.1 h1];exact hv
inductive Uq:List Vl->List Vl->List Nat->Prop where
 | nil:Uq [] [] []
 | old {vs us:List Vl} {ps:List Nat} {v:Vl} {p:Nat}:Uq vs us ps->us[p]? = some v->Uq (vs++[v]) us (ps++[p])
 | new {vs us:List Vl} {ps:List Nat} {v:Vl}:Uq vs us ps->v ∉ us->Uq (vs++[v]) (us++[v]) (ps++[us.length])
theorem Uq.nodup {vs us:List Vl}{ps:List Nat}(h:Uq vs us ps):us.Nodup:=by
 induction h with
 | nil=>simp
 | old _ _ ih=>exact ih
 | new _ hn ih=>exact List.nodup_append.2 ⟨ih,by simp,fun a ha b hb=>by simp at hb;subst hb;exact fun e=>hn (e ▸ ha)⟩
theorem Uq.len {vs us:List Vl}{ps:List Nat}(h:Uq vs us ps):ps.length=vs.length/\us.length<=vs.length:=by
 induction h with
 | nil=>simp
 | old _ _ ih=>simp;omega
 | new _ _ ih=>simp;omega
theorem Uq.lt {vs us:List Vl}{ps:List Nat}(h:Uq vs us ps):∀p∈ps,p<us.length:=by
 induction h with
 | nil=>simp
 | old _ hp ih =>
  intro p hm
  rcases List.mem_append.1 hm with h|h
  · exact ih p h
  · rw[List.mem_singleton.1 h];exact (List.getElem?_eq_some_iff.1 hp).1
 | new _ _ ih =>
  intro p hm
  rw[List.length_append]
  rcases List.mem_append.1 hm with h|h
  · have:=ih p h;omega
  · rw[List.mem_singleton.1 h];simp
theorem Uq.sub {vs us:List Vl}{ps:List Nat}(h:Uq vs us ps):∀u∈us,u∈vs:=by
 induction h with
 | nil=>simp
 | old _ _ ih=>intro u hu;simp[ih u hu]
 | new _ _ ih =>
  intro u hu
  rcases List.mem_append.1 hu with h|h
  · simp[ih u h]
  · simp[List.mem_singleton.1 h]
theorem Uq.fn {vs us:List Vl}{ps:List Nat}(h:Uq vs us ps):∀us' ps',Uq vs us' ps'->us=us'/\ps=ps':=by
 induction h with
 | nil =>
  intro us' ps' h'
  generalize hx:([]:List Vl)=xs at h'
  cases h' with
  | nil=>exact⟨rfl,rfl⟩
  | old _ _=>simp at hx
  | new _ _=>simp at hx
 | @old vs us ps v p h0 hp ih =>
  intro us' ps' h'
  generalize hx:vs++[v]=xs at h'
  cases h' with
  | nil=>simp at hx
  | @old vs' us' ps' v' p' h1 hp' =>
   obtain⟨rfl,hv⟩:=List.append_inj' hx rfl
   obtain rfl:v=v':=by simpa using hv
   obtain⟨rfl,rfl⟩:=ih _ _ h1
   have hn:=h0.nodup
   have e:p=p':=by
    obtain⟨h1,h2⟩:=List.getElem?_eq_some_iff.1 hp
    obtain⟨h3,h4⟩:=List.getElem?_eq_some_iff.1 hp'
    exact (List.getElem_inj (h₀:=h1) (h₁:=h3) hn).1 (h2.trans h4.symm)
   rw[e]
   exact⟨rfl,rfl⟩
  | @new vs' us' ps' v' h1 hn' =>
   obtain⟨rfl,hv⟩:=List.append_inj' hx rfl
   obtain rfl:v=v':=by simpa using hv
   obtain⟨rfl,rfl⟩:=ih _ _ h1
   exact absurd (List.mem_of_getElem? hp) hn'
 | @new vs us ps v h0 hn ih =>
  intro us' ps' h'
  generalize hx:vs++[v]=xs at h'
  cases h' with
  | nil=>simp at hx
  | @old vs' us' ps' v' p' h1 hp' =>
   obtain⟨rfl,hv⟩:=List.append_inj' hx rfl
   obtain rfl:v=v':=by simpa using hv
   obtain⟨rfl,rfl⟩:=ih _ _ h1
   exact absurd (List.mem_of_getElem? hp') hn
  | @new vs' us' ps' v' h1 hn' =>
   obtain⟨rfl,hv⟩:=List.append_inj' hx rfl
   obtain rfl:v=v':=by simpa using hv
   obtain⟨rfl,rfl⟩:=ih _ _ h1
   exact⟨rfl,rfl⟩
end Go.Proofs.YtoeiahdjamkdgaaGreatDoor
namespace Go.Proofs.YtoeiahdjamkdgaaGreatDoor
open Go.RowKit
namespace Um
def pw (n:Nat):Nat:=Lib.bitLen (n-1)
theorem lt_bitLen:∀(f x:Nat),x<2 ^ f->f<=64->x<2 ^ Lib.bitLen x
 | 0, x, h, _ => by have : x = 0 := by simpa using h
                    subst this;decide
 | f+1,x,h,hf=>by
  by_cases h0:x=0
  · subst h0;decide
  · have hx:x<2 ^ 64:=Nat.lt_of_lt_of_le h (Nat.pow_le_pow_right (by omega) hf)
    have ih:=lt_bitLen f (x / 2) (by rw[Nat.pow_succ] at h;omega) (by omega)
    rw[Lib.bitLen_half x h0 hx,Nat.add_comm,Nat.pow_succ]
    omega
theorem lt_pw {p n:Nat}(h:p<n)(hn:n<=20000):p<2 ^ pw n :=
 Nat.lt_of_le_of_lt (show p<=n-1 by omega) (lt_bitLen 15 (n-1) (Nat.lt_of_lt_of_le (show n-1<20000 by omega) (by decide)) (by omega))
theorem pw_le {n:Nat}(hn:n<=20000):pw n<=32:=Lib.bitLen_le _ 32 (by omega) (Nat.lt_of_lt_of_le (show n-1<20001 by omega) (by decide))
theorem flush_len (w:Nat)(p:List Int)(hw:w<=32)(hp:p.length<=100000):(flush w p).length<=38+4*p.length:=by
 unfold flush
 split
 · simp
 · have h1:=uv_ten (n:=2*((p.length+7) / 8)+1) (by omega)
   have h2:(p.length+7) / 8*w<=(p.length+7) / 8*32:=Nat.mul_le_mul_left _ hw
   rw[List.length_append,lit_len]
   omega
theorem wr_len (w:Nat)(hw:w<=32):∀(f:Nat) (p r:List Int),p.length+r.length<=100000->(wr w f p r).length<=60+4*p.length+60*r.length:=by
 intro f
 induction f with
 | zero=>intro p r h;simp only[wr];have:=flush_len w p hw (by omega);omega
 | succ f ih =>
  intro p r h
  simp only[wr]
  split
  · have:=flush_len w p hw (by omega);omega
  · rename_i h0
    have hl:=lead_le r
    split
    · have:=ih (p++r.take 8) (r.drop 8) (by simp;omega)
      simp only[List.length_append,List.length_take,List.length_drop] at this
      omega
    · rename_i h8
      have h1:=flush_len w p hw (by omega)
      have h2:=ih [] (r.drop (lead r)) (by simp;omega)
      have h3:=uv_ten (n:=2*lead r) (by omega)
      have h4:(w+7) / 8<=4:=by omega
      simp only[List.length_append,lit_len,List.length_drop,List.length_nil] at *
      omega
theorem wrs_len (w:Nat)(hw:w<=32)(xs:List Int)(h:xs.length<=1000):(wrs w [] xs).length<=80000:=by
 have:=wr_len w hw xs.length [] xs (by simp;omega)
 unfold wrs
 simp at this
 omega
end Um
def pints (ps:List Nat):List Int:=ps.map fun p:Nat=>(p:Int)
theorem pints_len (ps:List Nat):(pints ps).length=ps.length:=by simp[pints]
def dictB (kd:Int)(us:List Vl)(ps:List Nat):List UInt8:=Um.uv us.length++Um.txt (plainB kd us)++Um.wrs (Um.pw us.length) [] (pints ps)
theorem right_sub {kd:Int}{vs us:List Vl}(h:Right kd vs)(hs:∀u∈us,u∈vs):Right kd us:=⟨h.1,fun u hu=>h.2 u (hs u hu)⟩
theorem plainB_len {kd:Int}{vs:List Vl}(h:Right kd vs):(plainB kd vs).length<=110*vs.length+8:=by
 unfold plainB
 split
 · unfold packed
   rw[Um.lit_len,vns_len];omega
 · split
   · rename_i h4
     have:=Um.txts_len (vss vs) fun s hm=>by
      obtain⟨v,hv,rfl⟩:=List.mem_map.1 hm
      have ho:=(h.2 v hv).1
      unfold Vl.Ok OkV at ho
      rw[Array.length_toList]
      show v.s.size<=100
      omega
     rw[vss_len] at this
     omega
   · rw[Um.nums_len,vns_len]
     split<;>omega
theorem pints_room {vs us:List Vl}{ps:List Nat}(h:Uq vs us ps)(hn:vs.length<=20000):∀j (hj:j<(pints ps).length),Room (Um.pw us.length) (pints ps)[j]:=fun j hj=>by
 have hl:=h.len
 rw[pints_len] at hj
 have h1:=h.lt ps[j] (List.getElem_mem hj)
 have h2:=Um.lt_pw h1 (by omega)
 unfold Room
 simp only[pints,List.getElem_map]
 have e:((2 ^ Um.pw us.length:Nat):Int)=(2:Int) ^ Um.pw us.length:=by simp
 rw[←e]
 omega
end Go.Proofs.YtoeiahdjamkdgaaGreatDoor
namespace Go.Proofs.YtoeiahdjamkdgaaGreatDoor
open Go.RowKit Go.Maps
structure BF (n:Nat) (w:World) (b:Value) (wr:World) (i:Nat) (us:List Vl) (ps:List Nat):Prop where
 map:∃D:DataW Unit,wr.ownsMap Tryz.prog 46 (plainElem Tryz.prog 3) w.heap.size i D/\MInv D us
 row:wr.ownsRow (w.heap.size+2) 46 3 b us.length (vcells us)
 done:∀j (h:j<ps.length),wr.cell? ⟨w.heap.size+1,j,none⟩=some (.int .i64 ps[j])
 any:∀j,j<n->∃v,wr.cell? ⟨w.heap.size+1,j,none⟩=some v
 froz:∀j,j<n->wr.frozen? ⟨w.heap.size+1,j,none⟩=false
 old:Below w.heap.size w wr
 sz:w.heap.size+2<=wr.heap.size
theorem BF.keep {n:Nat}{w:World}{b:Value}{wr w':World}{i:Nat}{us:List Vl}{ps:List Nat}(h:BF n w b wr i us ps)(hb:Below wr.heap.size wr w'):BF n w b w' i us ps:=by
 obtain⟨D,hD,hI⟩:=h.map
 have hg:w.heap.size+1<wr.heap.size:=h.sz
 have hl:=hD.lt
 refine⟨⟨D,?_,hI⟩,ow_kept h.row hb,fun j hj=>(hb.cell hg).trans (h.done j hj),fun j hj=>(h.any j hj).imp fun _ hv=>(hb.cell hg).trans hv,fun j hj=>(hb.frozen hg).trans (h.froz j hj),h.old.trans (hb.mono h.old.size),Nat.le_trans h.sz hb.size⟩
 obtain⟨es,cl,e1,e2⟩:=hD
 exact⟨es,cl,(hb.block _ hl).trans e1,e2⟩
theorem ownRow_other {w w':World}{base e size n g:Nat}{v:Value}{xs:List Value}(h:w.ownsRow base e size v n xs)(hg:w.grownBy w' (some g))(hlt:g<base):w'.ownsRow base e size v n xs:=by
 refine⟨h.1,?_⟩
 rcases h.2 with hn|⟨k,cap,cur,rfl,hbk,hk,rest⟩
 · exact .inl hn
 · exact .inr ⟨k,cap,cur,rfl,hbk,(hg.block k (Array.getElem?_eq_some_iff.1 hk).1 (fun e=>by injection e with e;omega)).trans hk,rest⟩
theorem BF.store {n:Nat}{w:World}{b:Value}{wr w':World}{i:Nat}{us:List Vl}{ps:List Nat}{D:DataW Unit}{v:Vl}(h:BF n w b wr i us ps)(hI:MInv D us)(hv:v.In)(hnew:v ∉ us)
    (hm:w'.ownsMap Tryz.prog 46 (plainElem Tryz.prog 3) w.heap.size (i+1) (D.put (klit v) (.lit (.int .i64 us.length)))) (hg:wr.grownBy w' (some w.heap.size)) :
    (∃D:DataW Unit,w'.ownsMap Tryz.prog 46 (plainElem Tryz.prog 3) w.heap.size (i+1) D/\MInv D (us++[v]))/\w'.ownsRow (w.heap.size+2) 46 3 b us.length (vcells us) ∧
    (∀j (h:j<ps.length),w'.cell? ⟨w.heap.size+1,j,none⟩=some (.int .i64 ps[j]))/\(∀j,j<n->∃v,w'.cell? ⟨w.heap.size+1,j,none⟩=some v)/\(∀j,j<n->w'.frozen? ⟨w.heap.size+1,j,none⟩=false)/\Below w.heap.size w w'/\w.heap.size+2<=w'.heap.size:=by
 have hk:=hg.block (w.heap.size+1) h.sz (fun e=>by injection e with e;omega)
 refine⟨⟨_,hm,hI.put v hv hnew⟩,ownRow_other h.row hg (by omega),fun j hj=>(World.cell?_of_block hk).trans (h.done j hj),fun j hj=>(h.any j hj).imp fun _ hv=>(World.cell?_of_block hk).trans hv,fun j hj=>(World.frozen?_of_block hk).trans (h.froz j hj),h.old.grown hg h.old.size (fun k hk=>by injection hk with hk;omega),Nat.le_trans h.sz hg.size⟩
theorem vcells_snoc (us:List Vl)(v:Vl):vcells (us++[v])=vcells us++[.int .i64 v.k,.int .i64 v.n,.string v.s]:=by simp[vcells]
theorem BF.put {n:Nat}{w:World}{b:Value}{wr:World}{i:Nat}{us:List Vl}{ps:List Nat}(h:BF n w b wr i us ps)(p:Nat)(hn:ps.length<n):BF n w b (wr.setCell ⟨w.heap.size+1,ps.length,none⟩ (.int .i64 p)) i us (ps++[p]):=by
 obtain⟨D,hD,hI⟩:=h.map
 obtain⟨v,hv⟩:=h.any ps.length hn
 have hother:∀j,j≠ps.length->(wr.setCell ⟨w.heap.size+1,ps.length,none⟩ (.int .i64 p)).cell? ⟨w.heap.size+1,j,none⟩=wr.cell? ⟨w.heap.size+1,j,none⟩:=fun j hj =>
  World.cell?_setCell_other _ _ _ _ (fun e=>hj (by injection e with _ e;exact e.symm))
 refine⟨⟨D,hD.setCell (by simp) _,hI⟩,?_,fun j hj=>?_,fun j hj=>?_,fun j hj=>by simpa using h.froz j hj,h.old.setCell (Nat.le_succ _) _,by simpa using h.sz⟩
 · refine⟨h.row.1,?_⟩
   rcases h.row.2 with hn|⟨k,cap,cur,rfl,hbk,hk,rest⟩
   · exact .inl hn
   · exact .inr ⟨k,cap,cur,rfl,hbk,(Below.heap_setCell _ _ _ _ (by simp;omega)).trans hk,rest⟩
 · by_cases e:j=ps.length
   · subst e
     rw[World.cell?_setCell_same _ _ _ hv,List.getElem_concat_length rfl]
   · rw[List.length_append] at hj
     simp at hj
     rw[hother j e,List.getElem_append_left (by omega)]
     exact h.done j (by omega)
 · by_cases e:j=ps.length
   · subst e;exact⟨_,World.cell?_setCell_same _ _ _ hv⟩
   · rw[hother j e];exact h.any j hj
theorem BF.push {n:Nat}{w:World}{b v':Value}{w1 w2:World}{o:Obj}{i:Nat}{us:List Vl}{ps:List Nat}{v:Vl}
    (h:(∃D:DataW Unit,w1.ownsMap Tryz.prog 46 (plainElem Tryz.prog 3) w.heap.size (i+1) D/\MInv D (us++[v]))/\w1.ownsRow (w.heap.size+2) 46 3 b us.length (vcells us) ∧
    (∀j (h:j<ps.length),w1.cell? ⟨w.heap.size+1,j,none⟩=some (.int .i64 ps[j]))/\(∀j,j<n->∃v,w1.cell? ⟨w.heap.size+1,j,none⟩=some v)/\(∀j,j<n->w1.frozen? ⟨w.heap.size+1,j,none⟩=false)/\Below w.heap.size w w1/\w.heap.size+2<=w1.heap.size)
    (hown:w2.ownsRow (w.heap.size+2) 46 3 v' (us.length+1) (vcells us++[.int .i64 v.k,.int .i64 v.n,.string v.s])) (hg:(w1.alloc o).grownBy w2 b.ownBlock):BF n w v' w2 (i+1) (us++[v]) ps:=by
 obtain⟨⟨D,hD,hI⟩,hrow,hdone,hany,hfz,hold,hsz⟩:=h
 have hb:Below (w.heap.size+2) w1 w2:=((Below.refl (w.heap.size+2) w1).alloc hsz o).grown hg (by simp;omega) (fun k hk=>(hrow.lt k hk).1)
 have h1:w.heap.size+1<w.heap.size+2:=by omega
 have h0:w.heap.size<w.heap.size+2:=by omega
 refine⟨⟨D,?_,hI⟩,?_,fun j hj=>(hb.cell h1).trans (hdone j hj),fun j hj=>(hany j hj).imp fun _ hv=>(hb.cell h1).trans hv,fun j hj=>(hb.frozen h1).trans (hfz j hj),hold.trans (hb.mono (by omega)),Nat.le_trans hsz hb.size⟩
 · obtain⟨es,cl,e1,e2⟩:=hD
   exact⟨es,cl,(hb.block _ h0).trans e1,e2⟩
 · rw[vcells_snoc,List.length_append];exact hown
theorem three_cells {w:World}{x y z:Value}{T:TypeId}:∀j u,[x,y,z][j]? = some u->(w.alloc (.cells #[x,y,z] T)).cell? ((⟨w.heap.size,0,none⟩:Addr).add j)=some u:=fun j u h=>by
 rw[addr_up,Nat.zero_add]
 refine cell_alloc_at ?_ rfl
 simpa using h
theorem BF.mono {n:Nat}{w:World}{b:Value}{wr:World}{i j:Nat}{us:List Vl}{ps:List Nat}(h:BF n w b wr i us ps)(hij:i<=j):BF n w b wr j us ps:=by
 obtain⟨D,hD,hI⟩:=h.map
 exact⟨⟨D,hD.mono hij,hI⟩,h.row,h.done,h.any,h.froz,h.old,h.sz⟩
def RetBF (vs:List Vl)(e:Ending)(w':World):Prop :=
 ∃us ps a c a' c',Uq vs us ps/\e=.returned (.tuple #[.slice a us.length c,.slice a' ps.length c'])/\ps.length<=c'/\LiesV w' a us/\∀j (h:j<ps.length),∃b o,a'=some ⟨b,o,none⟩/\w'.cell? ⟨b,o+j,none⟩=some (.int .i64 ps[j])
theorem byFirst_any (a:Option Addr)(vs:List Vl)(c:Nat)(w:World)(hn:vs.length<=20000)(hl:LiesV w a vs)(hx:∀v∈vs,v.In) :
    Calls Tryz.prog 139 #[.slice a vs.length c] w fun e w'=>RetBF vs e w'/\Below w.heap.size w w':=by
 obtain⟨i0,hi,hz0,hz1,hz2⟩:=info_parts Tryz.info3
 obtain⟨iv,hvi,hv0,hv1,hv2⟩:=info_parts Tryz.infoV
 obtain⟨M,hM⟩:∃M,M=madeCells (Value.int .i64 0).cells (((vs.length:Nat):Int).toNat*i0.size):=⟨_,rfl⟩
 have hMs:M.size=vs.length:=by rw[hM,size_madeCells,hz1];simp
 have hmk:∀W:World,(Instr.makeSlice 22 (.int .i64 (vs.length:Int)) (.int .i64 (vs.length:Int))).run Tryz.prog W=.ok (.slice (some ⟨W.heap.size,0,none⟩) vs.length vs.length) (W.alloc (.cells M 3)):=fun W=>by
  have h:=run_make (P:=Tryz.prog) W 22 3 i0 (.int .i64 0) Tryz.underlying22 hi hz0 .i64 .i64 (vs.length:Int) (vs.length:Int) (by omega) (by omega) (by rw[hz2];omega) (by omega)
  rw[←hM] at h
  simpa using h
 have hmm:=@run_makeMap Tryz.prog
 have HL:Hid (LiesV w a vs):=hl
 have HX:Hid (∀v∈vs,v.In):=hx
 have HS:Hid (BF vs.length w (.slice none 0 0) ((w.alloc (.map #[] 0)).alloc (.cells M 3)) 0 [] []):=by
  have e:w.heap.size+1=(w.alloc (.map #[] 0)).heap.size:=by simp
  refine⟨⟨.map [],(World.ownsMap_made w _ _ _).alloc _,MInv.start⟩,World.ownsRow_nil _ _ _ _,fun j hj=>absurd hj (by simp),fun j hj=>?_,fun j hj=>?_,((Below.refl _ _).alloc (Nat.le_refl _) _).alloc (by simp) _,by simp⟩
  · rw[e,cell_of_row _ _ j M 3 (0,0) (heap_alloc_new _ _)]
    exact⟨_,Array.getElem?_eq_getElem (by omega)⟩
  · rw[e];exact frozen_of_row _ _ j M 3 (heap_alloc_new _ _)
 clear hl hx hM hMs
 go_enter Tryz.func139,Tryz.ntmps139
 go_wp2
 clear hmk hmm
 go_loopw [2,15] (fun b x wr=>∃(i:Nat) (us:List Vl) (ps:List Nat),i<=vs.length/\x=.int .i64 i/\Hid (Uq (vs.take i) us ps)/\Hid (BF vs.length w b wr i us ps)) (fun _ x _=>vs.length-(intOf x).toNat)
 case atStart=>exact⟨0,[],[],Nat.zero_le _,rfl,Uq.nil,HS⟩
 case round =>
  clear HS
  obtain⟨i,us,ps,hik,rfl,HU,HB⟩:=hrel
  have hlen:=HU.out.len
  rw[List.length_take,Nat.min_eq_left hik] at hlen
  obtain⟨hpl,hul⟩:=hlen
  by_cases hlt:i<vs.length
  · obtain⟨b,o,rfl,hc0,hc1,hc2⟩:=(HL.out.keep HB.out.old) i hlt
    have hvin:=HX.out _ (List.getElem_mem hlt)
    have HT:Hid (vs.take (i+1)=vs.take i++[vs[i]]):=List.take_succ_eq_append_getElem hlt
    generalize hv:vs[i]=v at hc0 hc1 hc2 hvin HT
    clear hv
    have hkey:=klit_key v hvin
    have HVI:Hid v.In:=hvin
    clear hvin
    have HB1:Hid (BF vs.length w _ (wr.alloc (.cells #[.int .i64 v.k,.int .i64 v.n,.string v.s] 46)) i us ps):=HB.out.keep ((Below.refl _ _).alloc (Nat.le_refl _) _)
    obtain⟨D,hD,hI⟩:=HB1.out.map
    have HI:Hid (MInv D us):=hI
    clear hI
    by_cases hm:v∈us
    · obtain⟨p,hp,hpe⟩:=List.getElem_of_mem hm
      have hhas:has D (klit v)=true:=by rw[←hpe];exact (HI.out.old p hp).2
      have HAt:Hid (D.atKey (klit v) (.lit (.int .i64 0))=.lit (.int .i64 p)):=by show _=_;rw[←hpe];exact (HI.out.old p hp).1
      have HP:Hid (us[p]? = some v):=by show _=_;rw[←hpe];exact List.getElem?_eq_getElem hp
      obtain⟨y,hy⟩:=HB1.out.any i hlt
      have hfz:=HB1.out.froz i hlt
      go_wp2_with (at_lookup;refine wpList_lookup_own_ok_int _ rfl _ _ 214 rfl 46 3 .i64 Tryz.lawV Tryz.underlying214 Tryz.underlying3 (Tryz.zeroI _) w.heap.size i D rfl hD _ _ rfl hkey ?_;intro cc hat hwc;rw[hhas];obtain rfl:cc=p:=by (have:=HAt.out.symm.trans hat;injection this with this;injection this with _ this;exact this.symm))
      go_roundw
      case rel =>
       refine⟨i+1,us,ps++[p],by omega,by go_num,?_,?_⟩
       · show Uq _ _ _
         rw[HT.out]
         exact Uq.old HU.out HP.out
       · have h:=HB1.out.put p (by omega)
         rw[hpl] at h
         exact h.mono (Nat.le_succ _)
      case measure=>simp[intOf];omega
    · have hhas:has D (klit v)=false:=HI.out.new v HVI.out hm
      have HNM:Hid (v ∉ us):=hm
      clear hm
      obtain⟨a2,c2,rfl,_⟩:=liesV_own HB1.out.row
      have hbx:(wr.alloc (.cells #[.int .i64 v.k,.int .i64 v.n,.string v.s] 46)).heap[wr.heap.size]? = some (.cells #[.int .i64 v.k,.int .i64 v.n,.string v.s] 46 (0,0)):=heap_alloc_new wr _
      have hne:some wr.heap.size≠some w.heap.size:=fun e=>by
       injection e with e
       have:=HB.out.sz
       omega
      go_wp2_with (first
       | (at_lookup;refine wpList_lookup_own_ok_int _ rfl _ _ 214 rfl 46 3 .i64 Tryz.lawV Tryz.underlying214 Tryz.underlying3 (Tryz.zeroI _) w.heap.size i D rfl hD _ _ rfl hkey ?_;intro cc hat hwc;rw[hhas])
       | (at_mapUpdate;refine wpList_mapUpdate_own _ rfl _ _ _ 214 rfl 46 3 Tryz.lawV Tryz.underlying214 _ w.heap.size i D rfl hD (by unfold maxLen;omega) _ _ _ rfl rfl hkey (.lit (.int .i64 us.length)) [] (plainElem_int Tryz.underlying3 (WalkArith.wf_i64 (by omega))) ?_;intro w1 hown1 hgrow1;clear hc0 hc1 hc2;obtain⟨q0,q1,q2⟩:=row_three ((hgrow1.block wr.heap.size (by simp) hne).trans hbx);have HST:Hid _:=HB1.out.store HI.out HVI.out HNM.out hown1 hgrow1)
       | (at_builtin;refine wpList_append_own _ rfl _ _ 25 rfl (w.heap.size+2) 46 iv (.agg #[.int .i64 0,.int .i64 0,.string ⟨#[]⟩]) 3 32 Tryz.underlying25 hvi hv0 hv1 hv2 rfl (by decide) _ us.length (vcells us) rfl (HST.out.2.1.alloc _) ⟨w1.heap.size,0,none⟩ 1 1 [.int .i64 v.k,.int .i64 v.n,.string v.s] rfl rfl three_cells (by intro u hu;simp at hu;rcases hu with rfl|rfl|rfl<;>rfl) (by unfold maxLen;omega) (by omega) (by have:=HST.out.2.2.2.2.2.2;simp;omega) ?_;intro v' w2 hown' hgrow _;have HB2:Hid _:=BF.push HST.out hown' hgrow;obtain⟨y,hy⟩:=HB2.out.any i hlt;have hfz:=HB2.out.froz i hlt))
      go_roundw
      case rel =>
       refine⟨i+1,us++[v],ps++[us.length],by omega,by go_num,?_,?_⟩
       · show Uq _ _ _
         rw[HT.out]
         exact Uq.new HU.out HNM.out
       · have h:=HB2.out.put us.length (by omega)
         rw[hpl] at h
         exact h
      case measure=>simp[intOf];omega
  · obtain rfl:i=vs.length:=by omega
    have hu:=HU.out
    rw[List.take_length] at hu
    have HU2:Hid (Uq vs us ps):=hu
    obtain⟨a2,c2,rfl,hl2⟩:=liesV_own HB.out.row
    have HD:Hid (∀j (h:j<ps.length),∃b o,some (⟨w.heap.size+1,0,none⟩:Addr)=some ⟨b,o,none⟩/\wr.cell? ⟨b,o+j,none⟩=some (.int .i64 ps[j])):=fun j hj=>⟨_,_,rfl,by rw[Nat.zero_add];exact HB.out.done j hj⟩
    have HLL:Hid (LiesV wr a2 us):=hl2
    clear hu hl2
    go_wp2
    go_ret2
    exact⟨⟨us,ps,a2,c2,_,vs.length,HU2.out,by rw[hpl];rfl,by omega,HLL.out,HD.out⟩,HB.out.old⟩
end Go.Proofs.YtoeiahdjamkdgaaGreatDoor
namespace Go.Proofs.YtoeiahdjamkdgaaGreatDoor
open Go.RowKit
theorem own_two {w w':World}{b1 b2 e1 e2 s1 s2 n m:Nat}{v u:Value}{xs ys:List Value}(h1:w.ownsRow b1 e1 s1 v n xs)(h2:w.ownsRow b2 e2 s2 u m ys)(hne:e1≠e2)(hg:w.grownBy w' v.ownBlock):w'.ownsRow b2 e2 s2 u m ys:=by
 refine⟨h2.1,?_⟩
 rcases h2.2 with hn|⟨k,cap,cur,rfl,hbk,hk,rest⟩
 · exact .inl hn
 · refine .inr ⟨k,cap,cur,rfl,hbk,(hg.block k (Array.getElem?_eq_some_iff.1 hk).1 (fun e=>?_)).trans hk,rest⟩
   rcases h1.2 with ⟨rfl,_⟩|⟨g1,_,cur1,rfl,_,hg1,_⟩
   · simp[Value.ownBlock] at e
   · simp[Value.ownBlock] at e
     subst e
     rw[hg1] at hk
     injection hk with hk
     injection hk with _ hk _
     exact hne hk
theorem dN {B:Nat}{a w:World}(h:Below B a w)(n:Nat):Below B a (w.drewN n):=h.trans ⟨rfl,rfl,rfl,Nat.le_refl _,fun _ _=>rfl⟩
def pcells (ps:List Nat):List Value:=ps.map fun p:Nat=>.int .i64 (p:Int)
theorem pcells_snoc (ps:List Nat)(p:Nat):pcells (ps++[p])=pcells ps++[.int .i64 (p:Int)]:=by simp[pcells]
theorem lies_row {w:World}{base e n:Nat}{a:Option Addr}{m c:Nat}{us:List Vl}(h:w.ownsRow base e 3 (.slice a m c) n (vcells us)):LiesV w a us:=by
 obtain⟨a',c',e',hl⟩:=liesV_own h
 injection e' with e1 _ _
 subst e1
 exact hl
structure UL (w:World) (o p:Value) (wr:World) (us:List Vl) (ps:List Nat):Prop where
 row:wr.ownsRow w.heap.size 46 3 o us.length (vcells us)
 pl:wr.ownsRow w.heap.size 3 1 p ps.length (pcells ps)
 old:Below w.heap.size w wr
theorem UL.drewN {w:World}{o p:Value}{wr:World}{us:List Vl}{ps:List Nat}(h:UL w o p wr us ps)(n:Nat):UL w o p (wr.drewN n) us ps:=⟨h.row,h.pl,dN h.old n⟩
theorem UL.push {w:World}{o p o':Value}{wr w1:World}{ob:Obj}{us:List Vl}{ps:List Nat}{v:Vl}(h:UL w o p wr us ps)(hown:w1.ownsRow w.heap.size 46 3 o' (us.length+1) (vcells us++[.int .i64 v.k,.int .i64 v.n,.string v.s]))(hg:(wr.alloc ob).grownBy w1 o.ownBlock):UL w o' p w1 (us++[v]) ps :=
 ⟨by rw[vcells_snoc,List.length_append];exact hown,own_two (h.row.alloc ob) (h.pl.alloc ob) (by decide) hg,(h.old.alloc h.old.size ob).grown hg (by have:=h.old.size;simp;omega) (fun k hk=>(h.row.lt k hk).1)⟩
theorem UL.place {w:World}{o p p':Value}{wr w1:World}{ob:Obj}{us:List Vl}{ps:List Nat}{q:Nat}(h:UL w o p wr us ps)(hown:w1.ownsRow w.heap.size 3 1 p' (ps.length+1) (pcells ps++[.int .i64 (q:Int)]))(hg:(wr.alloc ob).grownBy w1 p.ownBlock):UL w o p' w1 us (ps++[q]) :=
 ⟨own_two (h.pl.alloc ob) (h.row.alloc ob) (by decide) hg,by rw[pcells_snoc,List.length_append];exact hown,(h.old.alloc h.old.size ob).grown hg (by have:=h.old.size;simp;omega) (fun k hk=>(h.pl.lt k hk).1)⟩
def RetUL (vs:List Vl)(e:Ending)(w':World):Prop :=
 ∃us ps a c a' c',Uq vs us ps/\e=.returned (.tuple #[.slice a us.length c,.slice a' ps.length c'])/\LiesV w' a us/\Lies w' a' (pcells ps)
theorem unlikeOf_any (a:Option Addr)(vs:List Vl)(c:Nat)(w:World)(hn:vs.length<=20000)(hl:LiesV w a vs) :
    Calls Tryz.prog 113 #[.slice a vs.length c] w fun e w'=>RetUL vs e w'/\Below w.heap.size w w':=by
 obtain⟨i0,hi,hz0,hz1,hz2⟩:=info_parts Tryz.info3
 obtain⟨iv,hvi,hv0,hv1,hv2⟩:=info_parts Tryz.infoV
 have HL:Hid (LiesV w a vs):=hl
 clear hl
 go_enter Tryz.func113,Tryz.ntmps113
 go_wp2
 go_loopw [4,5,6] (fun o p x wr=>∃(i:Nat) (us:List Vl) (ps:List Nat),i<=vs.length/\x=.int .i64 i/\Hid (Uq (vs.take i) us ps)/\Hid (UL w o p wr us ps)) (fun _ _ x _=>vs.length-(intOf x).toNat)
 case atStart=>exact⟨0,[],[],Nat.zero_le _,rfl,Uq.nil,⟨World.ownsRow_nil _ _ _ _,World.ownsRow_nil _ _ _ _,Below.refl _ _⟩⟩
 case round =>
  obtain⟨i,us,ps,hik,rfl,HU,HB⟩:=hrel
  have hlen:=HU.out.len
  rw[List.length_take,Nat.min_eq_left hik] at hlen
  obtain⟨hpl,hul⟩:=hlen
  by_cases hlt:i<vs.length
  · obtain⟨b,o,rfl,hc0,hc1,hc2⟩:=(HL.out.keep HB.out.old) i hlt
    have HC:Hid (∀W,Below w.heap.size w W->W.cell? ⟨b,o+i*3,none⟩=some (.int .i64 vs[i].k)/\W.cell? ⟨b,o+i*3+1,none⟩=some (.int .i64 vs[i].n)/\W.cell? ⟨b,o+i*3+2,none⟩=some (.string vs[i].s)):=fun W hW=>by
     obtain⟨b',o',e,h⟩:=(HL.out.keep hW) i hlt
     have e:=Option.some.inj e
     simp only[Addr.mk.injEq,and_true] at e
     rw[e.1,e.2]
     exact h
    have HT:Hid (vs.take (i+1)=vs.take i++[vs[i]]):=List.take_succ_eq_append_getElem hlt
    generalize vs[i]=v at *
    obtain⟨a2,c2,rfl,hl2⟩:=liesV_own HB.out.row
    clear hl2
    go_wp2
    clear hc0 hc1 hc2
    go_loopw [7] (fun y wr=>∃k:Nat,k<=us.length/\y=.int .i64 k/\Hid (∀j (h:j<us.length),j<k->us[j]≠v)/\Hid (UL w (.slice a2 us.length c2) _ wr us ps)) (fun y _=>us.length-(intOf y).toNat)
    case atStart=>exact⟨0,Nat.zero_le _,rfl,fun j _ h=>absurd h (by omega),HB⟩
    case round =>
     clear HB
     obtain⟨k,hk,rfl,HN,HB⟩:=hrel
     obtain⟨d0,d1,d2⟩:=HC.out _ HB.out.old
     by_cases hkl:k<us.length
     · obtain⟨b2,o2,rfl,e0,e1,e2⟩:=lies_row HB.out.row k hkl
       by_cases hv:us[k]=v
       · have HP:Hid (us[k]? = some v):=by show _=_;rw[←hv];exact List.getElem?_eq_getElem hkl
         rw[hv] at e0 e1 e2
         clear hv
         go_wp2
         go_quiet (fail)
         have HB2:Hid _:=HB.out.drewN nq
         have hne:((k:Int) == (us.length:Int))=false:=by simp;omega
         have hown:=HB2.out.pl
         go_wp2_with (at_builtin;refine wpList_append_own _ rfl _ _ 22 rfl w.heap.size 3 i0 (.int .i64 0) 1 8 Tryz.underlying22 hi hz0 hz1 hz2 rfl (by decide) _ ps.length (pcells ps) rfl (hown.alloc _) ⟨_,0,none⟩ 1 1 [.int .i64 (k:Int)] rfl rfl (cell_one_new _ _ _) (by intro u hu;simp at hu;subst hu;rfl) (by unfold maxLen;omega) (by omega) (by have:=HB2.out.old.size;simp at this ⊢;omega) ?_;intro v' w1 hown' hgrow _;have HB3:Hid _:=HB2.out.place hown' hgrow)
         go_roundw
         case rel =>
          refine⟨i+1,us,ps++[k],by omega,by go_num,?_,HB3⟩
          show Uq _ _ _
          rw[HT.out]
          exact Uq.old HU.out HP.out
         case measure=>simp[intOf];omega
       · have HNV:Hid (us[k]≠v):=hv
         generalize hu:us[k]=u at e0 e1 e2 hv
         clear hu
         have hcs:(u.k≠v.k)\/(u.k=v.k/\u.n≠v.n)\/(u.k=v.k/\u.n=v.n/\u.s.toList≠v.s.toList):=by
          by_cases h1:u.k=v.k
          · by_cases h2:u.n=v.n
            · exact Or.inr (Or.inr ⟨h1,h2,fun h=>hv (vl_ext h1 h2 (str_ext h))⟩)
            · exact Or.inr (Or.inl ⟨h1,h2⟩)
          · exact Or.inl h1
         clear hv
         rcases hcs with h1|⟨h1,h2⟩|⟨h1,h2,h3⟩
         all_goals
          go_wp2
          go_quiet (fail)
          go_wp2
          go_roundw
          case rel=>exact⟨k+1,by omega,by go_num,fun j h hj=>if e:j=k then (by subst e;exact HNV.out) else HN.out j h (by omega),HB.out.drewN _⟩
          case measure=>simp[intOf];omega
     · obtain rfl:k=us.length:=by omega
       have HNM:Hid (v ∉ us):=fun hm=>by
        obtain⟨j,hj,e⟩:=List.getElem_of_mem hm
        exact HN.out j hj hj e
       go_wp2
       go_quiet (fail)
       have HB2:Hid _:=HB.out.drewN nq
       go_wp2_with (first
        | (at_builtin;refine wpList_append_own _ rfl _ _ 25 rfl w.heap.size 46 iv (.agg #[.int .i64 0,.int .i64 0,.string ⟨#[]⟩]) 3 32 Tryz.underlying25 hvi hv0 hv1 hv2 rfl (by decide) _ us.length (vcells us) rfl (HB2.out.row.alloc _) ⟨_,0,none⟩ 1 1 [.int .i64 v.k,.int .i64 v.n,.string v.s] rfl rfl three_cells (by intro u hu;simp at hu;rcases hu with rfl|rfl|rfl<;>rfl) (by unfold maxLen;omega) (by omega) (by have:=HB2.out.old.size;simp at this ⊢;omega) ?_;intro v1 w1 hown1 hgrow1 _;have HB3:Hid _:=HB2.out.push hown1 hgrow1)
        | (at_builtin;refine wpList_append_own _ rfl _ _ 22 rfl w.heap.size 3 i0 (.int .i64 0) 1 8 Tryz.underlying22 hi hz0 hz1 hz2 rfl (by decide) _ ps.length (pcells ps) rfl (HB3.out.pl.alloc _) ⟨_,0,none⟩ 1 1 [.int .i64 (us.length:Int)] rfl rfl (cell_one_new _ _ _) (by intro u hu;simp at hu;subst hu;rfl) (by unfold maxLen;omega) (by omega) (by have:=HB3.out.old.size;simp at this ⊢;omega) ?_;intro v' w2 hown' hgrow _;have HB4:Hid _:=HB3.out.place hown' hgrow))
       go_roundw
       case rel =>
        refine⟨i+1,us++[v],ps++[us.length],by omega,by go_num,?_,HB4⟩
        show Uq _ _ _
        rw[HT.out]
        exact Uq.new HU.out HNM.out
       case measure=>simp[intOf];omega
  · obtain rfl:i=vs.length:=by omega
    have hu:=HU.out
    rw[List.take_length] at hu
    have HU2:Hid (Uq vs us ps):=hu
    obtain⟨a2,c2,rfl,hl2⟩:=liesV_own HB.out.row
    obtain⟨a3,c3,rfl,hl3⟩:=lies_own HB.out.pl
    have e:(pcells ps).length=ps.length:=by simp[pcells]
    rw[e]
    have HLL:Hid (LiesV wr a2 us):=hl2
    have HLP:Hid (Lies wr a3 (pcells ps)):=hl3
    clear hu hl2 hl3 e
    go_wp2
    go_ret2
    exact⟨⟨us,ps,a2,c2,a3,c3,HU2.out,rfl,HLL.out,HLP.out⟩,HB.out.old⟩
end Go.Proofs.YtoeiahdjamkdgaaGreatDoor
