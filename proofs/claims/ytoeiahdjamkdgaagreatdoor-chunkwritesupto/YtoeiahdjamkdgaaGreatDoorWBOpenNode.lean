/-
  A schema that came in: the tree that it holds; that it reads behind the call as it did before.
  The reference's OwnNode: a copy of a schema, with lists of its own.
  A walk through a schema, told as lists: what it answers, what it keeps; the words, without the program.
  schema.inBounds: not too many nodes, not too deep.
  schema.namesAreRight: exact.
  A box of four cells.
  What a call keeps but for one block and what is above.
  schema.idsAreRight: exact.
  slices.Grow and slices.Concat of nodes; schema.pathTo.
-/
import Derived.Test.YtoeiahdjamkdgaaGreatDoorWBTree
import Derived.Test.YtoeiahdjamkdgaaGreatDoorWBOpenVals
import Derived.Deep.QuietTactic
import Derived.BigQuiet
import Derived.Deep.RegionWith
import Derived.Maps.Own
import Derived.Maps.OwnOps
import Derived.Maps.OwnSet
import Derived.Maps.Views
import Derived.Lib.AppendZeros
import Derived.LoopN
namespace Go.Proofs.YtoeiahdjamkdgaaGreatDoor
open Go.ChangeShapes Go.WideShapes Go.ChangeAt Go.RowKit
inductive Tr.In:Tr->Prop where
 | mk (id:Int) (nm:ByteArray) (rep kind:Int) (sub:List Tr) (hi:-9223372036854775808<=id/\id<=9223372036854775807) (hs:nm.size<=maxLen) (hr:-9223372036854775808<=rep/\rep<=9223372036854775807) (hk:-9223372036854775808<=kind/\kind<=9223372036854775807) (hl:sub.length<=maxLen)
     (each:∀j (h:j<sub.length),Tr.In sub[j]):Tr.In (.node id nm rep kind sub)
instance:Inhabited Tr:=⟨.node 0 ⟨#[]⟩ 0 0 []⟩
theorem bulk_one {H:Type}(d:DataW H):1<=Rows.uptoBulk d:=by
 cases d with
 | lit l=>cases l<;>simp[Rows.uptoBulk]
 | _=>simp[Rows.uptoBulk]
theorem bulk_len {H:Type}:∀(l:List (DataW H)),l.length<=Rows.uptoBulkAll l
 | []=>by simp[Rows.uptoBulkAll]
 | d :: l=>by
  have h1:=bulk_one d
  have h2:=bulk_len l
  simp only[Rows.uptoBulkAll,List.length_cons]
  omega
end Go.Proofs.YtoeiahdjamkdgaaGreatDoor
namespace Go.Proofs.YtoeiahdjamkdgaaGreatDoor
open Go.RowKit
theorem flat5:∀(ls:List (List Value)),(∀l∈ls,l.length=5)->∀j k,k<5->ls.flatten[j*5+k]? = (ls[j]?).bind fun l=>l[k]?
 | [],_,j,k,_=>by simp
 | l :: ls,h,j,k,hk=>by
  have hl:l.length=5:=h l (by simp)
  have ih:=flat5 ls (fun x hx=>h x (by simp[hx]))
  rw[List.flatten_cons]
  cases j with
  | zero=>rw[List.getElem?_append_left (by omega)];simp
  | succ j =>
   rw[List.getElem?_append_right (by omega),show (j+1)*5+k-l.length=j*5+k by omega,ih j k hk]
   simp
theorem row_five {w:World}{g e:Nat}{x0 x1 x2 x3 x4:Value}(h:w.heap[g]? = some (.cells #[x0,x1,x2,x3,x4] e (0,0))) :
    (w.cell? ⟨g,0,none⟩=some x0/\w.cell? ⟨g,1,none⟩=some x1/\w.cell? ⟨g,2,none⟩=some x2/\w.cell? ⟨g,3,none⟩=some x3/\w.cell? ⟨g,4,none⟩=some x4)/\w.frozen? ⟨g,0,none⟩=false/\w.frozen? ⟨g,1,none⟩=false/\w.frozen? ⟨g,2,none⟩=false/\w.frozen? ⟨g,3,none⟩=false/\w.frozen? ⟨g,4,none⟩=false :=
 ⟨⟨cell_of_row w g 0 _ e _ h,cell_of_row w g 1 _ e _ h,cell_of_row w g 2 _ e _ h,cell_of_row w g 3 _ e _ h,cell_of_row w g 4 _ e _ h⟩,frozen_of_row w g 0 _ e h,frozen_of_row w g 1 _ e h,frozen_of_row w g 2 _ e h,frozen_of_row w g 3 _ e h,frozen_of_row w g 4 _ e h⟩
theorem row_setC {w:World}{g j:Nat}{cs:Array Value}{t:TypeId}(h:w.heap[g]? = some (.cells cs t (0,0))){v:Value}:(w.setCell ⟨g,j,none⟩ v).heap[g]? = some (.cells (cs.setIfInBounds j v) t (0,0)):=by
 simp[World.setCell,Array.getElem?_modify,h]
theorem NodeC.five {W:World}{P:Nat->Prop}{t:Tr}{cs:List Value}(h:NodeC W P t cs):cs.length=5:=by
 obtain⟨a,c,rfl,_⟩:=h.split
 rfl
section
variable {S:Type} (st:S->List Tr->Tr->Bool × S)
end
theorem own_same {w w':World}{base e size n:Nat}{v:Value}{xs:List Value}(h:w.ownsRow base e size v n xs)(hs:∀k,v.ownBlock=some k->w'.heap[k]? = w.heap[k]?):w'.ownsRow base e size v n xs:=by
 refine⟨h.1,?_⟩
 rcases h.2 with h0|⟨g,cap,cur,rfl,hbg,hg,rest⟩
 · exact .inl h0
 · exact .inr ⟨g,cap,cur,rfl,hbg,(hs g rfl).trans hg,rest⟩
theorem own_block {w:World}{base e size n:Nat}{v:Value}{xs:List Value}(h:w.ownsRow base e size v n xs){k:Nat}(hk:v.ownBlock=some k):base<=k/\k<w.heap.size/\∃cs,w.heap[k]? = some (.cells cs e (0,0)):=by
 rcases h.2 with ⟨rfl,_⟩|⟨g,cap,cur,rfl,hbg,hg,rest⟩
 · simp[Value.ownBlock] at hk
 · simp only[Value.ownBlock,Option.some.injEq] at hk
   subst hk
   exact⟨hbg,lt_of_block hg,cur,hg⟩
theorem row_one {w:World}{g e:Nat}{x:Value}(h:w.heap[g]? = some (.cells #[x] e (0,0))):w.cell? ⟨g,0,none⟩=some x/\w.frozen? ⟨g,0,none⟩=false:=by
 constructor<;>simp[World.cell?,World.frozen?,h]
def Idx {α:Type}(p:α->Bool)(l:List α)(r:Int):Prop:=(r=-1/\∀j (h:j<l.length),p l[j]=false)\/∃(i:Nat) (h:i<l.length),r=i/\p l[i]=true/\∀j (h:j<i),p l[j]=false
theorem Idx.any {α:Type}{p:α->Bool}{l:List α}{r:Int}(h:Idx p l r):decide (0<=r)=l.any p:=by
 rcases h with ⟨rfl,h⟩|⟨i,hi,rfl,h1,_⟩
 · symm
   simp only[List.any_eq,show ¬ ((0:Int) ≤ -1) by omega]
   rw[decide_eq_decide]
   constructor
   · rintro ⟨x,hx,hp⟩
     obtain⟨j,hj,rfl⟩:=List.getElem_of_mem hx
     rw[h j hj] at hp
     cases hp
   · intro h;cases h
 · have:l.any p=true:=List.any_eq_true.2 ⟨l[i],List.getElem_mem hi,h1⟩
   rw[this]
   simp
theorem row_four {w:World}{g e:Nat}{x0 x1 x2 x3:Value}(h:w.heap[g]? = some (.cells #[x0,x1,x2,x3] e (0,0))):w.cell? ⟨g,0,none⟩=some x0/\w.cell? ⟨g,1,none⟩=some x1/\w.cell? ⟨g,2,none⟩=some x2/\w.cell? ⟨g,3,none⟩=some x3 :=
 ⟨cell_of_row w g 0 _ e _ h,cell_of_row w g 1 _ e _ h,cell_of_row w g 2 _ e _ h,cell_of_row w g 3 _ e _ h⟩
structure DFr (g N:Nat) (W w':World):Prop where
 os:w'.os=W.os
 tape:w'.tape=W.tape
 output:w'.output=W.output
 size:W.heap.size<=w'.heap.size
 keep:∀k,k<W.heap.size->k≠g->(N<=k->∀cs e z,W.heap[k]? = some (.cells cs e z)->e≠3/\e≠46)->w'.heap[k]? = W.heap[k]?
theorem DFr.refl (g N:Nat)(W:World):DFr g N W W:=⟨rfl,rfl,rfl,Nat.le_refl _,fun _ _ _ _=>rfl⟩
theorem DFr.trans {g N:Nat}{W w1 w2:World}(h:DFr g N W w1)(h2:DFr g N w1 w2):DFr g N W w2 :=
 ⟨h2.os.trans h.os,h2.tape.trans h.tape,h2.output.trans h.output,Nat.le_trans h.size h2.size,fun k hk hne ht=>by
  have e:=h.keep k hk hne ht
  rw[h2.keep k (Nat.lt_of_lt_of_le hk h.size) hne (fun hN cs e2 z hc=>ht hN cs e2 z (e ▸ hc)),e]⟩
theorem DFr.of_below {g N:Nat}{W w':World}(hb:Below W.heap.size W w'):DFr g N W w':=⟨hb.os,hb.tape,hb.output,hb.size,fun k hk _ _=>hb.block k hk⟩
theorem DFr.alloc (g N:Nat)(W:World)(o:Obj):DFr g N W (W.alloc o):=.of_below ((Below.refl _ _).alloc (Nat.le_refl _) _)
theorem DFr.drew (g N:Nat)(W:World):DFr g N W W.drew:=.of_below (Below.refl _ _).drew
theorem DFr.below {g N B:Nat}{W w':World}(h:DFr g N W w')(hB:B<=W.heap.size)(hg:B<=g)(hN:B<=N):Below B W w':=⟨h.os,h.tape,h.output,h.size,fun k hk=>h.keep k (by omega) (by omega) (fun h2=>by omega)⟩
theorem DFr.box {g N k:Nat}{W w':World}{cs:Array Value}{e:TypeId}{z:Nat × Nat}(h:DFr g N W w')(hk:W.heap[k]? = some (.cells cs e z))(hg:k≠g)(he:e≠3/\e≠46):w'.heap[k]? = some (.cells cs e z) :=
 (h.keep k (lt_of_block hk) hg (fun _ cs' e' z' hc=>by rw[hc] at hk;injection hk with hk;injection hk with _ hk _;subst hk;exact he)).trans hk
end Go.Proofs.YtoeiahdjamkdgaaGreatDoor
namespace Go.Proofs.YtoeiahdjamkdgaaGreatDoor
open Go.RowKit Go.Maps
def ilit (i:Int):Lit:=.int .i64 i
def idS (acc:List Int):DataW Unit:=setOf (.agg []) (acc.map ilit)
def SetI (mb:Nat)(acc:List Int)(W:World):Prop:=acc.length<=1000000/\W.ownsMap Tryz.prog 3 (unitElem (H:=Unit)) mb acc.length (idS acc)
theorem SetI.keep {mb:Nat}{acc:List Int}{W w':World}(h:SetI mb acc W)(hb:Below W.heap.size W w'):SetI mb acc w':=by
 obtain⟨h1,es,clock,h2,h3⟩:=h
 exact⟨h1,es,clock,(hb.block mb (lt_of_block h2)).trans h2,h3⟩
end Go.Proofs.YtoeiahdjamkdgaaGreatDoor
namespace Go.Proofs.YtoeiahdjamkdgaaGreatDoor
open Go.RowKit
theorem LiesN.row {W:World}{P:Nat->Prop}{b o:Nat}{ts:List Tr}(h:LiesN W P (some ⟨b,o,none⟩) ts):∃ncs:List (List Value),ncs.length=ts.length/\(∀x∈ncs,x.length=5)/\(∀j u,ncs.flatten[j]? = some u->W.cell? ((⟨b,o,none⟩:Addr).add j)=some u)/\(∀j (h:j<ts.length) (h':j<ncs.length),NodeC W P ts[j] ncs[j]):=by
 obtain⟨F,h1,h2⟩:=h
 refine⟨(List.range ts.length).map F,by simp,fun x hx=>?_,fun j u hu=>?_,fun j hj hj'=>?_⟩
 · obtain⟨i,hi,rfl⟩:=List.mem_map.1 hx
   exact (h2 i (by simpa using hi)).five
 · have h5 : ∀ x ∈ (List.range ts.length).map F, x.length = 5 := fun x hx => by
     obtain⟨i,hi,rfl⟩:=List.mem_map.1 hx
     exact (h2 i (by simpa using hi)).five
   have e:j=j / 5*5+j % 5:=by omega
   rw[e,flat5 _ h5 (j / 5) (j % 5) (by omega)] at hu
   by_cases hlt:j / 5<ts.length
   · rw[List.getElem?_map,List.getElem?_range hlt] at hu
     simp only[Option.map_some,Option.bind_some] at hu
     obtain⟨b',o',x0,x1,x2,x3,x4,ea,_,ecs,c0,c1,c2,c3,c4⟩:=h1 (j / 5) hlt
     injection ea with ea
     injection ea with eb eo _
     subst eb eo
     rw[ecs] at hu
     rw[addr_plus]
     have hm:j % 5=0\/j % 5=1\/j % 5=2\/j % 5=3\/j % 5=4:=by omega
     rcases hm with hm|hm|hm|hm|hm
     all_goals
      rw[hm] at hu e
      simp at hu
      subst hu
     · rw[show o+j=o+j / 5*5 by omega];exact c0
     · rw[show o+j=o+j / 5*5+1 by omega];exact c1
     · rw[show o+j=o+j / 5*5+2 by omega];exact c2
     · rw[show o+j=o+j / 5*5+3 by omega];exact c3
     · rw[show o+j=o+j / 5*5+4 by omega];exact c4
   · rw[List.getElem?_map,List.getElem?_eq_none (by simp;omega)] at hu
     simp at hu
 · rw[List.getElem_map,List.getElem_range]
   exact h2 j hj
end Go.Proofs.YtoeiahdjamkdgaaGreatDoor
