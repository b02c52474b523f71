/-
  Schemas as trees (api.Node), and where they lie: the words, without the program.
  An append to a row of the call's own: where the row lies behind it.
-/
import Derived.RowKit
import Derived.Test.YtoeiahdjamkdgaaGreatDoorWBOwn
import Derived.Laws.AppendOwn
import Derived.Deep.RegionLaw
namespace Go.Proofs.YtoeiahdjamkdgaaGreatDoor
open Go.RowKit
inductive Tr where
 | node (id:Int) (nm:ByteArray) (rep kind:Int) (sub:List Tr)
def Tr.id:Tr->Int|.node i _ _ _ _=>i
def Tr.nm:Tr->ByteArray|.node _ s _ _ _=>s
def Tr.rep:Tr->Int|.node _ _ r _ _=>r
def Tr.kind:Tr->Int|.node _ _ _ k _=>k
def Tr.sub:Tr->List Tr|.node _ _ _ _ l=>l
inductive Tr.Sm:Tr->Prop where
 | mk (id:Int) (nm:ByteArray) (rep kind:Int) (sub:List Tr) (hi:-9223372036854775808<=id/\id<=9223372036854775807) (hs:nm.size<=1048576) (hl:sub.length<=1048576) (each:∀j (h:j<sub.length),Tr.Sm sub[j]):Tr.Sm (.node id nm rep kind sub)
theorem Tr.Sm.len {t:Tr}(h:t.Sm):t.sub.length<=1048576:=by cases h with|mk id nm rep kind sub hi hs hl each=>exact hl
theorem Tr.Sm.nm {t:Tr}(h:t.Sm):t.nm.size<=1048576:=by cases h with|mk id nm rep kind sub hi hs hl each=>exact hs
theorem Tr.Sm.at_ {t:Tr}(h:t.Sm)(j:Nat)(hj:j<t.sub.length):t.sub[j].Sm:=by cases h with|mk id nm rep kind sub hi hs hl each=>exact each j hj
inductive Tr.Dp:Nat->Tr->Prop where
 | mk (n:Nat) (id:Int) (nm:ByteArray) (rep kind:Int) (sub:List Tr) (each:∀j (h:j<sub.length),Tr.Dp n sub[j]):Tr.Dp (n+1) (.node id nm rep kind sub)
theorem Tr.Dp.at_ {n:Nat}{t:Tr}(h:Tr.Dp (n+1) t)(j:Nat)(hj:j<t.sub.length):Tr.Dp n t.sub[j]:=by cases h with|mk n id nm rep kind sub each=>exact each j hj
theorem Tr.Dp.pos {n:Nat}{t:Tr}(h:Tr.Dp n t):0<n:=by cases h with|mk n id nm rep kind sub each=>omega
theorem Tr.Dp.up {n:Nat}{t:Tr}(h:Tr.Dp n t):∀m,n<=m->Tr.Dp m t:=by
 induction h with
 | mk n id nm rep kind sub each ih =>
  intro m hm
  obtain⟨k,rfl⟩:∃k,m=k+1:=⟨m-1,by omega⟩
  exact .mk k id nm rep kind sub fun j hj=>ih j hj k (by omega)
def NodeAt (W:World)(P:Nat->Prop)(a:Option Addr)(j:Nat)(cs:List Value):Prop :=
 ∃b o x0 x1 x2 x3 x4,a=some ⟨b,o,none⟩/\P b/\cs=[x0,x1,x2,x3,x4]/\W.cell? ⟨b,o+j*5,none⟩=some x0/\W.cell? ⟨b,o+j*5+1,none⟩=some x1/\W.cell? ⟨b,o+j*5+2,none⟩=some x2/\W.cell? ⟨b,o+j*5+3,none⟩=some x3/\W.cell? ⟨b,o+j*5+4,none⟩=some x4
inductive NodeC (W:World) (P:Nat->Prop):Tr->List Value->Prop where
 | mk (id:Int) (nm:ByteArray) (rep kind:Int) (sub:List Tr) (a:Option Addr) (c:Nat) (hc:sub.length<=c) (F:Nat->List Value)
     (cells:∀j,j<sub.length->NodeAt W P a j (F j)) (each:∀j (h:j<sub.length),NodeC W P sub[j] (F j)) :
     NodeC W P (.node id nm rep kind sub) [.int .i64 id,.string nm,.int .i64 rep,.int .i64 kind,.slice a sub.length c]
def LiesN (W:World)(P:Nat->Prop)(a:Option Addr)(ts:List Tr):Prop:=∃F:Nat->List Value,(∀j,j<ts.length->NodeAt W P a j (F j))/\∀j (h:j<ts.length),NodeC W P ts[j] (F j)
theorem cell_stay {W W':World}{b o:Nat}{x:Value}(h:W.cell? ⟨b,o,none⟩=some x)(hs:W'.heap[b]? = W.heap[b]?):W'.cell? ⟨b,o,none⟩=some x:=by
 rw[←h]
 simp only[World.cell?,hs]
theorem NodeAt.stay {W W':World}{P Q:Nat->Prop}{a:Option Addr}{j:Nat}{cs:List Value}(h:NodeAt W P a j cs)(hPQ:∀b,P b->b<W.heap.size->Q b)(hs:∀b,P b->b<W.heap.size->W'.heap[b]? = W.heap[b]?):NodeAt W' Q a j cs:=by
 obtain⟨b,o,x0,x1,x2,x3,x4,e,hp,ecs,h0,h1,h2,h3,h4⟩:=h
 have hlt:b<W.heap.size:=World.block_lt_of_cell? W _ h0
 have hb:=hs b hp hlt
 exact⟨b,o,x0,x1,x2,x3,x4,e,hPQ b hp hlt,ecs,cell_stay h0 hb,cell_stay h1 hb,cell_stay h2 hb,cell_stay h3 hb,cell_stay h4 hb⟩
theorem NodeC.stay {W W':World}{P Q:Nat->Prop}(hPQ:∀b,P b->b<W.heap.size->Q b)(hs:∀b,P b->b<W.heap.size->W'.heap[b]? = W.heap[b]?){t:Tr}{cs:List Value}(h:NodeC W P t cs):NodeC W' Q t cs:=by
 induction h with
 | mk id nm rep kind sub a c hc F cells each ih=>exact .mk id nm rep kind sub a c hc F (fun j hj=>(cells j hj).stay hPQ hs) ih
theorem LiesN.stay {W W':World}{P Q:Nat->Prop}{a:Option Addr}{ts:List Tr}(h:LiesN W P a ts)(hPQ:∀b,P b->b<W.heap.size->Q b)(hs:∀b,P b->b<W.heap.size->W'.heap[b]? = W.heap[b]?):LiesN W' Q a ts:=by
 obtain⟨F,h1,h2⟩:=h
 exact⟨F,fun j hj=>(h1 j hj).stay hPQ hs,fun j hj=>(h2 j hj).stay hPQ hs⟩
theorem NodeC.keep {W W':World}{P:Nat->Prop}(hb:Below W.heap.size W W'){t:Tr}{cs:List Value}(h:NodeC W P t cs):NodeC W' P t cs:=h.stay (fun _ h _=>h) (fun b _ hl=>hb.block b hl)
theorem LiesN.keep {W W':World}{P:Nat->Prop}{a:Option Addr}{ts:List Tr}(h:LiesN W P a ts)(hb:Below W.heap.size W W'):LiesN W' P a ts:=h.stay (fun _ h _=>h) (fun b _ hl=>hb.block b hl)
theorem NodeC.split {W:World}{P:Nat->Prop}{t:Tr}{cs:List Value}(h:NodeC W P t cs):∃a c,cs=[.int .i64 t.id,.string t.nm,.int .i64 t.rep,.int .i64 t.kind,.slice a t.sub.length c]/\LiesN W P a t.sub:=by
 cases h with
 | mk id nm rep kind sub a c hc F cells each=>exact⟨a,c,rfl,F,cells,each⟩
theorem LiesN.at_ {W:World}{P:Nat->Prop}{a:Option Addr}{ts:List Tr}(h:LiesN W P a ts)(j:Nat)(hj:j<ts.length):∃b o a' c',a=some ⟨b,o,none⟩/\W.cell? ⟨b,o+j*5,none⟩=some (.int .i64 ts[j].id)/\W.cell? ⟨b,o+j*5+1,none⟩=some (.string ts[j].nm)/\W.cell? ⟨b,o+j*5+2,none⟩=some (.int .i64 ts[j].rep)/\W.cell? ⟨b,o+j*5+3,none⟩=some (.int .i64 ts[j].kind)/\W.cell? ⟨b,o+j*5+4,none⟩=some (.slice a' ts[j].sub.length c')/\LiesN W P a' ts[j].sub:=by
 obtain⟨F,h1,h2⟩:=h
 obtain⟨b,o,x0,x1,x2,x3,x4,e,_,ecs,q0,q1,q2,q3,q4⟩:=h1 j hj
 obtain⟨a',c',e',hl⟩:=(h2 j hj).split
 rw[ecs] at e'
 simp only[List.cons.injEq,and_true] at e'
 obtain⟨rfl,rfl,rfl,rfl,rfl⟩:=e'
 exact⟨b,o,a',c',e,q0,q1,q2,q3,q4,hl⟩
theorem LiesN.take {W:World}{P:Nat->Prop}{a:Option Addr}{ts:List Tr}(h:LiesN W P a ts)(k:Nat):LiesN W P a (ts.take k):=by
 obtain⟨F,h1,h2⟩:=h
 refine⟨F,fun j hj=>h1 j ?_,fun j hj=>?_⟩
 · rw[List.length_take] at hj;omega
 · rw[List.getElem_take];exact h2 j _
section
variable {P:Program} (w:World)
theorem run_append_where (base:Nat)(t ty e:TypeId)(i:TypeInfo)(z:Value)(size bytes:Nat)(ht:P.underlying t=some (.slice e))(hi:P.info? e=some i)(hz:i.zero=some z)
    (hsize:i.size=size) (hby:i.bytes=bytes) (hzs:z.cells.size=size) (hsz:0<size)
    (v:Value) (n:Nat) (xs:List Value) (hown:w.ownsRow base e size v n xs)
    (a:Addr) (m c:Nat) (news:List Value) (hl:news.length=m*size) (hnews:∀j u,news[j]? = some u->w.cell? (a.add j)=some u) (h1:∀u∈news,u.oneCell'=true)
    (h63:n+m<=maxLen) (hbytes:(n+m)*bytes<=140737488355328) (hbase:base<=w.heap.size) (hm:0<m) :
    ∃v' w',(Builtin.append_ #[t,t] ty #[v,.slice (some a) m c]).run P w=.ok v' w'/\w'.ownsRow base e size v' (n+m) (xs++news)/\w.grownBy w' v.ownBlock ∧
     (v'.ownBlock=v.ownBlock/\v.ownBlock≠none\/v'.ownBlock=some w.heap.size):=by
 obtain⟨v',w',hr,h2,h3,_⟩:=run_append_own (P:=P) w base t ty e i z size bytes ht hi hz hsize hby hzs hsz v n xs hown a m c news hl hnews h1 h63 hbytes hbase
 refine⟨v',w',hr,h2,h3,?_⟩
 subst hsize
 subst hby
 have hsmall:n+m<=9223372036854775807:=by simp only[maxLen] at h63;omega
 rcases hown.2 with ⟨rfl,rfl⟩|⟨g,cap,cur,rfl,hbg,hg,hnc,hcm,hcs,htake⟩
 · have hr2:=run_append_nil (P:=P) w t ty e i z ht hi hz a m c news hl hnews (by omega) (by omega) (by have hb:=hbytes;simp only[Nat.zero_add] at hb;omega)
   rw[hr] at hr2
   injection hr2 with hv _
   right
   rw[hv]
   rfl
 · by_cases hroom:n+m<=cap
   · have hfit:n*i.size+news.length<=cur.size:=by rw[hl,hcs,←Nat.add_mul];exact Nat.mul_le_mul_right _ hroom
     have hr2:=run_append_room (P:=P) w t ty e i ht hi g n cap cur hg a m c news hl hnews h1 hroom hfit
     rw[hr] at hr2
     injection hr2 with hv _
     left
     rw[hv]
     exact⟨rfl,by simp[Value.ownBlock]⟩
   · have holds:∀j u,xs[j]? = some u->w.cell? ((⟨g,0,none⟩:Addr).add j)=some u:=hown.cells (g:=g) rfl
     have hr2:=run_append_grow (P:=P) w t ty e i z ht hi hz ⟨g,0,none⟩ n cap xs hown.1 holds a m c news hl hnews (by omega) (by omega) (growslice_fits (by omega) hbytes)
     rw[hr] at hr2
     injection hr2 with hv _
     right
     rw[hv]
     rfl
end
end Go.Proofs.YtoeiahdjamkdgaaGreatDoor
