/-
  What bitrun.Runs holds, and its closure where nothing is open.
  bitrun.Runs' closure: the open numbers are written as a part of the second kind.
  bitrun.Runs: what its loop begins with, keeps and steps by (the walk itself is not here).
  bitrun.Runs: the bytes of right numbers as runs, or the first number that is not right.
-/
import Derived.Test.YtoeiahdjamkdgaaGreatDoorWBPack
import Derived.Lib.AppendStr
import Derived.OneCell
import Derived.Deep.DeepCutAuto
import Derived.Deep.RegionLaw
import Derived.Deep.RegionHeld3
set_option maxRecDepth 100000
set_option maxHeartbeats 1600000
namespace Go.Proofs.YtoeiahdjamkdgaaGreatDoor
open Go.RowKit
set_option linter.unusedVariables false
theorem step_own_string {P:Program}{ops:Array Oper}{o:Oper}{a:Act}{w:World}{K:Act->World->Prop}{Q:Exit->Act->World->Prop}{E:Prop}
    (hgd:o.guard=none) (sl x:Operand) (t u:TypeId) (ho:o.op=.call { callee:=.builtin .append,args:=#[sl,x],argTypes:=#[t,u] })
    (base:Nat) (e:TypeId) (i:TypeInfo) (ht:P.underlying t=some (.slice e)) (hu:P.underlying u=some .string) (hi:P.info? e=some i) (hz:i.zero=some (.int .u8 0))
    (hsize:i.size=1) (hby:i.bytes=1)
    (v:Value) (n:Nat) (xs:List Value) (hs:a.eval sl=v) (hown:w.ownsRow base e 1 v n xs) (s:ByteArray) (hx:a.eval x=.string s)
    (h63:n+s.size<=maxLen) (hbytes:n+s.size<=140737488355328) (hbase:base<=w.heap.size)
    (h:∀v' w',w'.ownsRow base e 1 v' (n+s.size) (xs++Lib.strCells s)->w.grownBy w' v.ownBlock->K (a.put o.dst v') w') :
    if Region.wanted o (yielded ops a.tmps)=true then Oper.wp P o a w K Q else E:=by
 have hw:Region.wanted o (yielded ops a.tmps)=true:=by simp[Region.wanted,hgd]
 rw[if_pos hw]
 obtain⟨v',w',hr,h2,h3,_⟩:=Lib.run_append_own_string (P:=P) w base t u o.type e i ht hu hi hz hsize hby v n xs hown s h63 hbytes hbase
 unfold Oper.wp execOp
 simp only[ho,resolve,invoke,builtin,Sem.run_bind,Sem.run_pure,Result.andThen_ok,List.map_toArray,List.map_cons,List.map_nil,hs,hx,hr]
 exact h v' w' h2 h3
theorem step_own_slice {P:Program}{ops:Array Oper}{o:Oper}{a:Act}{w:World}{K:Act->World->Prop}{Q:Exit->Act->World->Prop}{E:Prop}
    (hgd:o.guard=none) (s x:Operand) (t:TypeId) (ho:o.op=.call { callee:=.builtin .append,args:=#[s,x],argTypes:=#[t,t] })
    (base:Nat) (e:TypeId) (i:TypeInfo) (z:Value) (size bytes:Nat) (ht:P.underlying t=some (.slice e)) (hi:P.info? e=some i) (hz:i.zero=some z)
    (hsize:i.size=size) (hby:i.bytes=bytes) (hzs:z.cells.size=size) (hsz:0<size)
    (v:Value) (n:Nat) (xs:List Value) (hs:a.eval s=v) (hown:w.ownsRow base e size v n xs)
    (ad:Addr) (m c:Nat) (news:List Value) (hx:a.eval x=.slice (some ad) m c) (hl:news.length=m*size) (hnews:∀j u,news[j]? = some u->w.cell? (ad.add j)=some u) (h1:∀u∈news,u.oneCell'=true)
    (h63:n+m<=maxLen) (hbytes:(n+m)*bytes<=140737488355328) (hbase:base<=w.heap.size)
    (h:∀v' w',w'.ownsRow base e size v' (n+m) (xs++news)->w.grownBy w' v.ownBlock->K (a.put o.dst v') w') :
    if Region.wanted o (yielded ops a.tmps)=true then Oper.wp P o a w K Q else E:=by
 have hw:Region.wanted o (yielded ops a.tmps)=true:=by simp[Region.wanted,hgd]
 rw[if_pos hw]
 exact wp_append_own w s x t ho base e i z size bytes ht hi hz hsize hby hzs hsz v n xs hs hown ad m c news hx hl hnews h1 h63 hbytes hbase fun v' w' h2 h3 _=>h v' w' h2 h3
structure RI (w0:World) (Bl Bw Bb Bo:Nat) (a:Option Addr) (n c wd:Nat) (wr:World) (bs:List UInt8) (op:Nat):Prop where
 hl:wr.heap[Bl]? = some (.cells #[.slice a n c] 22 (0,0))
 hw:wr.heap[Bw]? = some (.cells #[.int .i64 wd] 3 (0,0))
 ho:wr.heap[Bo]? = some (.cells #[.int .i64 op] 3 (0,0))
 hb:∃v,wr.heap[Bb]? = some (.cells #[v] 58 (0,0))/\wr.ownsRow w0.heap.size 5 1 v bs.length (cellsOf bs)
 old:Below w0.heap.size w0 wr
 new:w0.heap.size<=Bb/\w0.heap.size<=Bo
theorem own_apart {w:World}{B n g e:Nat}{v:Value}{xs:List Value}{cs:Array Value}(hown:w.ownsRow B 5 1 v n xs)(h:w.heap[g]? = some (.cells cs e (0,0)))(hne:e≠5):v.ownBlock≠some g:=by
 rcases hown.2 with ⟨rfl,_⟩|⟨g1,_,cur1,rfl,_,hg1,_⟩
 · simp[Value.ownBlock]
 · intro he
   simp[Value.ownBlock] at he
   subst he
   rw[hg1] at h
   injection h with h
   injection h with _ h _
   exact hne h.symm
theorem kept_block {w w':World}{B n g e:Nat}{v:Value}{xs:List Value}{cs:Array Value}(hown:w.ownsRow B 5 1 v n xs)(h:w.heap[g]? = some (.cells cs e (0,0)))(hne:e≠5)(hg:w.grownBy w' v.ownBlock):w'.heap[g]? = some (.cells cs e (0,0)) :=
 (hg.block g (lt_of_block h) (fun e=>own_apart hown h hne e.symm)).trans h
theorem below_block {w w':World}{g:Nat}{o:Obj}(hb:Below w.heap.size w w')(h:w.heap[g]? = some o):w'.heap[g]? = some o:=(hb.block g (lt_of_block h)).trans h
theorem own_kept {w w':World}{base e size n:Nat}{v:Value}{xs:List Value}(h:w.ownsRow base e size v n xs)(hb:Below w.heap.size w w'):w'.ownsRow base e size v n xs:=by
 refine⟨h.1,?_⟩
 rcases h.2 with hn|⟨g,cap,cur,rfl,hbg,hgg,rest⟩
 · exact .inl hn
 · exact .inr ⟨g,cap,cur,rfl,hbg,(hb.block g (Array.getElem?_eq_some_iff.1 hgg).1).trans hgg,rest⟩
theorem one_other {w:World}{g k:Nat}{o:Obj}(h:w.heap[g]? = some o)(hne:g≠k)(v:Value):(w.setCell ⟨k,0,none⟩ v).heap[g]? = some o:=by
 rw[Below.heap_setCell _ _ _ _ hne];exact h
theorem RI.below {w0:World}{Bl Bw Bb Bo:Nat}{a:Option Addr}{n c wd:Nat}{w w':World}{bs:List UInt8}{op:Nat}(h:RI w0 Bl Bw Bb Bo a n c wd w bs op)(hb:Below w.heap.size w w'):RI w0 Bl Bw Bb Bo a n c wd w' bs op:=by
 obtain⟨v,h1,h2⟩:=h.hb
 refine⟨below_block hb h.hl,below_block hb h.hw,below_block hb h.ho,⟨v,below_block hb h1,?_⟩,h.old.trans (hb.mono h.old.size),h.new⟩
 refine⟨h2.1,?_⟩
 rcases h2.2 with hn|⟨g,cap,cur,rfl,hbg,hgg,rest⟩
 · exact .inl hn
 · exact .inr ⟨g,cap,cur,rfl,hbg,(hb.block g (Array.getElem?_eq_some_iff.1 hgg).1).trans hgg,rest⟩
theorem RI.push {w0:World}{Bl Bw Bb Bo:Nat}{a:Option Addr}{n c wd:Nat}{w w':World}{bs bs':List UInt8}{op:Nat}{v v':Value}(h:RI w0 Bl Bw Bb Bo a n c wd w bs op)(hne:Bl≠Bb/\Bw≠Bb/\Bo≠Bb)
    (hv:w.heap[Bb]? = some (.cells #[v] 58 (0,0))) (hown:w.ownsRow w0.heap.size 5 1 v bs.length (cellsOf bs)) (hg:w.grownBy w' v.ownBlock) (hown':w'.ownsRow w0.heap.size 5 1 v' bs'.length (cellsOf bs')) :
    RI w0 Bl Bw Bb Bo a n c wd (w'.setCell ⟨Bb,0,none⟩ v') bs' op:=by
 have kb:=kept_block hown hv (by decide) hg
 have kl:=kept_block hown h.hl (by decide) hg
 have kw:=kept_block hown h.hw (by decide) hg
 have ko:=kept_block hown h.ho (by decide) hg
 refine⟨one_other kl hne.1 _,one_other kw hne.2.1 _,one_other ko hne.2.2 _,⟨v',one_setCell kb,ownsRow_setCell_other hown' (own_apart hown' kb (by decide)) _⟩,?_,h.new⟩
 exact (h.old.grown hg h.old.size (fun k hk=>(hown.lt k hk).1)).setCell h.new.1 _
theorem strCells_of (l:List UInt8):Lib.strCells ⟨l.toArray⟩=cellsOf l:=by simp[Lib.strCells,cellsOf]
theorem cells_app (l m:List UInt8):cellsOf (l++m)=cellsOf l++cellsOf m:=by simp[cellsOf]
theorem own_str {w:World}{B:Nat}{v:Value}{l m:List UInt8}(h:w.ownsRow B 5 1 v (l.length+(⟨m.toArray⟩:ByteArray).size) (cellsOf l++Lib.strCells ⟨m.toArray⟩)):w.ownsRow B 5 1 v (l++m).length (cellsOf (l++m)):=by
 rw[strCells_of,←cells_app] at h
 have e:l.length+(⟨m.toArray⟩:ByteArray).size=(l++m).length:=by simp[ByteArray.size]
 rw[e] at h
 exact h
theorem wrap_mul (g wd:Nat)(h:g*wd<=2501*32):IntKind.i64.wrap ((g:Int)*(wd:Int))=((g*wd:Nat):Int):=by
 have e:(g:Int)*(wd:Int)=((g*wd:Nat):Int):=by simp
 rw[e,IntKind.wrap_i64]
 omega
theorem div_room (n wd:Nat):(wd*n+7) / 8<=wd*((n+7) / 8):=by
 have h1:n<=8*((n+7) / 8):=by omega
 have h2:wd*n<=wd*(8*((n+7) / 8)):=Nat.mul_le_mul_left _ h1
 rw[Nat.mul_left_comm] at h2
 omega
theorem own_lit {w:World}{B:Nat}{v:Value}{l:List UInt8}{N k:Nat}(h:w.ownsRow B 5 1 v (l.length+k) (cellsOf l++cellsOf (Um.lit N k))):w.ownsRow B 5 1 v (l++Um.lit N k).length (cellsOf (l++Um.lit N k)):=by
 rw[←cells_app] at h
 have e:l.length+k=(l++Um.lit N k).length:=by simp[Um.lit_len]
 rw[e] at h
 exact h
theorem wrap_odd (g:Nat)(h:g<=100000):IntKind.u64.wrap (IntKind.i64.wrap (2*(g:Int)+1))=((2*g+1:Nat):Int):=by
 have e:IntKind.i64.wrap (2*(g:Int)+1)=2*(g:Int)+1:=by rw[IntKind.wrap_i64];omega
 rw[e,IntKind.wrap_u64]
 omega
theorem shut_none (w0:World)(Bl Bw Bb Bo:Nat)(a:Option Addr)(n c wd:Nat)(w:World)(bs:List UInt8)(op:Nat)(hI:RI w0 Bl Bw Bb Bo a n c wd w bs op)(hop:op<=20000) :
    Calls Tryz.prog 95 #[.int .i64 op,.pointer (some ⟨Bo,0,none⟩),.pointer (some ⟨Bb,0,none⟩),.pointer (some ⟨Bl,0,none⟩),.pointer (some ⟨Bw,0,none⟩)] w fun e w'=>e=.returned (.tuple #[])/\RI w0 Bl Bw Bb Bo a n c wd w' bs op:=by
 have HI:Hid (RI w0 Bl Bw Bb Bo a n c wd w bs op):=hI
 have cO:=cell_of_one hI.ho
 have hsub:(op:Int)-(op:Int)=((0:Nat):Int):=by omega
 clear hI
 go_enter Tryz.func95,Tryz.ntmps95
 go_wp2_with fail
 refine (eights_any 0 w (by omega)).mono ?_
 rintro e w1 ⟨rfl,hw⟩
 obtain rfl:=hw.symm
 go_wp2_with fail
 go_end0
 exact⟨rfl,HI.out⟩
set_option linter.unusedVariables false
theorem shut_some (w0:World)(Bl Bw Bb Bo:Nat)(a:Option Addr)(xs:List Int)(c wd:Nat)(w:World)(bs:List UInt8)(op en:Nat)(hI:RI w0 Bl Bw Bb Bo a xs.length c wd w bs op)(hne:Bl≠Bb/\Bw≠Bb/\Bo≠Bb)(hL:Lies w0 a (i64s xs))(hc:xs.length<=c)
    (hlen:xs.length<=20000) (hwd:wd<=32) (hr:∀j (h:j<xs.length),Room wd xs[j]) (hbs:bs.length<=10000000)
    (hoe:op<en) (hen:en<=xs.length) :
    Calls Tryz.prog 95 #[.int .i64 en,.pointer (some ⟨Bo,0,none⟩),.pointer (some ⟨Bb,0,none⟩),.pointer (some ⟨Bl,0,none⟩),.pointer (some ⟨Bw,0,none⟩)] w fun e w'=>e=.returned (.tuple #[])/\RI w0 Bl Bw Bb Bo a xs.length c wd w' (bs++Um.uv (2*((en-op+7) / 8)+1)++Um.lit (Um.num wd (nats ((xs.take en).drop op))) ((en-op+7) / 8*wd)) op:=by
 obtain⟨v,hb,hown⟩:=hI.hb
 have HI:Hid (RI w0 Bl Bw Bb Bo a xs.length c wd w bs op):=hI
 have HB:Hid (w.heap[Bb]? = some (.cells #[v] 58 (0,0))):=hb
 have HO:Hid (w.ownsRow w0.heap.size 5 1 v bs.length (cellsOf bs)):=hown
 have HL:Hid (Lies w0 a (i64s xs)):=hL
 have HR:Hid (∀j (h:j<xs.length),Room wd xs[j]):=hr
 have cB:=cell_of_one hb
 have fB:=free_of_one hb
 have cO:=cell_of_one hI.ho
 have cL:=cell_of_one hI.hl
 have cW:=cell_of_one hI.hw
 obtain⟨g,HGr⟩:∃g,Hid (g=(en-op+7) / 8):=⟨_,rfl⟩
 have hg0:0<g:=by rw[HGr.out];omega
 have hgb:g<=2501:=by rw[HGr.out];omega
 have hsub:(en:Int)-(op:Int)=((en-op:Nat):Int):=by omega
 have h2g:IntKind.i64.wrap (2*(g:Int))=2*(g:Int):=by rw[IntKind.wrap_i64];omega
 have HW2:Hid (IntKind.u64.wrap (IntKind.i64.wrap (2*(g:Int)+1))=((2*g+1:Nat):Int)):=wrap_odd g (by omega)
 have hul:=Um.uv_ten (n:=2*g+1) (by omega)
 obtain⟨i0,hi,hz0,hz1,hz2⟩:=info_parts Tryz.info5
 rw[←HGr.out]
 clear hI hb hown hL hr
 go_enter Tryz.func95,Tryz.ntmps95
 go_wp2_with fail
 refine (eights_any (en-op) w (by omega)).mono ?_
 rw[←HGr.out]
 rintro e w1 ⟨rfl,hw⟩
 obtain rfl:=hw.symm
 go_upto_region 2 with fail
 go_cut [] (fun wx=>Hid (RI w0 Bl Bw Bb Bo a xs.length c wd wx (bs++Um.uv (2*g+1)) op))
 case first =>
  go_region_law (first|(refine step_own_string rfl _ _ 58 9 rfl w0.heap.size 5 i0 Tryz.underlying58 Tryz.underlying9 hi hz0 hz1 hz2 v bs.length (cellsOf bs) rfl hown2 _ rfl (by unfold maxLen;simp[ByteArray.size];omega) (by simp[ByteArray.size];omega) (by have:=hI2.old.size;omega) ?_;intro v' w3 hown3 hgrow3;obtain⟨a3,c3,rfl,_⟩:=lies_own hown3;have cB3:=cell_of_one (kept_block hown2 hB2 (by decide) hgrow3);have fB3:=free_of_one (kept_block hown2 hB2 (by decide) hgrow3);have HP3:Hid _:=hI2.push hne hB2 hown2 hgrow3 (own_str hown3))|(rw[if_pos (by kernel_rfl)];go_simp;rw[HW2.out];refine (uvarint_any (2*g+1) _ (by omega)).mono ?_;rintro e w2 ⟨rfl,hb2⟩;have hI2:=HI.out.below ((Below.refl _ _).drew.trans hb2);have hB2:=below_block ((Below.refl _ _).drew.trans hb2) HB.out;have cB2:=cell_of_one hB2;have hown2:=own_kept HO.out ((Below.refl _ _).drew.trans hb2)))
  all_goals (go_wp2_with fail;go_meet;simp only[List.length_append] at HP3;exact HP3)
 case rest =>
  clear HI HB HO cB fB cO cL cW
  have HI:Hid (RI w0 Bl Bw Bb Bo a xs.length c wd wc (bs++Um.uv (2*g+1)) op):=hcut
  clear hcut
  have hb1:(bs++Um.uv (2*g+1)).length<=10000010:=by rw[List.length_append];omega
  generalize he1:bs++Um.uv (2*g+1)=bs1 at HI hb1
  have HE1:Hid (bs++Um.uv (2*g+1)=bs1):=he1
  clear he1
  obtain⟨b,o,rfl,_⟩:=lies_ints HL.out 0 (by omega)
  obtain⟨v,hb,hown⟩:=HI.out.hb
  have HB:Hid (wc.heap[Bb]? = some (.cells #[v] 58 (0,0))):=hb
  have HO:Hid (wc.ownsRow w0.heap.size 5 1 v bs1.length (cellsOf bs1)):=hown
  have cB:=cell_of_one hb
  have hS0:wc.cell? ⟨Bl,0,none⟩=some (.slice (some ⟨b,o,none⟩) xs.length c)/\wc.cell? ⟨Bo,0,none⟩=some (.int .i64 op)/\wc.cell? ⟨Bw,0,none⟩=some (.int .i64 wd):=⟨cell_of_one HI.out.hl,cell_of_one HI.out.ho,cell_of_one HI.out.hw⟩
  have hS1:wc.drew.cell? ⟨Bl,0,none⟩=some (.slice (some ⟨b,o,none⟩) xs.length c)/\wc.drew.cell? ⟨Bo,0,none⟩=some (.int .i64 op)/\wc.drew.cell? ⟨Bw,0,none⟩=some (.int .i64 wd):=by simpa using hS0
  have cL:=hS0.1
  have cO:=hS0.2.1
  have cW:=hS0.2.2
  clear hS0 hS1
  have hsl:((xs.take en).drop op).length=en-op:=by simp;omega
  have hs1:op<=en:=by omega
  have hs2:en<=c:=by omega
  have hs3:¬ c=op:=by omega
  have hs4:(op:Int)<=(en:Int):=by omega
  have hs5:(en:Int)<=(c:Int):=by omega
  have hgw:g*wd<=2501*32:=Nat.mul_le_mul hgb hwd
  have HMul:Hid (IntKind.i64.wrap ((g:Int)*(wd:Int))=((g*wd:Nat):Int)):=wrap_mul g wd hgw
  have hp := pack_ints ((xs.take en).drop op) wd (g * wd) (some ⟨b, o + op, none⟩) (c - op) wc.drew (by rw [hsl]; omega) hwd (fun j h => by
      rw[hsl] at h
      rw[List.getElem_drop,List.getElem_take]
      exact HR.out _ (by omega)) (by rw[hsl,HGr.out,Nat.mul_comm ((en-op+7) / 8)];exact div_room _ _) (by omega) (fun j h=>by
      rw[hsl] at h
      obtain⟨b2,o2,e2,hc2⟩:=lies_ints HL.out (op+j) (by omega)
      obtain⟨rfl,rfl⟩:b=b2/\o=o2:=by injection e2 with e2;injection e2 with x y;exact⟨x,y⟩
      refine⟨b,o+op,rfl,?_⟩
      have hlt:=World.block_lt_of_cell? w0 _ hc2
      have hc3:=(HI.out.old.cell hlt).trans hc2
      rw[List.getElem_drop,List.getElem_take,Nat.add_assoc]
      simpa using hc3)
  rw[hsl] at hp
  go_wp2_with fail
  go_region_law (first|(refine step_own_slice rfl _ _ 58 rfl w0.heap.size 5 i0 (.int .u8 0) 1 1 Tryz.underlying58 hi hz0 hz1 hz2 rfl (by decide) v bs1.length (cellsOf bs1) rfl hown2 ⟨wc.drew.heap.size,0,none⟩ (g*wd) (g*wd) (cellsOf (Um.lit (Um.num wd (nats ((xs.take en).drop op))) (g*wd))) rfl (by simp[cellsOf,Um.lit_len]) (hpk2.cells rfl) (by intro u hu;obtain⟨x,_,rfl⟩:=List.mem_map.1 hu;rfl) (by unfold maxLen;omega) (by omega) (by have:=hI2.old.size;omega) ?_;intro v' w3 hown3 hgrow3;obtain⟨a3,c3,rfl,_⟩:=lies_own hown3;have cB3:=cell_of_one (kept_block hown2 hB2 (by decide) hgrow3);have fB3:=free_of_one (kept_block hown2 hB2 (by decide) hgrow3);have HP3:Hid _:=hI2.push ⟨hne.1,hne.2.1,hne.2.2⟩ hB2 hown2 hgrow3 (own_lit hown3))|(rw[if_pos (by kernel_rfl)];go_simp;rw[HMul.out];refine hp.mono ?_;rintro e w2 ⟨⟨rfl,hpk2⟩,hb2⟩;have hI2:=HI.out.below ((Below.refl _ _).drew.trans hb2);have hB2:=below_block ((Below.refl _ _).drew.trans hb2) HB.out;have cB2:=cell_of_one hB2;have hown2:=own_kept HO.out ((Below.refl _ _).drew.trans hb2)))
  all_goals (clear hp;go_wp2_with fail;go_end0;refine⟨rfl,?_⟩;rw[HE1.out];simp only[List.length_append] at HP3;exact HP3)
set_option linter.unusedVariables false
theorem RI.setOpen {w0:World}{Bl Bw Bb Bo:Nat}{a:Option Addr}{n c wd:Nat}{w:World}{bs:List UInt8}{op:Nat}(h:RI w0 Bl Bw Bb Bo a n c wd w bs op)(hne:Bl≠Bo/\Bw≠Bo/\Bb≠Bo)(op':Nat) :
    RI w0 Bl Bw Bb Bo a n c wd (w.setCell ⟨Bo,0,none⟩ (.int .i64 op')) bs op':=by
 obtain⟨v,h1,h2⟩:=h.hb
 exact⟨one_other h.hl hne.1 _,one_other h.hw hne.2.1 _,one_setCell h.ho,⟨v,one_other h1 hne.2.2 _,ownsRow_setCell_other h2 (own_apart h2 h.ho (by decide)) _⟩,h.old.setCell h.new.2 _,h.new⟩
theorem RI.start (w w1:World)(a:Option Addr)(n c wd:Nat)(hb:Below ((w.alloc (.cells #[.slice a n c] 22)).alloc (.cells #[.int .i64 wd] 3)).heap.size ((w.alloc (.cells #[.slice a n c] 22)).alloc (.cells #[.int .i64 wd] 3)) w1) :
    RI w w.heap.size (w.heap.size+1) w1.heap.size (w1.heap.size+1) a n c wd ((w1.alloc (.cells #[.slice none 0 0] 58)).alloc (.cells #[.int .i64 ((0:Nat):Int)] 3)) [] 0:=by
 have hsz:w.heap.size+2<=w1.heap.size:=by have:=hb.size;simpa using this
 have hb0:Below w.heap.size w w1:=(((Below.refl _ w).alloc (Nat.le_refl _) _).alloc (by simp) _).trans (hb.mono (by simp;omega))
 have hw1:Below w1.heap.size w1 ((w1.alloc (.cells #[.slice none 0 0] 58)).alloc (.cells #[.int .i64 ((0:Nat):Int)] 3)):=((Below.refl _ w1).alloc (Nat.le_refl _) _).alloc (by simp) _
 have k1:w1.heap[w.heap.size]? = some (.cells #[.slice a n c] 22 (0,0)):=(hb.block _ (by simp;omega)).trans (heap_alloc2_old w _ _)
 have k2:w1.heap[w.heap.size+1]? = some (.cells #[.int .i64 wd] 3 (0,0)):=(hb.block _ (by simp)).trans (heap_alloc2_new w _ _)
 refine⟨below_block hw1 k1,below_block hw1 k2,heap_alloc2_new w1 _ _,⟨.slice none 0 0,heap_alloc2_old w1 _ _,World.ownsRow_nil _ _ _ _⟩,hb0.trans (hw1.mono hb0.size),by omega,by omega⟩
theorem pend_step (xs:List Int)(op i:Nat)(ho:op<=i)(hi:i<=xs.length):(xs.take (min (i+8) xs.length)).drop op=(xs.take i).drop op++(xs.drop i).take 8:=by
 apply List.ext_getElem?
 intro j
 by_cases hj:j<i-op
 · rw[List.getElem?_append_left (by simp;omega),List.getElem?_drop,List.getElem?_drop,List.getElem?_take,List.getElem?_take,if_pos (by omega),if_pos (by omega)]
 · rw[List.getElem?_append_right (by simp;omega),List.getElem?_drop,List.getElem?_take,List.getElem?_take,List.getElem?_drop]
   have e:(List.drop op (List.take i xs)).length=i-op:=by simp;omega
   rw[e]
   by_cases h8:j-(i-op)<8
   · rw[if_pos h8]
     have e2:i+(j-(i-op))=op+j:=by omega
     rw[e2]
     by_cases hl:op+j<min (i+8) xs.length
     · rw[if_pos hl]
     · rw[if_neg hl,List.getElem?_eq_none (by omega)]
   · rw[if_neg h8,if_neg (by omega)]
set_option linter.unusedVariables false
theorem wrap_twice (c:Nat)(h:c<=100000):IntKind.u64.wrap (IntKind.i64.wrap (2*(c:Int)))=((2*c:Nat):Int):=by
 have e:IntKind.i64.wrap (2*(c:Int))=2*(c:Int):=by rw[IntKind.wrap_i64];omega
 rw[e,IntKind.wrap_u64]
 omega
theorem shut_any (w0:World)(Bl Bw Bb Bo:Nat)(a:Option Addr)(xs:List Int)(c wd:Nat)(w:World)(bs:List UInt8)(op en:Nat)(hI:RI w0 Bl Bw Bb Bo a xs.length c wd w bs op)(hne:Bl≠Bb/\Bw≠Bb/\Bo≠Bb)(hL:Lies w0 a (i64s xs))(hc:xs.length<=c)
    (hlen:xs.length<=20000) (hwd:wd<=32) (hr:∀j (h:j<xs.length),Room wd xs[j]) (hbs:bs.length<=10000000) (hoe:op<=en) (hen:en<=xs.length) :
    Calls Tryz.prog 95 #[.int .i64 en,.pointer (some ⟨Bo,0,none⟩),.pointer (some ⟨Bb,0,none⟩),.pointer (some ⟨Bl,0,none⟩),.pointer (some ⟨Bw,0,none⟩)] w fun e w'=>e=.returned (.tuple #[])/\RI w0 Bl Bw Bb Bo a xs.length c wd w' (bs++Um.flush wd ((xs.take en).drop op)) op:=by
 have hpl:((xs.take en).drop op).length=en-op:=by simp;omega
 by_cases h:op=en
 · subst h
   have e:Um.flush wd ((xs.take op).drop op)=[]:=by unfold Um.flush;rw[if_pos (by rw[hpl];omega)]
   rw[e,List.append_nil]
   exact shut_none w0 Bl Bw Bb Bo a xs.length c wd w bs op hI (by omega)
 · have e:Um.flush wd ((xs.take en).drop op)=Um.uv (2*((en-op+7) / 8)+1)++Um.lit (Um.num wd (nats ((xs.take en).drop op))) ((en-op+7) / 8*wd):=by unfold Um.flush;rw[if_neg (by rw[hpl];omega),hpl]
   rw[e,←List.append_assoc]
   exact shut_some w0 Bl Bw Bb Bo a xs c wd w bs op en hI hne hL hc hlen hwd hr hbs (by omega) hen
theorem flush_len (wd:Nat)(p:List Int)(h:p.length<=1000)(hwd:wd<=32):(Um.flush wd p).length<=4100:=by
 unfold Um.flush
 split
 · simp
 · have h1:=Um.uv_ten (n:=2*((p.length+7) / 8)+1) (by omega)
   have h2:(p.length+7) / 8*wd<=125*32:=Nat.mul_le_mul (by omega) hwd
   rw[List.length_append,Um.lit_len]
   omega
theorem own_conv_any {w:World}{base n:Nat}{v:Value}{l:List UInt8}(hl:l.length=n)(h:w.ownsRow base 5 1 v n (cellsOf l)):(convert 58 9 v).run Tryz.prog w=.ok (.string ⟨l.toArray⟩) w:=by
 rcases h.2 with ⟨rfl,hn⟩|⟨g,cap,cur,rfl,_,_⟩
 · obtain rfl:l=[]:=List.eq_nil_of_length_eq_zero (by omega)
   rfl
 · exact own_conv_at hl h
structure RL (xs:List Int) (wd:Nat) (w:World) (Bl Bw Bb Bo:Nat) (a:Option Addr) (c:Nat) (x:Value) (wr:World) (bs:List UInt8) (op i:Nat):Prop where
 hx:x=.int .i64 i
 le:i<=xs.length
 ri:RI w Bl Bw Bb Bo a xs.length c wd wr bs op
 oi:op<=i
 tot:bs++Um.wrs wd ((xs.take i).drop op) (xs.drop i)=Um.wrs wd [] xs
 bl:bs.length<=5000*op
theorem runsF_any (a:Option Addr)(xs:List Int)(c k:Nat)(w:World)(st:TypeId)(sp:Value)(hn:xs.length<=1000)(hcap:xs.length<=c)(hk:k<=32)(hg:w.cell? ⟨0,0,none⟩=some (.iface st sp))
    (hx:∀j (h:j<xs.length),-9223372036854775808<=xs[j]/\xs[j]<=9223372036854775807) (hl:Lies w a (i64s xs)) :
    Calls Tryz.prog 59 #[.slice a xs.length c,.int .i64 k] w fun e w' =>
     ((e=.returned (.tuple #[.string ⟨(Um.wrs k [] xs).toArray⟩,.nilIface])/\∀j (h:j<xs.length),Room k xs[j]) ∨
      (∃i p,∃hi:i<xs.length,e=.returned (.tuple #[.string ⟨#[]⟩,.iface 83 (.pointer (some ⟨p,0,none⟩))])/\(∀j (h:j<xs.length),j<i->Room k xs[j])/\¬ Room k xs[i]/\w'.cell? ⟨p,0,none⟩=some (.int .i64 i)/\w'.cell? ⟨p,1,none⟩=some (.iface st sp)))/\Below w.heap.size w w':=by
 have hb0:Below w.heap.size w ((w.alloc (.cells #[.slice a xs.length c] 22)).alloc (.cells #[.int .i64 k] 3)):=((Below.refl _ _).alloc (Nat.le_refl _) _).alloc (by simp) _
 have HG:Hid (((w.alloc (.cells #[.slice a xs.length c] 22)).alloc (.cells #[.int .i64 k] 3)).cell? ⟨0,0,none⟩=some (.iface st sp)):=(hb0.cell (World.block_lt_of_cell? w _ hg)).trans hg
 have HX:Hid (∀j (h:j<xs.length),-9223372036854775808<=xs[j]/\xs[j]<=9223372036854775807):=hx
 have HL:Hid (Lies w a (i64s xs)):=hl
 clear hg hx hl
 go_enter Tryz.func59,Tryz.ntmps59
 go_wp2_with fail
 refine (check_any a xs c k _ st sp (by omega) hk HG.out HX.out (lies_ints (HL.out.keep hb0))).mono ?_
 rintro e w1 ⟨⟨rfl,hR⟩|⟨i,p,hi,rfl,h1,h2,h3,h4⟩,hb1⟩
 · have HR:Hid (∀j (h:j<xs.length),Room k xs[j]):=hR
   have HS:Hid (RI w w.heap.size (w.heap.size+1) w1.heap.size (w1.heap.size+1) a xs.length c k ((w1.alloc (.cells #[.slice none 0 0] 58)).alloc (.cells #[.int .i64 ((0:Nat):Int)] 3)) [] 0):=RI.start w w1 a xs.length c k hb1
   have hsz:w.heap.size+2<=w1.heap.size:=by have:=hb1.size;simpa using this
   have hmf:∀(fn:Fn) (first cap:Array Value) (W:World),(Instr.makeFunc fn first cap).run Tryz.prog W=.ok (.func fn first cap) W:=fun _ _ _ _=>rfl
   clear hR
   go_wp2_with fail
   go_loopw [10] (fun x wr=>∃(bs:List UInt8) (op i:Nat),Hid (RL xs k w w.heap.size (w.heap.size+1) w1.heap.size (w1.heap.size+1) a c x wr bs op i)) (fun x _=>xs.length-(intOf x).toNat)
   case atStart=>exact⟨[],0,0,⟨rfl,Nat.zero_le _,HS.out,Nat.le_refl _,by simp,Nat.le_refl _⟩⟩
   case round =>
    obtain⟨bs,op,i,HRL⟩:=hrel
    obtain⟨rfl,hle,hri,hoi,_,hbl⟩:=HRL.out
    have HI:Hid (RI w w.heap.size (w.heap.size+1) w1.heap.size (w1.heap.size+1) a xs.length c k wr bs op):=hri
    have cL:=cell_of_one hri.hl
    clear hri
    by_cases hlt:i<xs.length
    · have hlp:=Um.lead_pos (l:=xs.drop i) (by rw[List.length_drop];omega)
      have hll:=Um.lead_le (xs.drop i)
      rw[List.length_drop] at hll
      go_wp2_with fail
      refine (sameFrom_any a c xs i wr (by omega) hlt (HL.out.keep HI.out.old)).mono ?_
      generalize hlde:Um.lead (xs.drop i)=ld at hlp hll
      have HLd:Hid (Um.lead (xs.drop i)=ld):=hlde
      clear hlde
      rintro e w2 ⟨rfl,hb2⟩
      have HI2:Hid (RI w w.heap.size (w.heap.size+1) w1.heap.size (w1.heap.size+1) a xs.length c k w2 bs op):=HI.out.below hb2
      have cL2:=cell_of_one HI2.out.hl
      by_cases h8:ld<8
      · have hd8:decide ((ld:Int)<8)=true:=by simp;omega
        have HT:Hid (bs++Um.wrs k ((xs.take (min (i+8) xs.length)).drop op) (xs.drop (min (i+8) xs.length))=Um.wrs k [] xs):=by
         show _=_
         rw[←HRL.out.tot,Um.wrs_short k _ (xs.drop i) (by rw[List.length_drop];omega) (by rw[HLd.out];exact h8),pend_step xs op i hoi hle,List.drop_drop]
         congr 2
         by_cases hm:i+8<=xs.length
         · rw[Nat.min_eq_left hm]
         · rw[Nat.min_eq_right (by omega),List.drop_of_length_le (by omega),List.drop_of_length_le (by omega)]
        by_cases hm:i+8<=xs.length
        · rw[Nat.min_eq_left hm] at HT
          go_wp2_with fail
          all_goals go_roundw
          all_goals first
           | (exact⟨bs,op,i+8,⟨by go_num,hm,HI2.out,by omega,HT.out,hbl⟩⟩)
           | (simp[intOf];omega)
        · rw[Nat.min_eq_right (by omega)] at HT
          have hm2:xs.length<i+8:=by omega
          go_wp2_with fail
          all_goals go_roundw
          all_goals first
           | (exact⟨bs,op,xs.length,⟨by go_num,Nat.le_refl _,HI2.out,by omega,HT.out,hbl⟩⟩)
           | (simp[intOf];omega)
      · have hd8:decide ((ld:Int)<8)=false:=by simp;omega
        have HLo:Hid (bs++Um.flush k ((xs.take i).drop op)++Um.uv (2*ld)++Um.lit xs[i].toNat ((k+7) / 8)++Um.wrs k [] (xs.drop (i+ld))=Um.wrs k [] xs):=by
         show _=_
         have hh:(xs.drop i).headD 0=xs[i]:=by rw[List.drop_eq_getElem_cons hlt];rfl
         rw[←HRL.out.tot,Um.wrs_long k _ (xs.drop i) (by rw[HLd.out];exact h8),HLd.out,hh,List.drop_drop]
         simp only[List.append_assoc]
        have hfl:=flush_len k ((xs.take i).drop op) (by simp;omega) hk
        have huv:=Um.uv_ten (n:=2*ld) (by omega)
        have HW2:Hid (IntKind.u64.wrap (IntKind.i64.wrap (2*(ld:Int)))=((2*ld:Nat):Int)):=wrap_twice ld (by omega)
        obtain⟨i0,hi,hz0,hz1,hz2⟩:=info_parts Tryz.info5
        go_wp2_with fail
        refine (shut_any w w.heap.size (w.heap.size+1) w1.heap.size (w1.heap.size+1) a xs c k w2 bs op i HI2.out ⟨by omega,by omega,by omega⟩ HL.out hcap (by omega) hk HR.out (by omega) hoi hle).mono ?_
        rintro e w3 ⟨rfl,hI3⟩
        have hb1l:(bs++Um.flush k ((xs.take i).drop op)).length<=5000*op+4100:=by rw[List.length_append];omega
        generalize hb1e:bs++Um.flush k ((xs.take i).drop op)=bs1 at hI3 hb1l HLo
        have HI3:Hid (RI w w.heap.size (w.heap.size+1) w1.heap.size (w1.heap.size+1) a xs.length c k w3 bs1 op):=hI3
        obtain⟨v,hvb,hvo⟩:=hI3.hb
        have HB:Hid (w3.heap[w1.heap.size]? = some (.cells #[v] 58 (0,0))):=hvb
        have HO:Hid (w3.ownsRow w.heap.size 5 1 v bs1.length (cellsOf bs1)):=hvo
        have cB:=cell_of_one hvb
        have hne:w.heap.size≠w1.heap.size/\w.heap.size+1≠w1.heap.size/\w1.heap.size+1≠w1.heap.size:=⟨by omega,by omega,by omega⟩
        clear hb1e hI3 hvb hvo
        go_upto_region 13 with fail
        go_cut [] (fun wx=>Hid (RI w w.heap.size (w.heap.size+1) w1.heap.size (w1.heap.size+1) a xs.length c k wx (bs1++Um.uv (2*ld)) op))
        case first =>
         go_region_law (first|(refine step_own_string rfl _ _ 58 9 rfl w.heap.size 5 i0 Tryz.underlying58 Tryz.underlying9 hi hz0 hz1 hz2 v bs1.length (cellsOf bs1) rfl hown5 _ rfl (by unfold maxLen;simp[ByteArray.size];omega) (by simp[ByteArray.size];omega) (by have:=hI5.old.size;omega) ?_;intro v' w6 hown6 hgrow6;obtain⟨a3,c3,rfl,_⟩:=lies_own hown6;have cB6:=cell_of_one (kept_block hown5 hB5 (by decide) hgrow6);have fB6:=free_of_one (kept_block hown5 hB5 (by decide) hgrow6);have HP6:Hid _:=hI5.push hne hB5 hown5 hgrow6 (own_str hown6))|(rw[if_pos (by kernel_rfl)];go_simp;rw[HW2.out];refine (uvarint_any (2*ld) _ (by omega)).mono ?_;rintro e w5 ⟨rfl,hb5⟩;have hI5:=HI3.out.below ((Below.refl _ _).drew.trans hb5);have hB5:=below_block ((Below.refl _ _).drew.trans hb5) HB.out;have cB5:=cell_of_one hB5;have hown5:=own_kept HO.out ((Below.refl _ _).drew.trans hb5)))
         all_goals (go_wp2_with fail;go_meet;simp only[List.length_append] at HP6;exact HP6)
        case rest =>
         clear HI3 HB HO cB
         have HI4:Hid (RI w w.heap.size (w.heap.size+1) w1.heap.size (w1.heap.size+1) a xs.length c k wc (bs1++Um.uv (2*ld)) op):=hcut
         clear hcut
         have hb2l:(bs1++Um.uv (2*ld)).length<=5000*op+4110:=by rw[List.length_append];omega
         generalize bs1++Um.uv (2*ld)=bs2 at HI4 hb2l HLo
         obtain⟨b,o,rfl,_⟩:=lies_ints HL.out i hlt
         obtain⟨v,hvb,hvo⟩:=HI4.out.hb
         have HB:Hid (wc.heap[w1.heap.size]? = some (.cells #[v] 58 (0,0))):=hvb
         have HO:Hid (wc.ownsRow w.heap.size 5 1 v bs2.length (cellsOf bs2)):=hvo
         have cB:=cell_of_one hvb
         have cL4:=cell_of_one HI4.out.hl
         have cW4:=cell_of_one HI4.out.hw
         obtain⟨z,HZ⟩:∃z,Hid (z=(k+7) / 8):=⟨_,rfl⟩
         have hz4:z<=4:=by rw[HZ.out];omega
         rw[←HZ.out] at HLo
         obtain⟨i1,HI1⟩:∃i1,Hid (i1=i+1):=⟨_,rfl⟩
         have hwi:IntKind.i64.wrap ((i:Int)+1)=(i1:Int):=by rw[IntKind.wrap_i64,HI1.out];omega
         have hs1:i<=i1:=by rw[HI1.out];omega
         have hs2:i1<=c:=by rw[HI1.out];omega
         have hs3:¬ c=i:=by omega
         have hs4:(i:Int)<=(i1:Int):=by omega
         have hs5:(i1:Int)<=(c:Int):=by omega
         have hsl:((xs.take (i+1)).drop i).length=i1-i:=by rw[HI1.out];simp;omega
         have hone:(xs.take (i+1)).drop i=[xs[i]]:=by
          rw[List.take_succ_eq_append_getElem hlt,List.drop_append_of_le_length (by simp;omega),List.drop_of_length_le (by rw[List.length_take];omega)];simp
         have hp:=pack_ints ((xs.take (i+1)).drop i) k z (some ⟨b,o+i,none⟩) (c-i) wc.drew (by rw[hsl,HI1.out];omega) hk (fun j h=>by
          rw[hsl] at h
          rw[List.getElem_drop,List.getElem_take]
          exact HR.out _ (by have:=HI1.out;omega)) (by rw[hsl,HI1.out,HZ.out,show i+1-i=1 by omega,Nat.mul_one];exact Nat.le_refl _) (by omega) (fun j h=>by
          rw[hsl] at h
          have hj0:j=0:=by have:=HI1.out;omega
          subst hj0
          obtain⟨b2,o2,e2,hc2⟩:=lies_ints HL.out i hlt
          obtain⟨rfl,rfl⟩:b=b2/\o=o2:=by injection e2 with e2;injection e2 with x y;exact⟨x,y⟩
          refine⟨b,o+i,rfl,?_⟩
          have hc3:=(HI4.out.old.cell (World.block_lt_of_cell? w _ hc2)).trans hc2
          rw[List.getElem_drop,List.getElem_take]
          simpa using hc3)
         rw[hsl,hone] at hp
         have hnum:Um.num k (nats [xs[i]])=xs[i].toNat:=by simp[nats,Um.num]
         rw[hnum] at hp
         clear hvb hvo hsl hone hnum
         go_upto_region 14 with fail
         go_cut [] (fun wx=>Hid (RI w w.heap.size (w.heap.size+1) w1.heap.size (w1.heap.size+1) (some ⟨b,o,none⟩) xs.length c k wx (bs2++Um.lit xs[i].toNat z) op))
         case first =>
          go_region_law (first|(refine step_own_slice rfl _ _ 58 rfl w.heap.size 5 i0 (.int .u8 0) 1 1 Tryz.underlying58 hi hz0 hz1 hz2 rfl (by decide) v bs2.length (cellsOf bs2) rfl hown5 ⟨wc.drew.heap.size,0,none⟩ z z (cellsOf (Um.lit xs[i].toNat z)) rfl (by simp[cellsOf,Um.lit_len]) (hpk5.cells rfl) (by intro u hu;obtain⟨x,_,rfl⟩:=List.mem_map.1 hu;rfl) (by unfold maxLen;omega) (by omega) (by have:=hI5.old.size;omega) ?_;intro v' w6 hown6 hgrow6;obtain⟨a3,c3,rfl,_⟩:=lies_own hown6;have cB6:=cell_of_one (kept_block hown5 hB5 (by decide) hgrow6);have fB6:=free_of_one (kept_block hown5 hB5 (by decide) hgrow6);have HP6:Hid _:=hI5.push hne hB5 hown5 hgrow6 (own_lit hown6))|(rw[if_pos (by kernel_rfl)];go_simp;refine (eights_any k _ (by omega)).mono ?_;rw[←HZ.out];rintro e wy ⟨rfl,hwy⟩;subst hwy)|(rw[if_pos (by kernel_rfl)];go_simp;refine hp.mono ?_;rintro e w5 ⟨⟨rfl,hpk5⟩,hb5⟩;have hI5:=HI4.out.below ((Below.refl _ _).drew.trans hb5);have hB5:=below_block ((Below.refl _ _).drew.trans hb5) HB.out;have cB5:=cell_of_one hB5;have hown5:=own_kept HO.out ((Below.refl _ _).drew.trans hb5)))
          all_goals (clear hp;go_wp2_with fail;go_meet;simp only[List.length_append] at HP6;exact HP6)
         case rest =>
          clear hp cB cL4 cW4
          have hI6:RI w w.heap.size (w.heap.size+1) w1.heap.size (w1.heap.size+1) (some ⟨b,o,none⟩) xs.length c k wc (bs2++Um.lit xs[i].toNat z) op:=hcut
          have HI6:Hid (∀op',RI w w.heap.size (w.heap.size+1) w1.heap.size (w1.heap.size+1) (some ⟨b,o,none⟩) xs.length c k (wc.setCell ⟨w1.heap.size+1,0,none⟩ (.int .i64 ((op':Nat):Int))) (bs2++Um.lit xs[i].toNat z) op'):=fun op'=>hI6.setOpen ⟨by omega,by omega,by omega⟩ op'
          have cO6:=cell_of_one hI6.ho
          have fO6:=free_of_one hI6.ho
          clear hcut hI6
          go_wp2_with fail
          go_roundw
          case rel=>exact⟨bs2++Um.lit xs[i].toNat z,i+ld,i+ld,⟨by go_num,by omega,HI6.out (i+ld),Nat.le_refl _,by rw[List.drop_of_length_le (show (xs.take (i+ld)).length<=i+ld by rw[List.length_take];omega)];exact HLo.out,by rw[List.length_append,Um.lit_len];omega⟩⟩
          case measure=>simp[intOf];omega
    · obtain rfl:i=xs.length:=by omega
      have HTot:Hid (bs++Um.flush k ((xs.take xs.length).drop op)=Um.wrs k [] xs):=by
       have h:=HRL.out.tot
       rw[List.drop_of_length_le (Nat.le_refl _),Um.wrs_nil] at h
       exact h
      go_wp2_with fail
      refine (shut_any w w.heap.size (w.heap.size+1) w1.heap.size (w1.heap.size+1) a xs c k wr bs op xs.length HI.out ⟨by omega,by omega,by omega⟩ HL.out hcap (by omega) hk HR.out (by omega) hoi (Nat.le_refl _)).mono ?_
      rw[HTot.out]
      rintro e w3 ⟨rfl,hI3⟩
      obtain⟨v,hvb,hvo⟩:=hI3.hb
      have cB:=cell_of_one hvb
      have hcv:=own_conv_any rfl hvo
      have HOld:Hid (Below w.heap.size w w3):=hI3.old
      clear hI3 hvb hvo
      go_wp2_with fail
      go_ret2
      exact⟨Or.inl ⟨rfl,HR.out⟩,HOld.out⟩
 · go_wp2_with fail
   go_ret2
   exact⟨Or.inr ⟨i,p,hi,rfl,h1,h2,h3,h4⟩,hb0.trans (hb1.mono (by simp;omega))⟩
end Go.Proofs.YtoeiahdjamkdgaaGreatDoor
