/-
  The reader of stats: a value.
  The reader of a page's body: a text of whatever length.
-/
import Derived.Test.YtoeiahdjamkdgaaGreatDoorWRsA
import Derived.Test.YtoeiahdjamkdgaaGreatDoorWBWordsMath
import Derived.Deep.Cut
set_option maxRecDepth 100000
set_option maxHeartbeats 3200000
namespace Go.Proofs.YtoeiahdjamkdgaaGreatDoor
open Go.RowKit
theorem Um.rdv_none0:∀{l:List UInt8} {i n m:Nat},Um.rdv l i n=(m,0)->m=0
 | [],_,_,_,h=>by cases h;rfl
 | b :: r,i,n,m,h=>by
  rw[Um.rdv] at h
  split at h
  · cases h;rfl
  · split at h
    · split at h
      · cases h;rfl
      · cases h
    · exact Um.rdv_none0 h
theorem PFr.setNew {r g j:Nat}{W w':World}{v:Value}(h:PFr r W w')(hg:W.heap.size<=g):PFr r W (w'.setCell ⟨g,j,none⟩ v):=⟨h.os,h.tape,h.output,by simpa using h.size,fun k hk hne=>(Below.heap_setCell w' ⟨g,j,none⟩ v k (show k≠g by omega)).trans (h.keep k hk hne)⟩
theorem Rdr.off {T:TypeId}{X:World}{R:Nat}{s:ByteArray}{f:Bool}(h:Rdr T X R s f){g j:Nat}{v:Value}(hg:R≠g):Rdr T (X.setCell ⟨g,j,none⟩ v) R s f:=(Below.heap_setCell X ⟨g,j,none⟩ v R hg).trans h
structure TxAt (s:ByteArray) (n k:Nat):Prop where
 pos:0<k
 rd:Um.rdv s.data.toList 0 0=(n,k)
 most:n<=200000
 fit:k+n<=s.size
theorem TxAt.fn {s:ByteArray}{n k n' k':Nat}(h:TxAt s n k)(h':TxAt s n' k'):n=n'/\k=k':=by
 have h1:=h.rd
 rw[h'.rd] at h1
 cases h1
 exact⟨rfl,rfl⟩
def TxtR (s:ByteArray)(ev:Value)(e:Ending):Prop :=
 (∃n k,TxAt s n k/\e=.returned (.tuple #[.string (s.extract k (k+n)),.int .i64 ((k:Int)+n),.nilIface]))\/((¬ ∃n k,TxAt s n k)/\e=.returned (.tuple #[.string ⟨#[]⟩,.int .i64 0,ev]))
theorem readText_x (s:ByteArray)(W:World)(st:TypeId)(sp:Value)(hs:s.size<=1000000)(hg:W.cell? ⟨2,0,none⟩=some (.iface st sp)) :
    Calls Tryz.prog 170 #[.string s] W fun e w'=>TxtR s (.iface st sp) e/\Below W.heap.size W w':=by
 obtain⟨n,k,hnk⟩:∃n k,Um.rdv s.data.toList 0 0=(n,k):=⟨_,_,rfl⟩
 by_cases h0:k=0
 · subst h0
   have hn0:n=0:=by
    have:=Um.rdv_none0 hnk
    exact this
   subst hn0
   refine (readT_none s W st sp (by unfold maxLen;omega) hg hnk).mono fun e w' h=>⟨.inr ⟨?_,h.1⟩,h.2⟩
   rintro ⟨n',k',h'⟩
   have h1:=h'.rd
   rw[hnk] at h1
   cases h1
   exact absurd h'.pos (by omega)
 · by_cases hf:n<=200000/\k+n<=s.size
   · exact (readT_hit s W (.iface st sp) n k (by omega) hg hnk (by omega) hf.1 hf.2).mono fun e w' h=>⟨.inl ⟨n,k,⟨by omega,hnk,hf.1,hf.2⟩,h.1⟩,h.2⟩
   · refine (readT_long s W (.iface st sp) n k hs hg hnk (by omega) (by omega)).mono fun e w' h=>⟨.inr ⟨?_,h.1⟩,h.2⟩
     rintro ⟨n',k',h'⟩
     have h1:=h'.rd
     rw[hnk] at h1
     cases h1
     exact hf ⟨h'.most,h'.fit⟩
def VlAt (s:ByteArray)(kd:Int)(n k:Nat)(v:Vl):Prop:=TxAt s n k/\IsPl kd (s.extract k (k+n)).data.toList 1 [v]
def ValR (R:Nat)(s:ByteArray)(f:Bool)(kd:Int)(e:Ending)(w':World):Prop :=
 (∃n k v,VlAt s kd n k v/\e=.returned (.agg #[.int .i64 v.k,.int .i64 v.n,.string v.s])/\Rdr 219 w' R (s.extract (k+n) s.size) f) ∨
 ((¬ ∃n k v,VlAt s kd n k v)/\e=.returned (.agg #[.int .i64 0,.int .i64 0,.string ⟨#[]⟩])/\Rdr 219 w' R s true)
theorem row_three3 {w:World}{g e:Nat}{x y z:Value}(h:w.heap[g]? = some (.cells #[x,y,z] e (0,0))):w.frozen? ⟨g,0,none⟩=false/\w.frozen? ⟨g,1,none⟩=false/\w.frozen? ⟨g,2,none⟩=false:=by
 refine⟨?_,?_,?_⟩<;>simp[World.frozen?,h]
theorem rvalue_any (R:Nat)(s:ByteArray)(f:Bool)(kd:Int)(W:World)(hR:Rdr 219 W R s f)(hs:s.size<=1000000)(hk1:1<=kd)(hk5:kd<=5)(st:TypeId)(sp:Value)(hg:W.cell? ⟨2,0,none⟩=some (.iface st sp)) :
    Calls Tryz.prog (162) #[.pointer (some ⟨R,0,none⟩),.int .i64 kd] W fun e w'=>ValR R s f kd e w'/\PFr R W w':=by
 have hRW:=lt_of_block hR
 have hne:R≠W.heap.size:=by omega
 have hne2:W.heap.size≠R:=by omega
 have hb0:Below W.heap.size W (W.alloc (.cells #[.int .i64 0,.int .i64 0,.string ⟨#[]⟩] 46)):=(Below.refl _ _).alloc (Nat.le_refl _) _
 have HV0:Hid ((W.alloc (.cells #[.int .i64 0,.int .i64 0,.string ⟨#[]⟩] 46)).heap[W.heap.size]? = some (.cells #[.int .i64 0,.int .i64 0,.string ⟨#[]⟩] 46 (0,0))):=heap_alloc_new W _
 obtain⟨w0,HW0⟩:∃w0,Hid (W.alloc (.cells #[.int .i64 0,.int .i64 0,.string ⟨#[]⟩] 46)=w0):=⟨_,rfl⟩
 rw[HW0.out] at hb0 HV0
 have HB0:Hid (Below W.heap.size W w0):=hb0
 have HR0:Hid (Rdr 219 w0 R s f):=hR.keep hb0
 have HG0:Hid (∀X,Below w0.heap.size w0 X->X.cell? ⟨2,0,none⟩=some (.iface st sp)):=fun X hX=>((hb0.trans (hX.mono hb0.size)).cell (World.block_lt_of_cell? W _ hg)).trans hg
 obtain⟨⟨c0,c1⟩,c2,c3⟩:=HR0.out.cells
 clear hR hb0 hg
 go_enter Tryz.func162,Tryz.ntmps162
 go_upto_region 1 with fail
 rw[HW0.out]
 go_wp2_with fail
 refine Calls.mono (readText_x s w0 st sp hs (HG0.out w0 (Below.refl _ _))) ?_
 rintro e w1 ⟨hx,hb1⟩
 have HR1:Hid (Rdr 219 w1 R s f):=HR0.out.keep hb1
 have HB1:Hid (Below w0.heap.size w0 w1):=hb1
 have HV1:Hid (w1.heap[W.heap.size]? = some (.cells #[.int .i64 0,.int .i64 0,.string ⟨#[]⟩] 46 (0,0))):=blk_keep hb1 HV0.out
 have HF1:Hid (PFr R W w1):=.of_below (HB0.out.trans (hb1.mono HB0.out.size))
 clear c0 c1 c2 c3 hb1
 rcases hx with ⟨n,k,hx,rfl⟩|⟨hx,rfl⟩
 · obtain⟨⟨c0,c1⟩,c2,c3⟩:=HR1.out.cells
   have hfit:=hx.fit
   have HX:Hid (TxAt s n k):=hx
   have hez:(s.extract k (k+n)).size<=1000000:=by rw[ByteArray.size_extract];omega
   obtain⟨tx,HTx⟩:∃tx,Hid (s.extract k (k+n)=tx):=⟨_,rfl⟩
   rw[HTx.out] at hez
   rw[HTx.out]
   clear hx
   go_wp2_with fail
   refine Calls.mono (readPlain_any kd tx 1 w1 st sp (HG0.out w1 HB1.out) hez (by omega) hk1 hk5) ?_
   rintro e w2 ⟨hr,hb2⟩
   have HR2:Hid (Rdr 219 w2 R s f):=HR1.out.keep hb2
   have HV2:Hid (w2.heap[W.heap.size]? = some (.cells #[.int .i64 0,.int .i64 0,.string ⟨#[]⟩] 46 (0,0))):=blk_keep hb2 HV1.out
   have HF2:Hid (PFr R W w2):=HF1.out.trans (.of_below hb2)
   clear c0 c1 c2 c3 hb2
   obtain⟨⟨c0,c1⟩,c2,c3⟩:=HR2.out.cells
   obtain⟨v0,v1,v2⟩:=row_three3 HV2.out
   obtain⟨u0,u1,u2⟩:=row_three HV2.out
   rcases hr with ⟨vs,a,c,hp,rfl,hl⟩|⟨hr,rfl⟩
   · obtain ⟨v, rfl⟩ : ∃ v, vs = [v] := by
       have h1:=hp.1
       match vs,h1 with
       | [v],_=>exact⟨v,rfl⟩
     obtain⟨b,o,rfl,l0,l1,l2⟩:=hl 0 (by simp)
     have HAt:Hid (VlAt s kd n k v):=⟨HX.out,by rw[HTx.out];exact hp⟩
     have l0':w2.cell? ⟨b,o,none⟩=some (.int .i64 v.k):=by simpa using l0
     have l1':w2.cell? ⟨b,o+1,none⟩=some (.int .i64 v.n):=by simpa using l1
     have l2':w2.cell? ⟨b,o+2,none⟩=some (.string v.s):=by simpa using l2
     have hbR:b≠R:=fun e=>by
      subst e
      have h1:=HR2.out
      unfold Rdr at h1
      have h2:=l0'
      match o,h2 with
      | 0,h2=>rw[c0] at h2;cases h2
      | 1,h2=>rw[c1] at h2;cases h2
      | o+2,h2=>simp[World.cell?,h1] at h2
     clear hp hl l0 l1 l2
     have hcs:((k:Int)+(n:Int))<=(s.size:Int):=by omega
     go_wp2
     exact bodyPost_ret (v:=.agg #[.int .i64 v.k,.int .i64 v.n,.string v.s]) (results_cell_row Tryz.results162 _ _ W.heap.size 46 #[.int .i64 v.k,.int .i64 v.n,.string v.s] (0,0) _ rfl (row_setR (row_setR (row_setR ((Below.heap_setCell w2 ⟨R,0,none⟩ _ _ hne.symm).trans HV2.out) _) _) _) Tryz.underlying46 rfl (by kernel_rfl)) rfl ⟨.inl ⟨n,k,v,HAt.out,rfl,(((HR2.out.rest _).off hne).off hne).off hne⟩,((HF2.out.set.setNew (Nat.le_refl _)).setNew (Nat.le_refl _)).setNew (Nat.le_refl _)⟩
   · have HM : Hid (¬ ∃ n k v, VlAt s kd n k v) := fun ⟨n', k', v, h⟩ => by
       obtain⟨rfl,rfl⟩:=HX.out.fn h.1
       have h2:=h.2
       rw[HTx.out] at h2
       exact hr ⟨[v],h2⟩
     clear hr
     go_wp2
     exact bodyPost_ret (v:=.agg #[.int .i64 0,.int .i64 0,.string ⟨#[]⟩]) (results_cell_row Tryz.results162 _ _ W.heap.size 46 #[.int .i64 0,.int .i64 0,.string ⟨#[]⟩] (0,0) _ rfl (row_setR (row_setR (row_setR ((Below.heap_setCell w2 ⟨R,1,none⟩ _ _ hne.symm).trans HV2.out) _) _) _) Tryz.underlying46 rfl (by kernel_rfl)) rfl ⟨.inr ⟨HM.out,rfl,((HR2.out.fail.off hne).off hne).off hne⟩,((HF2.out.set.setNew (Nat.le_refl _)).setNew (Nat.le_refl _)).setNew (Nat.le_refl _)⟩
 · obtain⟨⟨c0,c1⟩,c2,c3⟩:=HR1.out.cells
   obtain⟨v0,v1,v2⟩:=row_three3 HV1.out
   obtain⟨u0,u1,u2⟩:=row_three HV1.out
   have HM:Hid (¬ ∃n k v,VlAt s kd n k v):=fun ⟨n,k,_,h⟩=>hx ⟨n,k,h.1⟩
   clear hx
   go_wp2
   exact bodyPost_ret (v:=.agg #[.int .i64 0,.int .i64 0,.string ⟨#[]⟩]) (results_cell_row Tryz.results162 _ _ W.heap.size 46 #[.int .i64 0,.int .i64 0,.string ⟨#[]⟩] (0,0) _ rfl (row_setR (row_setR (row_setR ((Below.heap_setCell w1 ⟨R,1,none⟩ _ _ hne.symm).trans HV1.out) _) _) _) Tryz.underlying46 rfl (by kernel_rfl)) rfl ⟨.inr ⟨HM.out,rfl,((HR1.out.fail.off hne).off hne).off hne⟩,((HF1.out.set.setNew (Nat.le_refl _)).setNew (Nat.le_refl _)).setNew (Nat.le_refl _)⟩
structure LtAt (s:ByteArray) (n k:Nat):Prop where
 pos:0<k
 rd:Um.rdv s.data.toList 0 0=(n,k)
 fit:k+n<=s.size
theorem LtAt.fn {s:ByteArray}{n k n' k':Nat}(h:LtAt s n k)(h':LtAt s n' k'):n=n'/\k=k':=by
 have h1:=h.rd
 rw[h'.rd] at h1
 cases h1
 exact⟨rfl,rfl⟩
def TextR (R:Nat)(s:ByteArray)(f:Bool)(e:Ending)(w':World):Prop :=
 (∃n k,LtAt s n k/\e=.returned (.string (s.extract k (k+n)))/\Rdr 188 w' R (s.extract (k+n) s.size) f) ∨
 ((¬ ∃n k,LtAt s n k)/\e=.returned (.string ⟨#[]⟩)/\Rdr 188 w' R s true)
theorem rtext_any (R:Nat)(s:ByteArray)(f:Bool)(W:World)(hR:Rdr 188 W R s f)(hs:s.size<=1000000)(st:TypeId)(sp:Value)(hg:W.cell? ⟨2,0,none⟩=some (.iface st sp)) :
    Calls Tryz.prog (148) #[.pointer (some ⟨R,0,none⟩)] W fun e w'=>TextR R s f e w'/\PFr R W w':=by
 obtain⟨n,k,hnk⟩:∃n k,Um.rdv s.data.toList 0 0=(n,k):=⟨_,_,rfl⟩
 have hroom:=Um.rdv_room s.data.toList 0 0 (by decide)
 rw[hnk] at hroom
 have hk:k<=s.size:=by have:=hroom.2.2;rw[Nat.zero_add,Array.length_toList] at this;exact this
 have HC:=readUvarint_any s W (.iface st sp) (by unfold maxLen;omega) hg
 rw[hnk] at HC
 have HCo:Hid (Calls Tryz.prog 118 #[.string s] W fun e w'=>e=.returned (.tuple #[.int .u64 n,.int .i64 k,errOf (.iface st sp) k])/\Below W.heap.size W w'):=HC
 have HNK:Hid (Um.rdv s.data.toList 0 0=(n,k)):=hnk
 have hn64:n<18446744073709551616:=hroom.1
 obtain⟨⟨c0,c1⟩,c2,c3⟩:=hR.cells
 have HR:Hid (Rdr 188 W R s f):=hR
 clear HC hnk hroom hR hg
 go_enter Tryz.func148,Tryz.ntmps148
 go_wp2_with fail
 refine Calls.mono HCo.out ?_
 rintro e w1 ⟨rfl,hb1⟩
 have HR1:Hid (Rdr 188 w1 R s f):=HR.out.keep hb1
 have HF1:Hid (PFr R W w1):=.of_below hb1
 clear c0 c1 c2 c3 hb1
 obtain⟨⟨c0,c1⟩,c2,c3⟩:=HR1.out.cells
 by_cases h0:k=0
 · have e1:errOf (.iface st sp) k=.iface st sp:=by unfold errOf;rw[if_pos h0]
   rw[e1]
   have HM:Hid (¬ ∃n k,LtAt s n k):=fun ⟨n',k',h⟩=>by
    have h1:=h.rd
    rw[HNK.out] at h1
    cases h1
    have:=h.pos
    omega
   go_wp2
   go_ret
   exact⟨.inr ⟨HM.out,rfl,HR1.out.fail⟩,HF1.out.set⟩
 · have e1:errOf (.iface st sp) k=.nilIface:=by unfold errOf;rw[if_neg h0]
   rw[e1]
   have hcs:IntKind.i64.wrap ((s.size:Int)-(k:Int))=(s.size:Int)-(k:Int):=by rw[IntKind.wrap_i64];omega
   have hcv:IntKind.u64.wrap ((s.size:Int)-(k:Int))=(s.size:Int)-(k:Int):=by unfold IntKind.wrap IntKind.signed IntKind.bits;simp;omega
   by_cases hf:k+n<=s.size
   · have q1:decide ((s.size:Int)-(k:Int)<(n:Int))=false:=by simp;omega
     have hcn:IntKind.i64.wrap (n:Int)=(n:Int):=by rw[IntKind.wrap_i64];omega
     have hca:IntKind.i64.wrap ((k:Int)+(n:Int))=((k+n:Nat):Int):=by rw[IntKind.wrap_i64];omega
     have hb1:((k+n:Nat):Int)<=(s.size:Int):=by omega
     have hb2:(k:Int)<=((k+n:Nat):Int):=by omega
     go_wp2
     go_ret
     exact⟨.inl ⟨n,k,⟨by omega,HNK.out,hf⟩,rfl,HR1.out.rest _⟩,HF1.out.set⟩
   · have q1:decide ((s.size:Int)-(k:Int)<(n:Int))=true:=by simp;omega
     have HM:Hid (¬ ∃n k,LtAt s n k):=fun ⟨n',k',h⟩=>by
      have h1:=h.rd
      rw[HNK.out] at h1
      cases h1
      exact hf h.fit
     go_wp2
     go_ret
     exact⟨.inr ⟨HM.out,rfl,HR1.out.fail⟩,HF1.out.set⟩
end Go.Proofs.YtoeiahdjamkdgaaGreatDoor
