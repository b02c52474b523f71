/-
  The reader of stats: a number, a byte.
-/
import Derived.Test.YtoeiahdjamkdgaaGreatDoorWBClone
import Derived.Test.YtoeiahdjamkdgaaGreatDoorWBOwn
import Derived.BigQuiet
set_option maxRecDepth 100000
set_option maxHeartbeats 1600000
namespace Go.Proofs.YtoeiahdjamkdgaaGreatDoor
open Go.RowKit
structure PFr (r:Nat) (W w':World):Prop where
 os:w'.os=W.os
 tape:w'.tape=W.tape
 output:w'.output=W.output
 size:W.heap.size<=w'.heap.size
 keep:∀k,k<W.heap.size->k≠r->w'.heap[k]? = W.heap[k]?
theorem PFr.refl (r:Nat)(W:World):PFr r W W:=⟨rfl,rfl,rfl,Nat.le_refl _,fun _ _ _=>rfl⟩
theorem PFr.trans {r:Nat}{W w1 w2:World}(h:PFr r W w1)(h2:PFr r w1 w2):PFr r W w2 :=
 ⟨h2.os.trans h.os,h2.tape.trans h.tape,h2.output.trans h.output,Nat.le_trans h.size h2.size,fun k hk hne=>(h2.keep k (Nat.lt_of_lt_of_le hk h.size) hne).trans (h.keep k hk hne)⟩
theorem PFr.of_below {r:Nat}{W w':World}(hb:Below W.heap.size W w'):PFr r W w':=⟨hb.os,hb.tape,hb.output,hb.size,fun k hk _=>hb.block k hk⟩
theorem PFr.below {r B:Nat}{W w':World}(h:PFr r W w')(hB:B<=W.heap.size)(hr:B<=r):Below B W w':=⟨h.os,h.tape,h.output,h.size,fun k hk=>h.keep k (by omega) (by omega)⟩
theorem PFr.set {r j:Nat}{W w':World}{v:Value}(h:PFr r W w'):PFr r W (w'.setCell ⟨r,j,none⟩ v):=⟨h.os,h.tape,h.output,by simpa using h.size,fun k hk hne=>(Below.heap_setCell w' ⟨r,j,none⟩ v k hne).trans (h.keep k hk hne)⟩
theorem PFr.box {r k:Nat}{W w':World}{o:Obj}(h:PFr r W w')(hk:W.heap[k]? = some o)(hne:k≠r):w'.heap[k]? = some o:=(h.keep k (lt_of_block hk) hne).trans hk
theorem PFr.cell {r:Nat}{W w':World}{k j:Nat}{v:Value}(h:PFr r W w')(hk:W.cell? ⟨k,j,none⟩=some v)(hne:k≠r):w'.cell? ⟨k,j,none⟩=some v:=by
 have hb:=h.keep k (World.block_lt_of_cell? W _ hk) hne
 rw[←hk]
 unfold World.cell?
 simp only[hb]
def Rdr (T:TypeId)(X:World)(R:Nat)(s:ByteArray)(f:Bool):Prop:=X.heap[R]? = some (.cells #[.string s,.bool f] T (0,0))
theorem Rdr.cells {T:TypeId}{X:World}{R:Nat}{s:ByteArray}{f:Bool}(h:Rdr T X R s f):(X.cell? ⟨R,0,none⟩=some (.string s)/\X.cell? ⟨R,1,none⟩=some (.bool f))/\X.frozen? ⟨R,0,none⟩=false/\X.frozen? ⟨R,1,none⟩=false:=by
 unfold Rdr at h
 refine⟨⟨?_,?_⟩,?_,?_⟩<;>first|simp[World.frozen?,h]|simp[World.cell?,h]
theorem row_setR {w:World}{g j:Nat}{cs:Array Value}{t:TypeId}(h:w.heap[g]? = some (.cells cs t (0,0)))(v:Value):(w.setCell ⟨g,j,none⟩ v).heap[g]? = some (.cells (cs.setIfInBounds j v) t (0,0)):=by
 simp[World.setCell,Array.getElem?_modify,h]
theorem Rdr.rest {T:TypeId}{X:World}{R:Nat}{s:ByteArray}{f:Bool}(h:Rdr T X R s f)(t:ByteArray):Rdr T (X.setCell ⟨R,0,none⟩ (.string t)) R t f:=row_setR h (.string t)
theorem Rdr.fail {T:TypeId}{X:World}{R:Nat}{s:ByteArray}{f:Bool}(h:Rdr T X R s f):Rdr T (X.setCell ⟨R,1,none⟩ (.bool true)) R s true:=row_setR h (.bool true)
theorem Rdr.keep {T:TypeId}{X w':World}{R:Nat}{s:ByteArray}{f:Bool}(h:Rdr T X R s f)(hb:Below X.heap.size X w'):Rdr T w' R s f:=blk_keep hb h
theorem rcount_any (R:Nat)(s:ByteArray)(f:Bool)(most:Nat)(W:World)(hR:Rdr 219 W R s f)(hs:s.size<=1000000)(hm:most<=20000)(st:TypeId)(sp:Value)(hg:W.cell? ⟨2,0,none⟩=some (.iface st sp)) :
    Calls Tryz.prog (160) #[.pointer (some ⟨R,0,none⟩),.int .i64 most] W fun e w' =>
     ((∃n k:Nat,0<k/\Um.rdv s.data.toList 0 0=(n,k)/\n<=most/\e=.returned (.int .i64 n)/\Rdr 219 w' R (s.extract k s.size) f) ∨
      ((∀n k:Nat,0<k->Um.rdv s.data.toList 0 0=(n,k)->most<n)/\e=.returned (.int .i64 0)/\Rdr 219 w' R s true))/\PFr R W w':=by
 obtain⟨n,k,hnk⟩:∃n k,Um.rdv s.data.toList 0 0=(n,k):=⟨_,_,rfl⟩
 have hroom:=Um.rdv_room s.data.toList 0 0 (by decide)
 rw[hnk] at hroom
 have hk:k<=s.size:=by have:=hroom.2.2;rw[Nat.zero_add,Array.length_toList] at this;exact this
 have HC:=readUvarint_any s W (.iface st sp) (by unfold maxLen;omega) hg
 rw[hnk] at HC
 have HCo:Hid (Calls Tryz.prog 118 #[.string s] W fun e w'=>e=.returned (.tuple #[.int .u64 n,.int .i64 k,errOf (.iface st sp) k])/\Below W.heap.size W w'):=HC
 have HNK:Hid (Um.rdv s.data.toList 0 0=(n,k)):=hnk
 have hn64:n<18446744073709551616:=hroom.1
 obtain⟨⟨c0,c1⟩,c2,c3⟩:=hR.cells
 have HR:Hid (Rdr 219 W R s f):=hR
 clear HC hnk hroom hR hg
 go_enter Tryz.func160,Tryz.ntmps160
 go_wp2_with fail
 refine Calls.mono HCo.out ?_
 rintro e w1 ⟨rfl,hb1⟩
 have HR1:Hid (Rdr 219 w1 R s f):=HR.out.keep hb1
 have HF1:Hid (PFr R W w1):=.of_below hb1
 clear c0 c1 c2 c3 hb1
 obtain⟨⟨c0,c1⟩,c2,c3⟩:=HR1.out.cells
 have hcv:IntKind.u64.wrap (most:Int)=(most:Int):=by unfold IntKind.wrap IntKind.signed IntKind.bits;simp;omega
 by_cases h0:k=0
 · have e1:errOf (.iface st sp) k=.iface st sp:=by unfold errOf;rw[if_pos h0]
   rw[e1]
   have HM:Hid (∀n k:Nat,0<k->Um.rdv s.data.toList 0 0=(n,k)->most<n):=fun n' k' hk' h=>by
    rw[HNK.out] at h
    cases h
    omega
   go_wp2
   go_ret
   exact⟨.inr ⟨HM.out,rfl,HR1.out.fail⟩,HF1.out.set⟩
 · have e1:errOf (.iface st sp) k=.nilIface:=by unfold errOf;rw[if_neg h0]
   rw[e1]
   by_cases hnm:n<=most
   · have q1:decide ((n:Int) > (most:Int))=false:=by simp;omega
     have q2:decide ((most:Int)<(n:Int))=false:=by simp;omega
     have hcv2:IntKind.i64.wrap (n:Int)=(n:Int):=by rw[IntKind.wrap_i64];omega
     have hkz:(k:Int)<=(s.size:Int):=by omega
     go_wp2
     go_ret
     exact⟨.inl ⟨n,k,by omega,HNK.out,hnm,rfl,HR1.out.rest _⟩,HF1.out.set⟩
   · have q1:decide ((n:Int) > (most:Int))=true:=by simp;omega
     have q2:decide ((most:Int)<(n:Int))=true:=by simp;omega
     have HM:Hid (∀n k:Nat,0<k->Um.rdv s.data.toList 0 0=(n,k)->most<n):=fun n' k' hk' h=>by
      rw[HNK.out] at h
      cases h
      omega
     go_wp2
     go_ret
     exact⟨.inr ⟨HM.out,rfl,HR1.out.fail⟩,HF1.out.set⟩
def ByteR (R:Nat)(s:ByteArray)(f:Bool)(lo hi:Nat)(e:Ending)(w':World):Prop :=
 (∃b r,s.data.toList=b :: r/\lo<=b.toNat/\b.toNat<=hi/\e=.returned (.int .i64 b.toNat)/\Rdr 219 w' R (s.extract 1 s.size) f) ∨
 ((∀b r,s.data.toList=b :: r->b.toNat<lo\/hi<b.toNat)/\e=.returned (.int .i64 lo)/\Rdr 219 w' R s true)
theorem oneByte_any (R:Nat)(s:ByteArray)(f:Bool)(lo hi:Nat)(W:World)(hR:Rdr 219 W R s f)(hs:s.size<=1000000) :
    Calls Tryz.prog (161) #[.pointer (some ⟨R,0,none⟩),.int .i64 lo,.int .i64 hi] W fun e w'=>ByteR R s f lo hi e w'/\PFr R W w':=by
 obtain⟨⟨c0,c1⟩,c2,c3⟩:=hR.cells
 have HR:Hid (Rdr 219 W R s f):=hR
 clear hR
 by_cases h0:s.size=0
 · have hse : s = ⟨#[]⟩ := by
     cases s with
     | mk d=>simp[ByteArray.size] at h0;subst h0;rfl
   subst hse
   have HM:Hid (∀b r,(⟨#[]⟩:ByteArray).data.toList=b :: r->b.toNat<lo\/hi<b.toNat):=fun b r h=>by cases h
   go_enter Tryz.func161,Tryz.ntmps161
   go_wp2
   go_ret
   exact⟨.inr ⟨HM.out,rfl,HR.out.fail⟩,(PFr.refl _ _).set⟩
 · have hpos:0<s.size:=by omega
   have HB:Hid (s.data.toList=s[0] :: s.data.toList.drop 1):=by
    show _=_
    have:=drop_cons s 0 hpos
    rw[List.drop_zero] at this
    exact this
   have hE:s.toList.isEmpty=false:=by
    cases hh:s.toList with
    | nil => exact absurd (by have h2 : s.toList.length = 0 := by rw [hh]; rfl
                              rw[ByteArray.toList_eq,Array.length_toList] at h2;exact h2) h0
    | cons _ _=>rfl
   obtain⟨b,hidx⟩:∃b,s[0]=b:=⟨_,rfl⟩
   rw[hidx] at HB
   have hb8:=b.toNat_lt
   have hw:wrap64 (b.toNat:Int)=(b.toNat:Int):=by unfold wrap64;omega
   by_cases hr:lo<=b.toNat/\b.toNat<=hi
   · have q1:decide ((b.toNat:Int)<(lo:Int))=false:=by simp;omega
     have q2:decide ((hi:Int)<(b.toNat:Int))=false:=by simp;omega
     go_enter Tryz.func161,Tryz.ntmps161
     go_wp2
     go_ret
     exact⟨.inl ⟨b,_,HB.out,hr.1,hr.2,rfl,HR.out.rest _⟩,(PFr.refl _ _).set⟩
   · have HM : Hid (∀ b r, s.data.toList = b :: r → b.toNat < lo ∨ hi < b.toNat) := fun b' r' h => by
       rw[HB.out] at h
       cases h
       omega
     by_cases h1:b.toNat<lo
     · have q1:decide ((b.toNat:Int)<(lo:Int))=true:=by simp;omega
       go_enter Tryz.func161,Tryz.ntmps161
       go_wp2
       go_ret
       exact⟨.inr ⟨HM.out,rfl,HR.out.fail⟩,(PFr.refl _ _).set⟩
     · have q1:decide ((b.toNat:Int)<(lo:Int))=false:=by simp;omega
       have q2:decide ((hi:Int)<(b.toNat:Int))=true:=by simp;omega
       go_enter Tryz.func161,Tryz.ntmps161
       go_wp2
       go_ret
       exact⟨.inr ⟨HM.out,rfl,HR.out.fail⟩,(PFr.refl _ _).set⟩
end Go.Proofs.YtoeiahdjamkdgaaGreatDoor
