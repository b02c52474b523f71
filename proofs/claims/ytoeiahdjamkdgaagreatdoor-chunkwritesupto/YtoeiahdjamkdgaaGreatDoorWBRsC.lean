/-
  What stats bytes begin with: mathematics.
  stats.isWhole.
  Reading stats, step by step: mathematics.
  stats.Read, exact.
  page.readStats: the stats that a body begins with.
  page.inside: what stands inside of a page.
  A page with one bit turned: it is none, or one of another length. Mathematics, without the program.
  page.isTold: whether a column has the stats that a page tells.
-/
import Derived.Test.YtoeiahdjamkdgaaGreatDoorWBPgC
import Derived.Test.YtoeiahdjamkdgaaGreatDoorWBRsB
import Derived.Laws.StructEq
set_option maxRecDepth 100000
set_option maxHeartbeats 6400000
namespace Go.Proofs.YtoeiahdjamkdgaaGreatDoor
open Go.RowKit
structure StOk (t:St):Prop where
 e:0<=t.e/\t.e<=20000
 u:0<=t.u/\t.u<=t.e
 h:t.h=decide (t.u<t.e)
 fit:t.h=true->t.Fit
 ord:t.h=true->lss t.mx t.mn=false
 zero:t.h=false->t.mn=Vl.zero/\t.mx=Vl.zero
def BegS (l:List UInt8)(t:St)(r:List UInt8):Prop:=StOk t/\l=stTx t++r
theorem uv_cut {n m:Nat}{a b:List UInt8}(hn:n<18446744073709551616)(hm:m<18446744073709551616)(h:Um.uv n++a=Um.uv m++b):n=m/\a=b:=by
 have h1:=Um.rdv_whole n a hn
 rw[h,Um.rdv_whole m b hm] at h1
 cases h1
 exact⟨rfl,List.append_cancel_left h⟩
theorem txt_cut {x y a b:List UInt8}(hx:x.length<18446744073709551616)(hy:y.length<18446744073709551616)(h:Um.txt x++a=Um.txt y++b):x=y/\a=b:=by
 unfold Um.txt at h
 rw[List.append_assoc,List.append_assoc] at h
 obtain⟨h1,h2⟩:=uv_cut hx hy h
 exact List.append_inj h2 h1
theorem rdv_cut {l:List UInt8}{n k:Nat}(hk:0<k)(h:Um.rdv l 0 0=(n,k)):l=Um.uv n++l.drop k:=by
 rw[←Um.rdv_bytes h hk]
 exact (List.take_append_drop k l).symm
theorem ext_to (s:ByteArray)(a b:Nat):(s.extract a b).data.toList=(s.data.toList.drop a).take (b-a):=by
 rw[ByteArray.data_extract,Array.toList_extract,List.extract_eq_take_drop]
theorem ext_end (s:ByteArray)(a:Nat):(s.extract a s.size).data.toList=s.data.toList.drop a:=drop_ext s a
theorem TxAt.txt {s:ByteArray}{n k:Nat}(h:TxAt s n k):s.data.toList=Um.txt (s.extract k (k+n)).data.toList++(s.extract (k+n) s.size).data.toList:=by
 have hl:s.data.toList.length=s.size:=by rw[Array.length_toList];rfl
 have h1:=rdv_cut h.pos h.rd
 have h2:((s.data.toList.drop k).take n).length=n:=by rw[List.length_take,List.length_drop,hl];have:=h.fit;omega
 rw[ext_end,ext_to,show k+n-k=n by omega]
 unfold Um.txt
 rw[h2,List.append_assoc,←List.drop_drop,List.take_append_drop]
 exact h1
theorem TxAt.of {s:ByteArray}{x r:List UInt8}(h:s.data.toList=Um.txt x++r)(hx:x.length<=200000):TxAt s x.length (Um.uv x.length).length/\(s.extract (Um.uv x.length).length ((Um.uv x.length).length+x.length)).data.toList=x:=by
 have hl:s.data.toList.length=s.size:=by rw[Array.length_toList];rfl
 have h1:s.data.toList=Um.uv x.length++(x++r):=by rw[h];unfold Um.txt;rw[List.append_assoc]
 have hr:=Um.rdv_whole x.length (x++r) (by omega)
 rw[←h1] at hr
 refine⟨⟨Um.uv_pos _,hr,hx,?_⟩,?_⟩
 · rw[←hl,h1,List.length_append,List.length_append];omega
 · rw[ext_to,h1,List.drop_left,show (Um.uv x.length).length+x.length-(Um.uv x.length).length=x.length by omega,List.take_left]
theorem isPl_one {kd:Int}{l:List UInt8}{v:Vl}(h:IsPl kd l 1 [v]):(v.Ok kd/\v.In)/\plainB kd [v]=l:=⟨h.2.1.2 v (by simp),h.2.2⟩
theorem VlAt.txt {s:ByteArray}{kd:Int}{n k:Nat}{v:Vl}(h:VlAt s kd n k v):s.data.toList=Um.txt (plainB kd [v])++(s.extract (k+n) s.size).data.toList:=by
 have h1:=h.1.txt
 rw[←(isPl_one h.2).2] at h1
 exact h1
theorem VlAt.of {s:ByteArray}{kd:Int}{v:Vl}{r:List UInt8}(hk:1<=kd/\kd<=5)(hv:v.Ok kd/\v.In)(h:s.data.toList=Um.txt (plainB kd [v])++r):∃n k,VlAt s kd n k v:=by
 have hr:Right kd [v]:=⟨hk,fun u hu=>by rw[List.mem_singleton] at hu;subst hu;exact hv⟩
 have hl:=plainB_len hr
 simp only[List.length_cons,List.length_nil] at hl
 obtain⟨h1,h2⟩:=TxAt.of h (by omega)
 exact⟨_,_,h1,rfl,hr,h2.symm⟩
theorem isWhole_any (s:St)(W:World)(h1:s.mn.Low)(h2:s.mx.Low):Calls Tryz.prog 163 #[.agg #[.int .i64 s.e,.int .i64 s.u,.bool s.h,.int .i64 s.mn.k,.int .i64 s.mn.n,.string s.mn.s,.int .i64 s.mx.k,.int .i64 s.mx.n,.string s.mx.s]] W fun e w'=>e=.returned (.bool ((s.h == decide (s.u<s.e)) && !lss s.mx s.mn))/\Below W.heap.size W w':=by
 obtain⟨w0,HW0,HX,HB⟩:=boxed1 W #[.int .i64 s.e,.int .i64 s.u,.bool s.h,.int .i64 s.mn.k,.int .i64 s.mn.n,.string s.mn.s,.int .i64 s.mx.k,.int .i64 s.mx.n,.string s.mx.s] 51
 obtain⟨⟨s0,s1,s2,s3,s4,s5,s6,s7,s8⟩,_⟩:=st_row (s:=s) HX.out
 have HLs:Hid (Calls Tryz.prog 85 #[.agg #[.int .i64 s.mx.k,.int .i64 s.mx.n,.string s.mx.s],.agg #[.int .i64 s.mn.k,.int .i64 s.mn.n,.string s.mn.s]] w0 fun e w'=>e=.returned (.bool (lss s.mx s.mn))/\Below w0.heap.size w0 w'):=less_any _ _ _ _ _ _ w0 h2 h1
 obtain⟨lb,HLb⟩:∃b,Hid (lss s.mx s.mn=b):=⟨_,rfl⟩
 rw[HLb.out] at HLs ⊢
 obtain⟨hb,HHb⟩:∃b,Hid (s.h=b):=⟨_,rfl⟩
 rw[HHb.out] at s2 HW0 ⊢
 clear h1 h2
 by_cases hu:s.u<s.e
 · have q1:decide (s.u<s.e)=true:=by simpa using hu
   rw[q1]
   cases hb with
   | true =>
    go_enter Tryz.func163,Tryz.ntmps163
    go_upto_region 1 with fail
    rw[HW0.out]
    go_wp2_with fail
    refine Calls.mono HLs.out ?_
    rintro e w1 ⟨rfl,hb1⟩
    have HB1:Hid (Below W.heap.size W w1):=HB.out.trans (hb1.mono HB.out.size)
    clear hb1
    go_wp2
    go_ret
    exact⟨by cases lb<;>rfl,HB1.out⟩
   | false =>
    go_enter Tryz.func163,Tryz.ntmps163
    go_upto_region 1 with fail
    rw[HW0.out]
    go_wp2
    go_ret
    exact⟨rfl,HB.out⟩
 · have q1:decide (s.u<s.e)=false:=by simpa using hu
   rw[q1]
   cases hb with
   | true =>
    go_enter Tryz.func163,Tryz.ntmps163
    go_upto_region 1 with fail
    rw[HW0.out]
    go_wp2
    go_ret
    exact⟨rfl,HB.out⟩
   | false =>
    go_enter Tryz.func163,Tryz.ntmps163
    go_upto_region 1 with fail
    rw[HW0.out]
    go_wp2_with fail
    refine Calls.mono HLs.out ?_
    rintro e w1 ⟨rfl,hb1⟩
    have HB1:Hid (Below W.heap.size W w1):=HB.out.trans (hb1.mono HB.out.size)
    clear hb1
    go_wp2
    go_ret
    exact⟨by cases lb<;>rfl,HB1.out⟩
def NoS (l:List UInt8):Prop:=¬ ∃t r,BegS l t r
def Fc (l pre:List UInt8)(s:ByteArray)(f:Bool):Prop:=(f=true/\NoS l)\/(f=false/\l=pre++s.data.toList)
theorem beg_cut {l a:List UInt8}{t:St}{r:List UInt8}{e:Nat}(h:BegS l t r)(he:e<=20000)(hl:l=Um.uv e++a):t.e=e/\a=Um.uv t.u.toNat++(stV t++r):=by
 have h1:=h.2
 have hx:=h.1.e
 unfold stTx at h1
 rw[hl,List.append_assoc,List.append_assoc] at h1
 obtain⟨h2,h3⟩:=uv_cut (by omega) (by omega) h1
 exact⟨by omega,h3⟩
theorem beg_cut2 {l a:List UInt8}{t:St}{r:List UInt8}{e u:Nat}(h:BegS l t r)(he:e<=20000)(hu:u<=20000)(hl:l=Um.uv e++Um.uv u++a):t.e=e/\t.u=u/\a=stV t++r:=by
 rw[List.append_assoc] at hl
 obtain⟨h1,h2⟩:=beg_cut h he hl
 have hx:=h.1.e
 have hy:=h.1.u
 obtain⟨h3,h4⟩:=uv_cut (by omega) (by omega) h2
 exact⟨h1,by omega,h4⟩
theorem bt_natE {k:Int}(h1:1<=k)(h5:k<=5):((Um.bt k).toNat:Int)=k:=by
 have:k=1\/k=2\/k=3\/k=4\/k=5:=by omega
 rcases this with rfl|rfl|rfl|rfl|rfl<;>rfl
theorem stV_true {t:St}(h:t.h=true):stV t=1 :: Um.bt t.mn.k :: (Um.txt (plainB t.mn.k [t.mn])++Um.txt (plainB t.mn.k [t.mx])):=by
 unfold stV
 rw[if_pos h]
 simp
theorem stV_false {t:St}(h:t.h=false):stV t=[0]:=by
 unfold stV
 rw[if_neg (by rw[h];simp)]
theorem fc_e {s:ByteArray}{n k:Nat}(hk:0<k)(h:Um.rdv s.data.toList 0 0=(n,k)):Fc s.data.toList (Um.uv n) (s.extract k s.size) false:=.inr ⟨rfl,by rw[ext_end];exact rdv_cut hk h⟩
theorem no_e {s:ByteArray}(h:∀n k:Nat,0<k->Um.rdv s.data.toList 0 0=(n,k)->20000<n):NoS s.data.toList:=fun ⟨t,r,hb⟩=>by
 have hx:=hb.1.e
 have h1:s.data.toList=Um.uv t.e.toNat++(Um.uv t.u.toNat++(stV t++r)):=by
  rw[hb.2];unfold stTx;rw[List.append_assoc,List.append_assoc]
 have h2:=Um.rdv_whole t.e.toNat (Um.uv t.u.toNat++(stV t++r)) (by omega)
 rw[←h1] at h2
 have:=h _ _ (Um.uv_pos _) h2
 omega
theorem fc_u {l:List UInt8}{e:Nat}{s:ByteArray}{f:Bool}{n k:Nat}(hf:Fc l (Um.uv e) s f)(hk:0<k)(h:Um.rdv s.data.toList 0 0=(n,k)):Fc l (Um.uv e++Um.uv n) (s.extract k s.size) f:=by
 rcases hf with hf|⟨hf,hl⟩
 · exact .inl hf
 · refine .inr ⟨hf,?_⟩
   rw[ext_end,List.append_assoc,←rdv_cut hk h]
   exact hl
theorem no_u {l:List UInt8}{e:Nat}{s:ByteArray}{f:Bool}(he:e<=20000)(hf:Fc l (Um.uv e) s f)(h:∀n k:Nat,0<k->Um.rdv s.data.toList 0 0=(n,k)->e<n):NoS l:=by
 rcases hf with hf|⟨_,hl⟩
 · exact hf.2
 · rintro ⟨t,r,hb⟩
   obtain⟨h1,h2⟩:=beg_cut hb he hl
   have hy:=hb.1.u
   have h3:=Um.rdv_whole t.u.toNat (stV t++r) (by omega)
   rw[←h2] at h3
   have:=h _ _ (Um.uv_pos _) h3
   omega
theorem ext_one {s:ByteArray}{b:UInt8}{r:List UInt8}(h:s.data.toList=b :: r):s.data.toList=b :: (s.extract 1 s.size).data.toList:=by
 rw[ext_end,h];rfl
theorem fc_b {l pre:List UInt8}{s:ByteArray}{f:Bool}{b:UInt8}{r:List UInt8}(hf:Fc l pre s f)(h:s.data.toList=b :: r):Fc l (pre++[b]) (s.extract 1 s.size) f:=by
 rcases hf with hf|⟨hf,hl⟩
 · exact .inl hf
 · refine .inr ⟨hf,?_⟩
   rw[List.append_assoc]
   have h1:=ext_one h
   rw[hl,h1];rfl
theorem no_h {l:List UInt8}{e u:Nat}{s:ByteArray}{f:Bool}(he:e<=20000)(hu:u<=20000)(hf:Fc l (Um.uv e++Um.uv u) s f)(h:∀b r,s.data.toList=b :: r->b.toNat<0\/1<b.toNat):NoS l:=by
 rcases hf with hf|⟨_,hl⟩
 · exact hf.2
 · rintro ⟨t,r,hb⟩
   obtain⟨_,_,h2⟩:=beg_cut2 hb he hu hl
   cases hh:t.h with
   | true =>
    rw[stV_true hh] at h2
    rcases h _ _ h2 with h3|h3
    · omega
    · exact absurd h3 (by decide)
   | false =>
    rw[stV_false hh] at h2
    rcases h _ _ h2 with h3|h3
    · omega
    · exact absurd h3 (by decide)
theorem beg_has {l a:List UInt8}{t:St}{r:List UInt8}{e u:Nat}(h:BegS l t r)(he:e<=20000)(hu:u<=20000)(hl:l=Um.uv e++Um.uv u++[1]++a):t.e=e/\t.u=u/\t.h=true/\a=Um.bt t.mn.k :: (Um.txt (plainB t.mn.k [t.mn])++(Um.txt (plainB t.mn.k [t.mx])++r)):=by
 rw[List.append_assoc _ [1] a] at hl
 obtain⟨h1,h2,h3⟩:=beg_cut2 h he hu hl
 cases hh:t.h with
 | true =>
  rw[stV_true hh] at h3
  refine⟨h1,h2,rfl,?_⟩
  simp only[List.cons_append,List.nil_append,List.append_assoc,List.cons.injEq] at h3
  exact h3.2
 | false =>
  rw[stV_false hh] at h3
  simp at h3
theorem no_k {l:List UInt8}{e u:Nat}{s:ByteArray}{f:Bool}(he:e<=20000)(hu:u<=20000)(hf:Fc l (Um.uv e++Um.uv u++[1]) s f)(h:∀b r,s.data.toList=b :: r->b.toNat<1\/5<b.toNat):NoS l:=by
 rcases hf with hf|⟨_,hl⟩
 · exact hf.2
 · rintro ⟨t,r,hb⟩
   obtain⟨_,_,hh,h2⟩:=beg_has hb he hu hl
   have hfit:=hb.1.fit hh
   have h4:=bt_natE hfit.k1 hfit.k5
   have:=h _ _ h2
   have h5:=hfit.k1
   have h6:=hfit.k5
   omega
theorem fc_v {l pre:List UInt8}{s:ByteArray}{f:Bool}{kd:Int}{n k:Nat}{v:Vl}(hf:Fc l pre s f)(h:VlAt s kd n k v):Fc l (pre++Um.txt (plainB kd [v])) (s.extract (k+n) s.size) f:=by
 rcases hf with hf|⟨hf,hl⟩
 · exact .inl hf
 · refine .inr ⟨hf,?_⟩
   rw[List.append_assoc,←h.txt]
   exact hl
theorem no_v1 {l:List UInt8}{e u:Nat}{b:UInt8}{s:ByteArray}{f:Bool}(he:e<=20000)(hu:u<=20000)(hf:Fc l (Um.uv e++Um.uv u++[1]++[b]) s f)(h:¬ ∃n k v,VlAt s (b.toNat:Int) n k v):NoS l:=by
 rcases hf with hf|⟨_,hl⟩
 · exact hf.2
 · rintro ⟨t,r,hb⟩
   rw[List.append_assoc _ [b]] at hl
   obtain⟨_,_,hh,h2⟩:=beg_has hb he hu hl
   simp only[List.cons_append,List.nil_append,List.cons.injEq] at h2
   have hfit:=hb.1.fit hh
   have hk:(b.toNat:Int)=t.mn.k:=by rw[h2.1];exact bt_natE hfit.k1 hfit.k5
   obtain⟨n,k,h3⟩:=VlAt.of (kd:=t.mn.k) (v:=t.mn) ⟨hfit.k1,hfit.k5⟩ ⟨hfit.ok,hfit.in1⟩ h2.2
   exact h ⟨n,k,t.mn,by rw[hk];exact h3⟩
theorem plain_small {kd:Int}{v:Vl}(hk:1<=kd/\kd<=5)(hv:v.Ok kd/\v.In):(plainB kd [v]).length<=118:=by
 have:=plainB_len (kd:=kd) (vs:=[v]) ⟨hk,fun u hu=>by rw[List.mem_singleton] at hu;subst hu;exact hv⟩
 simpa using this
theorem beg_two {l a:List UInt8}{t:St}{r:List UInt8}{e u:Nat}{b:UInt8}{v:Vl}(h:BegS l t r)(he:e<=20000)(hu:u<=20000)(hk:1<=(b.toNat:Int)/\(b.toNat:Int)<=5)(hv:v.Ok b.toNat/\v.In)(hl:l=Um.uv e++Um.uv u++[1]++[b]++Um.txt (plainB b.toNat [v])++a):t.e=e/\t.u=u/\t.h=true/\t.mn=v/\a=Um.txt (plainB b.toNat [t.mx])++r:=by
 rw[List.append_assoc _ (Um.txt _),List.append_assoc _ [b]] at hl
 obtain⟨h1,h2,hh,h3⟩:=beg_has h he hu hl
 simp only[List.cons_append,List.nil_append,List.cons.injEq] at h3
 have hfit:=h.1.fit hh
 have hkb:(b.toNat:Int)=t.mn.k:=by rw[h3.1];exact bt_natE hfit.k1 hfit.k5
 have s1:=plain_small ⟨hfit.k1,hfit.k5⟩ ⟨hfit.ok,hfit.in1⟩
 have s2:=plain_small hk hv
 obtain⟨h4,h5⟩:=txt_cut (by omega) (by omega) h3.2
 rw[hkb] at h4 hv
 have h6:IsPl t.mn.k (plainB t.mn.k [v]) 1 [v]:=⟨rfl,⟨⟨hfit.k1,hfit.k5⟩,fun x hx=>by rw[List.mem_singleton] at hx;subst hx;exact hv⟩,rfl⟩
 have h7:IsPl t.mn.k (plainB t.mn.k [v]) 1 [t.mn]:=⟨rfl,⟨⟨hfit.k1,hfit.k5⟩,fun x hx=>by rw[List.mem_singleton] at hx;subst hx;exact⟨hfit.ok,hfit.in1⟩⟩,h4.symm⟩
 have h8:=isPl_fn h6 h7
 cases h8
 exact⟨h1,h2,hh,rfl,by rw[hkb];exact h5⟩
theorem no_v2 {l:List UInt8}{e u:Nat}{b:UInt8}{v:Vl}{s:ByteArray}{f:Bool}(he:e<=20000)(hu:u<=20000)(hk:1<=(b.toNat:Int)/\(b.toNat:Int)<=5)(hv:v.Ok b.toNat/\v.In)(hf:Fc l (Um.uv e++Um.uv u++[1]++[b]++Um.txt (plainB b.toNat [v])) s f)(h:¬ ∃n k v,VlAt s (b.toNat:Int) n k v):NoS l:=by
 rcases hf with hf|⟨_,hl⟩
 · exact hf.2
 · rintro ⟨t,r,hb⟩
   obtain⟨_,_,hh,hm,h2⟩:=beg_two hb he hu hk hv hl
   have hfit:=hb.1.fit hh
   have hkb:t.mn.k=(b.toNat:Int):=by rw[hm];exact hv.1.1
   obtain⟨n,k,h3⟩:=VlAt.of (kd:=b.toNat) (v:=t.mx) hk ⟨by rw[←hkb];exact hfit.ok2,hfit.in2⟩ h2
   exact h ⟨n,k,t.mx,h3⟩
structure SrI (W X:World) (t:St) (s:ByteArray) (f:Bool):Prop where
 tb:X.heap[W.heap.size]? = some (.cells t.cs 51 (0,0))
 rd:Rdr 219 X (W.heap.size+1) s f
 old:Below W.heap.size W X
theorem SrI.frame {W X X':World}{t:St}{s s':ByteArray}{f f':Bool}(h:SrI W X t s f)(hf:PFr (W.heap.size+1) X X')(hr:Rdr 219 X' (W.heap.size+1) s' f'):SrI W X' t s' f' :=
 ⟨hf.box h.tb (by omega),hr,h.old.trans (hf.below h.old.size (by omega))⟩
theorem SrI.keep {W X X':World}{t:St}{s:ByteArray}{f:Bool}(h:SrI W X t s f)(hb:Below X.heap.size X X'):SrI W X' t s f :=
 ⟨blk_keep hb h.tb,h.rd.keep hb,h.old.trans (hb.mono h.old.size)⟩
theorem SrI.setE {W X:World}{t:St}{s:ByteArray}{f:Bool}(h:SrI W X t s f)(n:Int):SrI W (X.setCell ⟨W.heap.size,0,none⟩ (.int .i64 n)) ⟨n,t.u,t.h,t.mn,t.mx⟩ s f :=
 ⟨row_setR h.tb _,h.rd.off (by omega),h.old.setCell (Nat.le_refl _) _⟩
theorem SrI.setU {W X:World}{t:St}{s:ByteArray}{f:Bool}(h:SrI W X t s f)(n:Int):SrI W (X.setCell ⟨W.heap.size,1,none⟩ (.int .i64 n)) ⟨t.e,n,t.h,t.mn,t.mx⟩ s f :=
 ⟨row_setR h.tb _,h.rd.off (by omega),h.old.setCell (Nat.le_refl _) _⟩
theorem SrI.setH {W X:World}{t:St}{s:ByteArray}{f:Bool}(h:SrI W X t s f)(b:Bool):SrI W (X.setCell ⟨W.heap.size,2,none⟩ (.bool b)) ⟨t.e,t.u,b,t.mn,t.mx⟩ s f :=
 ⟨row_setR h.tb _,h.rd.off (by omega),h.old.setCell (Nat.le_refl _) _⟩
theorem SrI.setN {W X:World}{t:St}{s:ByteArray}{f:Bool}(h:SrI W X t s f)(v:Vl):SrI W (((X.setCell ⟨W.heap.size,3,none⟩ (.int .i64 v.k)).setCell ⟨W.heap.size,4,none⟩ (.int .i64 v.n)).setCell ⟨W.heap.size,5,none⟩ (.string v.s)) ⟨t.e,t.u,t.h,v,t.mx⟩ s f :=
 ⟨row_setR (row_setR (row_setR h.tb _) _) _,((h.rd.off (by omega)).off (by omega)).off (by omega),((h.old.setCell (Nat.le_refl _) _).setCell (Nat.le_refl _) _).setCell (Nat.le_refl _) _⟩
theorem SrI.setX {W X:World}{t:St}{s:ByteArray}{f:Bool}(h:SrI W X t s f)(v:Vl):SrI W (((X.setCell ⟨W.heap.size,6,none⟩ (.int .i64 v.k)).setCell ⟨W.heap.size,7,none⟩ (.int .i64 v.n)).setCell ⟨W.heap.size,8,none⟩ (.string v.s)) ⟨t.e,t.u,t.h,t.mn,v⟩ s f :=
 ⟨row_setR (row_setR (row_setR h.tb _) _) _,((h.rd.off (by omega)).off (by omega)).off (by omega),((h.old.setCell (Nat.le_refl _) _).setCell (Nat.le_refl _) _).setCell (Nat.le_refl _) _⟩
theorem two_boxesP (W:World)(c1 c2:Array Value)(t1 t2:TypeId):∃w0,Hid ((W.alloc (.cells c1 t1)).alloc (.cells c2 t2)=w0)/\Hid (w0.heap[W.heap.size]? = some (.cells c1 t1 (0,0)))/\Hid (w0.heap[W.heap.size+1]? = some (.cells c2 t2 (0,0)))/\Hid (Below W.heap.size W w0):=by
 refine⟨_,rfl,blk_keep ((Below.refl _ _).alloc (Nat.le_refl _) _) (heap_alloc_new W _),?_,((Below.refl _ _).alloc (Nat.le_refl _) _).alloc (by simp) _⟩
 have h:=heap_alloc_new (W.alloc (.cells c1 t1)) (.cells c2 t2)
 show _=_
 simpa using h
def RsR (s:ByteArray)(ev:Value)(e:Ending):Prop :=
 (∃t r,BegS s.data.toList t r/\e=.returned (.tuple #[t.val,.int .i64 (stTx t).length,.nilIface]))\/(NoS s.data.toList/\e=.returned (.tuple #[St.zero.val,.int .i64 0,ev]))
structure FinS (s:ByteArray) (t:St) (sf:ByteArray) (ff:Bool):Prop where
 sz:sf.size<=s.size
 l1:t.mn.Low
 l2:t.mx.Low
 fin:(ff=true/\NoS s.data.toList)\/(ff=false/\s.data.toList=stTx t++sf.data.toList/\(t.h=true->t.Fit)/\(t.h=false->t.mn=Vl.zero/\t.mx=Vl.zero))
theorem bt_back (b:UInt8):Um.bt (b.toNat:Int)=b:=by unfold Um.bt;simp
theorem fin_same {s sf:ByteArray}{e u:Nat}{h:Bool}{mn mx:Vl}{t:St}{r:List UInt8}(hb:BegS s.data.toList t r)(he:e<=20000)(hu:u<=20000)(hl:s.data.toList=stTx ⟨e,u,h,mn,mx⟩++sf.data.toList)(hf:(⟨e,u,h,mn,mx⟩:St).h=true->(⟨e,u,h,mn,mx⟩:St).Fit)(hz:(⟨e,u,h,mn,mx⟩:St).h=false->mn=Vl.zero/\mx=Vl.zero):t=⟨e,u,h,mn,mx⟩:=by
 have hl2:s.data.toList=Um.uv e++Um.uv u++(stV ⟨e,u,h,mn,mx⟩++sf.data.toList):=by rw[hl];unfold stTx;rw[List.append_assoc];rfl
 obtain⟨h1,h2,h3⟩:=beg_cut2 hb he hu hl2
 obtain⟨te,tu,th,tn,tx⟩:=t
 have h1':te=e:=h1
 have h2':tu=u:=h2
 subst h1' h2'
 cases h with
 | true =>
  have hfit:=hf rfl
  have hk1:1<=mn.k:=hfit.k1
  have hk5:mn.k<=5:=hfit.k5
  have hkn:=bt_natE hk1 hk5
  have hl3:s.data.toList=Um.uv e++Um.uv u++[1]++[Um.bt mn.k]++Um.txt (plainB (Um.bt mn.k).toNat [mn])++(Um.txt (plainB (Um.bt mn.k).toNat [mx])++sf.data.toList):=by
   rw[hl2,stV_true rfl,hkn]
   simp only[List.append_assoc,List.cons_append,List.nil_append]
  obtain⟨_,_,h4,h5,h6⟩:=beg_two hb he hu ⟨by omega,by omega⟩ ⟨by rw[hkn];exact hfit.ok,hfit.in1⟩ hl3
  have h4':th=true:=h4
  have h5':tn=mn:=h5
  subst h4' h5'
  have hft:=hb.1.fit rfl
  have s1:=plain_small ⟨hk1,hk5⟩ ⟨hfit.ok2,hfit.in2⟩
  have s2:=plain_small ⟨hk1,hk5⟩ ⟨hft.ok2,hft.in2⟩
  rw[hkn] at h6
  obtain⟨h7,_⟩:=txt_cut (by exact Nat.lt_of_le_of_lt s1 (by decide)) (by exact Nat.lt_of_le_of_lt s2 (by decide)) h6
  have i1:IsPl tn.k (plainB tn.k [mx]) 1 [mx]:=⟨rfl,⟨⟨hk1,hk5⟩,fun x hx=>by rw[List.mem_singleton] at hx;subst hx;exact⟨hfit.ok2,hfit.in2⟩⟩,rfl⟩
  have i2:IsPl tn.k (plainB tn.k [mx]) 1 [tx]:=⟨rfl,⟨⟨hk1,hk5⟩,fun x hx=>by rw[List.mem_singleton] at hx;subst hx;exact⟨hft.ok2,hft.in2⟩⟩,h7.symm⟩
  have h8:=isPl_fn i1 i2
  cases h8
  rfl
 | false =>
  obtain⟨rfl,rfl⟩:=hz rfl
  cases th with
  | true =>
   rw[stV_false rfl,stV_true rfl] at h3
   simp at h3
  | false =>
   obtain⟨h4,h5⟩:=hb.1.zero rfl
   have h4':tn=Vl.zero:=h4
   have h5':tx=Vl.zero:=h5
   rw[h4',h5']
theorem zero_lowR:Vl.zero.Low:=by unfold Vl.zero Vl.Low;simp
theorem results_ctt {P:Program}{fn:Func}{p u v:Tmp}{ty:TypeId}(h:fn.results=#[.cell p ty,.tmp u,.tmp v])(tmps:Array Value)(w:World)(g:Nat)(t:TypeId)(cs:Array Value)(fr:Nat × Nat)(d:TypeDesc)(y z:Value)
    (hp:tmps.getD p undef=.pointer (some ⟨g,0,none⟩)) (hy:tmps.getD u undef=y) (hz:tmps.getD v undef=z) (hg:w.heap[g]? = some (.cells cs t fr))
    (hu:P.underlying ty=some d) (hd:(match d with|.struct _|.array _ _=>true|_=>false)=true) (hi:(P.info? ty).map (·.size)=some cs.size) :
    (results fn tmps).run P w=.ok (.tuple #[.agg cs,y,z]) w:=by
 have hp':tmps[p]?.getD undef=.pointer (some ⟨g,0,none⟩):=by simpa using hp
 have hy':tmps[u]?.getD undef=y:=by simpa using hy
 have hz':tmps[v]?.getD undef=z:=by simpa using hz
 simp[results,h,hp',hy',hz',asAddr,Result.andThen,run_loadVar_row w g t ty cs fr d hg hu hd hi]
theorem ext_le (s:ByteArray)(a b:Nat)(h:b<=s.size):(s.extract a b).size<=s.size:=by rw[ByteArray.size_extract];omega
theorem stRead_any (s:ByteArray)(W:World)(hs:s.size<=1000000)(st:TypeId)(sp:Value)(hg:W.cell? ⟨2,0,none⟩=some (.iface st sp)) :
    Calls Tryz.prog 147 #[.string s] W fun e w'=>RsR s (.iface st sp) e/\Below W.heap.size W w':=by
 obtain⟨w0,HW0,HX,HY,HB⟩:=two_boxesP W #[.int .i64 0,.int .i64 0,.bool false,.int .i64 0,.int .i64 0,.string ⟨#[]⟩,.int .i64 0,.int .i64 0,.string ⟨#[]⟩] #[.string s,.bool false] 51 219
 have HG:Hid (∀X,Below W.heap.size W X->X.cell? ⟨2,0,none⟩=some (.iface st sp)):=fun X hX=>(hX.cell (World.block_lt_of_cell? W _ hg)).trans hg
 have HI0:Hid (SrI W w0 St.zero s false):=⟨HX.out,HY.out,HB.out⟩
 have hgl:2<W.heap.size:=World.block_lt_of_cell? W _ hg
 have hgN:2≠W.heap.size:=by omega
 have hgN2:W.heap.size≠2:=by omega
 clear HX HY HB hg hgl
 go_enter Tryz.func147,Tryz.ntmps147
 go_upto_region 2 with fail
 rw[HW0.out]
 clear HW0
 go_wp2_with fail
 refine Calls.mono (rcount_any (W.heap.size+1) s false 20000 w0 HI0.out.rd hs (by omega) st sp (HG.out w0 HI0.out.old)) ?_
 rintro e w1 ⟨hx,hfr⟩
 obtain⟨e1,s1,f1,he1,rfl,hR1,hz1,hF1⟩:∃(e1:Nat) (s1:ByteArray) (f1:Bool),e1<=20000/\e=.returned (.int .i64 e1)/\Rdr 219 w1 (W.heap.size+1) s1 f1/\s1.size<=s.size/\Fc s.data.toList (Um.uv e1) s1 f1:=by
  rcases hx with ⟨n,k,h1,h2,h3,h4,h5⟩|⟨h1,h2,h3⟩
  · exact⟨n,_,_,h3,h4,h5,ext_le s k s.size (Nat.le_refl _),fc_e h1 h2⟩
  · exact⟨0,_,_,by omega,h2,h3,Nat.le_refl _,.inl ⟨rfl,no_e h1⟩⟩
 have HF1:Hid (Fc s.data.toList (Um.uv e1) s1 f1):=hF1
 have HI1:Hid (SrI W w1 St.zero s1 f1):=HI0.out.frame hfr hR1
 clear hx hfr hR1 hF1 HI0
 obtain⟨⟨t0,t1,t2,t3,t4,t5,t6,t7,t8⟩,y0,y1,y2,y3,y4,y5,y6,y7,y8⟩:=st_row HI1.out.tb
 go_upto_region 3 with fail
 have HI2:Hid (SrI W (w1.setCell ⟨W.heap.size,0,none⟩ (.int .i64 e1)) ⟨e1,0,false,Vl.zero,Vl.zero⟩ s1 f1):=HI1.out.setE e1
 generalize w1.setCell ⟨W.heap.size,0,none⟩ (.int .i64 e1)=x1 at HI2 ⊢
 clear HI1 t0 t1 t2 t3 t4 t5 t6 t7 t8 y0 y1 y2 y3 y4 y5 y6 y7 y8
 obtain⟨⟨t0,t1,t2,t3,t4,t5,t6,t7,t8⟩,y0,y1,y2,y3,y4,y5,y6,y7,y8⟩:=st_row HI2.out.tb
 go_wp2_with fail
 refine Calls.mono (rcount_any (W.heap.size+1) s1 f1 e1 x1 HI2.out.rd (by omega) he1 st sp (HG.out x1 HI2.out.old)) ?_
 rintro e w2 ⟨hx,hfr⟩
 obtain⟨u1,s2,f2,hu1,rfl,hR1,hz2,hF1⟩:∃(u1:Nat) (s2:ByteArray) (f2:Bool),u1<=e1/\e=.returned (.int .i64 u1)/\Rdr 219 w2 (W.heap.size+1) s2 f2/\s2.size<=s.size/\Fc s.data.toList (Um.uv e1++Um.uv u1) s2 f2:=by
  rcases hx with ⟨n,k,h1,h2,h3,h4,h5⟩|⟨h1,h2,h3⟩
  · exact⟨n,_,_,h3,h4,h5,Nat.le_trans (ext_le s1 k s1.size (Nat.le_refl _)) hz1,fc_u HF1.out h1 h2⟩
  · exact⟨0,_,_,by omega,h2,h3,hz1,.inl ⟨rfl,no_u he1 HF1.out h1⟩⟩
 have HF2:Hid (Fc s.data.toList (Um.uv e1++Um.uv u1) s2 f2):=hF1
 have HI3:Hid (SrI W w2 ⟨e1,0,false,Vl.zero,Vl.zero⟩ s2 f2):=HI2.out.frame hfr hR1
 clear hx hfr hR1 hF1 HI2 HF1 t0 t1 t2 t3 t4 t5 t6 t7 t8 y0 y1 y2 y3 y4 y5 y6 y7 y8
 obtain⟨⟨t0,t1,t2,t3,t4,t5,t6,t7,t8⟩,y0,y1,y2,y3,y4,y5,y6,y7,y8⟩:=st_row HI3.out.tb
 go_upto_region 4 with fail
 have HI4:Hid (SrI W (w2.setCell ⟨W.heap.size,1,none⟩ (.int .i64 u1)) ⟨e1,u1,false,Vl.zero,Vl.zero⟩ s2 f2):=HI3.out.setU u1
 generalize w2.setCell ⟨W.heap.size,1,none⟩ (.int .i64 u1)=x2 at HI4 ⊢
 clear HI3 t0 t1 t2 t3 t4 t5 t6 t7 t8 y0 y1 y2 y3 y4 y5 y6 y7 y8
 go_wp2_with fail
 refine Calls.mono (oneByte_any (W.heap.size+1) s2 f2 0 1 x2 HI4.out.rd (by omega)) ?_
 rintro e w3 ⟨hx,hfr⟩
 obtain⟨b3,s3,f3,hb3,rfl,hR1,hz3,hF1⟩:∃(b3:UInt8) (s3:ByteArray) (f3:Bool),b3.toNat<=1/\e=.returned (.int .i64 b3.toNat)/\Rdr 219 w3 (W.heap.size+1) s3 f3/\s3.size<=s.size/\Fc s.data.toList (Um.uv e1++Um.uv u1++[b3]) s3 f3:=by
  rcases hx with ⟨b,r,h1,h2,h3,h4,h5⟩|⟨h1,h2,h3⟩
  · exact⟨b,_,_,h3,h4,h5,Nat.le_trans (ext_le s2 1 s2.size (Nat.le_refl _)) hz2,fc_b HF2.out h1⟩
  · exact⟨0,_,_,by decide,h2,h3,hz2,.inl ⟨rfl,no_h he1 (by omega) HF2.out h1⟩⟩
 have HF3:Hid (Fc s.data.toList (Um.uv e1++Um.uv u1++[b3]) s3 f3):=hF1
 have HI5:Hid (SrI W w3 ⟨e1,u1,false,Vl.zero,Vl.zero⟩ s3 f3):=HI4.out.frame hfr hR1
 clear hx hfr hR1 hF1 HI4 HF2
 obtain⟨hh,HHh⟩:∃hh,Hid ((((b3.toNat:Nat):Int) == 1)=hh):=⟨_,rfl⟩
 have HB3:Hid (b3=if hh then 1 else 0):=(by
  show b3=_
  have h1:=HHh.out
  have:b3.toNat=0\/b3.toNat=1:=by omega
  rcases this with h|h
  · rw[h] at h1;rw[←h1];exact UInt8.toNat_inj.1 (by rw[h];rfl)
  · rw[h] at h1;rw[←h1];exact UInt8.toNat_inj.1 (by rw[h];rfl))
 obtain⟨⟨t0,t1,t2,t3,t4,t5,t6,t7,t8⟩,y0,y1,y2,y3,y4,y5,y6,y7,y8⟩:=st_row HI5.out.tb
 go_upto_region 5 with fail
 rw[HHh.out]
 have HI6:Hid (SrI W (w3.setCell ⟨W.heap.size,2,none⟩ (.bool hh)) ⟨e1,u1,hh,Vl.zero,Vl.zero⟩ s3 f3):=HI5.out.setH hh
 generalize w3.setCell ⟨W.heap.size,2,none⟩ (.bool hh)=x3 at HI6 ⊢
 clear HI5 t0 t1 t2 t3 t4 t5 t6 t7 t8 y0 y1 y2 y3 y4 y5 y6 y7 y8 HHh
 rw[HB3.out] at HF3
 clear HB3 hb3
 obtain⟨⟨t0,t1,t2,t3,t4,t5,t6,t7,t8⟩,y0,y1,y2,y3,y4,y5,y6,y7,y8⟩:=st_row HI6.out.tb
 go_upto_if 19 with fail
 clear t0 t1 t2 t3 t4 t5 t6 t7 t8 y0 y1 y2 y3 y4 y5 y6 y7 y8
 go_cut [] (fun wx=>∃(mn mx:Vl) (sf:ByteArray) (ff:Bool),Hid (SrI W wx ⟨e1,u1,hh,mn,mx⟩ sf ff)/\Hid (FinS s ⟨e1,u1,hh,mn,mx⟩ sf ff))
 case first =>
  cases hh with
  | false =>
   have HFn:Hid (FinS s ⟨e1,u1,false,Vl.zero,Vl.zero⟩ s3 f3):=⟨hz3,zero_lowR,zero_lowR,(by
    rcases HF3.out with h|⟨h1,h2⟩
    · exact .inl h
    · exact .inr ⟨h1,h2,fun h=>by (cases h),fun _=>⟨rfl,rfl⟩⟩)⟩
   go_wp2_with fail
   go_meet
   exact⟨_,_,_,_,HI6,HFn⟩
  | true =>
   go_wp2_with fail
   refine Calls.mono (oneByte_any (W.heap.size+1) s3 f3 1 5 x3 HI6.out.rd (by omega)) ?_
   rintro e w4 ⟨hx,hfr⟩
   obtain⟨b4,s4,f4,hb4,hb5,rfl,hR1,hz4,hF1⟩:∃(b4:UInt8) (s4:ByteArray) (f4:Bool),1<=b4.toNat/\b4.toNat<=5/\e=.returned (.int .i64 b4.toNat)/\Rdr 219 w4 (W.heap.size+1) s4 f4/\s4.size<=s.size/\Fc s.data.toList (Um.uv e1++Um.uv u1++[1]++[b4]) s4 f4:=by
    rcases hx with ⟨b,r,h1,h2,h3,h4,h5⟩|⟨h1,h2,h3⟩
    · exact⟨b,_,_,h2,h3,h4,h5,Nat.le_trans (ext_le s3 1 s3.size (Nat.le_refl _)) hz3,fc_b HF3.out h1⟩
    · exact⟨1,_,_,by decide,by decide,h2,h3,hz3,.inl ⟨rfl,no_k he1 (by omega) HF3.out h1⟩⟩
   have HF4:Hid (Fc s.data.toList (Um.uv e1++Um.uv u1++[1]++[b4]) s4 f4):=hF1
   have HI7:Hid (SrI W w4 ⟨e1,u1,true,Vl.zero,Vl.zero⟩ s4 f4):=HI6.out.frame hfr hR1
   clear hx hfr hR1 hF1 HI6 HF3
   go_wp2_with fail
   refine Calls.mono (rvalue_any (W.heap.size+1) s4 f4 b4.toNat w4 HI7.out.rd (by omega) (by omega) (by omega) st sp (HG.out w4 HI7.out.old)) ?_
   rintro e w5 ⟨hx,hfr⟩
   obtain⟨mn,s5,f5,rfl,hR1,hz5,hlo,hF1⟩:∃(mn:Vl) (s5:ByteArray) (f5:Bool),e=.returned (.agg #[.int .i64 mn.k,.int .i64 mn.n,.string mn.s])/\Rdr 219 w5 (W.heap.size+1) s5 f5/\s5.size<=s.size/\mn.Low/\((f5=true/\NoS s.data.toList)\/(f5=false/\Fc s.data.toList (Um.uv e1++Um.uv u1++[1]++[b4]++Um.txt (plainB b4.toNat [mn])) s5 false/\mn.Ok b4.toNat/\mn.In)):=by
    rcases hx with ⟨n,k,v,h1,h2,h3⟩|⟨h1,h2,h3⟩
    · have hv:=(isPl_one h1.2).1
      refine⟨v,_,_,h2,h3,Nat.le_trans (ext_le s4 _ s4.size (Nat.le_refl _)) hz4,hv.2.2.1.1,?_⟩
      cases f4 with
      | true =>
       rcases HF4.out with h|⟨h,_⟩
       · exact .inl h
       · cases h
      | false=>exact .inr ⟨rfl,fc_v HF4.out h1,hv⟩
    · exact⟨Vl.zero,_,_,h2,h3,hz4,zero_lowR,.inl ⟨rfl,no_v1 he1 (by omega) HF4.out h1⟩⟩
   have HF5:Hid ((f5=true/\NoS s.data.toList)\/(f5=false/\Fc s.data.toList (Um.uv e1++Um.uv u1++[1]++[b4]++Um.txt (plainB b4.toNat [mn])) s5 false/\mn.Ok b4.toNat/\mn.In)):=hF1
   have HI8:Hid (SrI W w5 ⟨e1,u1,true,Vl.zero,Vl.zero⟩ s5 f5):=HI7.out.frame hfr hR1
   have HLo:Hid mn.Low:=hlo
   clear hx hfr hR1 hF1 HI7 HF4 hlo
   go_wp2_with fail
   refine Calls.mono (rvalue_any (W.heap.size+1) s5 f5 b4.toNat w5 HI8.out.rd (by omega) (by omega) (by omega) st sp (HG.out w5 HI8.out.old)) ?_
   rintro e w6 ⟨hx,hfr⟩
   obtain⟨mx,s6,f6,rfl,hR1,hz6,hlo,hF1⟩:∃(mx:Vl) (s6:ByteArray) (f6:Bool),e=.returned (.agg #[.int .i64 mx.k,.int .i64 mx.n,.string mx.s])/\Rdr 219 w6 (W.heap.size+1) s6 f6/\s6.size<=s.size/\mx.Low/\((f6=true/\NoS s.data.toList)\/(f6=false/\s.data.toList=Um.uv e1++Um.uv u1++[1]++[b4]++Um.txt (plainB b4.toNat [mn])++Um.txt (plainB b4.toNat [mx])++s6.data.toList/\(mn.Ok b4.toNat/\mn.In)/\mx.Ok b4.toNat/\mx.In)):=by
    rcases hx with ⟨n,k,v,h1,h2,h3⟩|⟨h1,h2,h3⟩
    · have hv:=(isPl_one h1.2).1
      refine⟨v,_,_,h2,h3,Nat.le_trans (ext_le s5 _ s5.size (Nat.le_refl _)) hz5,hv.2.2.1.1,?_⟩
      rcases HF5.out with ⟨rfl,h⟩|⟨rfl,h,hm⟩
      · exact .inl ⟨rfl,h⟩
      · rcases fc_v h h1 with ⟨h6,_⟩|⟨_,h6⟩
        · cases h6
        · exact .inr ⟨rfl,h6,hm,hv⟩
    · refine⟨Vl.zero,_,_,h2,h3,hz5,zero_lowR,.inl ⟨rfl,?_⟩⟩
      rcases HF5.out with ⟨_,h⟩|⟨_,h,hm⟩
      · exact h
      · exact no_v2 he1 (by omega) ⟨by omega,by omega⟩ hm h h1
   have HI9:Hid (SrI W w6 ⟨e1,u1,true,Vl.zero,Vl.zero⟩ s6 f6):=HI8.out.frame hfr hR1
   have HFn:Hid (FinS s ⟨e1,u1,true,mn,mx⟩ s6 f6):=⟨hz6,HLo.out,hlo,(by
    rcases hF1 with h|⟨h1,h2,h3,h4⟩
    · exact .inl h
    · have hk:mn.k=(b4.toNat:Int):=h3.1.1
      refine .inr ⟨h1,?_,fun _=>⟨?_,?_,?_,?_,h3.2,h4.2⟩,fun h=>by (cases h)⟩
      · rw[h2]
        unfold stTx
        rw[stV_true rfl]
        show _=Um.uv e1++Um.uv u1++_++_
        rw[show (⟨e1,u1,true,mn,mx⟩:St).mn=mn from rfl,hk,show Um.bt (b4.toNat:Int)=b4 from bt_back b4]
        simp only[List.append_assoc,List.cons_append,List.nil_append]
      · show 1<=mn.k;omega
      · show mn.k<=5;omega
      · show mn.Ok mn.k;rw[hk];exact h3.1
      · show mx.Ok mn.k;rw[hk];exact h4.1)⟩
   clear hx hfr hR1 hF1 HI8 HF5 HLo hlo
   obtain⟨⟨t0,t1,t2,t3,t4,t5,t6,t7,t8⟩,y0,y1,y2,y3,y4,y5,y6,y7,y8⟩:=st_row HI9.out.tb
   go_wp2_with fail
   go_meet
   exact⟨mn,mx,s6,f6,(HI9.out.setN mn).setX mx,HFn⟩
 case rest =>
  obtain⟨mn,mx,sf,ff,HI,HFn⟩:=hcut
  rename World=>wz
  clear HI6 HF3
  obtain⟨⟨t0,t1,t2,t3,t4,t5,t6,t7,t8⟩,y0,y1,y2,y3,y4,y5,y6,y7,y8⟩:=st_row HI.out.tb
  obtain⟨⟨c0,c1⟩,c2,c3⟩:=HI.out.rd.cells
  have hgt:=HG.out wz HI.out.old
  cases ff with
  | true =>
   have HNo:Hid (NoS s.data.toList):=(by
    rcases HFn.out.fin with h|h
    · exact h.2
    · cases h.1)
   have HTB:Hid (wz.heap[W.heap.size]? = some (.cells #[.int .i64 e1,.int .i64 u1,.bool hh,.int .i64 mn.k,.int .i64 mn.n,.string mn.s,.int .i64 mx.k,.int .i64 mx.n,.string mx.s] 51 (0,0))):=HI.out.tb
   have HOl:Hid (Below W.heap.size W wz):=HI.out.old
   go_upto_region 9 with fail
   go_region
   all_goals
    go_wp2
    exact bodyPost_ret (v:=.tuple #[.agg #[.int .i64 0,.int .i64 0,.bool false,.int .i64 0,.int .i64 0,.string ⟨#[]⟩,.int .i64 0,.int .i64 0,.string ⟨#[]⟩],.int .i64 0,.iface st sp]) (results_ctt Tryz.results147 _ _ W.heap.size 51 #[.int .i64 0,.int .i64 0,.bool false,.int .i64 0,.int .i64 0,.string ⟨#[]⟩,.int .i64 0,.int .i64 0,.string ⟨#[]⟩] (0,0) _ _ _ rfl rfl rfl (blk_drw (set9_row HTB.out _ _ _ _ _ _ _ _ _)) Tryz.underlying51 rfl (by kernel_rfl)) rfl ⟨.inr ⟨HNo.out,rfl⟩,(set9_below HOl.out (Nat.le_refl _) _ _ _ _ _ _ _ _ _).drew⟩
  | false =>
   have HFf:Hid (s.data.toList=stTx ⟨e1,u1,hh,mn,mx⟩++sf.data.toList/\((⟨e1,u1,hh,mn,mx⟩:St).h=true->(⟨e1,u1,hh,mn,mx⟩:St).Fit)/\((⟨e1,u1,hh,mn,mx⟩:St).h=false->mn=Vl.zero/\mx=Vl.zero)):=(by
    rcases HFn.out.fin with h|h
    · cases h.1
    · exact h.2)
   have HWh:Hid (Calls Tryz.prog 163 #[.agg #[.int .i64 e1,.int .i64 u1,.bool hh,.int .i64 mn.k,.int .i64 mn.n,.string mn.s,.int .i64 mx.k,.int .i64 mx.n,.string mx.s]] wz fun e w'=>e=.returned (.bool ((hh == decide ((u1:Int)<(e1:Int))) && !lss mx mn))/\Below wz.heap.size wz w'):=isWhole_any ⟨e1,u1,hh,mn,mx⟩ wz HFn.out.l1 HFn.out.l2
   have hlen:(stTx ⟨e1,u1,hh,mn,mx⟩).length+sf.size=s.size:=(by
    have h:=congrArg List.length HFf.out.1
    rw[List.length_append,Array.length_toList,Array.length_toList] at h
    exact h.symm)
   obtain⟨wb,HWb⟩:∃b,Hid (((hh == decide ((u1:Int)<(e1:Int))) && !lss mx mn)=b):=⟨_,rfl⟩
   rw[HWb.out] at HWh
   go_wp2_with fail
   refine Calls.mono HWh.out ?_
   rintro e wy ⟨rfl,hby⟩
   have HIy:Hid (SrI W wy ⟨e1,u1,hh,mn,mx⟩ sf false):=HI.out.keep hby
   have HTB:Hid (wy.heap[W.heap.size]? = some (.cells #[.int .i64 e1,.int .i64 u1,.bool hh,.int .i64 mn.k,.int .i64 mn.n,.string mn.s,.int .i64 mx.k,.int .i64 mx.n,.string mx.s] 51 (0,0))):=HIy.out.tb
   have HOl:Hid (Below W.heap.size W wy):=HIy.out.old
   clear t0 t1 t2 t3 t4 t5 t6 t7 t8 y0 y1 y2 y3 y4 y5 y6 y7 y8 c0 c1 c2 c3 hgt hby HI HWh
   obtain⟨⟨t0,t1,t2,t3,t4,t5,t6,t7,t8⟩,y0,y1,y2,y3,y4,y5,y6,y7,y8⟩:=st_row HIy.out.tb
   obtain⟨⟨c0,c1⟩,c2,c3⟩:=HIy.out.rd.cells
   have hgt:=HG.out wy HIy.out.old
   cases wb with
   | false =>
    have HNo:Hid (NoS s.data.toList):=(by
     rintro ⟨t',r',hb⟩
     have h9:=fin_same hb he1 (by omega) HFf.out.1 HFf.out.2.1 HFf.out.2.2
     have h1:=HWb.out
     subst h9
     have h2:=hb.1.h
     have h3:hh=decide ((u1:Int)<(e1:Int)):=h2
     rw[←h3] at h1
     simp only[beq_self_eq_true,Bool.true_and,Bool.not_eq_false'] at h1
     cases hh with
     | true =>
      have h4:=hb.1.ord rfl
      rw[show lss mx mn=true from h1] at h4
      cases h4
     | false =>
      obtain⟨rfl,rfl⟩:=HFf.out.2.2 rfl
      cases h1)
    go_upto_region 9 with fail
    go_region
    all_goals
     go_wp2
     exact bodyPost_ret (v:=.tuple #[.agg #[.int .i64 0,.int .i64 0,.bool false,.int .i64 0,.int .i64 0,.string ⟨#[]⟩,.int .i64 0,.int .i64 0,.string ⟨#[]⟩],.int .i64 0,.iface st sp]) (results_ctt Tryz.results147 _ _ W.heap.size 51 #[.int .i64 0,.int .i64 0,.bool false,.int .i64 0,.int .i64 0,.string ⟨#[]⟩,.int .i64 0,.int .i64 0,.string ⟨#[]⟩] (0,0) _ _ _ rfl rfl rfl (blk_drw (set9_row HTB.out _ _ _ _ _ _ _ _ _)) Tryz.underlying51 rfl (by kernel_rfl)) rfl ⟨.inr ⟨HNo.out,rfl⟩,(set9_below HOl.out (Nat.le_refl _) _ _ _ _ _ _ _ _ _).drew⟩
   | true =>
    have HBg:Hid (BegS s.data.toList ⟨e1,u1,hh,mn,mx⟩ sf.data.toList):=(by
     have h1:=HWb.out
     simp only[Bool.and_eq_true,beq_iff_eq,Bool.not_eq_true'] at h1
     exact⟨⟨⟨by show (0:Int)<=(e1:Int);omega,by show (e1:Int)<=20000;omega⟩,⟨by show (0:Int)<=(u1:Int);omega,by show (u1:Int)<=(e1:Int);omega⟩,h1.1,HFf.out.2.1,fun _=>h1.2,HFf.out.2.2⟩,HFf.out.1⟩)
    have hsub:IntKind.i64.wrap ((s.size:Int)-(sf.size:Int))=(((stTx ⟨e1,u1,hh,mn,mx⟩).length:Nat):Int):=by rw[IntKind.wrap_i64];omega
    go_upto_region 10 with fail
    go_region
    all_goals
     go_wp2
     exact bodyPost_ret (v:=.tuple #[.agg #[.int .i64 e1,.int .i64 u1,.bool hh,.int .i64 mn.k,.int .i64 mn.n,.string mn.s,.int .i64 mx.k,.int .i64 mx.n,.string mx.s],.int .i64 (((stTx ⟨e1,u1,hh,mn,mx⟩).length:Nat):Int),.nilIface]) (results_ctt Tryz.results147 _ _ W.heap.size 51 #[.int .i64 e1,.int .i64 u1,.bool hh,.int .i64 mn.k,.int .i64 mn.n,.string mn.s,.int .i64 mx.k,.int .i64 mx.n,.string mx.s] (0,0) _ _ _ rfl rfl rfl (blk_drw (set9_row HTB.out _ _ _ _ _ _ _ _ _)) Tryz.underlying51 rfl (by kernel_rfl)) rfl ⟨.inl ⟨_,_,HBg.out,rfl⟩,(set9_below HOl.out (Nat.le_refl _) _ _ _ _ _ _ _ _ _).drew⟩
def PgS (kind:Int)(t:St):Prop:=0<t.e/\(t.h=true->t.mn.k=kind)
def RstR (kind:Int)(s:ByteArray)(ev:Value)(e:Ending):Prop :=
 (∃t r,BegS s.data.toList t r/\PgS kind t/\e=.returned (.tuple #[t.val,.int .i64 (stTx t).length,.nilIface])) ∨
 ((¬ ∃t r,BegS s.data.toList t r/\PgS kind t)/\e=.returned (.tuple #[St.zero.val,.int .i64 0,ev]))
theorem begS_fn {l:List UInt8}{t t':St}{r r':List UInt8}(h:BegS l t r)(h':BegS l t' r'):t'=t:=by
 have hx:=h.1.e
 have hy:=h.1.u
 obtain⟨te,tu,th,tn,tx⟩:=t
 obtain⟨e,rfl⟩:=Int.eq_ofNat_of_zero_le hx.1
 obtain⟨u,rfl⟩:=Int.eq_ofNat_of_zero_le hy.1
 have hx2:(e:Int)<=20000:=hx.2
 have hy2:(u:Int)<=(e:Int):=hy.2
 exact fin_same (s:=⟨l.toArray⟩) (sf:=⟨r.toArray⟩) (e:=e) (u:=u) h' (by omega) (by omega) h.2 h.1.fit h.1.zero
theorem readStats_any (lid kind mr md:Int)(pa:Option Addr)(pn pc:Nat)(s:ByteArray)(hs:s.size<=1000000)(W:World)(st:TypeId)(sp:Value)(hg:W.cell? ⟨2,0,none⟩=some (.iface st sp)) :
    Calls Tryz.prog 120 #[.agg #[.int .i64 lid,.int .i64 kind,.int .i64 mr,.int .i64 md,.slice pa pn pc],.string s] W fun e w'=>RstR kind s (.iface st sp) e/\Below W.heap.size W w':=by
 obtain⟨w0,HW0,HX,HY,HB⟩:=two_boxesP W #[.int .i64 lid,.int .i64 kind,.int .i64 mr,.int .i64 md,.slice pa pn pc] #[.int .i64 0,.int .i64 0,.bool false,.int .i64 0,.int .i64 0,.string ⟨#[]⟩,.int .i64 0,.int .i64 0,.string ⟨#[]⟩] 39 51
 have HG:Hid (∀X,Below W.heap.size W X->X.cell? ⟨2,0,none⟩=some (.iface st sp)):=fun X hX=>(hX.cell (World.block_lt_of_cell? W _ hg)).trans hg
 have hgl:2<W.heap.size:=World.block_lt_of_cell? W _ hg
 have hgN:2≠W.heap.size+1:=by omega
 have hgN2:W.heap.size+1≠2:=by omega
 clear hg hgl
 go_enter Tryz.func120,Tryz.ntmps120
 go_upto_region 1 with fail
 rw[HW0.out]
 go_wp2_with fail
 refine Calls.mono (stRead_any s w0 hs st sp (HG.out w0 HB.out)) ?_
 rintro e w1 ⟨hx,hb1⟩
 have HB1:Hid (Below W.heap.size W w1):=HB.out.trans (hb1.mono HB.out.size)
 have HX1:Hid (w1.heap[W.heap.size]? = some (.cells #[.int .i64 lid,.int .i64 kind,.int .i64 mr,.int .i64 md,.slice pa pn pc] 39 (0,0))):=blk_keep hb1 HX.out
 have HY1:Hid (w1.heap[W.heap.size+1]? = some (.cells #[.int .i64 0,.int .i64 0,.bool false,.int .i64 0,.int .i64 0,.string ⟨#[]⟩,.int .i64 0,.int .i64 0,.string ⟨#[]⟩] 51 (0,0))):=blk_keep hb1 HY.out
 clear hb1 HX HY
 obtain⟨⟨p0,p1,p2,p3,p4⟩,_⟩:=row_five HX1.out
 obtain⟨⟨t0,t1,t2,t3,t4,t5,t6,t7,t8⟩,y0,y1,y2,y3,y4,y5,y6,y7,y8⟩:=row_nine HY1.out
 rcases hx with ⟨t,r,hbg,rfl⟩|⟨hno,rfl⟩
 · have HBg:Hid (BegS s.data.toList t r):=hbg
   have HY2:Hid ((set9 w1 (W.heap.size+1) (.int .i64 t.e) (.int .i64 t.u) (.bool t.h) (.int .i64 t.mn.k) (.int .i64 t.mn.n) (.string t.mn.s) (.int .i64 t.mx.k) (.int .i64 t.mx.n) (.string t.mx.s)).heap[W.heap.size+1]? = some (.cells #[.int .i64 t.e,.int .i64 t.u,.bool t.h,.int .i64 t.mn.k,.int .i64 t.mn.n,.string t.mn.s,.int .i64 t.mx.k,.int .i64 t.mx.n,.string t.mx.s] 51 (0,0))):=set9_row HY1.out _ _ _ _ _ _ _ _ _
   have HB2:Hid (Below W.heap.size W (set9 w1 (W.heap.size+1) (.int .i64 t.e) (.int .i64 t.u) (.bool t.h) (.int .i64 t.mn.k) (.int .i64 t.mn.n) (.string t.mn.s) (.int .i64 t.mx.k) (.int .i64 t.mx.n) (.string t.mx.s))):=set9_below HB1.out (by omega) _ _ _ _ _ _ _ _ _
   clear hbg
   have hbk:Below (W.heap.size+1) w1 (set9 w1 (W.heap.size+1) (.int .i64 t.e) (.int .i64 t.u) (.bool t.h) (.int .i64 t.mn.k) (.int .i64 t.mn.n) (.string t.mn.s) (.int .i64 t.mx.k) (.int .i64 t.mx.n) (.string t.mx.s)):=set9_below (Below.refl _ _) (Nat.le_refl _) _ _ _ _ _ _ _ _ _
   obtain⟨w2,HW2⟩:∃w2,Hid (set9 w1 (W.heap.size+1) (.int .i64 t.e) (.int .i64 t.u) (.bool t.h) (.int .i64 t.mn.k) (.int .i64 t.mn.n) (.string t.mn.s) (.int .i64 t.mx.k) (.int .i64 t.mx.n) (.string t.mx.s)=w2):=⟨_,rfl⟩
   rw[HW2.out] at HY2 HB2 hbk
   have HX2:Hid (w2.heap[W.heap.size]? = some (.cells #[.int .i64 lid,.int .i64 kind,.int .i64 mr,.int .i64 md,.slice pa pn pc] 39 (0,0))):=(hbk.block W.heap.size (by omega)).trans HX1.out
   unfold St.val St.cs
   go_upto_region 2 with fail
   unfold set9 at HW2
   rw[HW2.out]
   clear hbk HW2 p0 p1 p2 p3 p4 t0 t1 t2 t3 t4 t5 t6 t7 t8 y0 y1 y2 y3 y4 y5 y6 y7 y8 HY1 HX1 HB1
   obtain⟨⟨p0,p1,p2,p3,p4⟩,_⟩:=row_five HX2.out
   obtain⟨⟨t0,t1,t2,t3,t4,t5,t6,t7,t8⟩,y0,y1,y2,y3,y4,y5,y6,y7,y8⟩:=row_nine HY2.out
   have hgt:=HG.out w2 HB2.out
   by_cases h0:t.e=0
   · have HNo : Hid (¬ ∃ t r, BegS s.data.toList t r ∧ PgS kind t) := fun ⟨t', r', h1, h2⟩ => by
       have h3:=begS_fn HBg.out h1
       subst h3
       have:=h2.1
       omega
     have q1:(t.e == 0)=true:=by simp[h0]
     clear h0
     go_upto_region 5 with fail
     go_region
     all_goals
      go_wp2
      exact bodyPost_ret (v:=.tuple #[.agg #[.int .i64 0,.int .i64 0,.bool false,.int .i64 0,.int .i64 0,.string ⟨#[]⟩,.int .i64 0,.int .i64 0,.string ⟨#[]⟩],.int .i64 0,.iface st sp]) (results_ctt Tryz.results120 _ _ (W.heap.size+1) 51 #[.int .i64 0,.int .i64 0,.bool false,.int .i64 0,.int .i64 0,.string ⟨#[]⟩,.int .i64 0,.int .i64 0,.string ⟨#[]⟩] (0,0) _ _ _ rfl rfl rfl (blk_drw (set9_row HY2.out _ _ _ _ _ _ _ _ _)) Tryz.underlying51 rfl (by kernel_rfl)) rfl ⟨.inr ⟨HNo.out,rfl⟩,(set9_below HB2.out (by omega) _ _ _ _ _ _ _ _ _).drew⟩
   · have q1:(t.e == 0)=false:=by simpa using h0
     obtain⟨th,HTh⟩:∃b,Hid (t.h=b):=⟨_,rfl⟩
     have hep:0<t.e:=by have:=HBg.out.1.e.1;omega
     clear h0
     rw[HTh.out] at t2
     cases th with
     | true =>
      by_cases hk:t.mn.k=kind
      · have HO:Hid (PgS kind t):=⟨hep,fun _=>hk⟩
        have q2:(t.mn.k != kind)=false:=by simp[hk]
        clear hk
        go_wp2
        exact bodyPost_ret (v:=.tuple #[.agg #[.int .i64 t.e,.int .i64 t.u,.bool true,.int .i64 t.mn.k,.int .i64 t.mn.n,.string t.mn.s,.int .i64 t.mx.k,.int .i64 t.mx.n,.string t.mx.s],.int .i64 (((stTx t).length:Nat):Int),.nilIface]) (results_ctt Tryz.results120 _ _ (W.heap.size+1) 51 #[.int .i64 t.e,.int .i64 t.u,.bool true,.int .i64 t.mn.k,.int .i64 t.mn.n,.string t.mn.s,.int .i64 t.mx.k,.int .i64 t.mx.n,.string t.mx.s] (0,0) _ _ _ rfl rfl rfl (set9_row HY2.out _ _ _ _ _ _ _ _ _) Tryz.underlying51 rfl (by kernel_rfl)) rfl ⟨.inl ⟨t,r,HBg.out,HO.out,by unfold St.val St.cs;rw[HTh.out]⟩,set9_below HB2.out (by omega) _ _ _ _ _ _ _ _ _⟩
      · have HNo : Hid (¬ ∃ t r, BegS s.data.toList t r ∧ PgS kind t) := fun ⟨t', r', h1, h2⟩ => by
          have h3:=begS_fn HBg.out h1
          subst h3
          exact hk (h2.2 HTh.out)
        have q2:(t.mn.k != kind)=true:=by simp[hk]
        clear hk
        go_upto_region 5 with fail
        go_region
        all_goals
         go_wp2
         exact bodyPost_ret (v:=.tuple #[.agg #[.int .i64 0,.int .i64 0,.bool false,.int .i64 0,.int .i64 0,.string ⟨#[]⟩,.int .i64 0,.int .i64 0,.string ⟨#[]⟩],.int .i64 0,.iface st sp]) (results_ctt Tryz.results120 _ _ (W.heap.size+1) 51 #[.int .i64 0,.int .i64 0,.bool false,.int .i64 0,.int .i64 0,.string ⟨#[]⟩,.int .i64 0,.int .i64 0,.string ⟨#[]⟩] (0,0) _ _ _ rfl rfl rfl (blk_drw (set9_row HY2.out _ _ _ _ _ _ _ _ _)) Tryz.underlying51 rfl (by kernel_rfl)) rfl ⟨.inr ⟨HNo.out,rfl⟩,(set9_below HB2.out (by omega) _ _ _ _ _ _ _ _ _).drew⟩
     | false =>
      have HO:Hid (PgS kind t):=⟨hep,fun h=>by rw[HTh.out] at h;cases h⟩
      go_wp2
      exact bodyPost_ret (v:=.tuple #[.agg #[.int .i64 t.e,.int .i64 t.u,.bool false,.int .i64 t.mn.k,.int .i64 t.mn.n,.string t.mn.s,.int .i64 t.mx.k,.int .i64 t.mx.n,.string t.mx.s],.int .i64 (((stTx t).length:Nat):Int),.nilIface]) (results_ctt Tryz.results120 _ _ (W.heap.size+1) 51 #[.int .i64 t.e,.int .i64 t.u,.bool false,.int .i64 t.mn.k,.int .i64 t.mn.n,.string t.mn.s,.int .i64 t.mx.k,.int .i64 t.mx.n,.string t.mx.s] (0,0) _ _ _ rfl rfl rfl (set9_row HY2.out _ _ _ _ _ _ _ _ _) Tryz.underlying51 rfl (by kernel_rfl)) rfl ⟨.inl ⟨t,r,HBg.out,HO.out,by unfold St.val St.cs;rw[HTh.out]⟩,set9_below HB2.out (by omega) _ _ _ _ _ _ _ _ _⟩
 · have HNo:Hid (¬ ∃t r,BegS s.data.toList t r/\PgS kind t):=fun ⟨t,r,h,_⟩=>hno ⟨t,r,h⟩
   clear hno
   unfold St.val St.cs St.zero Vl.zero
   go_wp2
   exact bodyPost_ret (v:=.tuple #[.agg #[.int .i64 0,.int .i64 0,.bool false,.int .i64 0,.int .i64 0,.string ⟨#[]⟩,.int .i64 0,.int .i64 0,.string ⟨#[]⟩],.int .i64 0,.iface st sp]) (results_ctt Tryz.results120 _ _ (W.heap.size+1) 51 #[.int .i64 0,.int .i64 0,.bool false,.int .i64 0,.int .i64 0,.string ⟨#[]⟩,.int .i64 0,.int .i64 0,.string ⟨#[]⟩] (0,0) _ _ _ rfl rfl rfl (set9_row (set9_row HY1.out _ _ _ _ _ _ _ _ _) _ _ _ _ _ _ _ _ _) Tryz.underlying51 rfl (by kernel_rfl)) rfl ⟨.inr ⟨HNo.out,rfl⟩,set9_below (set9_below HB1.out (by omega) _ _ _ _ _ _ _ _ _) (by omega) _ _ _ _ _ _ _ _ _⟩
theorem below_dNp {B:Nat}{a w:World}(h:Below B a w)(n:Nat):Below B a (w.drewN n):=h.trans ⟨rfl,rfl,rfl,Nat.le_refl _,fun _ _=>rfl⟩
structure PgAt (s:ByteArray) (n k:Nat):Prop where
 mark:∃r,s.data.toList=80 :: r
 pos:0<k
 rd:Um.rdv (s.data.toList.drop 1) 0 0=(n,k)
 fit:k+5+n<=s.size
theorem PgAt.fn {s:ByteArray}{n k n' k':Nat}(h:PgAt s n k)(h':PgAt s n' k'):n=n'/\k=k':=by
 have h1:=h.rd
 rw[h'.rd] at h1
 cases h1
 exact⟨rfl,rfl⟩
def sumAt (s:ByteArray)(k:Nat):Nat:=Um.lev (((s.extract (1+k) s.size).data.toList).take 4)
def InsR (lf:Bool)(s:ByteArray)(sh tx su:Value)(e:Ending):Prop :=
 (lf=false/\e=.returned (.tuple #[.string ⟨#[]⟩,.int .i64 0,sh])) ∨
 (lf=true/\(¬ ∃n k,PgAt s n k)/\e=.returned (.tuple #[.string ⟨#[]⟩,.int .i64 0,tx])) ∨
 (lf=true/\∃n k,PgAt s n k/\Crc.rem (s.extract (k+5) (k+5+n)).data.toList≠sumAt s k/\e=.returned (.tuple #[.string ⟨#[]⟩,.int .i64 0,su])) ∨
 (lf=true/\∃n k,PgAt s n k/\Crc.rem (s.extract (k+5) (k+5+n)).data.toList=sumAt s k/\e=.returned (.tuple #[.string (s.extract (k+5) (k+5+n)),.int .i64 ((k+5+n:Nat):Int),.nilIface]))
theorem pgIns_any (lid kind mr md:Int)(pa:Option Addr)(pn pc:Nat)(s:ByteArray)(hsz:s.size<=1000000)(W:World)(st kt bt tt ut:TypeId)(sp kp bp tp up:Value)
    (hs:W.cell? ⟨0,0,none⟩=some (.iface st sp)) (hk:W.cell? ⟨3,0,none⟩=some (.iface kt kp)) (hbd:W.cell? ⟨1,0,none⟩=some (.iface bt bp)) (ht:W.cell? ⟨2,0,none⟩=some (.iface tt tp)) (hu:W.cell? ⟨6,0,none⟩=some (.iface ut up)) :
    Calls Tryz.prog 83 #[.agg #[.int .i64 lid,.int .i64 kind,.int .i64 mr,.int .i64 md,.slice pa pn pc],.string s] W fun e w'=>InsR (isLfB kind mr md) s (.iface st sp) (.iface tt tp) (.iface ut up) e/\Below W.heap.size W w':=by
 obtain⟨w0,HW0,HX,HB⟩:=boxed1 W #[.int .i64 lid,.int .i64 kind,.int .i64 mr,.int .i64 md,.slice pa pn pc] 39
 obtain⟨⟨p0,p1,p2,p3,p4⟩,_⟩:=row_five HX.out
 have ck:∀{g:Nat} {v:Value},W.cell? ⟨g,0,none⟩=some v->∀X,Below W.heap.size W X->X.cell? ⟨g,0,none⟩=some v:=fun h X hX=>(hX.cell (World.block_lt_of_cell? W _ h)).trans h
 have HT:Hid (∀X,Below W.heap.size W X->X.cell? ⟨2,0,none⟩=some (.iface tt tp)):=ck ht
 have HU:Hid (∀X,Below W.heap.size W X->X.cell? ⟨6,0,none⟩=some (.iface ut up)):=ck hu
 have HCl:Hid (Calls Tryz.prog 117 #[.agg #[.int .i64 lid,.int .i64 kind,.int .i64 mr,.int .i64 md,.slice pa pn pc]] w0 fun e w'=>e=.returned (if isLfB kind mr md=true then .nilIface else .iface st sp)/\Below w0.heap.size w0 w'):=pgLeaf_any lid kind mr md pa pn pc w0 st kt bt sp kp bp (ck hs w0 HB.out) (ck hk w0 HB.out) (ck hbd w0 HB.out)
 clear ck hs hk hbd ht hu
 obtain⟨lf,HLf⟩:∃b,Hid (isLfB kind mr md=b):=⟨_,rfl⟩
 rw[HLf.out] at HCl ⊢
 go_enter Tryz.func83,Tryz.ntmps83
 go_upto_region 1 with fail
 rw[HW0.out]
 go_wp2_with fail
 refine Calls.mono HCl.out ?_
 rintro e w1 ⟨rfl,hb1⟩
 have HB1:Hid (Below W.heap.size W w1):=HB.out.trans (hb1.mono HB.out.size)
 clear hb1 p0 p1 p2 p3 p4 HCl
 cases lf with
 | false =>
  rw[if_neg (by simp)]
  go_wp2
  go_ret3
  exact⟨.inl ⟨rfl,rfl⟩,HB1.out⟩
 | true =>
  rw[if_pos rfl]
  have hgt:=HT.out w1 HB1.out
  by_cases h0:s.size=0
  · have hse : s = ⟨#[]⟩ := by
      cases s with
      | mk d=>simp[ByteArray.size] at h0;subst h0;rfl
    subst hse
    have HM:Hid (¬ ∃n k,PgAt ⟨#[]⟩ n k):=fun ⟨n,k,h⟩=>by obtain⟨r,h1⟩:=h.mark;cases h1
    go_wp2_with fail
    go_quiet (fail)
    go_wp2
    go_ret3
    exact⟨.inr (.inl ⟨rfl,HM.out,rfl⟩),by first|exact below_dNp HB1.out _|exact HB1.out⟩
  have hpos:0<s.size:=by omega
  have hE:s.toList.isEmpty=false:=by
   cases hh:s.toList with
   | nil => exact absurd (by have h2 : s.toList.length = 0 := by rw [hh]; rfl
                             rw[ByteArray.toList_eq,Array.length_toList] at h2;exact h2) h0
   | cons _ _=>rfl
  have HC0:Hid (s.data.toList=s[0] :: s.data.toList.drop 1):=(by
   show _=_
   have:=drop_cons s 0 hpos
   rw[List.drop_zero] at this
   exact this)
  obtain⟨b,hidx⟩:∃b,s[0]=b:=⟨_,rfl⟩
  rw[hidx] at HC0
  by_cases hb80:b=80
  · subst hb80
    obtain⟨n,k,hnk⟩:∃n k,Um.rdv (s.extract 1 s.size).data.toList 0 0=(n,k):=⟨_,_,rfl⟩
    have hes:(s.extract 1 s.size).size=s.size-1:=by rw[ByteArray.size_extract];omega
    have hroom:=Um.rdv_room (s.extract 1 s.size).data.toList 0 0 (by decide)
    rw[hnk] at hroom
    have hk:k<=s.size-1:=by have:=hroom.2.2;rw[Nat.zero_add,Array.length_toList] at this;rw[←hes];exact this
    have hn64:n<18446744073709551616:=hroom.1
    have HNK:Hid (Um.rdv (s.data.toList.drop 1) 0 0=(n,k)):=(by show _=_;rw[←ext_end];exact hnk)
    have HRd:Hid (Calls Tryz.prog 118 #[.string (s.extract 1 s.size)] w1 fun e w'=>e=.returned (.tuple #[.int .u64 n,.int .i64 k,errOf (.iface tt tp) k])/\Below w1.heap.size w1 w'):=(by
     have h:=readUvarint_any (s.extract 1 s.size) w1 (.iface tt tp) (by unfold maxLen;omega) hgt
     rw[hnk] at h
     exact h)
    have h1s:(1:Int)<=(s.size:Int):=by omega
    clear hnk hroom
    go_wp2_with fail
    refine Calls.mono HRd.out ?_
    rintro e w2 ⟨rfl,hb2⟩
    have HB2:Hid (Below W.heap.size W w2):=HB1.out.trans (hb2.mono HB1.out.size)
    clear hb2 hgt HRd
    by_cases hk0:k=0
    · have e1:errOf (.iface tt tp) k=.iface tt tp:=by unfold errOf;rw[if_pos hk0]
      rw[e1]
      have HM:Hid (¬ ∃n k,PgAt s n k):=fun ⟨n',k',h⟩=>by
       have h1:=h.rd
       rw[HNK.out] at h1
       cases h1
       have:=h.pos
       omega
      go_wp2
      go_ret3
      exact⟨.inr (.inl ⟨rfl,HM.out,rfl⟩),HB2.out⟩
    · have e1:errOf (.iface tt tp) k=.nilIface:=by unfold errOf;rw[if_neg hk0]
      rw[e1]
      have hw1:IntKind.i64.wrap (1+(k:Int))=((1+k:Nat):Int):=by rw[IntKind.wrap_i64];omega
      have h2s:((1+k:Nat):Int)<=(s.size:Int):=by omega
      have hgt:=HT.out w2 HB2.out
      have hfs:(s.extract (1+k) s.size).size=s.size-(1+k):=by rw[ByteArray.size_extract];omega
      obtain⟨sx,HSx⟩:∃x,Hid (s.extract (1+k) s.size=x):=⟨_,rfl⟩
      by_cases h4:s.size<k+5
      · have HRf:Hid (Calls Tryz.prog 119 #[.string (s.extract (1+k) s.size),.int .i64 4] w2 fun e w'=>e=.returned (.tuple #[.int .u64 0,.iface tt tp])/\Below w2.heap.size w2 w'):=readFixed_short _ 4 w2 _ hgt (by omega) (by omega) (by omega)
        have HM:Hid (¬ ∃n k,PgAt s n k):=fun ⟨n',k',h⟩=>by
         have h1:=h.rd
         rw[HNK.out] at h1
         cases h1
         have:=h.fit
         omega
        go_wp2_with fail
        refine Calls.mono HRf.out ?_
        rintro e w3 ⟨rfl,hb3⟩
        have HB3:Hid (Below W.heap.size W w3):=HB2.out.trans (hb3.mono HB2.out.size)
        clear hb3
        go_wp2
        go_ret3
        exact⟨.inr (.inl ⟨rfl,HM.out,rfl⟩),HB3.out⟩
      · have HRf:Hid (Calls Tryz.prog 119 #[.string (s.extract (1+k) s.size),.int .i64 4] w2 fun e w'=>e=.returned (.tuple #[.int .u64 (sumAt s k:Nat),.nilIface])/\w'=w2):=readFixed_ok _ 4 w2 (by omega) (by omega) (by omega) (by omega)
        have hw2:IntKind.i64.wrap (((1+k:Nat):Int)+4)=((k+5:Nat):Int):=by rw[IntKind.wrap_i64];omega
        have hw3:IntKind.i64.wrap ((s.size:Int)-((k+5:Nat):Int))=((s.size-(k+5):Nat):Int):=by rw[IntKind.wrap_i64];omega
        have hw4:IntKind.u64.wrap ((s.size-(k+5):Nat):Int)=((s.size-(k+5):Nat):Int):=by unfold IntKind.wrap IntKind.signed IntKind.bits;simp;omega
        go_wp2_with fail
        refine Calls.mono HRf.out ?_
        rintro e w3 ⟨rfl,hw⟩
        obtain rfl:=hw.symm
        by_cases hf:k+5+n<=s.size
        · have q1:decide (((s.size-(k+5):Nat):Int)<(n:Int))=false:=by simp;omega
          have HAt:Hid (PgAt s n k):=⟨⟨_,HC0.out⟩,by omega,HNK.out,hf⟩
          have hwn:IntKind.i64.wrap (n:Int)=(n:Int):=by rw[IntKind.wrap_i64];omega
          have hwe:IntKind.i64.wrap (((k+5:Nat):Int)+(n:Int))=((k+5+n:Nat):Int):=by rw[IntKind.wrap_i64];omega
          have hle1:((k+5:Nat):Int)<=((k+5+n:Nat):Int):=by omega
          have hle2:((k+5+n:Nat):Int)<=(s.size:Int):=by omega
          have hbs:(s.extract (k+5) (k+5+n)).size=n:=by rw[ByteArray.size_extract];omega
          have HSm:Hid (Calls Tryz.prog 65 #[.string (s.extract (k+5) (k+5+n))] w2 fun e w'=>e=.returned (.int .u32 (Crc.rem (s.extract (k+5) (k+5+n)).data.toList:Nat))/\Below w2.heap.size w2 w'):=sum_any _ w2 (by omega)
          have hrl:=Crc.rem_lt (s.extract (k+5) (k+5+n)).data.toList
          obtain⟨bd,HBd⟩:∃x,Hid (s.extract (k+5) (k+5+n)=x):=⟨_,rfl⟩
          obtain⟨r,HRm⟩:∃x,Hid (Crc.rem (s.extract (k+5) (k+5+n)).data.toList=x):=⟨_,rfl⟩
          rw[HRm.out] at HSm hrl
          rw[HBd.out] at HSm hbs
          have hcr:IntKind.u64.wrap (r:Int)=(r:Int):=by unfold IntKind.wrap IntKind.signed IntKind.bits;simp;omega
          have hex:s.extract (1+k+4) (1+k+4+n)=bd:=by rw[show 1+k+4=k+5 by omega];exact HBd.out
          have hwu:IntKind.i64.wrap (1+(k:Int)+4+(n:Int))=1+(k:Int)+4+(n:Int):=by rw[IntKind.wrap_i64];omega
          clear hgt
          go_wp2_with fail
          (try rw[hex])
          refine Calls.mono HSm.out ?_
          rintro e w4 ⟨rfl,hb4⟩
          have HB4:Hid (Below W.heap.size W w4):=HB2.out.trans (hb4.mono HB2.out.size)
          have hgu:=HU.out w4 HB4.out
          clear hb4
          by_cases hq:r=sumAt s k
          · have q2:((r:Int) != (sumAt s k:Int))=false:=by simp[hq]
            have HEq:Hid (Crc.rem (s.extract (k+5) (k+5+n)).data.toList=sumAt s k):=HRm.out.trans hq
            have HBx:Hid (s.extract (k+5) (k+5+n)=bd):=HBd.out
            clear hq hex
            go_wp2
            go_ret3
            exact⟨.inr (.inr (.inr ⟨rfl,n,k,HAt.out,HEq.out,by rw[HBx.out,show ((k+5+n:Nat):Int)=1+(k:Int)+4+(n:Int) by omega];rfl⟩)),HB4.out⟩
          · have q2:((r:Int) != (sumAt s k:Int))=true:=by simp;omega
            have HEq:Hid (Crc.rem (s.extract (k+5) (k+5+n)).data.toList≠sumAt s k):=fun h=>hq (HRm.out.symm.trans h)
            clear hq hex
            go_wp2_with fail
            go_quiet (fail)
            go_wp2
            go_ret3
            exact⟨.inr (.inr (.inl ⟨rfl,n,k,HAt.out,HEq.out,rfl⟩)),by first|exact below_dNp HB4.out _|exact HB4.out⟩
        · have q1:decide (((s.size-(k+5):Nat):Int)<(n:Int))=true:=by simp;omega
          have HM:Hid (¬ ∃n k,PgAt s n k):=fun ⟨n',k',h⟩=>by
           have h1:=h.rd
           rw[HNK.out] at h1
           cases h1
           exact hf h.fit
          go_wp2_with fail
          go_quiet (fail)
          go_wp2
          go_ret3
          exact⟨.inr (.inl ⟨rfl,HM.out,rfl⟩),by first|exact below_dNp HB2.out _|exact HB2.out⟩
  · have q1 : (((b.toNat : Nat) : Int) != 80) = true := (by
      simp only[bne_iff_ne,ne_eq]
      intro h
      exact hb80 (UInt8.toNat_inj.1 (by show b.toNat=80;omega)))
    have HM:Hid (¬ ∃n k,PgAt s n k):=fun ⟨n,k,h⟩=>by
     obtain⟨r,h1⟩:=h.mark
     rw[HC0.out] at h1
     cases h1
     exact hb80 rfl
    go_wp2_with fail
    go_quiet (fail)
    go_wp2
    go_ret3
    exact⟨.inr (.inl ⟨rfl,HM.out,rfl⟩),by first|exact below_dNp HB1.out _|exact HB1.out⟩
theorem pgB_len (b:List UInt8):(pgB b).length=(Um.uv b.length).length+5+b.length:=by
 unfold pgB
 simp only[List.length_append,Um.lit_len,List.length_cons,List.length_nil]
 omega
theorem lev_lit4 {n:Nat}(h:n<4294967296):Um.lev (Um.lit n 4)=n:=by rw[Um.lev_lit,Nat.mod_eq_of_lt h]
def St.eqB (a b:St):Bool:=decide (a.e=b.e) && (decide (a.u=b.u) && (decide (a.h=b.h) && (decide (a.mn.k=b.mn.k) && (decide (a.mn.n=b.mn.n) && (decide (a.mn.s.toList=b.mn.s.toList) && (decide (a.mx.k=b.mx.k) && (decide (a.mx.n=b.mx.n) && decide (a.mx.s.toList=b.mx.s.toList))))))))
theorem St.eqB_iff {a b:St}:a.eqB b=true ↔ a=b:=by
 obtain⟨ae,au,ah,⟨ak,an,as_⟩,⟨bk,bn,bs⟩⟩:=a
 obtain⟨ae',au',ah',⟨ak',an',as'⟩,⟨bk',bn',bs'⟩⟩:=b
 unfold St.eqB
 simp only[Bool.and_eq_true,decide_eq_true_eq,St.mk.injEq,Vl.mk.injEq]
 constructor
 · rintro ⟨h1,h2,h3,h4,h5,h6,h7,h8,h9⟩
   exact⟨h1,h2,h3,⟨h4,h5,str_ext h6⟩,h7,h8,str_ext h9⟩
 · rintro ⟨h1,h2,h3,⟨h4,h5,h6⟩,h7,h8,h9⟩
   exact⟨h1,h2,h3,h4,h5,by rw[h6],h7,h8,by rw[h9]⟩
theorem ite_ok {p:Prop}[Decidable p]{q:Bool}{W:World}:(if p then Result.ok (Value.bool q) W else Result.ok (Value.bool false) W)=Result.ok (Value.bool (decide p && q)) W:=by
 by_cases h:p<;>simp[h]
theorem eqSt_run (a b:St)(W:World):(binOp .eql 51 (.agg #[.int .i64 a.e,.int .i64 a.u,.bool a.h,.int .i64 a.mn.k,.int .i64 a.mn.n,.string a.mn.s,.int .i64 a.mx.k,.int .i64 a.mx.n,.string a.mx.s]) (.agg #[.int .i64 b.e,.int .i64 b.u,.bool b.h,.int .i64 b.mn.k,.int .i64 b.mn.n,.string b.mn.s,.int .i64 b.mx.k,.int .i64 b.mx.n,.string b.mx.s])).run Tryz.prog W=.ok (.bool (a.eqB b)) W:=by
 obtain⟨ae,au,ah,⟨ak,an,as_⟩,⟨bk,bn,bs⟩⟩:=a
 obtain⟨ae',au',ah',⟨ak',an',as'⟩,⟨bk',bn',bs'⟩⟩:=b
 go_simp
 unfold St.eqB
 simp only[ite_ok,Bool.and_true]
def Cl.zr (c:Cl):Cl:=⟨c.id,c.ra,0 :: c.rs.tail,c.rc,c.da,c.ds,c.dc,c.va,c.vs,c.vc⟩
theorem Cl.zr_len {c:Cl}(h:0<c.rs.length):c.zr.rs.length=c.rs.length:=by
 unfold Cl.zr
 simp only[List.length_cons,List.length_tail]
 omega
theorem Cl.zr_of {c:Cl}(h:0<c.rs.length):ofC c.zr=ofC c:=by
 unfold ofC
 rw[Cl.zr_len h]
 rfl
theorem lies_zero {w:World}{g ty n:Nat}{cur:Array Value}{xs:List Int}(h:w.heap[g]? = some (.cells cur ty (0,0)))(ht:cur.toList.take n=i64s xs)(hl:xs.length=n)(h0:0<n):Lies (w.setCell ⟨g,0,none⟩ (.int .i64 0)) (some ⟨g,0,none⟩) (i64s (0 :: xs.tail)):=by
 intro j hj
 refine⟨g,0,rfl,?_⟩
 rw[Nat.zero_add]
 have hj2:j<xs.length:=by
  simp only[i64s_len,List.length_cons,List.length_tail] at hj
  omega
 have hc:w.cell? ⟨g,j,none⟩=some (.int .i64 xs[j]):=by
  rw[cell_of_row w g j cur ty (0,0) h]
  have h2:(cur.toList.take n)[j]? = some (.int .i64 xs[j]):=by rw[ht];simp[i64s,hj2]
  rw[List.getElem?_take_of_lt (by omega)] at h2
  simpa using h2
 cases j with
 | zero =>
  rw[World.cell?_setCell_same _ _ _ hc]
  rfl
 | succ j =>
  rw[World.cell?_setCell_other _ _ _ _ (fun e=>by injection e with _ e;omega),hc]
  simp[i64s]
theorem isTold_any (lid kind mr md:Int)(pa:Option Addr)(pn pc:Nat)(c:Cl)(t:St)(W:World)(st kt bt:TypeId)(sp kp bp:Value)
    (h0:0<c.rs.length) (hn:c.rs.length<=20000) (hn2:c.ds.length<=20000) (hv:c.vs.length<=20000) (hcd:c.ds.length<=c.dc) (hcv:c.vs.length<=c.vc)
    (hs:W.cell? ⟨0,0,none⟩=some (.iface st sp)) (hk:W.cell? ⟨3,0,none⟩=some (.iface kt kp)) (hbd:W.cell? ⟨1,0,none⟩=some (.iface bt bp)) (hat:c.At W) (hlo:∀v∈c.vs,v.Low) :
    Calls Tryz.prog 123 #[.agg #[.int .i64 lid,.int .i64 kind,.int .i64 mr,.int .i64 md,.slice pa pn pc],.agg #[.int .i64 c.id,.slice c.ra c.rs.length c.rc,.slice c.da c.ds.length c.dc,.slice c.va c.vs.length c.vc],.agg #[.int .i64 t.e,.int .i64 t.u,.bool t.h,.int .i64 t.mn.k,.int .i64 t.mn.n,.string t.mn.s,.int .i64 t.mx.k,.int .i64 t.mx.n,.string t.mx.s]] W fun e w'=>(∃b,e=.returned (.bool b)/\(b=true ↔ GoodC lid kind mr md c.zr/\ofC c=t))/\Below W.heap.size W w':=by
 obtain⟨w0,HW0,HX,HY,HZ,HB⟩:=three_boxes W #[.int .i64 lid,.int .i64 kind,.int .i64 mr,.int .i64 md,.slice pa pn pc] #[.int .i64 c.id,.slice c.ra c.rs.length c.rc,.slice c.da c.ds.length c.dc,.slice c.va c.vs.length c.vc] #[.int .i64 t.e,.int .i64 t.u,.bool t.h,.int .i64 t.mn.k,.int .i64 t.mn.n,.string t.mn.s,.int .i64 t.mx.k,.int .i64 t.mx.n,.string t.mx.s] 39 27 51
 have ck:∀{g:Nat} {v:Value},W.cell? ⟨g,0,none⟩=some v->∀X,Below W.heap.size W X->X.cell? ⟨g,0,none⟩=some v:=fun h X hX=>(hX.cell (World.block_lt_of_cell? W _ h)).trans h
 have HS:Hid (∀X,Below W.heap.size W X->X.cell? ⟨0,0,none⟩=some (.iface st sp)):=ck hs
 have HK:Hid (∀X,Below W.heap.size W X->X.cell? ⟨3,0,none⟩=some (.iface kt kp)):=ck hk
 have HBd:Hid (∀X,Below W.heap.size W X->X.cell? ⟨1,0,none⟩=some (.iface bt bp)):=ck hbd
 have HAT:Hid (c.At W):=hat
 have HLO:Hid (∀v∈c.vs,v.Low):=hlo
 clear ck hs hk hbd hat hlo
 obtain⟨k0,k1,k2,k3⟩:=row_four HY.out
 obtain⟨m0,m1,m2,m3⟩:=row_fourA HY.out
 go_enter Tryz.func123,Tryz.ntmps123
 go_upto_region 1 with fail
 rw[HW0.out]
 go_wp2_with fail
 refine Calls.mono (cloneI_any c.ra c.rc c.rs w0 hn h0 (HAT.out.keep HB.out).r) ?_
 rintro e w1 ⟨⟨v,rfl,how⟩,hb1⟩
 obtain⟨g,cap,cur,rfl,hg,hgg,hcap,htk⟩:∃g cap cur,v=.slice (some ⟨g,0,none⟩) c.rs.length cap/\w0.heap.size<=g/\w1.heap[g]? = some (.cells cur 3 (0,0))/\c.rs.length<=cap/\cur.toList.take c.rs.length=i64s c.rs:=by
  rcases how.2 with ⟨_,h1⟩|⟨g,cap,cur,h1,h2,h3,h4,_,_,h5⟩
  · omega
  · exact⟨g,cap,cur,h1,h2,h3,h4,by rw[Nat.mul_one] at h5;exact h5⟩
 have hWz:W.heap.size+1+1<w0.heap.size:=lt_of_block HZ.out
 have HX1:Hid (w1.heap[W.heap.size]? = some (.cells #[.int .i64 lid,.int .i64 kind,.int .i64 mr,.int .i64 md,.slice pa pn pc] 39 (0,0))):=blk_keep hb1 HX.out
 have HY1:Hid (w1.heap[W.heap.size+1]? = some (.cells #[.int .i64 c.id,.slice c.ra c.rs.length c.rc,.slice c.da c.ds.length c.dc,.slice c.va c.vs.length c.vc] 27 (0,0))):=blk_keep hb1 HY.out
 have HZ1:Hid (w1.heap[W.heap.size+1+1]? = some (.cells #[.int .i64 t.e,.int .i64 t.u,.bool t.h,.int .i64 t.mn.k,.int .i64 t.mn.n,.string t.mn.s,.int .i64 t.mx.k,.int .i64 t.mx.n,.string t.mx.s] 51 (0,0))):=blk_keep hb1 HZ.out
 have HB1:Hid (Below W.heap.size W w1):=HB.out.trans (hb1.mono HB.out.size)
 have HX2:Hid ((w1.setCell ⟨W.heap.size+1,1,none⟩ (.slice (some ⟨g,0,none⟩) c.rs.length cap)).heap[W.heap.size]? = some (.cells #[.int .i64 lid,.int .i64 kind,.int .i64 mr,.int .i64 md,.slice pa pn pc] 39 (0,0))):=blk_other HX1.out (by omega) _
 have HY2:Hid ((w1.setCell ⟨W.heap.size+1,1,none⟩ (.slice (some ⟨g,0,none⟩) c.rs.length cap)).heap[W.heap.size+1]? = some (.cells #[.int .i64 c.id,.slice (some ⟨g,0,none⟩) c.rs.length cap,.slice c.da c.ds.length c.dc,.slice c.va c.vs.length c.vc] 27 (0,0))):=row_setCell HY1.out _
 have HZ2:Hid ((w1.setCell ⟨W.heap.size+1,1,none⟩ (.slice (some ⟨g,0,none⟩) c.rs.length cap)).heap[W.heap.size+1+1]? = some (.cells #[.int .i64 t.e,.int .i64 t.u,.bool t.h,.int .i64 t.mn.k,.int .i64 t.mn.n,.string t.mn.s,.int .i64 t.mx.k,.int .i64 t.mx.n,.string t.mx.s] 51 (0,0))):=blk_other HZ1.out (by omega) _
 have HG2:Hid ((w1.setCell ⟨W.heap.size+1,1,none⟩ (.slice (some ⟨g,0,none⟩) c.rs.length cap)).heap[g]? = some (.cells cur 3 (0,0))):=blk_other hgg (by omega) _
 have HB2:Hid (Below W.heap.size W (w1.setCell ⟨W.heap.size+1,1,none⟩ (.slice (some ⟨g,0,none⟩) c.rs.length cap))):=HB1.out.setCell (by simp) _
 have HTk:Hid (cur.toList.take c.rs.length=i64s c.rs):=htk
 clear how hb1 hgg k0 k1 k2 k3 m0 m1 m2 m3 HX HY HZ HB HX1 HZ1 HB1 HW0 htk
 obtain⟨k0,k1,k2,k3⟩:=row_four HY1.out
 obtain⟨m0,m1,m2,m3⟩:=row_fourA HY1.out
 go_upto_region 2 with fail
 generalize w1.setCell ⟨W.heap.size+1,1,none⟩ (.slice (some ⟨g,0,none⟩) c.rs.length cap)=w2 at HX2 HY2 HZ2 HG2 HB2 ⊢
 clear k0 k1 k2 k3 m0 m1 m2 m3 HY1
 obtain⟨k0,k1,k2,k3⟩:=row_four HY2.out
 obtain⟨y,g0⟩:∃y,w2.cell? ⟨g,0,none⟩=some y:=by
  rw[cell_of_row w2 g 0 cur _ (0,0) HG2.out]
  have:0<cur.size:=by
   have h2:=congrArg List.length HTk.out
   rw[i64s_len,List.length_take,Array.length_toList] at h2
   omega
  exact⟨_,Array.getElem?_eq_getElem this⟩
 have f0:w2.frozen? ⟨g,0,none⟩=false:=frozen_of_row w2 g 0 cur _ HG2.out
 have hne:g≠W.heap.size+1:=by omega
 have HX3:Hid ((w2.setCell ⟨g,0,none⟩ (.int .i64 0)).heap[W.heap.size]? = some (.cells #[.int .i64 lid,.int .i64 kind,.int .i64 mr,.int .i64 md,.slice pa pn pc] 39 (0,0))):=blk_other HX2.out (by omega) _
 have HY3:Hid ((w2.setCell ⟨g,0,none⟩ (.int .i64 0)).heap[W.heap.size+1]? = some (.cells #[.int .i64 c.id,.slice (some ⟨g,0,none⟩) c.rs.length cap,.slice c.da c.ds.length c.dc,.slice c.va c.vs.length c.vc] 27 (0,0))):=blk_other HY2.out (by omega) _
 have HZ3:Hid ((w2.setCell ⟨g,0,none⟩ (.int .i64 0)).heap[W.heap.size+1+1]? = some (.cells #[.int .i64 t.e,.int .i64 t.u,.bool t.h,.int .i64 t.mn.k,.int .i64 t.mn.n,.string t.mn.s,.int .i64 t.mx.k,.int .i64 t.mx.n,.string t.mx.s] 51 (0,0))):=blk_other HZ2.out (by omega) _
 have HB3:Hid (Below W.heap.size W (w2.setCell ⟨g,0,none⟩ (.int .i64 0))):=HB2.out.setCell (by simp;omega) _
 have HL3:Hid (Lies (w2.setCell ⟨g,0,none⟩ (.int .i64 0)) (some ⟨g,0,none⟩) (i64s (0 :: c.rs.tail))):=lies_zero HG2.out HTk.out rfl h0
 go_upto_region 3 with fail
 generalize w2.setCell ⟨g,0,none⟩ (.int .i64 0)=w3 at HX3 HY3 HZ3 HB3 HL3 ⊢
 clear k0 k1 k2 k3 g0 f0 HX2 HY2 HZ2 HB2 HG2 HTk
 obtain⟨⟨p0,p1,p2,p3,p4⟩,_⟩:=row_five HX3.out
 obtain⟨k0,k1,k2,k3⟩:=row_four HY3.out
 have hzl:=Cl.zr_len h0
 have HOf:Hid (Calls Tryz.prog 31 #[.agg #[.int .i64 lid,.int .i64 kind,.int .i64 mr,.int .i64 md,.slice pa pn pc],.agg #[.int .i64 c.id,.slice (some ⟨g,0,none⟩) c.rs.length cap,.slice c.da c.ds.length c.dc,.slice c.va c.vs.length c.vc]] w3 fun e w'=>(∃(s:St) (ev:Value),e=.returned (.tuple #[s.val,ev])/\OfR w3.heap.size lid kind mr md c.zr (.iface st sp) (.iface kt kp) s ev w')/\Below w3.heap.size w3 w'):=(by
  have h:=of_any lid kind mr md pa pn pc ⟨c.id,some ⟨g,0,none⟩,c.zr.rs,cap,c.da,c.ds,c.dc,c.va,c.vs,c.vc⟩ w3 st kt bt sp kp bp (by show c.zr.rs.length<=_;omega) (by show c.ds.length<=_;omega) (by show c.vs.length<=_;omega) (by show c.zr.rs.length<=cap;omega) hcd hcv (HS.out w3 HB3.out) (HK.out w3 HB3.out) (HBd.out w3 HB3.out) ⟨HL3.out,(HAT.out.keep HB3.out).d,(HAT.out.keep HB3.out).v⟩ HLO.out
  unfold leafV Cl.val colV at h
  simp only[hzl] at h
  exact h)
 go_wp2_with fail
 refine Calls.mono HOf.out ?_
 rintro e w4 ⟨⟨s,ev,rfl,hor⟩,hb4⟩
 have HOr:Hid (OfR w3.heap.size lid kind mr md c.zr (.iface st sp) (.iface kt kp) s ev w4):=hor
 obtain⟨w5,HW5,HS5,HB5'⟩:=boxed1 w4 s.cs 51
 have HZ5:Hid (w5.heap[W.heap.size+1+1]? = some (.cells #[.int .i64 t.e,.int .i64 t.u,.bool t.h,.int .i64 t.mn.k,.int .i64 t.mn.n,.string t.mn.s,.int .i64 t.mx.k,.int .i64 t.mx.n,.string t.mx.s] 51 (0,0))):=blk_keep HB5'.out (blk_keep hb4 HZ3.out)
 have HB5:Hid (Below W.heap.size W w5):=(HB3.out.trans (hb4.mono HB3.out.size)).trans (HB5'.out.mono (Nat.le_trans HB3.out.size hb4.size))
 clear hor hb4 HOf p0 p1 p2 p3 p4 k0 k1 k2 k3
 obtain⟨⟨s0,s1,s2,s3,s4,s5,s6,s7,s8⟩,_⟩:=st_row HS5.out
 obtain⟨⟨t0,t1,t2,t3,t4,t5,t6,t7,t8⟩,_⟩:=row_nine HZ5.out
 unfold St.val St.cs
 unfold St.cs at HW5
 go_upto_region 4 with fail
 rw[HW5.out]
 have hzo:=Cl.zr_of h0
 rcases HOr.out with ⟨h1,h2,rfl⟩|⟨h1,p,hp,h2,h3,q,h4,h5,rfl,h6,h7⟩|⟨hg,rfl,hs⟩
 · have HR:Hid (¬ (GoodC lid kind mr md c.zr/\ofC c=t)):=fun h=>by have:=h.1.1;rw[h1] at this;cases this
   clear h1 h2 HOr s0 s1 s2 s3 s4 s5 s6 s7 s8 t0 t1 t2 t3 t4 t5 t6 t7 t8 hzo hzl
   go_wp2
   go_ret
   exact⟨⟨false,rfl,⟨fun h=>by (cases h),fun h=>absurd h HR.out⟩⟩,HB5.out⟩
 · have HR:Hid (¬ (GoodC lid kind mr md c.zr/\ofC c=t)):=fun h=>by have:=h.1.2 p hp;rw[h2] at this;cases this
   clear h1 h2 h3 h4 h5 h6 h7 HOr s0 s1 s2 s3 s4 s5 s6 s7 s8 t0 t1 t2 t3 t4 t5 t6 t7 t8 hzo hzl
   go_wp2
   go_ret
   exact⟨⟨false,rfl,⟨fun h=>by (cases h),fun h=>absurd h HR.out⟩⟩,HB5.out⟩
 · have HR : Hid (s.eqB t = true ↔ GoodC lid kind mr md c.zr ∧ ofC c = t) := (by
     show _ ↔ _
     rw[St.eqB_iff,hs,hzo]
     exact⟨fun h=>⟨hg,h⟩,fun h=>h.2⟩)
   have hq:=eqSt_run s t
   clear hg hs HOr hzo hzl
   go_wp2
   go_ret
   exact⟨⟨_,rfl,HR.out⟩,HB5.out⟩
end Go.Proofs.YtoeiahdjamkdgaaGreatDoor
