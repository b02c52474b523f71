/-
  Two lists of as many right values with the same plain bytes are the same: the mathematics.
  What values plain bytes are: the mathematics, without the program.
  What numbers 0 or 1 bytes are: the mathematics, without the program.
  What texts bytes are: the mathematics, without the program.
  What texts bytes are, each read behind the one ahead: the mathematics, without the program.
  enc.signed and enc.readNumbers: the numbers that bytes are.
  enc.readTexts: the texts that bytes are.
  enc.readBools and enc.ReadPlain: what values bytes are.
  The reference's PlainOf: the bytes of right values.
  A slice of ints that came in: what it holds; that it reads behind the call as it did before.
-/
import Derived.Test.YtoeiahdjamkdgaaGreatDoorWBPTexts
import Derived.Test.YtoeiahdjamkdgaaGreatDoorWBOpenVals
set_option maxRecDepth 100000
set_option maxHeartbeats 1600000
namespace Go.Proofs.YtoeiahdjamkdgaaGreatDoor
open Go.RowKit
namespace Um
theorem u64_inj {n m:Int}(hn:-9223372036854775808<=n/\n<=9223372036854775807)(hm:-9223372036854775808<=m/\m<=9223372036854775807)(h:u64 n=u64 m):n=m:=by
 unfold u64 at h;omega
theorem u32_inj {n m:Int}(hn:-2147483648<=n/\n<=2147483647)(hm:-2147483648<=m/\m<=2147483647)(h:u64 n % 2 ^ (8*4)=u64 m % 2 ^ (8*4)):n=m:=by
 unfold u64 at h;omega
theorem nums_inj (k:Nat)(f:Int->Prop)(hf:∀n m,f n->f m->lit (u64 n) k=lit (u64 m) k->n=m):∀(ns ms:List Int),ns.length=ms.length->(∀n∈ns,f n)->(∀n∈ms,f n)->nums k ns=nums k ms->ns=ms
 | [],[],_,_,_,_=>rfl
 | [],_ :: _,h,_,_,_=>by simp at h
 | _ :: _,[],h,_,_,_=>by simp at h
 | n :: ns,m :: ms,hl,hn,hm,h=>by
  have e1:nums k (n :: ns)=lit (u64 n) k++nums k ns:=by simp[nums]
  have e2:nums k (m :: ms)=lit (u64 m) k++nums k ms:=by simp[nums]
  rw[e1,e2] at h
  obtain⟨h1,h2⟩:=List.append_inj h (by rw[lit_len,lit_len])
  rw[hf n m (hn n (by simp)) (hm m (by simp)) h1,nums_inj k f hf ns ms (by simpa using hl) (fun x hx=>hn x (by simp[hx])) (fun x hx=>hm x (by simp[hx])) h2]
theorem txt_inj {s t r q:List UInt8}(hs:s.length<18446744073709551616)(ht:t.length<18446744073709551616)(h:txt s++r=txt t++q):s=t/\r=q:=by
 unfold txt at h
 rw[List.append_assoc,List.append_assoc] at h
 have h1:=rdv_whole s.length (s++r) hs
 have h2:=rdv_whole t.length (t++q) ht
 rw[h,h2] at h1
 have hl:s.length=t.length:=by injection h1 with h1 _;exact h1.symm
 rw[hl] at h
 have h3:=List.append_cancel_left h
 exact List.append_inj h3 hl
theorem txts_inj:∀(ss ts:List (List UInt8)),ss.length=ts.length->(∀s∈ss,s.length<=100)->(∀s∈ts,s.length<=100)->txts ss=txts ts->ss=ts
 | [],[],_,_,_,_=>rfl
 | [],_ :: _,h,_,_,_=>by simp at h
 | _ :: _,[],h,_,_,_=>by simp at h
 | s :: ss,t :: ts,hl,hs,ht,h=>by
  have e1:txts (s :: ss)=txt s++txts ss:=by simp[txts]
  have e2:txts (t :: ts)=txt t++txts ts:=by simp[txts]
  rw[e1,e2] at h
  have b1:=hs s (by simp)
  have b2:=ht t (by simp)
  obtain⟨h1,h2⟩:=txt_inj (by omega) (by omega) h
  rw[h1,txts_inj ss ts (by simpa using hl) (fun x hx=>hs x (by simp[hx])) (fun x hx=>ht x (by simp[hx])) h2]
end Um
theorem packed_inj {xs ys:List Int}(hl:xs.length=ys.length)(hx:∀x∈xs,x=0\/x=1)(hy:∀x∈ys,x=0\/x=1)(h:packed 1 xs=packed 1 ys):xs=ys:=by
 have lt:∀zs:List Int,(∀x∈zs,x=0\/x=1)->∀x∈nats zs,x<2 ^ 1:=fun zs hz x hm=>by
  obtain⟨y,hy,rfl⟩:=List.mem_map.1 hm
  have:=hz y hy
  omega
 have back:∀zs:List Int,(∀x∈zs,x=0\/x=1)->zs=(Um.unp (packed 1 zs) 1 zs.length).map (fun n:Nat=>(n:Int)):=fun zs hz=>by
  have h:=Um.unp_packed 1 (nats zs) ((1*zs.length+7) / 8) [] (lt zs hz) (by rw[nats_len];omega)
  rw[List.append_nil,nats_len] at h
  unfold packed
  rw[h]
  unfold nats
  rw[List.map_map]
  refine (List.map_id' zs).symm.trans (List.map_congr_left fun x hm=>?_)
  have:=hz x hm
  simp;omega
 rw[back xs hx,back ys hy,h,hl]
theorem vl_ext {v u:Vl}(h1:v.k=u.k)(h2:v.n=u.n)(h3:v.s=u.s):v=u:=by cases v;cases u;simp_all
theorem vs_ext {vs us:List Vl}(h1:vs.map (·.k)=us.map (·.k))(h2:vns vs=vns us)(h3:vss vs=vss us):vs=us:=by
 have hl:vs.length=us.length:=by have:=congrArg List.length h2;simpa [vns] using this
 refine List.ext_getElem hl fun j hj hj'=>vl_ext ?_ ?_ ?_
 · have:=congrArg (fun l=>l[j]?) h1
   simpa [hj,hj'] using this
 · have:=congrArg (fun l=>l[j]?) h2
   simpa [vns,hj,hj'] using this
 · have:=congrArg (fun l=>l[j]?) h3
   simp[vss,hj,hj'] at this
   cases e1:vs[j].s
   cases e2:us[j].s
   simp_all
def Right (kd:Int)(vs:List Vl):Prop:=(1<=kd/\kd<=5)/\∀v∈vs,v.Ok kd/\v.In
theorem right_kinds {kd:Int}{vs us:List Vl}(hl:vs.length=us.length)(h1:Right kd vs)(h2:Right kd us):vs.map (·.k)=us.map (·.k):=by
 refine List.ext_getElem (by simpa using hl) fun j hj hj'=>?_
 simp at hj hj'
 simp only[List.getElem_map]
 rw[(h1.2 _ (List.getElem_mem hj)).1.1,(h2.2 _ (List.getElem_mem hj')).1.1]
theorem plainB_inj {kd:Int}{vs us:List Vl}(hl:vs.length=us.length)(h1:Right kd vs)(h2:Right kd us)(h:plainB kd vs=plainB kd us):vs=us:=by
 have hk:=right_kinds hl h1 h2
 have hln:(vns vs).length=(vns us).length:=by rw[vns_len,vns_len,hl]
 have mem:∀{ws:List Vl},Right kd ws->∀n∈vns ws,∃v∈ws,v.n=n/\v.Ok kd/\v.In:=fun hw n hm=>by
  obtain⟨v,hv,rfl⟩:=List.mem_map.1 hm
  exact⟨v,hv,rfl,hw.2 v hv⟩
 have texts:kd≠4->vss vs=vss us:=fun h4=>by
  have e:∀{ws:List Vl},Right kd ws->vss ws=List.replicate ws.length []:=fun {ws} hw=>by
   refine List.ext_getElem (by simp[vss]) fun j hj hj'=>?_
   simp[vss] at hj ⊢
   have:=(hw.2 _ (List.getElem_mem hj)).1
   unfold Vl.Ok OkV at this
   have hz:ws[j].s.size=0:=by omega
   exact Array.eq_empty_of_size_eq_zero hz
  rw[e h1,e h2,hl]
 unfold plainB at h
 by_cases c1:kd=1
 · rw[if_pos c1,if_pos c1] at h
   refine vs_ext hk (packed_inj hln (fun n hn=>?_) (fun n hn=>?_) h) (texts (by omega))
   · obtain⟨v,_,rfl,ho,_⟩:=mem h1 n hn
     unfold Vl.Ok OkV at ho;omega
   · obtain⟨v,_,rfl,ho,_⟩:=mem h2 n hn
     unfold Vl.Ok OkV at ho;omega
 · rw[if_neg c1,if_neg c1] at h
   by_cases c4:kd=4
   · rw[if_pos c4,if_pos c4] at h
     have b:∀{ws:List Vl},Right kd ws->∀s∈vss ws,s.length<=100:=fun hw s hm=>by
      obtain⟨v,hv,rfl⟩:=List.mem_map.1 hm
      have ho:=(hw.2 v hv).1
      unfold Vl.Ok OkV at ho
      rw[Array.length_toList]
      show v.s.size<=100
      omega
     have hs:=Um.txts_inj _ _ (by rw[vss_len,vss_len,hl]) (b h1) (b h2) h
     refine vs_ext hk ?_ hs
     refine List.ext_getElem hln fun j hj hj'=>?_
     have z:∀{ws:List Vl},Right kd ws->∀n∈vns ws,n=0:=fun hw n hm=>by
      obtain⟨v,_,rfl,ho,_⟩:=mem hw n hm
      unfold Vl.Ok OkV at ho;omega
     rw[z h1 _ (List.getElem_mem hj),z h2 _ (List.getElem_mem hj')]
   · rw[if_neg c4,if_neg c4] at h
     refine vs_ext hk ?_ (texts c4)
     by_cases c2:kd=2
     · rw[if_pos c2] at h
       refine Um.nums_inj 4 (fun n=>-2147483648<=n/\n<=2147483647) (fun n m hn hm e=>?_) _ _ hln (fun n hn=>?_) (fun n hn=>?_) h
       · have:=congrArg Um.lev e
         rw[Um.lev_lit,Um.lev_lit] at this
         exact Um.u32_inj hn hm this
       · obtain⟨v,_,rfl,ho,_⟩:=mem h1 n hn
         unfold Vl.Ok OkV at ho;omega
       · obtain⟨v,_,rfl,ho,_⟩:=mem h2 n hn
         unfold Vl.Ok OkV at ho;omega
     · rw[if_neg c2] at h
       refine Um.nums_inj 8 (fun n=>-9223372036854775808<=n/\n<=9223372036854775807) (fun n m hn hm e=>?_) _ _ hln (fun n hn=>?_) (fun n hn=>?_) h
       · have:=congrArg Um.lev e
         rw[Um.lev_lit,Um.lev_lit] at this
         have l1:=Um.u64_lt n
         have l2:=Um.u64_lt m
         exact Um.u64_inj hn hm (by omega)
       · obtain⟨v,_,rfl,_,hi⟩:=mem h1 n hn
         exact hi.2.1
       · obtain⟨v,_,rfl,_,hi⟩:=mem h2 n hn
         exact hi.2.1
end Go.Proofs.YtoeiahdjamkdgaaGreatDoor
namespace Go.Proofs.YtoeiahdjamkdgaaGreatDoor
open Go.RowKit
namespace Um
theorem bt_toNat (b:UInt8):bt (b.toNat:Int)=b:=by
 apply UInt8.toNat_inj.1
 exact bt_nat b.toNat_lt
theorem by_lev:∀(l:List UInt8) (j:Nat) (h:j<l.length),by_ (lev l) j=l[j].toNat
 | [],j,h=>by simp at h
 | b :: l,0,_=>by
  have:=b.toNat_lt
  simp[by_,lev]
 | b :: l,j+1,h=>by
  have ih:=by_lev l j (by simpa using h)
  have:=b.toNat_lt
  have e:by_ (lev (b :: l)) (j+1)=by_ (lev l) j:=by
   unfold by_
   rw[pow_step,Nat.mul_comm,←Nat.div_div_eq_div_mul]
   congr 2
   simp only[lev];omega
  rw[e,ih];rfl
theorem lit_lev (l:List UInt8):lit (lev l) l.length=l:=by
 refine List.ext_getElem (lit_len _ _) fun j h1 h2=>?_
 rw[lit_get _ _ j h2,by_lev l j h2,bt_toNat]
def sgn (k x:Nat):Int:=if x<2 ^ (8*k-1) then (x:Int) else (x:Int)-2 ^ (8*k)
theorem sgn_four {x:Nat}(h:x<4294967296):(-2147483648<=sgn 4 x/\sgn 4 x<=2147483647)/\u64 (sgn 4 x) % 4294967296=x:=by
 unfold sgn u64
 have e:(2:Nat) ^ (8*4-1)=2147483648:=by decide
 have e2:(2:Int) ^ (8*4)=4294967296:=by decide
 rw[e,e2]
 split<;>omega
theorem sgn_eight {x:Nat}(h:x<18446744073709551616):(-9223372036854775808<=sgn 8 x/\sgn 8 x<=9223372036854775807)/\u64 (sgn 8 x)=x:=by
 unfold sgn u64
 have e:(2:Nat) ^ (8*8-1)=9223372036854775808:=by decide
 have e2:(2:Int) ^ (8*8)=18446744073709551616:=by decide
 rw[e,e2]
 split<;>omega
theorem lit_mod (n k:Nat):lit (n % 2 ^ (8*k)) k=lit n k:=by
 refine List.ext_getElem (by rw[lit_len,lit_len]) fun j h1 h2=>?_
 rw[lit_len] at h1
 rw[lit_get _ _ j h1,lit_get _ _ j h1]
 have e:by_ (n % 2 ^ (8*k)) j=by_ n j:=by
  unfold by_
  obtain⟨d,rfl⟩:∃d,k=j+1+d:=⟨k-j-1,by omega⟩
  have h:(2:Nat) ^ (8*(j+1+d))=2 ^ (8*j)*(256*2 ^ (8*d)):=by
   rw[show 8*(j+1+d)=8*j+(8+8*d) by omega,Nat.pow_add,Nat.pow_add]
  rw[h,Nat.mod_mul_right_div_self,Nat.mod_mul_right_mod]
 rw[e]
def rdn (k:Nat)(l:List UInt8)(i:Nat):Int:=sgn k (lev ((l.drop (k*i)).take k))
theorem lit_rdn (k:Nat)(hk:k=4\/k=8)(l:List UInt8)(i:Nat)(h:k*i+k<=l.length):lit (u64 (rdn k l i)) k=(l.drop (k*i)).take k:=by
 have hl:((l.drop (k*i)).take k).length=k:=by rw[List.length_take,List.length_drop];omega
 have hlt:=lev_lt ((l.drop (k*i)).take k)
 rw[hl] at hlt
 have e:=lit_lev ((l.drop (k*i)).take k)
 rw[hl] at e
 unfold rdn
 generalize (l.drop (k*i)).take k=b at *
 rcases hk with rfl|rfl
 · have:=(sgn_four (x:=lev b) hlt).2
   rw[←lit_mod,show (2:Nat) ^ (8*4)=4294967296 by decide,this,e]
 · rw[(sgn_eight (x:=lev b) hlt).2,e]
theorem nums_rdn (k:Nat)(hk:k=4\/k=8)(l:List UInt8):∀n,k*n<=l.length->nums k ((List.range n).map (rdn k l))=l.take (k*n)
 | 0,_=>by simp[nums]
 | n+1,h=>by
  rw[Nat.mul_add,Nat.mul_one] at h
  rw[List.range_succ,List.map_append,List.map_cons,List.map_nil,nums_snoc,nums_rdn k hk l n (by omega),lit_rdn k hk l n h,Nat.mul_add,Nat.mul_one,List.take_add]
end Um
def IsPl (kd:Int)(l:List UInt8)(n:Nat)(vs:List Vl):Prop:=vs.length=n/\Right kd vs/\plainB kd vs=l
theorem isPl_fn {kd:Int}{l:List UInt8}{n:Nat}{vs us:List Vl}(h1:IsPl kd l n vs)(h2:IsPl kd l n us):vs=us :=
 plainB_inj (h1.1.trans h2.1.symm) h1.2.1 h2.2.1 (h1.2.2.trans h2.2.2.symm)
def szOf (kd:Int):Nat:=if kd=2 then 4 else 8
theorem szOf_cases (kd:Int):szOf kd=4\/szOf kd=8:=by unfold szOf;split<;>simp
def rdvs (kd:Int)(l:List UInt8)(n:Nat):List Vl:=(List.range n).map fun i=>⟨kd,Um.rdn (szOf kd) l i,⟨#[]⟩⟩
theorem rdvs_len (kd:Int)(l:List UInt8)(n:Nat):(rdvs kd l n).length=n:=by simp[rdvs]
theorem isPl_nums {kd:Int}{l:List UInt8}{n:Nat}(h:kd=2\/kd=3\/kd=5)(hl:l.length=szOf kd*n):IsPl kd l n (rdvs kd l n):=by
 have hv:vns (rdvs kd l n)=(List.range n).map (Um.rdn (szOf kd) l):=by simp[vns,rdvs]
 refine⟨rdvs_len kd l n,⟨by omega,fun v hm=>?_⟩,?_⟩
 · obtain⟨i,hi,rfl⟩:=List.mem_map.1 hm
   rw[List.mem_range] at hi
   have hlt:=Um.lev_lt ((l.drop (szOf kd*i)).take (szOf kd))
   have hll:((l.drop (szOf kd*i)).take (szOf kd)).length<=szOf kd:=by rw[List.length_take];omega
   have hb:Um.lev ((l.drop (szOf kd*i)).take (szOf kd))<2 ^ (8*szOf kd):=Nat.lt_of_lt_of_le hlt (Nat.pow_le_pow_right (by omega) (by omega))
   have h8:-9223372036854775808<=Um.rdn (szOf kd) l i/\Um.rdn (szOf kd) l i<=9223372036854775807/\(kd=2->-2147483648<=Um.rdn (szOf kd) l i/\Um.rdn (szOf kd) l i<=2147483647):=by
    unfold Um.rdn
    by_cases h2:kd=2
    · have e:szOf kd=4:=by simp[szOf,h2]
      rw[e] at hb ⊢
      have:=(Um.sgn_four hb).1
      omega
    · have e:szOf kd=8:=by simp[szOf,h2]
      rw[e] at hb ⊢
      have:=(Um.sgn_eight hb).1
      omega
   refine⟨?_,⟨by simp only;omega,⟨h8.1,h8.2.1⟩,Nat.zero_le _⟩⟩
   show OkV kd kd (Um.rdn (szOf kd) l i) 0
   unfold OkV
   omega
 · unfold plainB
   rw[if_neg (by omega),if_neg (by omega),hv]
   have:=Um.nums_rdn (szOf kd) (szOf_cases kd) l n (by omega)
   rw[←hl,List.take_length] at this
   exact this
theorem notPl_nums {kd:Int}{l:List UInt8}{n:Nat}(h:kd=2\/kd=3\/kd=5)(hl:l.length≠szOf kd*n):¬ ∃vs,IsPl kd l n vs:=by
 rintro ⟨vs,h1,_,h3⟩
 apply hl
 rw[←h3]
 unfold plainB
 rw[if_neg (by omega),if_neg (by omega),Um.nums_len,vns_len,h1]
 rfl
end Go.Proofs.YtoeiahdjamkdgaaGreatDoor
namespace Go.Proofs.YtoeiahdjamkdgaaGreatDoor
open Go.RowKit
namespace Um
theorem num_unp (l:List UInt8)(w:Nat):∀n,num w (unp l w n)=lev l % 2 ^ (w*n)
 | 0=>by simp[unp,num,Nat.mod_one]
 | n+1=>by
  rw[unp_succ,num_snoc,num_unp l w n,unp_len,Nat.mul_add,Nat.mul_one,Nat.pow_add,Nat.mod_mul,Nat.mul_comm (2 ^ (w*n))]
theorem lev_last (l:List UInt8)(n:Nat)(b:UInt8)(h:(l++[b]).length=(n+7) / 8)(hr:0<n % 8):lev (l++[b])<2 ^ n ↔ b.toNat / 2 ^ (n % 8)=0:=by
 have hl:8*l.length+n % 8=n:=by rw[List.length_append] at h;simp at h;omega
 have h1:=lev_lt l
 have h2:=lev_snoc l b
 have hp:=Nat.two_pow_pos (8*l.length)
 have e:2 ^ n=2 ^ (8*l.length)*2 ^ (n % 8):=by rw[←Nat.pow_add,hl]
 rw[h2,e,Nat.div_eq_zero_iff_lt (Nat.two_pow_pos _)]
 generalize 2 ^ (8*l.length)=P at *
 generalize 2 ^ (n % 8)=Q
 constructor
 · intro h3
   apply Nat.lt_of_mul_lt_mul_left (a:=P)
   rw[Nat.mul_comm P b.toNat]
   omega
 · intro h3
   have h4:b.toNat*P+P<=P*Q:=by
    have:(b.toNat+1)*P<=Q*P:=Nat.mul_le_mul_right _ h3
    rw[Nat.add_mul,Nat.one_mul] at this
    rw[Nat.mul_comm P Q];exact this
   omega
end Um
def bvs (l:List UInt8)(n:Nat):List Vl:=(List.range n).map fun i=>⟨1,((Um.unp l 1 n).getD i 0:Nat),⟨#[]⟩⟩
theorem isPl_bools {l:List UInt8}{n:Nat}(hl:l.length=(n+7) / 8)(hb:Um.lev l<2 ^ n):IsPl 1 l n (bvs l n):=by
 have hv:nats (vns (bvs l n))=Um.unp l 1 n:=by
  refine List.ext_getElem (by simp[nats,vns,bvs,Um.unp_len]) fun j h1 h2=>?_
  rw[Um.unp_len] at h2
  have h3:j<(Um.unp l 1 n).length:=by rw[Um.unp_len];exact h2
  simp[nats,vns,bvs,List.getD,h3]
 have hbit:∀i,(Um.unp l 1 n).getD i 0<2:=fun i=>by
  by_cases h:i<(Um.unp l 1 n).length
  · have:=Um.unp_lt l 1 n (Um.unp l 1 n)[i] (List.getElem_mem h)
    simpa [List.getD,h] using this
  · simp[List.getD,h]
 refine⟨by simp[bvs],⟨by omega,fun v hm=>?_⟩,?_⟩
 · obtain⟨i,_,rfl⟩:=List.mem_map.1 hm
   have:=hbit i
   refine⟨?_,⟨by simp,by simp only;omega,Nat.zero_le _⟩⟩
   show OkV 1 1 (((Um.unp l 1 n).getD i 0:Nat):Int) 0
   unfold OkV
   omega
 · show packed 1 (vns (bvs l n))=l
   unfold packed
   rw[hv,Um.num_unp,Nat.one_mul,Nat.mod_eq_of_lt hb,vns_len,show (bvs l n).length=n by simp[bvs],Nat.one_mul,←hl]
   exact Um.lit_lev l
theorem notPl_bools {l:List UInt8}{n:Nat}(h:l.length≠(n+7) / 8\/¬ Um.lev l<2 ^ n):¬ ∃vs,IsPl 1 l n vs:=by
 rintro ⟨vs,h1,h2,h3⟩
 have h4:packed 1 (vns vs)=l:=h3
 unfold packed at h4
 rw[vns_len,h1,Nat.one_mul] at h4
 have hn:=Um.num_lt 1 (nats (vns vs)) fun x hm=>by
  obtain⟨m,hm',rfl⟩:=List.mem_map.1 hm
  obtain⟨v,hv,rfl⟩:=List.mem_map.1 hm'
  have ho:=(h2.2 v hv).1
  unfold Vl.Ok OkV at ho
  omega
 rw[nats_len,vns_len,h1,Nat.one_mul] at hn
 rcases h with h|h
 · apply h;rw[←h4,Um.lit_len]
 · apply h
   rw[←h4,Um.lev_lit]
   exact Nat.lt_of_le_of_lt (Nat.mod_le _ _) hn
end Go.Proofs.YtoeiahdjamkdgaaGreatDoor
namespace Go.Proofs.YtoeiahdjamkdgaaGreatDoor
open Go.RowKit
namespace Um
theorem rdv_back:∀(l:List UInt8) (i n m k:Nat),i<10\/True->rdv l i n=(m,k)->0<k->∃x,m=n+x*2 ^ (7*i)/\(0<i->0<x)/\i<k/\l.take (k-i)=uv x
 | [],i,n,m,k,_,h,hk=>by
  have e:rdv [] i n=(0,0):=by unfold rdv;rfl
  rw[e] at h
  injection h with _ h
  omega
 | b :: r,i,n,m,k,_,h,hk=>by
  by_cases hi:i<10
  · by_cases hb:b.toNat<128
    · by_cases hw:(b.toNat=0/\0<i)\/(i=9/\1<b.toNat)
      · rw[rdv_bad hb hw] at h
        injection h with _ h
        omega
      · rw[rdv_end hi hb hw] at h
        injection h with h1 h2
        subst h1 h2
        refine⟨b.toNat,rfl,fun h0=>by omega,by omega,?_⟩
        rw[show i+1-i=1 by omega,uv_small hb,bt_toNat];rfl
    · rw[rdv_more hi hb] at h
      obtain⟨x,h1,h2,h3,h4⟩:=rdv_back r (i+1) _ m k (Or.inr trivial) h hk
      have hx:=h2 (by omega)
      have h256:=b.toNat_lt
      refine⟨b.toNat % 128+128*x,?_,fun _=>by omega,by omega,?_⟩
      · rw[h1,show 7*(i+1)=7*i+7 by omega,Nat.pow_add,Nat.add_mul,Nat.add_assoc]
        congr 2
        rw[Nat.mul_comm 128 x,Nat.mul_assoc,Nat.mul_comm (2 ^ (7*i))]
      · have hb' : bt (((b.toNat % 128 + 128 * x : Nat) : Int) % 128 + 128) = b := by
          rw[show ((b.toNat % 128+128*x:Nat):Int) % 128+128=(b.toNat:Int) by omega];exact bt_toNat b
        rw[uv_big (by omega),show k-i=(k-(i+1))+1 by omega,List.take_succ_cons,h4,hb',show (b.toNat % 128+128*x) / 128=x by omega]
  · rw[rdv_ten (b :: r) n (by omega)] at h
    injection h with _ h
    omega
theorem rdv_bytes {l:List UInt8}{m k:Nat}(h:rdv l 0 0=(m,k))(hk:0<k):l.take k=uv m:=by
 obtain⟨x,h1,_,_,h4⟩:=rdv_back l 0 0 m k (Or.inr trivial) h hk
 have:m=x:=by rw[h1];simp
 rw[this];exact h4
theorem rdv_zero {l:List UInt8}{m:Nat}(h:rdv l 0 0=(m,0)):m=0:=by
 have key:∀(l:List UInt8) (i n m:Nat),rdv l i n=(m,0)->m=0:=by
  intro l
  induction l with
  | nil=>intro i n m h;rw[show rdv [] i n=(0,0) from rfl] at h;injection h with h _;exact h.symm
  | cons b r ih =>
   intro i n m h
   by_cases hi:i<10
   · by_cases hb:b.toNat<128
     · by_cases hw:(b.toNat=0/\0<i)\/(i=9/\1<b.toNat)
       · rw[rdv_bad hb hw] at h;injection h with h _;exact h.symm
       · rw[rdv_end hi hb hw] at h;injection h with _ h;omega
     · rw[rdv_more hi hb] at h;exact ih _ _ _ h
   · rw[rdv_ten (b :: r) n (by omega)] at h;injection h with h _;exact h.symm
 exact key l 0 0 m h
theorem txt_split {l:List UInt8}{m k:Nat}(h:rdv l 0 0=(m,k))(hk:0<k)(hm:k+m<=l.length):txt ((l.drop k).take m)++l.drop (k+m)=l:=by
 have h1:=rdv_bytes h hk
 have hl:((l.drop k).take m).length=m:=by rw[List.length_take,List.length_drop];omega
 unfold txt
 rw[hl,←h1,List.append_assoc,←List.drop_drop,List.take_append_drop,List.take_append_drop]
def rdt:Nat->List UInt8->Option (List (List UInt8))
 | 0,l=>if l=[] then some [] else none
 | n+1,l =>
  let p:=rdv l 0 0
  if 0<p.2/\p.1<=100/\p.2+p.1<=l.length then (rdt n (l.drop (p.2+p.1))).map fun r=>(l.drop p.2).take p.1 :: r else none
theorem rdt_some:∀(n:Nat) (l:List UInt8) (ss:List (List UInt8)),rdt n l=some ss->ss.length=n/\(∀s∈ss,s.length<=100)/\txts ss=l
 | 0,l,ss,h=>by
  unfold rdt at h
  split at h
  · rename_i e
    obtain rfl:=Option.some.inj h
    exact⟨rfl,fun s hs=>by simp at hs,by rw[e];rfl⟩
  · cases h
 | n+1,l,ss,h=>by
  unfold rdt at h
  generalize hp:rdv l 0 0=p at h
  obtain⟨m,k⟩:=p
  simp only at h
  split at h
  · rename_i hc
    obtain⟨hk,hm,hf⟩:=hc
    obtain⟨r,hr,rfl⟩:=Option.map_eq_some_iff.1 h
    obtain⟨h1,h2,h3⟩:=rdt_some n _ r hr
    have hl:((l.drop k).take m).length=m:=by rw[List.length_take,List.length_drop];omega
    refine⟨by simp[h1],fun s hs=>?_,?_⟩
    · rcases List.mem_cons.1 hs with rfl|hs
      · omega
      · exact h2 s hs
    · have e:txts (((l.drop k).take m) :: r)=txt ((l.drop k).take m)++txts r:=by simp[txts]
      rw[e,h3]
      exact txt_split hp hk hf
  · cases h
theorem rdt_back:∀(ss:List (List UInt8)),(∀s∈ss,s.length<=100)->rdt ss.length (txts ss)=some ss
 | [],_=>by simp[rdt,txts]
 | s :: ss,h=>by
  have hs:=h s (by simp)
  have e:txts (s :: ss)=uv s.length++(s++txts ss):=by simp[txts,txt]
  have hr:=rdv_whole s.length (s++txts ss) (by omega)
  have hp:=uv_pos s.length
  rw[←e] at hr
  have ih:=rdt_back ss fun x hx=>h x (by simp[hx])
  show rdt (ss.length+1) (txts (s :: ss))=_
  unfold rdt
  simp only[hr]
  have hlen:(txts (s :: ss)).length=(uv s.length).length+(s.length+(txts ss).length):=by rw[e];simp
  rw[if_pos ⟨hp,hs,by omega⟩]
  have d1:(txts (s :: ss)).drop (uv s.length).length=s++txts ss:=by rw[e,List.drop_left]
  rw[←List.drop_drop,d1,List.drop_left,List.take_left,ih]
  rfl
end Um
def tvs (ss:List (List UInt8)):List Vl:=ss.map fun s=>⟨4,0,⟨s.toArray⟩⟩
theorem isPl_texts {l:List UInt8}{n:Nat}{ss:List (List UInt8)}(h:Um.rdt n l=some ss):IsPl 4 l n (tvs ss):=by
 obtain⟨h1,h2,h3⟩:=Um.rdt_some n l ss h
 have e:vss (tvs ss)=ss:=by
  unfold vss tvs
  rw[List.map_map]
  exact (List.map_congr_left fun s _=>rfl).trans (List.map_id' ss)
 refine⟨by simp[tvs,h1],⟨by omega,fun v hm=>?_⟩,?_⟩
 · obtain⟨s,hs,rfl⟩:=List.mem_map.1 hm
   have h4:=h2 s hs
   have hz:(⟨s.toArray⟩:ByteArray).size=s.length:=by simp[ByteArray.size]
   refine⟨?_,⟨by simp,by simp,?_⟩⟩
   · show OkV 4 4 0 _
     rw[hz]
     unfold OkV
     omega
   · show (⟨s.toArray⟩:ByteArray).size<=maxLen
     rw[hz];unfold maxLen;omega
 · show Um.txts (vss (tvs ss))=l
   rw[e,h3]
theorem notPl_texts {l:List UInt8}{n:Nat}(h:Um.rdt n l=none):¬ ∃vs,IsPl 4 l n vs:=by
 rintro ⟨vs,h1,h2,h3⟩
 have h4:Um.txts (vss vs)=l:=h3
 have h5:=Um.rdt_back (vss vs) fun s hm=>by
  obtain⟨v,hv,rfl⟩:=List.mem_map.1 hm
  have ho:=(h2.2 v hv).1
  unfold Vl.Ok OkV at ho
  rw[Array.length_toList]
  show v.s.size<=100
  omega
 rw[h4,vss_len,h1,h] at h5
 cases h5
end Go.Proofs.YtoeiahdjamkdgaaGreatDoor
namespace Go.Proofs.YtoeiahdjamkdgaaGreatDoor
namespace Um
def rdb (a l:List UInt8):Option (List UInt8 × Nat) :=
 let p:=rdv l 0 0
 let q:=rdv (l.drop p.2) 0 0
 let t:=a.take p.1++((l.drop (p.2+q.2)).take q.1)
 if 0<p.2/\p.1<=a.length/\0<q.2/\p.2+q.2+q.1<=l.length/\t.length<=100/\lcp a t=p.1 then some (t,p.2+q.2+q.1) else none
theorem rdb_some {a l t:List UInt8}{k:Nat}(h:rdb a l=some (t,k)):t.length<=100/\k<=l.length/\one a t++l.drop k=l:=by
 unfold rdb at h
 generalize hp:rdv l 0 0=p at h
 obtain⟨m,i⟩:=p
 simp only at h
 generalize hq:rdv (l.drop i) 0 0=q at h
 obtain⟨m2,j⟩:=q
 simp only at h
 split at h
 · rename_i hc
   obtain⟨h1,h2,h3,h4,h5,h6⟩:=hc
   have hh:=Option.some.inj h
   injection hh with e1 e2
   subst e2
   have hdr:t.drop m=(l.drop (i+j)).take m2:=by
    rw[←e1,List.drop_left' (by rw[List.length_take];omega)]
   rw[e1] at h5 h6
   refine⟨h5,h4,?_⟩
   have b1:=rdv_bytes hp h1
   have b2:=txt_split hq h3 (by rw[List.length_drop];omega)
   unfold one
   rw[h6,hdr,←b1,List.append_assoc]
   rw[List.drop_drop,List.drop_drop,←Nat.add_assoc] at b2
   rw[b2,List.take_append_drop]
 · cases h
theorem rdb_back (a t r:List UInt8)(ha:a.length<=100)(ht:t.length<=100):rdb a (one a t++r)=some (t,(one a t).length):=by
 have hl:=lcp_le a t
 have e:one a t++r=uv (lcp a t)++(uv (t.drop (lcp a t)).length++(t.drop (lcp a t)++r)):=by simp[one,txt]
 have r1:=rdv_whole (lcp a t) (uv (t.drop (lcp a t)).length++(t.drop (lcp a t)++r)) (by omega)
 have r2:=rdv_whole (t.drop (lcp a t)).length (t.drop (lcp a t)++r) (by rw[List.length_drop];omega)
 have p1:=uv_pos (lcp a t)
 have p2:=uv_pos (t.drop (lcp a t)).length
 have ho:(one a t).length=(uv (lcp a t)).length+(uv (t.drop (lcp a t)).length).length+(t.drop (lcp a t)).length:=by simp[one,txt];omega
 unfold rdb
 rw[ho,e,r1]
 simp only[List.drop_left]
 rw[r2]
 simp only[←List.drop_drop,List.drop_left,List.take_left]
 have et:a.take (lcp a t)++t.drop (lcp a t)=t:=by rw[lcp_take,List.take_append_drop]
 rw[et,if_pos ⟨p1,hl.1,p2,by simp only[List.length_append];omega,ht,rfl⟩]
def rdp:Nat->List UInt8->List UInt8->Option (List (List UInt8))
 | 0,_,l=>if l=[] then some [] else none
 | n+1,a,l=>(rdb a l).bind fun p=>(rdp n p.1 (l.drop p.2)).map fun r=>p.1 :: r
theorem rdp_some:∀(n:Nat) (a l:List UInt8) (ss:List (List UInt8)),rdp n a l=some ss->ss.length=n/\(∀s∈ss,s.length<=100)/\prefs a ss=l
 | 0,a,l,ss,h=>by
  unfold rdp at h
  split at h
  · rename_i e
    obtain rfl:=Option.some.inj h
    exact⟨rfl,fun s hs=>by simp at hs,by rw[e];rfl⟩
  · cases h
 | n+1,a,l,ss,h=>by
  unfold rdp at h
  obtain⟨⟨t,k⟩,h1,h2⟩:=Option.bind_eq_some_iff.1 h
  obtain⟨r,h3,rfl⟩:=Option.map_eq_some_iff.1 h2
  obtain⟨g1,_,g3⟩:=rdb_some h1
  obtain⟨i1,i2,i3⟩:=rdp_some n _ _ r h3
  refine⟨by simp[i1],fun s hs=>?_,?_⟩
  · rcases List.mem_cons.1 hs with rfl|hs
    · exact g1
    · exact i2 s hs
  · unfold prefs
    rw[i3];exact g3
theorem rdp_back:∀(ss:List (List UInt8)) (a:List UInt8),a.length<=100->(∀s∈ss,s.length<=100)->rdp ss.length a (prefs a ss)=some ss
 | [],a,_,_=>by simp[rdp,prefs]
 | s :: ss,a,ha,h=>by
  have hs:=h s (by simp)
  show rdp (ss.length+1) a (one a s++prefs s ss)=_
  unfold rdp
  rw[rdb_back a s _ ha hs]
  show (rdp ss.length s ((one a s++prefs s ss).drop (one a s).length)).map _=_
  rw[List.drop_left,rdp_back ss s hs fun x hx=>h x (by simp[hx])]
  rfl
end Um
end Go.Proofs.YtoeiahdjamkdgaaGreatDoor
namespace Go.Proofs.YtoeiahdjamkdgaaGreatDoor
open Go.RowKit
structure VRow (f:Nat->Vl) (n g:Nat) (w wr:World) (i:Nat):Prop where
 done:∀j,j<i->wr.cell? ⟨g,j*3,none⟩=some (.int .i64 (f j).k)/\wr.cell? ⟨g,j*3+1,none⟩=some (.int .i64 (f j).n)/\wr.cell? ⟨g,j*3+2,none⟩=some (.string (f j).s)
 any:∀j,j<n*3->∃v,wr.cell? ⟨g,j,none⟩=some v
 froz:∀j,j<n*3->wr.frozen? ⟨g,j,none⟩=false
 old:Below w.heap.size w wr
theorem VRow.start (f:Nat->Vl)(n ty:Nat)(w:World)(M:Array Value)(hM:M.size=n*3):VRow f n w.heap.size w (w.alloc (.cells M ty)) 0:=by
 refine⟨fun j h=>absurd h (Nat.not_lt_zero _),fun j hj=>?_,fun j _=>?_,(Below.refl _ _).alloc (Nat.le_refl _) _⟩
 · rw[cell_of_row _ w.heap.size j M ty (0,0) (heap_alloc_new w _)]
   exact⟨_,Array.getElem?_eq_getElem (by omega)⟩
 · exact frozen_of_row _ w.heap.size j M ty (heap_alloc_new w _)
theorem VRow.keep {f:Nat->Vl}{n g:Nat}{w wr w':World}{i:Nat}(h:VRow f n g w wr i)(hg:g<wr.heap.size)(hb:Below wr.heap.size wr w'):VRow f n g w w' i :=
 ⟨fun j hj=>⟨(hb.cell hg).trans (h.done j hj).1,(hb.cell hg).trans (h.done j hj).2.1,(hb.cell hg).trans (h.done j hj).2.2⟩,fun j hj=>(h.any j hj).imp fun _ hv=>(hb.cell hg).trans hv,fun j hj=>(hb.frozen hg).trans (h.froz j hj),h.old.trans (hb.mono h.old.size)⟩
theorem VRow.next {f:Nat->Vl}{n g:Nat}{w wr:World}{i:Nat}(h:VRow f n g w wr i)(hg:w.heap.size<=g)(hi:i<n) :
    VRow f n g w (((wr.setCell ⟨g,i*3,none⟩ (.int .i64 (f i).k)).setCell ⟨g,i*3+1,none⟩ (.int .i64 (f i).n)).setCell ⟨g,i*3+2,none⟩ (.string (f i).s)) (i+1):=by
 obtain⟨v0,h0⟩:=h.any (i*3) (by omega)
 obtain⟨v1,h1⟩:=h.any (i*3+1) (by omega)
 obtain⟨v2,h2⟩:=h.any (i*3+2) (by omega)
 have ne:∀(W:World) (x j:Nat) (v:Value),j≠x->(W.setCell ⟨g,x,none⟩ v).cell? ⟨g,j,none⟩=W.cell? ⟨g,j,none⟩:=fun W x j v hj =>
  World.cell?_setCell_other _ _ _ _ (fun e=>hj (by injection e with _ e;exact e.symm))
 refine⟨fun j hj=>?_,fun j hj=>?_,fun j hj=>by simpa using h.froz j hj,((h.old.setCell hg _).setCell hg _).setCell hg _⟩
 · by_cases e:j=i
   · subst e
     refine⟨?_,?_,?_⟩
     · rw[ne _ _ _ _ (by omega),ne _ _ _ _ (by omega)];exact World.cell?_setCell_same _ _ _ h0
     · rw[ne _ _ _ _ (by omega)];exact World.cell?_setCell_same _ _ _ ((ne _ _ _ _ (by omega)).trans h1)
     · exact World.cell?_setCell_same _ _ _ ((ne _ _ _ _ (by omega)).trans ((ne _ _ _ _ (by omega)).trans h2))
   · obtain⟨d0,d1,d2⟩:=h.done j (by omega)
     refine⟨?_,?_,?_⟩
     · rw[ne _ _ _ _ (by omega),ne _ _ _ _ (by omega),ne _ _ _ _ (by omega)];exact d0
     · rw[ne _ _ _ _ (by omega),ne _ _ _ _ (by omega),ne _ _ _ _ (by omega)];exact d1
     · rw[ne _ _ _ _ (by omega),ne _ _ _ _ (by omega),ne _ _ _ _ (by omega)];exact d2
 · by_cases e2:j=i*3+2
   · subst e2;exact⟨_,World.cell?_setCell_same _ _ _ ((ne _ _ _ _ (by omega)).trans ((ne _ _ _ _ (by omega)).trans h2))⟩
   · rw[ne _ _ _ _ e2]
     by_cases e1:j=i*3+1
     · subst e1;exact⟨_,World.cell?_setCell_same _ _ _ ((ne _ _ _ _ (by omega)).trans h1)⟩
     · rw[ne _ _ _ _ e1]
       by_cases e0:j=i*3
       · subst e0;exact⟨_,World.cell?_setCell_same _ _ _ h0⟩
       · rw[ne _ _ _ _ e0];exact h.any j hj
theorem VRow.lies {f:Nat->Vl}{n g:Nat}{w wr:World}(h:VRow f n g w wr n):LiesV wr (some ⟨g,0,none⟩) ((List.range n).map f):=fun j hj=>by
 have hj':j<n:=by simpa using hj
 obtain⟨d0,d1,d2⟩:=h.done j hj'
 refine⟨g,0,rfl,?_,?_,?_⟩
 · rw[Nat.zero_add];simpa using d0
 · rw[Nat.zero_add];simpa using d1
 · rw[Nat.zero_add];simpa using d2
theorem signed_four (x:Nat)(h:x<4294967296):wrap64 ((x:Int)*4294967296) / 4294967296=Um.sgn 4 x:=by
 unfold Um.sgn wrap64
 have e:(2:Nat) ^ (8*4-1)=2147483648:=by decide
 have e2:(2:Int) ^ (8*4)=4294967296:=by decide
 rw[e,e2]
 split<;>omega
theorem ret_i {a b:Int}(h:a=b):Ending.returned (.int .i64 a)=.returned (.int .i64 b):=by rw[h]
theorem signed_eight (x:Nat)(h:x<18446744073709551616):IntKind.i64.wrap (x:Int)=Um.sgn 8 x:=by
 rw[IntKind.wrap_i64]
 unfold Um.sgn
 have e:(2:Nat) ^ (8*8-1)=9223372036854775808:=by decide
 have e2:(2:Int) ^ (8*8)=18446744073709551616:=by decide
 rw[e,e2]
 split<;>omega
theorem signed4_any (x:Nat)(w:World)(h:x<4294967296):Calls Tryz.prog 183 #[.int .u64 x,.int .i64 4] w fun e w'=>e=.returned (.int .i64 (Um.sgn 4 x))/\w'=w:=by
 go_enter Tryz.func183,Tryz.ntmps183
 go_wp2
 go_ret
 exact⟨ret_i (signed_four x h),rfl⟩
theorem signed8_any (x:Nat)(w:World)(h:x<18446744073709551616):Calls Tryz.prog 183 #[.int .u64 x,.int .i64 8] w fun e w'=>e=.returned (.int .i64 (Um.sgn 8 x))/\w'=w:=by
 have hs:=signed_eight x h
 go_enter Tryz.func183,Tryz.ntmps183
 go_wp2
 go_ret
 exact⟨rfl,rfl⟩
theorem signed_any (kd:Int)(l:List UInt8)(w:World)(h:l.length<=szOf kd):Calls Tryz.prog 183 #[.int .u64 (Um.lev l:Nat),.int .i64 (szOf kd:Nat)] w fun e w'=>e=.returned (.int .i64 (Um.sgn (szOf kd) (Um.lev l)))/\w'=w:=by
 have hlt:=Um.lev_lt l
 have hb:Um.lev l<2 ^ (8*szOf kd):=Nat.lt_of_lt_of_le hlt (Nat.pow_le_pow_right (by omega) (by omega))
 rcases szOf_cases kd with e|e
 · rw[e] at hb ⊢;exact signed4_any _ w hb
 · rw[e] at hb ⊢;exact signed8_any _ w hb
theorem sizeOf_any (kd:Int)(w:World):Calls Tryz.prog 138 #[.int .i64 kd] w fun e w'=>e=.returned (.int .i64 (szOf kd:Nat))/\w'=w:=by
 unfold szOf
 by_cases h:kd=2
 · subst h;exact sizeOf_int w
 · rw[if_neg h];exact sizeOf_long kd w h
def RetRd (P:List Vl->Prop)(n:Nat)(ev:Value)(e:Ending)(w':World):Prop :=
 (∃vs a c,P vs/\e=.returned (.tuple #[.slice a n c,.nilIface])/\LiesV w' a vs)\/((¬ ∃vs,P vs)/\e=.returned (.tuple #[.slice none 0 0,ev]))
def RetRdC (N:Nat)(P:List Vl->Prop)(n:Nat)(ev:Value)(e:Ending)(w':World):Prop :=
 (∃vs a c,P vs/\e=.returned (.tuple #[.slice a n c,.nilIface])/\LiesV w' a vs/\n<=c/\Fsh N a)\/((¬ ∃vs,P vs)/\e=.returned (.tuple #[.slice none 0 0,ev]))
theorem RetRdC.old {N:Nat}{P:List Vl->Prop}{n:Nat}{ev:Value}{e:Ending}{w':World}(h:RetRdC N P n ev e w'):RetRd P n ev e w':=by
 rcases h with ⟨vs,a,c,h1,h2,h3,_⟩|h
 · exact .inl ⟨vs,a,c,h1,h2,h3⟩
 · exact .inr h
theorem drop_ext (s:ByteArray)(k:Nat):(s.extract k s.size).data.toList=s.data.toList.drop k:=by
 rw[ByteArray.data_extract,Array.toList_extract,List.extract_eq_take_drop,List.take_of_length_le]
 rw[List.length_drop,Array.length_toList]
 exact Nat.le_refl _
theorem readNumbers_c (kd:Int)(s:ByteArray)(n:Nat)(w:World)(st:TypeId)(sp:Value)(hg:w.cell? ⟨2,0,none⟩=some (.iface st sp))(hs:s.size<=1000000)(hn:n<=20000)(hk:kd=2\/kd=3\/kd=5) :
    Calls Tryz.prog 175 #[.int .i64 kd,.string s,.int .i64 n] w fun e w'=>RetRdC w.heap.size (IsPl kd s.data.toList n) n (.iface st sp) e w'/\Below w.heap.size w w':=by
 obtain⟨iv,hvi,hv0,hv1,hv2⟩:=info_parts Tryz.infoV
 have hsz:=szOf_cases kd
 have HLen:Hid (s.data.toList.length=s.size):=Array.length_toList
 have HK:Hid (kd=2\/kd=3\/kd=5):=hk
 obtain⟨z,HZ⟩:∃z,Hid (z=szOf kd):=⟨_,rfl⟩
 rw[←HZ.out] at hsz
 have hz8:z<=8:=by omega
 have hz0:1<=z:=by omega
 clear hk hsz
 have hmul:z*n<=8*20000:=Nat.mul_le_mul hz8 hn
 obtain⟨T,HT⟩:∃T,Hid (T=z*n):=⟨_,rfl⟩
 rw[←HT.out] at hmul
 have hti:(z:Int)*(n:Int)=(T:Int):=by rw[HT.out];simp
 have HG:Hid _:=hg
 clear hg
 by_cases hlen:s.size=T
 · subst hlen
   obtain⟨M,hM⟩:∃M,M=madeCells (Value.agg #[.int .i64 0,.int .i64 0,.string ⟨#[]⟩]).cells (((n:Nat):Int).toNat*iv.size):=⟨_,rfl⟩
   have hMs:M.size=n*3:=by rw[hM,size_madeCells,hv1];simp
   have hmk:∀W:World,(Instr.makeSlice 25 (.int .i64 (n:Int)) (.int .i64 (n:Int))).run Tryz.prog W=.ok (.slice (some ⟨W.heap.size,0,none⟩) n n) (W.alloc (.cells M 46)):=fun W=>by
    have h:=run_make (P:=Tryz.prog) W 25 46 iv (.agg #[.int .i64 0,.int .i64 0,.string ⟨#[]⟩]) Tryz.underlying25 hvi hv0 .i64 .i64 (n:Int) (n:Int) (by omega) (by omega) (by rw[hv2];omega) (by omega)
    rw[←hM] at h
    simpa using h
   have HS:Hid (VRow (fun i=>⟨kd,Um.rdn (szOf kd) s.data.toList i,⟨#[]⟩⟩) n w.heap.size w (w.alloc (.cells M 46)) 0):=VRow.start _ _ _ _ _ hMs
   clear hM hMs
   go_enter Tryz.func175,Tryz.ntmps175
   go_wp2_with fail
   refine (sizeOf_any kd w).mono ?_
   rw[←HZ.out]
   rintro e w1 ⟨rfl,hw⟩
   obtain rfl:=hw.symm
   go_wp2
   clear hmk
   go_loopw [26] (fun x wr=>∃i:Nat,i<=n/\x=.int .i64 i/\w.heap.size<wr.heap.size/\Hid (VRow (fun i=>⟨kd,Um.rdn (szOf kd) s.data.toList i,⟨#[]⟩⟩) n w.heap.size w wr i)) (fun x _=>n-(intOf x).toNat)
   case atStart=>exact⟨0,Nat.zero_le _,rfl,by simp,HS⟩
   case round =>
    clear HS
    obtain⟨i,hik,rfl,hsl,HV⟩:=hrel
    by_cases hlt:i<n
    · obtain⟨q,HQ⟩:∃q,Hid (q=z*i):=⟨_,rfl⟩
      have hqi:(z:Int)*(i:Int)=(q:Int):=by rw[HQ.out];simp
      have hqz:q+z<=s.size:=by
       rw[HQ.out,HT.out]
       have:=Nat.mul_le_mul_left z (show i+1<=n from hlt)
       rw[Nat.mul_add,Nat.mul_one] at this
       exact this
      have hxs:(s.extract q s.size).size=s.size-q:=by rw[ByteArray.size_extract];omega
      have HX:Hid ((s.extract q s.size).data.toList=s.data.toList.drop q):=drop_ext s q
      go_wp2_with fail
      refine (readFixed_ok (s.extract q s.size) z _ hz0 hz8 (by omega) (by omega)).mono ?_
      rw[HX.out]
      rintro e w1 ⟨rfl,hw⟩
      obtain rfl:=hw.symm
      have hll:((s.data.toList.drop q).take z).length<=szOf kd:=by rw[List.length_take,←HZ.out];omega
      obtain⟨y0,g0⟩:=HV.out.any (i*3) (by omega)
      obtain⟨y1,g1⟩:=HV.out.any (i*3+1) (by omega)
      obtain⟨y2,g2⟩:=HV.out.any (i*3+2) (by omega)
      have f0:=HV.out.froz (i*3) (by omega)
      have f1:=HV.out.froz (i*3+1) (by omega)
      have f2:=HV.out.froz (i*3+2) (by omega)
      have HF:Hid (Um.sgn (szOf kd) (Um.lev ((s.data.toList.drop q).take z))=Um.rdn (szOf kd) s.data.toList i):=by
       show _=_
       unfold Um.rdn
       rw[←HZ.out,←HQ.out]
      have hsg:=signed_any kd ((s.data.toList.drop q).take z) wr hll
      rw[HF.out,←HZ.out] at hsg
      go_wp2_with fail
      refine hsg.mono ?_
      clear hsg
      rintro e w1 ⟨rfl,hw⟩
      obtain rfl:=hw.symm
      have HV2:Hid _:=HV.out.next (Nat.le_refl _) hlt
      rw[←HZ.out] at HV2
      generalize Um.rdn z s.data.toList i=r at HV2 ⊢
      go_wp2
      go_roundw
      case rel=>exact⟨i+1,by omega,by go_num,by simpa using hsl,by rw[←HZ.out];exact HV2⟩
      case measure=>simp[intOf];omega
    · obtain rfl:i=n:=by omega
      have HI:Hid (IsPl kd s.data.toList i (rdvs kd s.data.toList i)):=isPl_nums HK.out (by rw[HLen.out,HT.out,HZ.out])
      go_wp2
      go_ret2
      exact⟨Or.inl ⟨_,_,_,HI.out,rfl,HV.out.lies,Nat.le_refl _,.at (Nat.le_refl _)⟩,HV.out.old⟩
 · have HI:Hid (¬ ∃vs,IsPl kd s.data.toList n vs):=notPl_nums HK.out (by rw[HLen.out,←HZ.out,←HT.out];exact hlen)
   have hne:((s.size:Int) != (T:Int))=true:=by simp;omega
   have hg:=HG.out
   go_enter Tryz.func175,Tryz.ntmps175
   go_wp2_with fail
   refine (sizeOf_any kd w).mono ?_
   rw[←HZ.out]
   rintro e w1 ⟨rfl,hw⟩
   obtain rfl:=hw.symm
   go_wp2
   go_region
   all_goals (try go_wp2)
   all_goals go_ret2
   all_goals exact⟨Or.inr ⟨HI.out,rfl⟩,(Below.refl _ _).drew⟩
end Go.Proofs.YtoeiahdjamkdgaaGreatDoor
namespace Go.Proofs.YtoeiahdjamkdgaaGreatDoor
open Go.RowKit
theorem VRow.congr {f f':Nat->Vl}{n g:Nat}{w wr:World}{i:Nat}(h:VRow f n g w wr i)(he:∀j,j<i->f j=f' j):VRow f' n g w wr i :=
 ⟨fun j hj=>by rw[←he j hj];exact h.done j hj,h.any,h.froz,h.old⟩
def tv (l:List UInt8):Vl:=⟨4,0,⟨l.toArray⟩⟩
theorem ext_take (s:ByteArray)(k m:Nat):(s.extract k (k+m)).data.toList=(s.data.toList.drop k).take m:=by
 rw[ByteArray.data_extract,Array.toList_extract,List.extract_eq_take_drop]
 congr 1;omega
theorem ba_mk (s:ByteArray):(⟨s.data.toList.toArray⟩:ByteArray)=s:=by cases s;simp
theorem readTexts_c (s:ByteArray)(n:Nat)(w:World)(st:TypeId)(sp:Value)(hg:w.cell? ⟨2,0,none⟩=some (.iface st sp))(hs:s.size<=1000000)(hn:n<=20000) :
    Calls Tryz.prog 174 #[.string s,.int .i64 n] w fun e w'=>RetRdC w.heap.size (IsPl 4 s.data.toList n) n (.iface st sp) e w'/\Below w.heap.size w w':=by
 obtain⟨iv,hvi,hv0,hv1,hv2⟩:=info_parts Tryz.infoV
 obtain⟨M,hM⟩:∃M,M=madeCells (Value.agg #[.int .i64 0,.int .i64 0,.string ⟨#[]⟩]).cells (((n:Nat):Int).toNat*iv.size):=⟨_,rfl⟩
 have hMs:M.size=n*3:=by rw[hM,size_madeCells,hv1];simp
 have hmk:∀W:World,(Instr.makeSlice 25 (.int .i64 (n:Int)) (.int .i64 (n:Int))).run Tryz.prog W=.ok (.slice (some ⟨W.heap.size,0,none⟩) n n) (W.alloc (.cells M 46)):=fun W=>by
  have h:=run_make (P:=Tryz.prog) W 25 46 iv (.agg #[.int .i64 0,.int .i64 0,.string ⟨#[]⟩]) Tryz.underlying25 hvi hv0 .i64 .i64 (n:Int) (n:Int) (by omega) (by omega) (by rw[hv2];omega) (by omega)
  rw[←hM] at h
  simpa using h
 have HS:Hid (VRow (fun j=>tv (([]:List (List UInt8)).getD j [])) n w.heap.size w (w.alloc (.cells M 46)) 0):=VRow.start _ _ _ _ _ hMs
 have HG:Hid _:=hg
 clear hM hMs hg
 go_enter Tryz.func174,Tryz.ntmps174
 go_wp2
 clear hmk
 go_loopw [0,15] (fun y x wr=>∃(i:Nat) (r:ByteArray) (ss:List (List UInt8)),i<=n/\x=.int .i64 i/\y=.string r/\r.size<=s.size/\w.heap.size<wr.heap.size/\Hid (ss.length=i)/\Hid (Um.rdt n s.data.toList=(Um.rdt (n-i) r.data.toList).map fun q=>ss++q)/\Hid (VRow (fun j=>tv (ss.getD j [])) n w.heap.size w wr i)) (fun _ x _=>n-(intOf x).toNat)
 case atStart=>exact⟨0,s,[],Nat.zero_le _,rfl,rfl,Nat.le_refl _,by simp,rfl,by show _=_;simp,HS⟩
 case round =>
  clear HS
  obtain⟨i,r,ss,hik,rfl,rfl,hrs,hsl,HSL,HRD,HV⟩:=hrel
  have hb:=HV.out.old
  have hgr:=(hb.cell (World.block_lt_of_cell? w _ HG.out)).trans HG.out
  by_cases hlt:i<n
  · generalize hp:Um.rdv r.data.toList 0 0=p
    obtain⟨m,k⟩:=p
    have HP:Hid (Um.rdv r.data.toList 0 0=(m,k)):=hp
    clear hp
    have hroom:=Um.rdv_room r.data.toList 0 0 (by simp)
    rw[HP.out] at hroom
    have hk10:k<=10:=hroom.2.1
    have HSt:Hid (Um.rdt (n-i) r.data.toList=if 0<k/\m<=100/\k+m<=r.size then (Um.rdt (n-(i+1)) (r.data.toList.drop (k+m))).map (fun q=>(r.data.toList.drop k).take m :: q) else none):=by
     show _=_
     rw[show n-i=(n-(i+1))+1 by omega,Um.rdt,HP.out]
     rfl
    clear hroom
    by_cases hk:0<k
    · by_cases hf:k+m<=r.size
      · have hxt:(r.extract k (k+m)).size=m:=by rw[ByteArray.size_extract];omega
        have HX:Hid ((r.extract k (k+m)).data.toList=(r.data.toList.drop k).take m):=ext_take r k m
        by_cases hm:m<=100
        · go_wp2_with fail
          refine (readT_hit r _ _ m k (by omega) hgr HP.out hk (by omega) hf).mono ?_
          rintro e w1 ⟨rfl,hb1⟩
          have HV1:Hid _:=HV.out.keep hsl hb1
          obtain⟨y0,g0⟩:=HV1.out.any (i*3) (by omega)
          obtain⟨y1,g1⟩:=HV1.out.any (i*3+1) (by omega)
          obtain⟨y2,g2⟩:=HV1.out.any (i*3+2) (by omega)
          have f0:=HV1.out.froz (i*3) (by omega)
          have f1:=HV1.out.froz (i*3+1) (by omega)
          have f2:=HV1.out.froz (i*3+2) (by omega)
          have HV2:Hid (VRow (fun j=>tv ((ss++[(r.data.toList.drop k).take m]).getD j [])) n w.heap.size w (((w1.setCell ⟨w.heap.size,i*3,none⟩ (.int .i64 4)).setCell ⟨w.heap.size,i*3+1,none⟩ (.int .i64 0)).setCell ⟨w.heap.size,i*3+2,none⟩ (.string (r.extract k (k+m)))) (i+1)):=by
           have hc:VRow (fun j=>tv ((ss++[(r.data.toList.drop k).take m]).getD j [])) n w.heap.size w w1 i:=HV1.out.congr fun j hj=>by
            have hj':j<ss.length:=by rw[HSL.out];exact hj
            simp[List.getD,List.getElem?_append_left hj']
           have h:=hc.next (Nat.le_refl _) hlt
           have e:(ss++[(r.data.toList.drop k).take m]).getD i []=(r.data.toList.drop k).take m:=by
            rw[←HSL.out];simp[List.getD]
           simp only[e] at h
           have e2:(tv ((r.data.toList.drop k).take m)).s=r.extract k (k+m):=by
            unfold tv
            simp only
            rw[←HX.out,ba_mk]
           rw[e2] at h
           exact h
          generalize r.extract k (k+m)=x at *
          obtain⟨q,HQ⟩:∃q,Hid (q=k+m):=⟨_,rfl⟩
          have hqr:q<=r.size:=by rw[HQ.out];exact hf
          have hrx:(r.extract q r.size).size<=s.size:=by rw[ByteArray.size_extract];omega
          have HRX:Hid ((r.extract q r.size).data.toList=r.data.toList.drop (k+m)):=by show _=_;rw[←HQ.out];exact drop_ext r q
          have hsl1:w.heap.size<w1.heap.size:=Nat.lt_of_lt_of_le hsl hb1.size
          have hci:(k:Int)+(m:Int)=(q:Int):=by rw[HQ.out];omega
          go_wp2
          go_roundw
          case rel =>
           refine⟨i+1,r.extract q r.size,ss++[(r.data.toList.drop k).take m],by omega,by go_num,rfl,hrx,by simpa using hsl1,by show _=_;rw[List.length_append,HSL.out];rfl,?_,HV2⟩
           show _=_
           rw[HRD.out,HSt.out,if_pos ⟨hk,hm,hf⟩,HRX.out,Option.map_map]
           congr 1
           funext q
           simp
          case measure=>simp[intOf];omega
        · have h2:m<=200000\/¬ m<=200000:=by omega
          go_wp2_with fail
          rcases h2 with h2|h2
          · refine (readT_hit r _ _ m k (by omega) hgr HP.out hk h2 hf).mono ?_
            rintro e w1 ⟨rfl,hb1⟩
            have hg1:=(hb1.cell (World.block_lt_of_cell? wr _ hgr)).trans hgr
            generalize r.extract k (k+m)=x at *
            have HNo:Hid (Um.rdt n s.data.toList=none):=by
             show _=_
             rw[HRD.out,HSt.out,if_neg (by omega)];rfl
            go_wp2
            go_region
            all_goals (try go_wp2)
            all_goals go_ret2
            all_goals exact⟨Or.inr ⟨notPl_texts HNo.out,rfl⟩,(hb.trans (hb1.mono hb.size)).drew⟩
          · refine (readT_long r _ _ m k (by omega) hgr HP.out hk (Or.inr (by omega))).mono ?_
            rintro e w1 ⟨rfl,hb1⟩
            have HNo:Hid (Um.rdt n s.data.toList=none):=by
             show _=_
             rw[HRD.out,HSt.out,if_neg (by omega)];rfl
            go_wp2
            go_ret2
            exact⟨Or.inr ⟨notPl_texts HNo.out,rfl⟩,hb.trans (hb1.mono hb.size)⟩
      · have HNo : Hid (Um.rdt n s.data.toList = none) := by
          show _=_
          rw[HRD.out,HSt.out,if_neg (by omega)];rfl
        go_wp2_with fail
        refine (readT_long r _ _ m k (by omega) hgr HP.out hk (Or.inl (by omega))).mono ?_
        rintro e w1 ⟨rfl,hb1⟩
        go_wp2
        go_ret2
        exact⟨Or.inr ⟨notPl_texts HNo.out,rfl⟩,hb.trans (hb1.mono hb.size)⟩
    · have HNo : Hid (Um.rdt n s.data.toList = none) := by
        show _=_
        rw[HRD.out,HSt.out,if_neg (by omega)];rfl
      obtain rfl:k=0:=by omega
      have HP0:Hid (Um.rdv r.data.toList 0 0=(0,0)):=by
       show _=_
       rw[HP.out,Um.rdv_zero HP.out]
      go_wp2_with fail
      refine (readT_none r _ _ _ (by unfold maxLen;omega) hgr HP0.out).mono ?_
      rintro e w1 ⟨rfl,hb1⟩
      go_wp2
      go_ret2
      exact⟨Or.inr ⟨notPl_texts HNo.out,rfl⟩,hb.trans (hb1.mono hb.size)⟩
  · obtain rfl:i=n:=by omega
    have hrd:=HRD.out
    rw[Nat.sub_self,Um.rdt] at hrd
    by_cases he:r.data.toList=[]
    · have HI:Hid (IsPl 4 s.data.toList i (tvs ss)):=isPl_texts (by rw[hrd,if_pos he];simp)
      have hz:r.toList=[]:=by rw[Lib.toList_data];exact he
      have HLV:Hid (LiesV wr (some ⟨w.heap.size,0,none⟩) (tvs ss)):=by
       have h:=HV.out.lies
       have e:(List.range i).map (fun j=>tv (ss.getD j []))=tvs ss:=by
        refine List.ext_getElem (by simp[tvs,HSL.out]) fun j h1 h2=>?_
        simp[tvs] at h2
        simp[tvs,tv,List.getD,h2]
       rw[e] at h
       exact h
      clear hrd he
      go_wp2
      go_ret2
      exact⟨Or.inl ⟨tvs ss,_,_,HI.out,rfl,HLV.out,Nat.le_refl _,.at (Nat.le_refl _)⟩,hb⟩
    · have HNo:Hid (Um.rdt i s.data.toList=none):=by show _=_;rw[hrd,if_neg he];rfl
      have hz:r.toList.isEmpty=false:=by rw[Lib.toList_data,List.isEmpty_eq_false_iff];exact he
      clear hrd he
      go_wp2
      go_region
      all_goals (try go_wp2)
      all_goals go_ret2
      all_goals exact⟨Or.inr ⟨notPl_texts HNo.out,rfl⟩,hb.drew⟩
end Go.Proofs.YtoeiahdjamkdgaaGreatDoor
namespace Go.Proofs.YtoeiahdjamkdgaaGreatDoor
open Go.RowKit
theorem last_split (s:ByteArray)(h:0<s.size):s.data.toList=s.data.toList.take (s.size-1)++[s[s.size-1]]:=by
 have hl:s.size-1<s.data.toList.length:=by rw[Array.length_toList];show _<s.size;omega
 have e:=List.take_succ_eq_append_getElem hl
 rw[List.take_of_length_le (by rw[Array.length_toList];show s.size<=_;omega)] at e
 exact e
theorem bools_end (s:ByteArray)(n:Nat)(hl:s.size=(n+7) / 8)(h0:0<s.size)(hr:0<n % 8):Um.lev s.data.toList<2 ^ n ↔ s[s.size-1].toNat / 2 ^ (n % 8)=0:=by
 have e:=last_split s h0
 have hlen:(s.data.toList.take (s.size-1)++[s[s.size-1]]).length=(n+7) / 8:=by rw[←e,Array.length_toList];exact hl
 have:=Um.lev_last (s.data.toList.take (s.size-1)) n s[s.size-1] hlen hr
 rw[←e] at this
 exact this
theorem bools_whole (s:ByteArray)(n:Nat)(hl:s.size=(n+7) / 8)(hr:n % 8=0):Um.lev s.data.toList<2 ^ n:=by
 have:=Um.lev_lt s.data.toList
 rw[Array.length_toList] at this
 change _<2 ^ (8*s.size) at this
 rw[hl,show 8*((n+7) / 8)=n by omega] at this
 exact this
theorem readBools_none (s:ByteArray)(n:Nat)(w:World)(st:TypeId)(sp:Value)(hg:w.cell? ⟨2,0,none⟩=some (.iface st sp))(hs:s.size<=1000000)(hn:n<=20000)(h:s.size≠(n+7) / 8\/¬ Um.lev s.data.toList<2 ^ n) :
    Calls Tryz.prog 173 #[.string s,.int .i64 n] w fun e w'=>e=.returned (.tuple #[.slice none 0 0,.iface st sp])/\Below w.heap.size w w':=by
 by_cases hl:s.size=(n+7) / 8
 · have hlev:¬ Um.lev s.data.toList<2 ^ n:=by rcases h with h|h;exact absurd hl h;exact h
   have hr:0<n % 8:=by
    by_cases h0:n % 8=0
    · exact absurd (bools_whole s n hl h0) hlev
    · omega
   have h0:0<s.size:=by omega
   have hq:¬ s[s.size-1].toNat / 2 ^ (n % 8)=0:=fun e=>hlev ((bools_end s n hl h0 hr).2 e)
   have hne:((s.size:Int) != (n+7) / 8)=false:=by simp;omega
   have hbb:s.size-1<s.size:=by omega
   have hx:(((s[s.size-1]'hbb).toNat:Int) / 2 ^ (n % 8) != 0)=true:=by
    have e:(((s[s.size-1]'hbb).toNat / 2 ^ (n % 8):Nat):Int)=((s[s.size-1]'hbb).toNat:Int) / 2 ^ (n % 8):=by simp
    rw[←e]
    simp only[bne_iff_ne,ne_eq]
    omega
   clear h hlev hl hq
   go_enter Tryz.func173,Tryz.ntmps173
   go_wp2_with fail
   go_region
   all_goals (try go_wp2)
   all_goals go_ret2
   all_goals exact⟨rfl,(Below.refl _ _).drew⟩
 · have hne:((s.size:Int) != (n+7) / 8)=true:=by simp;omega
   clear h
   go_enter Tryz.func173,Tryz.ntmps173
   go_wp2
   go_region
   all_goals (try go_wp2)
   all_goals go_ret2
   all_goals exact⟨rfl,(Below.refl _ _).drew⟩
theorem readBools_some (s:ByteArray)(n:Nat)(w:World)(hs:s.size<=1000000)(hn:n<=20000)(hl:s.size=(n+7) / 8)(hlev:Um.lev s.data.toList<2 ^ n) :
    Calls Tryz.prog 173 #[.string s,.int .i64 n] w fun e w'=>(∃a c,e=.returned (.tuple #[.slice a n c,.nilIface])/\LiesV w' a (bvs s.data.toList n)/\n<=c/\Fsh w.heap.size a)/\Below w.heap.size w w':=by
 obtain⟨iv,hvi,hv0,hv1,hv2⟩:=info_parts Tryz.infoV
 obtain⟨M,hM⟩:∃M,M=madeCells (Value.agg #[.int .i64 0,.int .i64 0,.string ⟨#[]⟩]).cells (((n:Nat):Int).toNat*iv.size):=⟨_,rfl⟩
 have hMs:M.size=n*3:=by rw[hM,size_madeCells,hv1];simp
 have hmk:∀W:World,(Instr.makeSlice 25 (.int .i64 (n:Int)) (.int .i64 (n:Int))).run Tryz.prog W=.ok (.slice (some ⟨W.heap.size,0,none⟩) n n) (W.alloc (.cells M 46)):=fun W=>by
  have h:=run_make (P:=Tryz.prog) W 25 46 iv (.agg #[.int .i64 0,.int .i64 0,.string ⟨#[]⟩]) Tryz.underlying25 hvi hv0 .i64 .i64 (n:Int) (n:Int) (by omega) (by omega) (by rw[hv2];omega) (by omega)
  rw[←hM] at h
  simpa using h
 have hne:((s.size:Int) != (n+7) / 8)=false:=by simp;omega
 have HF:Hid (1*n<=8*s.size):=by show _<=_;omega
 have hcase:n % 8=0\/(∃hbb:s.size-1<s.size,0<n % 8/\0<s.size/\(((s[s.size-1]'hbb).toNat:Int) / 2 ^ (n % 8) != 0)=false):=by
  by_cases h0:n % 8=0
  · exact Or.inl h0
  · have hr:0<n % 8:=by omega
    have h1:0<s.size:=by omega
    refine Or.inr ⟨by omega,hr,h1,?_⟩
    have hq:=(bools_end s n hl h1 hr).1 hlev
    have e:((s[s.size-1].toNat / 2 ^ (n % 8):Nat):Int)=(s[s.size-1].toNat:Int) / 2 ^ (n % 8):=by simp
    rw[←e,hq];rfl
 have HM:Hid (M.size=n*3):=hMs
 clear hl hlev hM hMs
 rcases hcase with h0|⟨hbb,hr,h1,hx⟩
 all_goals
  go_enter Tryz.func173,Tryz.ntmps173
  go_wp2_with fail
  refine (unpackF_ok s 1 n w hs (by omega) hn HF.out).mono ?_
  rintro e w1 ⟨⟨g,hg,rfl,hcells⟩,hb1⟩
  have HC:Hid (∀j,j<n->w1.cell? ⟨g,j,none⟩=some (.int .i64 ((Um.lev s.data.toList / 2 ^ (1*j) % 2 ^ 1:Nat):Int))):=hcells
  clear hcells
  have HS:Hid (VRow (fun i=>⟨1,((Um.unp s.data.toList 1 n).getD i 0:Nat),⟨#[]⟩⟩) n w1.heap.size w1 (w1.alloc (.cells M 46)) 0):=VRow.start _ _ _ _ _ HM.out
  go_wp2_with fail
  go_loopw [47] (fun x wr=>∃i:Nat,i<=n/\x=.int .i64 i/\Hid (VRow (fun i=>⟨1,((Um.unp s.data.toList 1 n).getD i 0:Nat),⟨#[]⟩⟩) n w1.heap.size w1 wr i)) (fun x _=>n-(intOf x).toNat)
  case atStart=>exact⟨0,Nat.zero_le _,rfl,HS⟩
  case round =>
   clear HS
   obtain⟨i,hik,rfl,HV⟩:=hrel
   by_cases hlt:i<n
   · have hc:=(HV.out.old.cell (World.block_lt_of_cell? w1 _ (HC.out i hlt))).trans (HC.out i hlt)
     have HE:Hid ((Um.unp s.data.toList 1 n).getD i 0=Um.lev s.data.toList / 2 ^ (1*i) % 2 ^ 1):=by
      show _=_
      have h:=Um.unp_get s.data.toList 1 n i hlt
      have h2:i<(Um.unp s.data.toList 1 n).length:=by rw[Um.unp_len];exact hlt
      rw[←h]
      simp[List.getD,h2]
     rw[←HE.out] at hc
     obtain⟨y0,g0⟩:=HV.out.any (i*3) (by omega)
     obtain⟨y1,g1⟩:=HV.out.any (i*3+1) (by omega)
     obtain⟨y2,g2⟩:=HV.out.any (i*3+2) (by omega)
     have f0:=HV.out.froz (i*3) (by omega)
     have f1:=HV.out.froz (i*3+1) (by omega)
     have f2:=HV.out.froz (i*3+2) (by omega)
     have HV2:Hid _:=HV.out.next (Nat.le_refl _) hlt
     simp only at HV2
     clear HE
     generalize (Um.unp s.data.toList 1 n).getD i 0=b at hc HV2
     go_wp2
     go_roundw
     case rel=>exact⟨i+1,by omega,by go_num,HV2⟩
     case measure=>simp[intOf];omega
   · obtain rfl:i=n:=by omega
     have HLV:Hid _:=HV.out.lies
     have hbb2:=hb1.trans (HV.out.old.mono hb1.size)
     go_wp2
     go_ret2
     exact⟨⟨_,_,rfl,HLV.out,Nat.le_refl _,.at hb1.size⟩,hbb2⟩
theorem readPlain_c (kd:Int)(s:ByteArray)(n:Nat)(w:World)(st:TypeId)(sp:Value)(hg:w.cell? ⟨2,0,none⟩=some (.iface st sp))(hs:s.size<=1000000)(hn:n<=20000)(hk:1<=kd)(hk5:kd<=5) :
    Calls Tryz.prog 165 #[.int .i64 kd,.string s,.int .i64 n] w fun e w'=>RetRdC w.heap.size (IsPl kd s.data.toList n) n (.iface st sp) e w'/\Below w.heap.size w w':=by
 have HG:Hid _:=hg
 clear hg
 by_cases h1:kd=1
 · subst h1
   go_enter Tryz.func165,Tryz.ntmps165
   go_wp2_with fail
   refine (checkCount_fine 1 n w (by omega) (by omega) (by omega) (by omega)).mono ?_
   rintro e w1 ⟨rfl,hw⟩
   obtain rfl:=hw.symm
   go_wp2_with fail
   have hx:s.size=s.data.toList.length:=Array.length_toList.symm
   by_cases hc:s.size=(n+7) / 8/\Um.lev s.data.toList<2 ^ n
   · have HI:Hid (IsPl 1 s.data.toList n (bvs s.data.toList n)):=isPl_bools (by rw[←hx];exact hc.1) hc.2
     refine (readBools_some s n w hs hn hc.1 hc.2).mono ?_
     rintro e w1 ⟨⟨a,c,rfl,hl⟩,hb1⟩
     have HL:Hid _:=hl
     clear hl hc hx
     go_wp2
     go_ret2
     exact⟨Or.inl ⟨_,a,c,HI.out,rfl,HL.out⟩,hb1⟩
   · have hc2 : s.size ≠ (n + 7) / 8 ∨ ¬ Um.lev s.data.toList < 2 ^ n := by
       by_cases h:s.size=(n+7) / 8
       · exact Or.inr fun h2=>hc ⟨h,h2⟩
       · exact Or.inl h
     have HI:Hid (¬ ∃vs,IsPl 1 s.data.toList n vs):=notPl_bools (by rw[←hx];exact hc2)
     refine (readBools_none s n w st sp HG.out hs hn hc2).mono ?_
     rintro e w1 ⟨rfl,hb1⟩
     clear hc hc2 hx
     go_wp2
     go_ret2
     exact⟨Or.inr ⟨HI.out,rfl⟩,hb1⟩
 · by_cases h4:kd=4
   · subst h4
     go_enter Tryz.func165,Tryz.ntmps165
     go_wp2_with fail
     refine (checkCount_fine 4 n w (by omega) (by omega) (by omega) (by omega)).mono ?_
     rintro e w1 ⟨rfl,hw⟩
     obtain rfl:=hw.symm
     go_wp2_with fail
     refine (readTexts_c s n w st sp HG.out hs hn).mono ?_
     rintro e w1 ⟨⟨vs,a,c,hI,rfl,hl⟩|⟨hI,rfl⟩,hb1⟩
     · have HI:Hid _:=hI
       have HL:Hid _:=hl
       clear hI hl
       go_wp2
       go_ret2
       exact⟨Or.inl ⟨vs,a,c,HI.out,rfl,HL.out⟩,hb1⟩
     · have HI:Hid _:=hI
       clear hI
       go_wp2
       go_ret2
       exact⟨Or.inr ⟨HI.out,rfl⟩,hb1⟩
   · go_enter Tryz.func165,Tryz.ntmps165
     go_wp2_with fail
     refine (checkCount_fine kd n w hk hk5 (by omega) (by omega)).mono ?_
     rintro e w1 ⟨rfl,hw⟩
     obtain rfl:=hw.symm
     go_wp2_with fail
     refine (readNumbers_c kd s n w st sp HG.out hs hn (by omega)).mono ?_
     rintro e w1 ⟨⟨vs,a,c,hI,rfl,hl⟩|⟨hI,rfl⟩,hb1⟩
     · have HI:Hid _:=hI
       have HL:Hid _:=hl
       clear hI hl
       go_wp2
       go_ret2
       exact⟨Or.inl ⟨vs,a,c,HI.out,rfl,HL.out⟩,hb1⟩
     · have HI:Hid _:=hI
       clear hI
       go_wp2
       go_ret2
       exact⟨Or.inr ⟨HI.out,rfl⟩,hb1⟩
theorem readPlain_any (kd:Int)(s:ByteArray)(n:Nat)(w:World)(st:TypeId)(sp:Value)(hg:w.cell? ⟨2,0,none⟩=some (.iface st sp))(hs:s.size<=1000000)(hn:n<=20000)(hk:1<=kd)(hk5:kd<=5) :
    Calls Tryz.prog 165 #[.int .i64 kd,.string s,.int .i64 n] w fun e w'=>RetRd (IsPl kd s.data.toList n) n (.iface st sp) e w'/\Below w.heap.size w w' :=
 (readPlain_c kd s n w st sp hg hs hn hk hk5).mono fun _ _ h=>⟨h.1.old,h.2⟩
end Go.Proofs.YtoeiahdjamkdgaaGreatDoor
namespace Go.Proofs.YtoeiahdjamkdgaaGreatDoor
open Go.RowKit
theorem wrap_u (n:Int):IntKind.u64.wrap n=((Um.u64 n:Nat):Int):=by rw[IntKind.wrap_u64,Um.u64_int]
theorem pack_none (w:World):Calls Tryz.prog 81 #[.slice none 0 0,.int .i64 1] w fun e w'=>e=.returned (.string ⟨#[]⟩)/\Below w.heap.size w w' :=
 packOf_any none 0 [] 1 w (by simp) (by omega) (by simp) (fun j hj=>absurd hj (by simp[u64s]))
theorem plainOf_bools (a:Option Addr)(vs:List Vl)(c:Nat)(w:World)(hn:vs.length<=20000)(hl:LiesV w a vs)(hx:∀n∈vns vs,n=0\/n=1) :
    Calls Tryz.prog 74 #[.int .i64 1,.slice a vs.length c] w fun e w'=>e=.returned (.string ⟨(packed 1 (vns vs)).toArray⟩)/\Below w.heap.size w w':=by
 obtain⟨i0,hi,hz0,hz1,hz2⟩:=info_parts Tryz.info98
 have HL:Hid (LiesV w a vs):=hl
 have HX:Hid (∀n∈vns vs,n=0\/n=1):=hx
 clear hl hx
 go_enter Tryz.func74,Tryz.ntmps74
 go_wp2
 go_loopw [5,6,7] (fun o b x wr=>∃i:Nat,i<=vs.length/\x=.int .i64 i/\o=.string ⟨#[]⟩/\Hid (wr.ownsRow w.heap.size 98 1 b i (u64s (nats ((vns vs).take i))))/\Below w.heap.size w wr) (fun _ _ x _=>vs.length-(intOf x).toNat)
 case atStart=>exact⟨0,Nat.zero_le _,rfl,rfl,by show World.ownsRow _ _ _ _ _ _ _;simpa [u64s,nats] using World.ownsRow_nil w w.heap.size 98 1,Below.refl _ _⟩
 case round =>
  obtain⟨i,hik,rfl,rfl,HO,hb⟩:=hrel
  by_cases hlt:i<vs.length
  · obtain⟨b,o,rfl,hc0,hc1,hc2⟩:=(HL.out.keep hb) i hlt
    have hlv:i<(vns vs).length:=by rw[vns_len];exact hlt
    have hv:=HX.out _ (List.getElem_mem hlv)
    have hvn:(vns vs)[i]=vs[i].n:=by simp[vns]
    rw[hvn] at hv
    have HT:Hid (u64s (nats ((vns vs).take (i+1)))=u64s (nats ((vns vs).take i))++[.int .u64 vs[i].n]):=by
     show _=_
     rw[List.take_succ_eq_append_getElem hlv,hvn]
     unfold u64s nats
     rw[List.map_append,List.map_append,List.map_cons,List.map_nil,List.map_cons,List.map_nil,Int.toNat_of_nonneg (by omega)]
    clear hvn hlv
    generalize vs[i]=v at *
    obtain⟨k,n,s⟩:=v
    simp only at hc0 hc1 hc2 hv HT
    have h0:0<=n:=by omega
    have h1:n<=1:=by omega
    clear hv
    have hown:=HO.out
    go_wp2_with (at_builtin;refine wpList_append_own _ rfl _ _ 142 rfl w.heap.size 98 i0 (.int .u64 0) 1 8 Tryz.underlying142 hi hz0 hz1 hz2 rfl (by decide) _ _ _ rfl (hown.alloc _) ⟨wr.heap.size,0,none⟩ 1 1 [.int .u64 n] rfl rfl (cell_one_new _ _ _) (by intro u hu;simp at hu;subst hu;rfl) (by unfold maxLen;omega) (by omega) (by have:=hb.size;simp;omega) ?_;intro v' w1 hown' hgrow _)
    have hb2:=below_app hb (Nat.le_refl _) hown hgrow
    rw[←HT.out] at hown'
    clear hown hgrow hc0 hc1 hc2
    go_wp2
    go_roundw
    case rel=>exact⟨i+1,by omega,by go_num,rfl,hown',hb2⟩
    case measure=>simp[intOf];omega
  · obtain rfl:i=vs.length:=by omega
    have ho:=HO.out
    rw[←vns_len,List.take_length] at ho
    obtain⟨a',c',rfl,hl⟩:=lies_own ho
    have hle:(u64s (nats (vns vs))).length=(nats (vns vs)).length:=u64s_len _
    rw[hle]
    have HLL:Hid _:=hl
    clear hl ho hle
    go_wp2_with fail
    refine (packOf_any a' c' (nats (vns vs)) 1 _ (by rw[nats_len,vns_len];omega) (by omega) (fun x hx=>?_) HLL.out).mono ?_
    · obtain⟨n,hm,rfl⟩:=List.mem_map.1 hx
      have:=HX.out n hm
      omega
    rintro e w1 ⟨rfl,hb1⟩
    have hll:(Um.lit (Um.num 1 (nats (vns vs))) ((1*(nats (vns vs)).length+7) / 8)).length<=20000:=by rw[Um.lit_len,nats_len,vns_len];omega
    generalize hq:Um.lit (Um.num 1 (nats (vns vs))) ((1*(nats (vns vs)).length+7) / 8)=l at hll ⊢
    have HQ:Hid (Um.lit (Um.num 1 (nats (vns vs))) ((1*(nats (vns vs)).length+7) / 8)=l):=hq
    clear hq
    go_wp2
    go_ret
    refine⟨ret_str ?_,hb.trans (hb1.mono hb.size)⟩
    rw[show (⟨#[]⟩:ByteArray)=⟨([]:List UInt8).toArray⟩ from rfl,arr_app,←HQ.out]
    unfold packed
    rw[nats_len]
    rfl
theorem plainOf_texts (a:Option Addr)(vs:List Vl)(c:Nat)(w:World)(hn:vs.length<=20000)(hl:LiesV w a vs)(hx:∀s∈vss vs,s.length<=100) :
    Calls Tryz.prog 74 #[.int .i64 4,.slice a vs.length c] w fun e w'=>e=.returned (.string ⟨(Um.txts (vss vs)).toArray⟩)/\Below w.heap.size w w':=by
 have HL:Hid (LiesV w a vs):=hl
 have HX:Hid (∀s∈vss vs,s.length<=100):=hx
 clear hl hx
 go_enter Tryz.func74,Tryz.ntmps74
 go_wp2
 go_loopw [5,6,7] (fun o b x wr=>∃i:Nat,i<=vs.length/\x=.int .i64 i/\b=.slice none 0 0/\o=.string ⟨(Um.txts ((vss vs).take i)).toArray⟩/\Below w.heap.size w wr) (fun _ _ x _=>vs.length-(intOf x).toNat)
 case atStart=>exact⟨0,Nat.zero_le _,rfl,rfl,rfl,Below.refl _ _⟩
 case round =>
  obtain⟨i,hik,rfl,rfl,rfl,hb⟩:=hrel
  by_cases hlt:i<vs.length
  · obtain⟨b,o,rfl,hc0,hc1,hc2⟩:=(HL.out.keep hb) i hlt
    have hlv:i<(vss vs).length:=by rw[vss_len];exact hlt
    have HN:Hid (Um.txts ((vss vs).take (i+1))=Um.txts ((vss vs).take i)++Um.txt vs[i].s.data.toList):=by
     show _=_
     rw[Um.txts_take (vss vs) i hlv]
     simp[vss]
    have hsl:vs[i].s.size<=100:=by
     have h:=HX.out (vss vs)[i] (List.getElem_mem hlv)
     simpa [vss] using h
    have hnl:(Um.txts ((vss vs).take i)).length<=110*20000:=by
     refine Nat.le_trans (Um.txts_len _ (fun s hs=>HX.out s (List.mem_of_mem_take hs))) (Nat.mul_le_mul_left _ ?_)
     rw[List.length_take];omega
    have htl:=Um.txt_len vs[i].s.data.toList (by rw[Array.length_toList];show vs[i].s.size<_;omega)
    rw[Array.length_toList] at htl
    clear hlv
    generalize Um.txts ((vss vs).take i)=l at *
    generalize vs[i]=v at *
    obtain⟨k,n,s⟩:=v
    simp only at hc0 hc1 hc2 HN hsl htl
    change (Um.txt s.data.toList).length<=s.size+10 at htl
    go_wp2_with fail
    refine (long_any s _ (by omega)).mono ?_
    rw[txt_arr]
    rintro e w1 ⟨rfl,hb1⟩
    generalize Um.txt s.data.toList=t at *
    go_wp2
    go_roundw
    case rel=>exact⟨i+1,by omega,by go_num,rfl,by rw[arr_app,HN.out],hb.trans (hb1.mono hb.size)⟩
    case measure=>simp[intOf];omega
  · obtain rfl:i=vs.length:=by omega
    have hnl:(Um.txts ((vss vs).take vs.length)).length<=110*20000:=by
     refine Nat.le_trans (Um.txts_len _ (fun s hs=>HX.out s (List.mem_of_mem_take hs))) (Nat.mul_le_mul_left _ ?_)
     rw[List.length_take];omega
    have e:(vss vs).take vs.length=vss vs:=by rw[←vss_len,List.take_length]
    rw[e] at hnl ⊢
    clear e
    generalize hq:Um.txts (vss vs)=l at *
    have HQ:Hid (Um.txts (vss vs)=l):=hq
    clear hq
    go_wp2_with fail
    refine (pack_none _).mono ?_
    rintro e w1 ⟨rfl,hb1⟩
    go_wp2
    go_ret
    exact⟨ret_str (by rw[show (⟨#[]⟩:ByteArray)=⟨([]:List UInt8).toArray⟩ from rfl,arr_app,List.append_nil,HQ.out]),hb.trans (hb1.mono hb.size)⟩
theorem plainOf_ints (a:Option Addr)(vs:List Vl)(c:Nat)(w:World)(hn:vs.length<=20000)(hl:LiesV w a vs) :
    Calls Tryz.prog 74 #[.int .i64 2,.slice a vs.length c] w fun e w'=>e=.returned (.string ⟨(Um.nums 4 (vns vs)).toArray⟩)/\Below w.heap.size w w':=by
 have HL:Hid (LiesV w a vs):=hl
 clear hl
 go_enter Tryz.func74,Tryz.ntmps74
 go_wp2
 go_loopw [5,6,7] (fun o b x wr=>∃i:Nat,i<=vs.length/\x=.int .i64 i/\b=.slice none 0 0/\o=.string ⟨(Um.nums 4 ((vns vs).take i)).toArray⟩/\Below w.heap.size w wr) (fun _ _ x _=>vs.length-(intOf x).toNat)
 case atStart=>exact⟨0,Nat.zero_le _,rfl,rfl,rfl,Below.refl _ _⟩
 case round =>
  obtain⟨i,hik,rfl,rfl,rfl,hb⟩:=hrel
  have hnl:(Um.nums 4 ((vns vs).take i)).length<=8*20000:=by
   rw[Um.nums_len];refine Nat.mul_le_mul (by omega) ?_;rw[List.length_take];omega
  by_cases hlt:i<vs.length
  · obtain⟨b,o,rfl,hc0,hc1,hc2⟩:=(HL.out.keep hb) i hlt
    have HN:Hid (Um.nums 4 ((vns vs).take (i+1))=Um.nums 4 ((vns vs).take i)++Um.lit (Um.u64 vs[i].n) 4):=by
     show _=_
     rw[Um.nums_take 4 (vns vs) i (by rw[vns_len];exact hlt)]
     simp[vns]
    generalize Um.nums 4 ((vns vs).take i)=l at *
    generalize vs[i]=v at *
    obtain⟨k,n,s⟩:=v
    simp only at hc0 hc1 hc2 HN
    have hwr:=wrap_u n
    have hlt8:=Um.u64_lt n
    have hll:=Um.lit_len (Um.u64 n) 4
    go_wp2_with fail
    clear hwr
    refine (little_any (Um.u64 n) 4 _ hlt8 (by omega)).mono ?_
    rintro e w1 ⟨rfl,hb1⟩
    generalize Um.lit (Um.u64 n) 4=t at *
    go_wp2
    go_roundw
    case rel=>exact⟨i+1,by omega,by go_num,rfl,by rw[arr_app,HN.out],hb.trans (hb1.mono hb.size)⟩
    case measure=>simp[intOf];omega
  · obtain rfl:i=vs.length:=by omega
    have e:(vns vs).take vs.length=vns vs:=by rw[←vns_len,List.take_length]
    rw[e] at hnl ⊢
    clear e
    generalize hq:Um.nums 4 (vns vs)=l at *
    have HQ:Hid (Um.nums 4 (vns vs)=l):=hq
    clear hq
    go_wp2_with fail
    refine (pack_none _).mono ?_
    rintro e w1 ⟨rfl,hb1⟩
    go_wp2
    go_ret
    exact⟨ret_str (by rw[show (⟨#[]⟩:ByteArray)=⟨([]:List UInt8).toArray⟩ from rfl,arr_app,List.append_nil,HQ.out]),hb.trans (hb1.mono hb.size)⟩
theorem plainOf_longs (a:Option Addr)(vs:List Vl)(c:Nat)(kd:Int)(w:World)(hn:vs.length<=20000)(hl:LiesV w a vs)(h1:¬ kd=1)(h2:¬ kd=2)(h4:¬ kd=4) :
    Calls Tryz.prog 74 #[.int .i64 kd,.slice a vs.length c] w fun e w'=>e=.returned (.string ⟨(Um.nums 8 (vns vs)).toArray⟩)/\Below w.heap.size w w':=by
 have HL:Hid (LiesV w a vs):=hl
 clear hl
 go_enter Tryz.func74,Tryz.ntmps74
 go_wp2
 go_loopw [5,6,7] (fun o b x wr=>∃i:Nat,i<=vs.length/\x=.int .i64 i/\b=.slice none 0 0/\o=.string ⟨(Um.nums 8 ((vns vs).take i)).toArray⟩/\Below w.heap.size w wr) (fun _ _ x _=>vs.length-(intOf x).toNat)
 case atStart=>exact⟨0,Nat.zero_le _,rfl,rfl,rfl,Below.refl _ _⟩
 case round =>
  obtain⟨i,hik,rfl,rfl,rfl,hb⟩:=hrel
  have hnl:(Um.nums 8 ((vns vs).take i)).length<=8*20000:=by
   rw[Um.nums_len];refine Nat.mul_le_mul (by omega) ?_;rw[List.length_take];omega
  by_cases hlt:i<vs.length
  · obtain⟨b,o,rfl,hc0,hc1,hc2⟩:=(HL.out.keep hb) i hlt
    have HN:Hid (Um.nums 8 ((vns vs).take (i+1))=Um.nums 8 ((vns vs).take i)++Um.lit (Um.u64 vs[i].n) 8):=by
     show _=_
     rw[Um.nums_take 8 (vns vs) i (by rw[vns_len];exact hlt)]
     simp[vns]
    generalize Um.nums 8 ((vns vs).take i)=l at *
    generalize vs[i]=v at *
    obtain⟨k,n,s⟩:=v
    simp only at hc0 hc1 hc2 HN
    have hwr:=wrap_u n
    have hlt8:=Um.u64_lt n
    have hll:=Um.lit_len (Um.u64 n) 8
    go_wp2_with fail
    clear hwr
    refine (little_any (Um.u64 n) 8 _ hlt8 (by omega)).mono ?_
    rintro e w1 ⟨rfl,hb1⟩
    generalize Um.lit (Um.u64 n) 8=t at *
    go_wp2
    go_roundw
    case rel=>exact⟨i+1,by omega,by go_num,rfl,by rw[arr_app,HN.out],hb.trans (hb1.mono hb.size)⟩
    case measure=>simp[intOf];omega
  · obtain rfl:i=vs.length:=by omega
    have e:(vns vs).take vs.length=vns vs:=by rw[←vns_len,List.take_length]
    rw[e] at hnl ⊢
    clear e
    generalize hq:Um.nums 8 (vns vs)=l at *
    have HQ:Hid (Um.nums 8 (vns vs)=l):=hq
    clear hq
    go_wp2_with fail
    refine (pack_none _).mono ?_
    rintro e w1 ⟨rfl,hb1⟩
    go_wp2
    go_ret
    exact⟨ret_str (by rw[show (⟨#[]⟩:ByteArray)=⟨([]:List UInt8).toArray⟩ from rfl,arr_app,List.append_nil,HQ.out]),hb.trans (hb1.mono hb.size)⟩
theorem plainOf_any (a:Option Addr)(vs:List Vl)(c:Nat)(kd:Int)(w:World)(hn:vs.length<=20000)(hl:LiesV w a vs)(hr:Right kd vs) :
    Calls Tryz.prog 74 #[.int .i64 kd,.slice a vs.length c] w fun e w'=>e=.returned (.string ⟨(plainB kd vs).toArray⟩)/\Below w.heap.size w w':=by
 unfold plainB
 by_cases h1:kd=1
 · rw[if_pos h1]
   subst h1
   refine plainOf_bools a vs c w hn hl fun n hm=>?_
   obtain⟨v,hv,rfl⟩:=List.mem_map.1 hm
   have ho:=(hr.2 v hv).1
   unfold Vl.Ok OkV at ho;omega
 · rw[if_neg h1]
   by_cases h4:kd=4
   · rw[if_pos h4]
     subst h4
     refine plainOf_texts a vs c w hn hl fun s hm=>?_
     obtain⟨v,hv,rfl⟩:=List.mem_map.1 hm
     have ho:=(hr.2 v hv).1
     unfold Vl.Ok OkV at ho
     rw[Array.length_toList]
     show v.s.size<=100
     omega
   · rw[if_neg h4]
     by_cases h2:kd=2
     · rw[if_pos h2]
       subst h2
       exact plainOf_ints a vs c w hn hl
     · rw[if_neg h2]
       exact plainOf_longs a vs c kd w hn hl h1 h2 h4
end Go.Proofs.YtoeiahdjamkdgaaGreatDoor
namespace Go.Proofs.YtoeiahdjamkdgaaGreatDoor
open Go.ChangeShapes Go.WideShapes Go.ChangeAt Go.RowKit
theorem Tryz.cells3:Tryz.prog.cellsOf 3=1:=by kernel_rfl
end Go.Proofs.YtoeiahdjamkdgaaGreatDoor
