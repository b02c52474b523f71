/-
  bitrun.pack: the bytes of the numbers as one number, for whatever numbers have room; what is appended within a row's own room.
  bitrun.Pack: what it answers, for a right width and whatever numbers; out of its bounds; and the closed fact nine().
  Numbers as runs: the bytes that are written: the mathematics, without the program.
  What is packed is unpacked: the mathematics, without the program.
  What the law and the reference make of ints: ints, Wide, bitsOf, PackOf: what they answer.
  bitrun.unpack: the numbers that bytes are, so many bits each.
  slices.Min and slices.Max of numbers.
  The reference's PackOf: the bytes of the numbers as one number.
  bitrun.sameFrom: how many of one number follow.
  bitrun.Unpack and the reference's UnpackOf: what they answer.
  What is written as runs is read: the mathematics, without the program.
  bitrun.readSame: a part of the first kind behind its head.
  bitrun.readGroups: a part of the second kind behind its head.
  bitrun.readPart: a part of whatever kind.
  bitrun.ReadRuns: what it answers.
-/
import Derived.Test.YtoeiahdjamkdgaaGreatDoorWBFix
import Derived.OwnWalk
import Derived.Lib.AppendZeros
set_option maxRecDepth 100000
set_option maxHeartbeats 1600000
namespace Go.Proofs.YtoeiahdjamkdgaaGreatDoor
open Go.RowKit
theorem run_zeros_fit (w:World)(base ty g n k cap:Nat)(l:List UInt8)(hown:w.ownsRow base 5 1 (.slice (some ⟨g,0,none⟩) n cap) n (cellsOf l))(hroom:n+k<=cap)(hk:k<281474976710656) :
    ∃w',(Builtin.append_ #[58,3] ty #[.slice (some ⟨g,0,none⟩) n cap,.int .i64 k]).run Tryz.prog w=.ok (.slice (some ⟨g,0,none⟩) (n+k) cap) w' ∧
     w'.ownsRow base 5 1 (.slice (some ⟨g,0,none⟩) (n+k) cap) (n+k) (cellsOf (l++List.replicate k 0))/\w.grownBy w' (some g):=by
 obtain⟨i0,hi,hz0,hz1,hz2⟩:=info_parts Tryz.info5
 have hl:l.length=n:=by have:=hown.1;simpa [cellsOf] using this
 have hw:IntKind.i64.wrap (k:Int)=k:=by rw[IntKind.wrap_i64];omega
 have hneg:¬ ((k:Int)<0):=by omega
 have h48i:¬ (281474976710656<(k:Int)):=by omega
 by_cases hk0:k=0
 · subst hk0
   refine⟨w,?_,by simpa using hown,⟨rfl,rfl,rfl,Nat.le_refl _,fun _ _ _=>rfl⟩⟩
   have hr:n<=cap:=by omega
   have hw0:IntKind.i64.wrap 0=0:=by decide
   simp[hw0,Builtin.append_,run_underlying Tryz.underlying58,run_underlying Tryz.underlying3,sizeOf,typeInfo,hi,hz2,asInt,asIntOf,hr,storeCells]
 · rcases hown.2 with ⟨h,_⟩|⟨g',cap',cur,h,hbg,hg,hnc,hcm,hcs,htake⟩
   · simp at h
   · simp only[Value.slice.injEq,Option.some.injEq,Addr.mk.injEq,and_true,true_and] at h
     obtain⟨rfl,rfl⟩:=h
     have hzc:Builtin.zeroCells (Value.int .u8 0).cells k=(List.replicate k (Value.int .u8 0)).toArray:=by
      apply Array.ext
      · simp[Builtin.zeroCells,Value.cells]
      · intro i h1 h2
        simp[Builtin.zeroCells,Value.cells,Nat.mod_one]
     have hst:=run_storeCells_at Tryz.prog g n 5 (List.replicate k (Value.int .u8 0)) 0 cur w hg (by simp;omega) (by intro u hu;rw[List.mem_replicate] at hu;rw[hu.2];rfl)
     simp only[Nat.add_zero] at hst
     refine⟨w.setRow g (cur.toList.take n++List.replicate k (Value.int .u8 0)++cur.toList.drop (n+(List.replicate k (Value.int .u8 0)).length)).toArray,?_,⟨?_,.inr ⟨g,cap,_,rfl,hbg,setRow_heap w g cur _ 5 _ hg,hroom,hcm,?_,?_⟩⟩,⟨rfl,rfl,rfl,by simp,fun k _ hk=>setRow_other w g k _ (fun e=>hk (by simp[e]))⟩⟩
     · simp[Builtin.append_,run_underlying Tryz.underlying58,run_underlying Tryz.underlying3,sizeOf,typeInfo,zeroValue,hi,hz0,hz1,hz2,asInt,asIntOf,hw,hneg,h48i,hk0,hroom,hzc,Addr.add_lit,hst]
     · simp[cellsOf,hl]
     · simp only[List.size_toArray,List.length_append,List.length_take,List.length_drop,Array.length_toList,List.length_replicate]
       omega
     · simp only[Nat.mul_one] at htake ⊢
       rw[htake]
       have e:cellsOf (l++List.replicate k 0)=cellsOf l++List.replicate k (Value.int .u8 0):=by simp[cellsOf]
       rw[e]
       have hlen:(cellsOf l++List.replicate k (Value.int .u8 0)).length=n+k:=by simp[cellsOf,hl]
       rw[←hlen]
       exact List.take_left
theorem run_zeros_int (w:World)(base ty g n k cap:Nat)(m:Int)(N:Nat)(hm:m=((k-n:Nat):Int))(hown:w.ownsRow base 5 1 (.slice (some ⟨g,0,none⟩) n cap) n (cellsOf (Um.lit N n)))(hnk:n<=k)(hroom:k<=cap)(hk:k<281474976710656)(hN:N<2 ^ (8*n)) :
    ∃w',(Builtin.append_ #[58,3] ty #[.slice (some ⟨g,0,none⟩) n cap,.int .i64 m]).run Tryz.prog w=.ok (.slice (some ⟨g,0,none⟩) k cap) w' ∧
     w'.ownsRow base 5 1 (.slice (some ⟨g,0,none⟩) k cap) k (cellsOf (Um.lit N k))/\w.grownBy w' (some g):=by
 subst hm
 have h:=run_zeros_fit w base ty g n (k-n) cap (Um.lit N n) hown (by omega) (by omega)
 rw[←Um.lit_zeros N n (k-n) hN,show n+(k-n)=k by omega] at h
 exact h
theorem or64 (a b:Nat)(ha:a<18446744073709551616)(hb:b<18446744073709551616):bits .or .u64 (a:Int) (b:Int)=((a ||| b:Nat):Int):=u64_or_nat a b ha hb
theorem or_shift {r x h:Nat}(hr:r<2 ^ h)(hx:x<4294967296)(hh:h<8):bits .or .u64 (r:Int) (IntKind.u64.wrap ((x:Int)*2 ^ h))=((r+x*2 ^ h:Nat):Int):=by
 have h8:2 ^ h<=2 ^ 8:=Nat.pow_le_pow_right (by omega) (by omega)
 have hm:x*2 ^ h<=4294967296*256:=Nat.mul_le_mul (by omega) (by simpa using h8)
 have e:(x:Int)*2 ^ h=((x*2 ^ h:Nat):Int):=by simp
 have e2:IntKind.u64.wrap ((x:Int)*2 ^ h)=((x*2 ^ h:Nat):Int):=by
  rw[e,IntKind.wrap_u64];omega
 rw[e2,or64 r _ (by have:2 ^ 8=256:=rfl;omega) (by omega),Um.or_above hr]
theorem below_fit {B:Nat}{w wr w1:World}{o:Obj}{g e n c:Nat}{xs:List Value}(hb:Below B w wr)(hB:B<=w.heap.size)(hown:wr.ownsRow B e 1 (.slice (some ⟨g,0,none⟩) n c) n xs)(hg:(wr.alloc o).grownBy w1 (some g)):Below B w w1 :=
 below_app hb hB hown hg
theorem own_lit_snoc {w:World}{base e N q:Nat}{v:Value}{n:Int}(hn:n=(Um.by_ N q:Nat))(h:w.ownsRow base e 1 v (q+1) (cellsOf (Um.lit N q)++[.int .u8 n])):w.ownsRow base e 1 v (q+1) (cellsOf (Um.lit N (q+1))):=by
 have hlt:=Um.by_lt N q
 rw[Um.lit_succ,cells_snoc,Um.bt_int (by omega) (by omega),←hn];exact h
theorem pack_any (ns:List Nat)(wd size:Nat)(a:Option Addr)(c:Nat)(w:World)(hlen:ns.length<=20000)(hwd:wd<=32)(hns:∀x∈ns,x<2 ^ wd)
    (hsz:(wd*ns.length+7) / 8<=size) (hsz2:size<=1000000)
    (ha:∀j (h:j<ns.length),∃b o,a=some ⟨b,o,none⟩/\w.cell? ⟨b,o+j,none⟩=some (.int .i64 (ns[j]:Nat))) :
    Calls Tryz.prog 97 #[.slice a ns.length c,.int .i64 wd,.int .i64 size] w fun e w' =>
     (e=.returned (.slice (some ⟨w.heap.size,0,none⟩) size size)/\w'.ownsRow w.heap.size 5 1 (.slice (some ⟨w.heap.size,0,none⟩) size size) size (cellsOf (Um.lit (Um.num wd ns) size)))/\Below w.heap.size w w':=by
 obtain⟨i0,hi,hz0,hz1,hz2⟩:=info_parts Tryz.info5
 obtain⟨M,hM⟩:∃M,M=madeCells (Value.int .u8 0).cells (((size:Nat):Int).toNat*i0.size):=⟨_,rfl⟩
 have hMs:M.size=size:=by rw[hM,size_madeCells,hz1];simp
 have hmk:∀W:World,(Instr.makeSlice 58 (.int .i64 0) (.int .i64 (size:Int))).run Tryz.prog W=.ok (.slice (some ⟨W.heap.size,0,none⟩) 0 size) (W.alloc (.cells M 5)):=fun W=>by
  have h:=run_make (P:=Tryz.prog) W 58 5 i0 (.int .u8 0) Tryz.underlying58 hi hz0 .i64 .i64 0 (size:Int) (by omega) (by omega) (by rw[hz2];omega) (by omega)
  rw[←hM] at h
  simpa using h
 have HS:Hid ((w.alloc (.cells M 5)).ownsRow w.heap.size 5 1 (.slice (some ⟨w.heap.size,0,none⟩) 0 size) 0 (cellsOf [])):=World.ownsRow_made w M size (Nat.le_refl _) (by unfold maxLen;omega) (by omega)
 have HA:Hid (∀j (h:j<ns.length),∃b o,a=some ⟨b,o,none⟩/\w.cell? ⟨b,o+j,none⟩=some (.int .i64 (ns[j]:Nat))):=ha
 have HNS:Hid (∀x∈ns,x<2 ^ wd):=hns
 obtain⟨T,HT⟩:∃T,Hid (T=wd*ns.length):=⟨_,rfl⟩
 rw[←HT.out] at hsz
 clear hM hMs ha hns
 go_enter Tryz.func97,Tryz.ntmps97
 go_wp2
 clear hmk
 go_loopw [7,8,9,16] (fun b r h i wr=>∃k q r' h':Nat,k<=ns.length/\i=.int .i64 k/\b=.slice (some ⟨w.heap.size,0,none⟩) q size/\r=.int .u64 r'/\h=.int .i64 h'/\h'<8/\Hid (8*q+h'=wd*k)/\Hid (r'=Um.num wd (ns.take k) / 2 ^ (8*q)) ∧
     Hid (wr.ownsRow w.heap.size 5 1 (.slice (some ⟨w.heap.size,0,none⟩) q size) q (cellsOf (Um.lit (Um.num wd (ns.take k)) q)))/\Below w.heap.size w wr) (fun _ _ _ i _=>ns.length-(intOf i).toNat)
 case atStart=>exact⟨0,0,0,0,Nat.zero_le _,rfl,rfl,rfl,rfl,by omega,rfl,by show _=_;simp[Um.num],HS,(Below.refl _ _).alloc (Nat.le_refl _) _⟩
 case round =>
  obtain⟨k,q,r,h,hk,rfl,rfl,rfl,rfl,hh,HB,HR,HO,hb⟩:=hrel
  by_cases hlt:k<ns.length
  · obtain⟨b,o,rfl,hc⟩:=HA.out k hlt
    have hc:=(hb.cell (World.block_lt_of_cell? w _ hc)).trans hc
    have hx:ns[k]<2 ^ wd:=HNS.out _ (List.getElem_mem hlt)
    have HN1:Hid (Um.num wd (ns.take (k+1))=Um.num wd (ns.take k)+ns[k]*2 ^ (wd*k)):=Um.num_take wd ns k hlt
    have HNL:Hid (Um.num wd (ns.take (k+1))<2 ^ (wd*(k+1))):=Um.num_take_lt wd ns (k+1) HNS.out hlt
    have hN0:=Um.num_take_lt wd ns k HNS.out hk
    generalize ns[k]=x at hc hx HN1
    have hw2:2 ^ wd<=4294967296:=Nat.le_trans (Nat.pow_le_pow_right (by omega) hwd) (by decide)
    have hx4:x<4294967296:=by omega
    have hkT:wd*(k+1)<=T:=by rw[HT.out];exact Nat.mul_le_mul_left _ hlt
    have hrl:r<2 ^ h:=by
     rw[HR.out,show h=wd*k-8*q by have:=HB.out;omega]
     exact Um.above_lt hN0 (by have:=HB.out;omega)
    have hor:=or_shift hrl hx4 hh
    have HR1:Hid (r+x*2 ^ h=Um.num wd (ns.take (k+1)) / 2 ^ (8*q)):=by
     show _=_
     rw[HN1.out,Um.above_add _ _ _ _ (by have:=HB.out;omega),←HR.out,show wd*k-8*q=h by have:=HB.out;omega]
    have HO1:Hid (wr.ownsRow w.heap.size 5 1 (.slice (some ⟨w.heap.size,0,none⟩) q size) q (cellsOf (Um.lit (Um.num wd (ns.take (k+1))) q))):=by
     show World.ownsRow _ _ _ _ _ _ _
     rw[HN1.out,Um.lit_add _ _ _ _ (by have:=HB.out;omega)]
     exact HO.out
    have h8:2 ^ h<=256:=Nat.le_trans (Nat.pow_le_pow_right (n:=2) (by omega) (show h<=8 by omega)) (by decide)
    have hm:x*2 ^ h<=4294967296*256:=Nat.mul_le_mul (by omega) h8
    have hr1:r+x*2 ^ h<18446744073709551616:=by omega
    have HB1:Hid (8*q+(h+wd)=wd*(k+1)):=by show _=_;rw[Nat.mul_add,←HB.out];omega
    clear HN1 hN0 hrl h8 hm HO HR HB hx hw2
    generalize hN:Um.num wd (ns.take (k+1))=N at HNL HR1 HO1
    have HN:Hid (Um.num wd (ns.take (k+1))=N):=hN
    generalize hBe:wd*(k+1)=B at HNL hkT HB1
    have HBe:Hid (wd*(k+1)=B):=hBe
    clear hN hBe
    go_wp2
    clear hor hc
    go_loopw [7,8,9] (fun b r h wr=>∃q r' h':Nat,b=.slice (some ⟨w.heap.size,0,none⟩) q size/\r=.int .u64 r'/\h=.int .i64 h'/\h'<100/\r'<18446744073709551616/\Hid (8*q+h'=B)/\Hid (r'=N / 2 ^ (8*q)) ∧
     Hid (wr.ownsRow w.heap.size 5 1 (.slice (some ⟨w.heap.size,0,none⟩) q size) q (cellsOf (Um.lit N q)))/\Below w.heap.size w wr) (fun _ _ h _=>(intOf h).toNat)
    case atStart=>exact⟨q,r+x*2 ^ h,h+wd,rfl,by simp,by go_num,by omega,hr1,HB1,HR1,HO1,hb⟩
    case round =>
     clear HR1 HO1 HB1 hb hh hr1
     obtain⟨q,r,h,rfl,rfl,rfl,hh,hr1,HB1,HR,HO,hb⟩:=hrel
     have hq:=HB1.out
     have hby:((r:Int) % 256)=((Um.by_ N q:Nat):Int):=by rw[HR.out];unfold Um.by_;simp
     by_cases h8:8<=h
     · have hown:=HO.out
       go_wp2_with (at_builtin;refine wpList_append_fits _ rfl _ _ 58 rfl w.heap.size 5 i0 1 Tryz.underlying58 hi hz1 w.heap.size q size _ rfl (hown.alloc _) ⟨_,0,none⟩ 1 1 [.int .u8 ((Um.by_ N q:Nat):Int)] rfl rfl (cell_one_new _ _ _) (by intro u hu;simp at hu;subst hu;rfl) (by omega) ?_;intro w1 hown' hgrow)
       have hown2:=own_lit_snoc rfl hown'
       have hb2:=below_fit hb (Nat.le_refl _) hown hgrow
       go_wp2
       go_roundw
       case rel=>exact⟨q+1,r / 256,h-8,rfl,by go_num,by go_num,by omega,by omega,by show _=_;omega,by show _=_;rw[HR.out,Um.div_step],hown2,hb2⟩
       case measure=>simp[intOf];omega
     · go_wp2
       go_roundw
       case rel=>exact⟨k+1,q,r,h,by omega,by go_num,rfl,rfl,rfl,by omega,by rw[HBe.out];exact HB1,by rw[HN.out];exact HR,by rw[HN.out];exact HO,hb⟩
       case measure=>simp[intOf];omega
  · obtain rfl:k=ns.length:=by omega
    rw[List.take_length] at HR HO
    have hN0:=Um.num_lt wd ns HNS.out
    rw[←HT.out] at HB hN0
    have hq:=HB.out
    generalize hNe:Um.num wd ns=N at HR HO hN0
    have HNe:Hid (Um.num wd ns=N):=hNe
    clear hNe
    by_cases h0:0<h
    · have hown:=HO.out
      have hby:((r:Int) % 256)=((Um.by_ N q:Nat):Int):=by rw[HR.out];unfold Um.by_;simp
      have hr1:r<18446744073709551616:=by
       have h1:r<2 ^ h:=by rw[HR.out,show h=T-8*q by omega];exact Um.above_lt hN0 (by omega)
       have h8:2 ^ h<=256:=Nat.le_trans (Nat.pow_le_pow_right (n:=2) (by omega) (show h<=8 by omega)) (by decide)
       omega
      have hN1:N<2 ^ (8*(q+1)):=Nat.lt_of_lt_of_le hN0 (Nat.pow_le_pow_right (by omega) (by omega))
      go_wp2_with (at_builtin;first|(refine wpList_append_fits _ rfl _ _ 58 rfl w.heap.size 5 i0 1 Tryz.underlying58 hi hz1 w.heap.size q size _ rfl (hown.alloc _) ⟨_,0,none⟩ 1 1 [.int .u8 ((Um.by_ N q:Nat):Int)] rfl rfl (cell_one_new _ _ _) (by intro u hu;simp at hu;subst hu;rfl) (by omega) ?_;intro w1 hown' hgrow;have hown2:=own_lit_snoc rfl hown';have hb2:=below_fit hb (Nat.le_refl _) hown hgrow)|(obtain⟨w2,hrun,hown3,hg3⟩:=run_zeros_int w1 w.heap.size 58 w.heap.size (q+1) size size ((size:Int)-((q:Int)+1)) N (by omega) hown2 (by omega) (Nat.le_refl _) (by omega) hN1;refine Lib.wpList_append_run _ rfl _ _ 58 3 rfl _ _ rfl rfl _ _ hrun ?_))
      go_ret
      exact⟨⟨rfl,by rw[HNe.out];exact hown3⟩,hb2.grown hg3 hb2.size (fun k hk=>(hown2.lt k hk).1)⟩
    · have hown:=HO.out
      have hN1:N<2 ^ (8*q):=Nat.lt_of_lt_of_le hN0 (Nat.pow_le_pow_right (by omega) (by omega))
      obtain rfl:h=0:=by omega
      go_wp2_with (at_builtin;(obtain⟨w2,hrun,hown3,hg3⟩:=run_zeros_int wr w.heap.size 58 w.heap.size q size size ((size:Int)-(q:Int)) N (by omega) hown (by omega) (Nat.le_refl _) (by omega) hN1;refine Lib.wpList_append_run _ rfl _ _ 58 3 rfl _ _ rfl rfl _ _ hrun ?_))
      go_ret
      exact⟨⟨rfl,by rw[HNe.out];exact hown3⟩,hb.grown hg3 hb.size (fun k hk=>(hown.lt k hk).1)⟩
end Go.Proofs.YtoeiahdjamkdgaaGreatDoor
namespace Go.Proofs.YtoeiahdjamkdgaaGreatDoor
open Go.RowKit
theorem own_conv_at {w:World}{base g n cap:Nat}{l:List UInt8}(hl:l.length=n)(h:w.ownsRow base 5 1 (.slice (some ⟨g,0,none⟩) n cap) n (cellsOf l)) :
    (convert 58 9 (.slice (some ⟨g,0,none⟩) n cap)).run Tryz.prog w=.ok (.string ⟨l.toArray⟩) w:=by
 subst hl
 exact run_convert_bytes_back w 58 9 5 ⟨g,0,none⟩ cap l Tryz.underlying58 Tryz.underlying5 Tryz.underlying9 (fun j hj=>h.cells rfl j _ (by simp[cellsOf,hj]))
def nats (xs:List Int):List Nat:=xs.map Int.toNat
theorem nats_len (xs:List Int):(nats xs).length=xs.length:=by simp[nats]
theorem nats_get (xs:List Int)(j:Nat)(h:j<xs.length):(nats xs)[j]'(by rw[nats_len];exact h)=xs[j].toNat:=by simp[nats]
theorem nats_lt {k:Nat}{xs:List Int}(h:∀j (h:j<xs.length),Room k xs[j]):∀x∈nats xs,x<2 ^ k:=by
 intro x hx
 obtain⟨y,hy,rfl⟩:=List.mem_map.1 hx
 obtain⟨j,hj,rfl⟩:=List.getElem_of_mem hy
 have h0:=h j hj
 unfold Room at h0
 have e:((2 ^ k:Nat):Int)=(2:Int) ^ k:=by simp
 rw[←e] at h0
 omega
theorem pack_ints (xs:List Int)(k size:Nat)(a:Option Addr)(c:Nat)(w:World)(hlen:xs.length<=20000)(hk:k<=32)(hr:∀j (h:j<xs.length),Room k xs[j])
    (hsz:(k*xs.length+7) / 8<=size) (hsz2:size<=1000000)
    (ha:∀j (h:j<xs.length),∃b o,a=some ⟨b,o,none⟩/\w.cell? ⟨b,o+j,none⟩=some (.int .i64 xs[j])) :
    Calls Tryz.prog 97 #[.slice a xs.length c,.int .i64 k,.int .i64 size] w fun e w' =>
     (e=.returned (.slice (some ⟨w.heap.size,0,none⟩) size size)/\w'.ownsRow w.heap.size 5 1 (.slice (some ⟨w.heap.size,0,none⟩) size size) size (cellsOf (Um.lit (Um.num k (nats xs)) size)))/\Below w.heap.size w w':=by
 have h:=pack_any (nats xs) k size a c w (by rw[nats_len];exact hlen) hk (nats_lt hr) (by rw[nats_len];exact hsz) hsz2 (fun j hj=>by
  rw[nats_len] at hj
  obtain⟨b,o,e,hc⟩:=ha j hj
  refine⟨b,o,e,?_⟩
  rw[hc,nats_get xs j hj]
  have:=(hr j hj).1
  rw[Int.toNat_of_nonneg this])
 rw[nats_len] at h
 exact h
def packed (k:Nat)(xs:List Int):List UInt8:=Um.lit (Um.num k (nats xs)) ((k*xs.length+7) / 8)
theorem packF_any (a:Option Addr)(xs:List Int)(c k:Nat)(w:World)(st:TypeId)(sp:Value)(hn:xs.length<=20000)(hk:k<=32)(hg:w.cell? ⟨0,0,none⟩=some (.iface st sp))
    (hx:∀j (h:j<xs.length),-9223372036854775808<=xs[j]/\xs[j]<=9223372036854775807)
    (ha:∀j (h:j<xs.length),∃b o,a=some ⟨b,o,none⟩/\w.cell? ⟨b,o+j,none⟩=some (.int .i64 xs[j])) :
    Calls Tryz.prog 154 #[.slice a xs.length c,.int .i64 k] w fun e w' =>
     ((e=.returned (.tuple #[.string ⟨(packed k xs).toArray⟩,.nilIface])/\∀j (h:j<xs.length),Room k xs[j]) ∨
      (∃i p,∃hi:i<xs.length,e=.returned (.tuple #[.string ⟨#[]⟩,.iface 83 (.pointer (some ⟨p,0,none⟩))])/\(∀j (h:j<xs.length),j<i->Room k xs[j])/\¬ Room k xs[i]/\w'.cell? ⟨p,0,none⟩=some (.int .i64 i)/\w'.cell? ⟨p,1,none⟩=some (.iface st sp)))/\Below w.heap.size w w':=by
 have HG:Hid (w.cell? ⟨0,0,none⟩=some (.iface st sp)):=hg
 have HX:Hid (∀j (h:j<xs.length),-9223372036854775808<=xs[j]/\xs[j]<=9223372036854775807):=hx
 have HA:Hid (∀j (h:j<xs.length),∃b o,a=some ⟨b,o,none⟩/\w.cell? ⟨b,o+j,none⟩=some (.int .i64 xs[j])):=ha
 have hmul:k*xs.length<=32*20000:=Nat.mul_le_mul hk hn
 have hmi:(xs.length:Int)*(k:Int)=((k*xs.length:Nat):Int):=by rw[Nat.mul_comm];simp
 clear hx ha hg
 go_enter Tryz.func154,Tryz.ntmps154
 go_wp2_with fail
 refine (check_any a xs c k w st sp hn hk HG.out HX.out HA.out).mono ?_
 rintro e w1 ⟨⟨rfl,HR⟩|⟨i,p,hi,rfl,h1,h2,h3,h4⟩,hb1⟩
 · have HR':Hid (∀j (h:j<xs.length),Room k xs[j]):=HR
   clear HR
   obtain⟨size,HS⟩:∃size,Hid (size=(k*xs.length+7) / 8):=⟨_,rfl⟩
   have hs2:size<=1000000:=by rw[HS.out];omega
   go_wp2_with (go_at_call 96;refine (eights_any (k*xs.length) _ (by omega)).mono ?_;rw[←HS.out];rintro e w2 ⟨rfl,hw⟩;obtain rfl:=hw.symm)
   refine (pack_ints xs k size a c w1 hn hk HR'.out (by rw[HS.out];exact Nat.le_refl _) hs2 (fun j h=>by
    obtain⟨b,o,e,hc⟩:=HA.out j h
    exact⟨b,o,e,(hb1.cell (World.block_lt_of_cell? w _ hc)).trans hc⟩)).mono ?_
   rintro e w2 ⟨⟨rfl,hown⟩,hb2⟩
   have hcv:=own_conv_at (Um.lit_len _ _) hown
   go_wp2_with fail
   go_ret2
   refine⟨Or.inl ⟨?_,HR'.out⟩,hb1.trans (hb2.mono hb1.size)⟩
   unfold packed
   rw[←HS.out]
   rfl
 · go_wp2_with fail
   go_ret2
   exact⟨Or.inr ⟨i,p,hi,rfl,h1,h2,h3,h4⟩,hb1⟩
end Go.Proofs.YtoeiahdjamkdgaaGreatDoor
namespace Go.Proofs.YtoeiahdjamkdgaaGreatDoor
namespace Um
def lead:List Int->Nat
 | []=>0
 | x :: l=>1+(l.takeWhile (· == x)).length
theorem lead_pos {l:List Int}(h:0<l.length):0<lead l:=by
 cases l with
 | nil=>simp at h
 | cons x l=>simp[lead];omega
theorem lead_le (l:List Int):lead l<=l.length:=by
 cases l with
 | nil=>simp[lead]
 | cons x l =>
  have:(l.takeWhile (· == x)).length<=l.length:=by
   have h:=List.takeWhile_append_dropWhile (p:=(· == x)) (l:=l)
   have h2:=congrArg List.length h
   rw[List.length_append] at h2
   omega
  simp[lead];omega
theorem lead_of {x:Int}:∀{l:List Int} {k:Nat},(∀j (h:j<l.length),j<k->l[j]=x)->k<=l.length->(∀h:k<l.length,l[k]≠x)->(l.takeWhile (· == x)).length=k
 | [],k,_,h2,_=>by simp at h2;simp[h2]
 | y :: l,0,_,_,h3=>by
  have:=h3 (by simp)
  simp at this
  simp[this]
 | y :: l,k+1,h1,h2,h3=>by
  have hy:y=x:=h1 0 (by simp) (by omega)
  have ih:=lead_of (x:=x) (l:=l) (k:=k) (fun j h hj=>h1 (j+1) (by simpa using h) (by omega)) (by simpa using h2) (fun h=>h3 (by simpa using h))
  simp[hy,ih]
def flush (w:Nat)(p:List Int):List UInt8:=if p.length=0 then [] else uv (2*((p.length+7) / 8)+1)++lit (num w (nats p)) ((p.length+7) / 8*w)
def wr (w:Nat):Nat->List Int->List Int->List UInt8
 | 0,p,_=>flush w p
 | f+1,p,r=>if r.length=0 then flush w p
  else if lead r<8 then wr w f (p++r.take 8) (r.drop 8)
  else flush w p++(uv (2*lead r)++lit (r.headD 0).toNat ((w+7) / 8))++wr w f [] (r.drop (lead r))
theorem wr_fuel (w:Nat):∀(f g:Nat) (p r:List Int),r.length<=f->r.length<=g->wr w f p r=wr w g p r:=by
 intro f
 induction f with
 | zero =>
  intro g p r hf hg
  have h0:r.length=0:=by omega
  cases g with
  | zero=>rfl
  | succ g=>simp only[wr];rw[if_pos h0]
 | succ f ih =>
  intro g p r hf hg
  cases g with
  | zero =>
   have h0:r.length=0:=by omega
   simp only[wr];rw[if_pos h0]
  | succ g =>
   simp only[wr]
   split
   · rfl
   · rename_i h0
     have hp:=lead_pos (l:=r) (by omega)
     split
     · rw[ih g _ _ (by rw[List.length_drop];omega) (by rw[List.length_drop];omega)]
     · rw[ih g _ _ (by rw[List.length_drop];omega) (by rw[List.length_drop];omega)]
def wrs (w:Nat)(p r:List Int):List UInt8:=wr w r.length p r
theorem wrs_nil (w:Nat)(p:List Int):wrs w p []=flush w p:=rfl
theorem wrs_short (w:Nat)(p r:List Int)(h0:0<r.length)(h:lead r<8):wrs w p r=wrs w (p++r.take 8) (r.drop 8):=by
 unfold wrs
 obtain⟨m,hm⟩:∃m,r.length=m+1:=⟨r.length-1,by omega⟩
 rw[hm]
 simp only[wr]
 rw[if_neg (by omega),if_pos h]
 exact wr_fuel w _ _ _ _ (by rw[List.length_drop];omega) (Nat.le_refl _)
theorem wrs_long (w:Nat)(p r:List Int)(h:¬ lead r<8):wrs w p r=flush w p++(uv (2*lead r)++lit (r.headD 0).toNat ((w+7) / 8))++wrs w [] (r.drop (lead r)):=by
 have hl:=lead_le r
 unfold wrs
 obtain⟨m,hm⟩:∃m,r.length=m+1:=⟨r.length-1,by omega⟩
 rw[hm]
 simp only[wr]
 rw[if_neg (by omega),if_neg h]
 rw[wr_fuel w m (r.drop (lead r)).length _ _ (by rw[List.length_drop];omega) (Nat.le_refl _)]
end Um
end Go.Proofs.YtoeiahdjamkdgaaGreatDoor
namespace Go.Proofs.YtoeiahdjamkdgaaGreatDoor
namespace Um
theorem unp_packed (k:Nat)(ns:List Nat)(q:Nat)(beh:List UInt8)(hns:∀x∈ns,x<2 ^ k)(hq:k*ns.length<=8*q):unp (lit (num k ns) q++beh) k ns.length=ns:=by
 apply List.ext_getElem
 · rw[unp_len]
 · intro i h1 h2
   rw[unp_len] at h1
   have hki:k*i+k<=8*q:=by
    have:k*(i+1)<=k*ns.length:=Nat.mul_le_mul_left _ h1
    rw[Nat.mul_add,Nat.mul_one] at this
    omega
   rw[unp_get _ _ _ _ h1,←lev_cut _ q (k*i) k (by rw[List.length_append,lit_len];omega) hki]
   have ht:(lit (num k ns) q++beh).take q=lit (num k ns) q:=by
    have:=List.take_left (l₁:=lit (num k ns) q) (l₂:=beh)
    rwa [lit_len] at this
   have hN:num k ns<2 ^ (8*q):=Nat.lt_of_lt_of_le (num_lt k ns hns) (Nat.pow_le_pow_right (by omega) hq)
   rw[ht,lev_lit,Nat.mod_eq_of_lt hN,num_get k ns i h1 hns]
theorem unp_padded (k:Nat)(ns:List Nat)(q m:Nat)(beh:List UInt8)(hns:∀x∈ns,x<2 ^ k)(hm:ns.length<=m)(hq:k*m<=8*q):unp (lit (num k ns) q++beh) k m=ns++List.replicate (m-ns.length) 0:=by
 have hz:∀(l:List Nat) (j:Nat),num k (l++List.replicate j 0)=num k l:=by
  intro l j
  induction j with
  | zero=>simp
  | succ j ih=>rw[List.replicate_succ',←List.append_assoc,num_snoc,ih];simp
 have hl:(ns++List.replicate (m-ns.length) 0).length=m:=by simp;omega
 have h:=unp_packed k (ns++List.replicate (m-ns.length) 0) q beh (fun x hx=>by
  rcases List.mem_append.1 hx with h|h
  · exact hns x h
  · rw[(List.mem_replicate.1 h).2];exact Nat.two_pow_pos k) (by rw[hl];exact hq)
 rw[hz,hl] at h
 exact h
theorem grps_read (k:Nat)(ns:List Nat)(g left:Nat)(beh:List UInt8)(hns:∀x∈ns,x<2 ^ k)(hg:g=(ns.length+7) / 8)(h0:0<ns.length)(hl:ns.length=left\/(ns.length<left/\ns.length=8*g)) :
    grps (lit (num k ns) (g*k)++beh) k g left=some (ns,g*k):=by
 have hu:=unp_padded k ns (g*k) (8*g) beh hns (by omega) (by rw[Nat.mul_left_comm,Nat.mul_comm k g];exact Nat.le_refl _)
 unfold grps
 rw[hu,if_pos]
 · have ht : (ns ++ List.replicate (8 * g - ns.length) 0).take left = ns := by
     rcases hl with h|⟨h,h2⟩
     · rw[←h];exact List.take_left
     · rw[show 8*g-ns.length=0 by omega,List.replicate_zero,List.append_nil,List.take_of_length_le (by omega)]
   rw[ht]
 · refine⟨⟨by omega,by omega⟩,by rw[List.length_append,lit_len];omega,?_⟩
   intro x hx
   rcases hl with h|⟨h,h2⟩
   · rw[←h,List.drop_left] at hx
     exact (List.mem_replicate.1 hx).2
   · rw[show 8*g-ns.length=0 by omega] at hx
     simp at hx
     rw[List.drop_of_length_le (by omega)] at hx
     cases hx
theorem same_read (k x c left:Nat)(beh:List UInt8)(hx:x<2 ^ k)(h0:0<c)(hl:c<=left):same (lit x ((k+7) / 8)++beh) k c left=some (List.replicate c x,(k+7) / 8):=by
 have ht:(lit x ((k+7) / 8)++beh).take ((k+7) / 8)=lit x ((k+7) / 8):=by
  have:=List.take_left (l₁:=lit x ((k+7) / 8)) (l₂:=beh)
  rwa [lit_len] at this
 have hv:lev (lit x ((k+7) / 8))=x:=by
  rw[lev_lit,Nat.mod_eq_of_lt]
  exact Nat.lt_of_lt_of_le hx (Nat.pow_le_pow_right (by omega) (by omega))
 unfold same
 rw[ht,hv,if_pos ⟨⟨h0,hl⟩,by rw[List.length_append,lit_len];omega,hx⟩]
end Um
end Go.Proofs.YtoeiahdjamkdgaaGreatDoor
namespace Go.Proofs.YtoeiahdjamkdgaaGreatDoor
open Go.RowKit
theorem Tryz.info3:(Tryz.prog.info? 3).map (fun i=>(i.zero,i.size,i.bytes))=some (some (.int .i64 0),1,8):=by kernel_rfl
theorem Tryz.info98:(Tryz.prog.info? 98).map (fun i=>(i.zero,i.size,i.bytes))=some (some (.int .u64 0),1,8):=by kernel_rfl
def Lies (w:World)(a:Option Addr)(cs:List Value):Prop:=∀j (h:j<cs.length),∃b o,a=some ⟨b,o,none⟩/\w.cell? ⟨b,o+j,none⟩=some cs[j]
theorem Lies.keep {w w':World}{a:Option Addr}{cs:List Value}(h:Lies w a cs)(hb:Below w.heap.size w w'):Lies w' a cs:=fun j hj=>by
 obtain⟨b,o,e,hc⟩:=h j hj
 exact⟨b,o,e,(hb.cell (World.block_lt_of_cell? w _ hc)).trans hc⟩
theorem addr_add (b o j:Nat):(⟨b,o,none⟩:Addr).add j=⟨b,o+j,none⟩:=by unfold Addr.add;split<;>simp_all
theorem lies_own {w:World}{base e n:Nat}{v:Value}{cs:List Value}(h:w.ownsRow base e 1 v n cs):∃a c,v=.slice a cs.length c/\Lies w a cs:=by
 have hl:=h.1
 rw[Nat.mul_one] at hl
 rcases h.2 with ⟨rfl,rfl⟩|⟨g,cap,cur,rfl,_,hg,_,_,_,htake⟩
 · refine⟨none,0,by rw[hl],fun j hj=>absurd hj (by omega)⟩
 · refine⟨some ⟨g,0,none⟩,cap,by rw[hl],fun j hj=>⟨g,0,rfl,?_⟩⟩
   have:=h.cells rfl j _ (List.getElem?_eq_getElem hj)
   rw[addr_add] at this
   exact this
def RetSl (e:Ending)(w':World)(n:Nat)(cs:List Value):Prop:=∃a c,e=.returned (.slice a n c)/\Lies w' a cs
def i64s (xs:List Int):List Value:=xs.map (Value.int .i64)
theorem i64s_len (xs:List Int):(i64s xs).length=xs.length:=by simp[i64s]
theorem lies_ints {w:World}{a:Option Addr}{xs:List Int}(h:Lies w a (i64s xs)):∀j (h:j<xs.length),∃b o,a=some ⟨b,o,none⟩/\w.cell? ⟨b,o+j,none⟩=some (.int .i64 xs[j]):=fun j hj=>by
 obtain⟨b,o,e,hc⟩:=h j (by rw[i64s_len];exact hj)
 exact⟨b,o,e,by rw[hc];simp[i64s]⟩
def u64s (ns:List Nat):List Value:=ns.map fun n:Nat=>.int .u64 (n:Int)
theorem u64s_len (ns:List Nat):(u64s ns).length=ns.length:=by simp[u64s]
theorem wide_any (a:Option Addr)(c:Nat)(xs:List Int)(w:World)(hn:xs.length<=20000)(h:Lies w a (i64s xs))(hx:∀j (h:j<xs.length),0<=xs[j]/\xs[j]<=9223372036854775807) :
    Calls Tryz.prog 82 #[.slice a xs.length c] w fun e w'=>RetSl e w' xs.length (u64s (nats xs))/\Below w.heap.size w w':=by
 obtain⟨i0,hi,hz0,hz1,hz2⟩:=info_parts Tryz.info98
 have HL:Hid (∀j (h:j<xs.length),∃b o,a=some ⟨b,o,none⟩/\w.cell? ⟨b,o+j,none⟩=some (.int .i64 xs[j])):=lies_ints h
 have HX:Hid (∀j (h:j<xs.length),0<=xs[j]/\xs[j]<=9223372036854775807):=hx
 clear h hx
 go_enter Tryz.func82,Tryz.ntmps82
 go_wp2
 go_loopw [3,4] (fun v x wr=>∃i:Nat,i<=xs.length/\x=.int .i64 i/\wr.ownsRow w.heap.size 98 1 v i (u64s (nats (xs.take i)))/\Below w.heap.size w wr) (fun _ x _=>xs.length-(intOf x).toNat)
 case atStart=>exact⟨0,Nat.zero_le _,rfl,by simpa [u64s,nats] using World.ownsRow_nil w w.heap.size 98 1,Below.refl _ _⟩
 case round =>
  obtain⟨i,hik,rfl,hown,hb⟩:=hrel
  by_cases hlt:i<xs.length
  · obtain⟨b,o,rfl,hc⟩:=HL.out i hlt
    have hc:=(hb.cell (World.block_lt_of_cell? w _ hc)).trans hc
    have hr:=HX.out i hlt
    have HT:Hid (u64s (nats (xs.take (i+1)))=u64s (nats (xs.take i))++[.int .u64 xs[i]]):=by
     show _=_
     rw[List.take_succ_eq_append_getElem hlt]
     unfold u64s nats
     rw[List.map_append,List.map_append,List.map_cons,List.map_nil,List.map_cons,List.map_nil,Int.toNat_of_nonneg hr.1]
    generalize xs[i]=x at hc hr HT
    go_wp2_with (at_builtin;refine wpList_append_own _ rfl _ _ 142 rfl w.heap.size 98 i0 (.int .u64 0) 1 8 Tryz.underlying142 hi hz0 hz1 hz2 rfl (by decide) _ _ _ rfl (hown.alloc _) ⟨wr.heap.size,0,none⟩ 1 1 [.int .u64 x] rfl rfl (cell_one_new _ _ _) (by intro u hu;simp at hu;subst hu;rfl) (by unfold maxLen;omega) (by omega) (by have:=hb.size;simp;omega) ?_;intro v' w1 hown' hgrow _)
    have hb2:=below_app hb (Nat.le_refl _) hown hgrow
    rw[←HT.out] at hown'
    go_wp2
    go_roundw
    case rel=>exact⟨i+1,by omega,by go_num,hown',hb2⟩
    case measure=>simp[intOf];omega
  · obtain rfl:i=xs.length:=by omega
    rw[List.take_length] at hown
    obtain⟨a',c',rfl,hl⟩:=lies_own hown
    go_wp2
    go_ret
    exact⟨⟨a',c',by rw[u64s_len,nats_len];rfl,hl⟩,hb⟩
theorem own_bit_snoc {w:World}{base e N m:Nat}{v:Value}{n:Int}(hn:n=((N / 2 ^ m % 2:Nat):Int))(h:w.ownsRow base e 1 v (m+1) (cellsOf (Um.bitl N m)++[.int .u8 n])):w.ownsRow base e 1 v (m+1) (cellsOf (Um.bitl N (m+1))):=by
 rw[Um.bitl_succ,cells_snoc,Um.bt_int (by omega) (by omega),←hn];exact h
theorem bitsOf_any (a:Option Addr)(c:Nat)(ns:List Nat)(wd:Nat)(w:World)(hn:ns.length<=20000)(hwd:wd<=64)(hns:∀x∈ns,x<2 ^ wd)(h:Lies w a (u64s ns)) :
    Calls Tryz.prog 116 #[.slice a ns.length c,.int .i64 wd] w fun e w'=>RetSl e w' (wd*ns.length) (cellsOf (Um.bitl (Um.num wd ns) (wd*ns.length)))/\Below w.heap.size w w':=by
 obtain⟨i0,hi,hz0,hz1,hz2⟩:=info_parts Tryz.info5
 have HL:Hid (∀j (h:j<ns.length),∃b o,a=some ⟨b,o,none⟩/\w.cell? ⟨b,o+j,none⟩=some (.int .u64 (ns[j]:Nat))):=fun j hj=>by
  obtain⟨b,o,e,hc⟩:=h j (by rw[u64s_len];exact hj)
  exact⟨b,o,e,by rw[hc];simp[u64s]⟩
 have HNS:Hid (∀x∈ns,x<2 ^ wd):=hns
 have hmul:wd*ns.length<=64*20000:=Nat.mul_le_mul hwd hn
 obtain⟨T,HT⟩:∃T,Hid (T=wd*ns.length):=⟨_,rfl⟩
 rw[←HT.out] at hmul
 clear h hns
 have HG:Hid (∀i,∀hi:i<ns.length,∀k,k<wd->Um.num wd ns / 2 ^ (wd*i+k) % 2=ns[i] / 2 ^ k % 2):=fun i hi k hk=>Um.bit_at wd ns i k hi hk HNS.out
 rw[←HT.out]
 generalize Um.num wd ns=N at HG
 go_enter Tryz.func116,Tryz.ntmps116
 go_wp2
 go_loopw [5,6] (fun v x wr=>∃i m:Nat,i<=ns.length/\x=.int .i64 i/\Hid (m=wd*i)/\wr.ownsRow w.heap.size 5 1 v m (cellsOf (Um.bitl N m))/\Below w.heap.size w wr) (fun _ x _=>ns.length-(intOf x).toNat)
 case atStart=>exact⟨0,0,Nat.zero_le _,rfl,rfl,World.ownsRow_nil w w.heap.size 5 1,Below.refl _ _⟩
 case round =>
  obtain⟨i,m,hik,rfl,HM,hown,hb⟩:=hrel
  by_cases hlt:i<ns.length
  · obtain⟨b,o,rfl,hc⟩:=HL.out i hlt
    have hc:=(hb.cell (World.block_lt_of_cell? w _ hc)).trans hc
    have hx:ns[i]<2 ^ wd:=HNS.out _ (List.getElem_mem hlt)
    have hw2:2 ^ wd<=18446744073709551616:=Nat.le_trans (Nat.pow_le_pow_right (by omega) hwd) (by decide)
    have hx4:ns[i]<18446744073709551616:=by omega
    have hG:=HG.out i hlt
    rw[←HM.out] at hG
    have HG1:Hid (∀k,k<wd->N / 2 ^ (m+k) % 2=ns[i] / 2 ^ k % 2):=hG
    have HM1:Hid (m+wd=wd*(i+1)):=by show _=_;rw[Nat.mul_add,Nat.mul_one,HM.out]
    have hmT:m+wd<=T:=by rw[HM1.out,HT.out];exact Nat.mul_le_mul_left _ hlt
    clear hG hx hw2
    generalize ns[i]=x at hc hx4 HG1
    go_wp2
    clear hc
    go_loopw [5,7,8] (fun v n y wr=>∃k n':Nat,k<=wd/\y=.int .i64 k/\n=.int .u64 n'/\n'<18446744073709551616/\Hid (n'=x / 2 ^ k)/\wr.ownsRow w.heap.size 5 1 v (m+k) (cellsOf (Um.bitl N (m+k)))/\Below w.heap.size w wr) (fun _ _ y _=>wd-(intOf y).toNat)
    case atStart=>exact⟨0,x,Nat.zero_le _,rfl,rfl,hx4,by show _=_;simp,hown,hb⟩
    case round =>
     clear hown hb
     obtain⟨k,n,hk,rfl,rfl,hn4,HN,hown,hb⟩:=hrel
     by_cases hkl:k<wd
     · have HB:Hid (((n % 2:Nat):Int)=((N / 2 ^ (m+k) % 2:Nat):Int)):=by show _=_;rw[HG1.out k hkl,HN.out]
       go_wp2_with (at_builtin;refine wpList_append_own _ rfl _ _ 58 rfl w.heap.size 5 i0 (.int .u8 0) 1 1 Tryz.underlying58 hi hz0 hz1 hz2 rfl (by decide) _ _ _ rfl (hown.alloc _) ⟨_,0,none⟩ 1 1 [.int .u8 ((n:Int) % 2)] rfl rfl (cell_one_new _ _ _) (by intro u hu;simp at hu;subst hu;rfl) (by unfold maxLen;omega) (by omega) (by have:=hb.size;simp;omega) ?_;intro v' w1 hown' hgrow _)
       have hown2:=own_bit_snoc (by rw[←HB.out];omega) hown'
       have hb2:=below_app hb (Nat.le_refl _) hown hgrow
       go_wp2
       go_roundw
       case rel=>exact⟨k+1,n / 2,by omega,by go_num,by go_num,by omega,by show _=_;rw[HN.out,Nat.pow_succ,Nat.div_div_eq_div_mul],hown2,hb2⟩
       case measure=>simp[intOf];omega
     · obtain rfl:k=wd:=by omega
       go_wp2
       go_roundw
       case rel=>exact⟨i+1,m+k,by omega,by go_num,HM1,hown,hb⟩
       case measure=>simp[intOf];omega
  · obtain rfl:i=ns.length:=by omega
    have e:m=T:=by rw[HM.out,HT.out]
    subst e
    obtain⟨a',c',rfl,hl⟩:=lies_own hown
    have hle:(cellsOf (Um.bitl N m)).length=m:=by simp[cellsOf,Um.bitl_len]
    rw[hle]
    go_wp2
    go_ret
    exact⟨⟨a',c',rfl,hl⟩,hb⟩
end Go.Proofs.YtoeiahdjamkdgaaGreatDoor
namespace Go.Proofs.YtoeiahdjamkdgaaGreatDoor
open Go.RowKit
structure GRow (f:Nat->Value) (k g:Nat) (w wr:World) (i:Nat):Prop where
 done:∀j,j<i->wr.cell? ⟨g,j,none⟩=some (f j)
 any:∀j,j<k->∃v,wr.cell? ⟨g,j,none⟩=some v
 froz:∀j,j<k->wr.frozen? ⟨g,j,none⟩=false
 old:Below w.heap.size w wr
theorem GRow.start (f:Nat->Value)(k ty:Nat)(w:World)(M:Array Value)(hM:M.size=k):GRow f k w.heap.size w (w.alloc (.cells M ty)) 0:=by
 refine⟨fun j h=>absurd h (Nat.not_lt_zero _),fun j hj=>?_,fun j _=>?_,(Below.refl _ _).alloc (Nat.le_refl _) _⟩
 · rw[cell_of_row _ w.heap.size j M ty (0,0) (heap_alloc_new w _)]
   exact⟨_,Array.getElem?_eq_getElem (by omega)⟩
 · exact frozen_of_row _ w.heap.size j M ty (heap_alloc_new w _)
theorem GRow.next {f:Nat->Value}{k g:Nat}{w wr:World}{i:Nat}{v:Value}(h:GRow f k g w wr i)(hg:w.heap.size<=g)(hi:i<k)(hv:v=f i):GRow f k g w (wr.setCell ⟨g,i,none⟩ v) (i+1):=by
 subst hv
 obtain⟨v,hv⟩:=h.any i hi
 have hother:∀j,j≠i->(wr.setCell ⟨g,i,none⟩ (f i)).cell? ⟨g,j,none⟩=wr.cell? ⟨g,j,none⟩:=fun j hj =>
  World.cell?_setCell_other _ _ _ _ (fun e=>hj (by injection e with _ e;exact e.symm))
 refine⟨fun j hj=>?_,fun j hj=>?_,fun j hj=>by simpa using h.froz j hj,h.old.setCell hg _⟩
 · by_cases e:j=i
   · subst e;exact World.cell?_setCell_same _ _ _ hv
   · rw[hother j e];exact h.done j (by omega)
 · by_cases e:j=i
   · subst e;exact⟨_,World.cell?_setCell_same _ _ _ hv⟩
   · rw[hother j e];exact h.any j hj
theorem and_mask {r k:Nat}(hr:r<18446744073709551616)(hk:k<=32):bits .and .u64 (r:Int) (2 ^ k-1)=((r % 2 ^ k:Nat):Int):=by
 have hp:=Nat.two_pow_pos k
 have hp2:2 ^ k<=4294967296:=Nat.le_trans (Nat.pow_le_pow_right (by omega) hk) (by decide)
 have e:(2:Int) ^ k-1=((2 ^ k-1:Nat):Int):=by
  rw[Int.ofNat_sub hp];simp
 rw[e,u64_and_nat r (2 ^ k-1) hr (by omega),Nat.and_two_pow_sub_one_eq_mod]
theorem or_shift32 {r x h:Nat}(hr:r<2 ^ h)(hx:x<256)(hh:h<=32):bits .or .u64 (r:Int) (IntKind.u64.wrap ((x:Int)*2 ^ h))=((r+x*2 ^ h:Nat):Int)/\r+x*2 ^ h<18446744073709551616:=by
 have h8:2 ^ h<=2 ^ 32:=Nat.pow_le_pow_right (by omega) hh
 have hm:x*2 ^ h<=256*2 ^ 32:=Nat.mul_le_mul (by omega) h8
 have h32:2 ^ 32=4294967296:=by decide
 have e:(x:Int)*2 ^ h=((x*2 ^ h:Nat):Int):=by simp
 have e2:IntKind.u64.wrap ((x:Int)*2 ^ h)=((x*2 ^ h:Nat):Int):=by
  rw[e,IntKind.wrap_u64];omega
 refine⟨?_,by omega⟩
 rw[e2,or64 r _ (by omega) (by omega),Um.or_above hr]
theorem mask_wrap {k:Nat}(hk:k<=32):IntKind.u64.wrap (2 ^ k)=2 ^ k/\IntKind.u64.wrap (2 ^ k-1)=2 ^ k-1/\((2:Int) ^ k-1) % 18446744073709551616=2 ^ k-1/\((2:Int) ^ k) % 18446744073709551616=2 ^ k:=by
 have h:=Nat.pow_le_pow_right (n:=2) (by omega) hk
 have e:((2 ^ k:Nat):Int)=(2:Int) ^ k:=by simp
 have h32:(2:Nat) ^ 32=4294967296:=by decide
 have hp:=Nat.two_pow_pos k
 rw[←e,IntKind.wrap_u64,IntKind.wrap_u64]
 omega
structure UO (s:ByteArray) (wd n:Nat) (w:World) (r h nx x:Value) (wr:World) (i q r' h':Nat):Prop where
 hx:x=.int .i64 i
 hr:r=.int .u64 r'
 hh:h=.int .i64 h'
 hn:nx=.int .i64 q
 le:i<=n
 hq:q<=s.size
 bal:wd*i+h'=8*q
 rest:r'=Um.lev (s.data.toList.take q) / 2 ^ (wd*i)
 row:GRow (fun j=>.int .i64 ((Um.lev s.data.toList / 2 ^ (wd*j) % 2 ^ wd:Nat):Int)) n w.heap.size w wr i
structure UI (s:ByteArray) (wd i:Nat) (r h nx:Value) (q r' h':Nat):Prop where
 hr:r=.int .u64 r'
 hh:h=.int .i64 h'
 hn:nx=.int .i64 q
 hq:q<=s.size
 bal:wd*i+h'=8*q
 rest:r'=Um.lev (s.data.toList.take q) / 2 ^ (wd*i)
 small:h'<wd+8
theorem UI.lt {s:ByteArray}{wd i:Nat}{r h nx:Value}{q r' h':Nat}(u:UI s wd i r h nx q r' h'):r'<2 ^ h':=by
 rw[u.rest,show h'=8*q-wd*i by have:=u.bal;omega]
 exact Um.div_lt_pow (Um.lev_take_lt _ _ (by simpa using u.hq)) (by have:=u.bal;omega)
theorem UI.lt64 {s:ByteArray}{wd i:Nat}{r h nx:Value}{q r' h':Nat}(u:UI s wd i r h nx q r' h')(hwd:wd<=32):r'<18446744073709551616 :=
 Nat.lt_of_lt_of_le u.lt (Nat.le_trans (Nat.pow_le_pow_right (n:=2) (by omega) (show h'<=64 by have:=u.small;omega)) (by decide))
theorem UI.step {s:ByteArray}{wd i:Nat}{r h nx:Value}{q r' h':Nat}(u:UI s wd i r h nx q r' h')(hq:q<s.size)(hh:h'<wd) :
    UI s wd i (.int .u64 ((r'+(s[q]).toNat*2 ^ h':Nat):Int)) (.int .i64 ((h'+8:Nat):Int)) (.int .i64 ((q+1:Nat):Int)) (q+1) (r'+(s[q]).toNat*2 ^ h') (h'+8):=by
 refine⟨rfl,rfl,rfl,hq,by have:=u.bal;omega,?_,by omega⟩
 have e:(s.data.toList)[q]'(by simpa using hq)=s[q]:=rfl
 rw[Um.lev_take _ q (by simpa using hq),Um.add_above _ _ _ _ (by have:=u.bal;omega),←u.rest,e,show 8*q-wd*i=h' by have:=u.bal;omega]
theorem unpack_any (s:ByteArray)(wd n:Nat)(w:World)(hs:s.size<=1000000)(hn:n<=20008)(hwd:wd<=32)(hfit:wd*n<=8*s.size) :
    Calls Tryz.prog 181 #[.string s,.int .i64 wd,.int .i64 n] w fun e w'=>(e=.returned (.slice (some ⟨w.heap.size,0,none⟩) n n) ∧
     ∀j,j<n->w'.cell? ⟨w.heap.size,j,none⟩=some (.int .i64 ((Um.lev s.data.toList / 2 ^ (wd*j) % 2 ^ wd:Nat):Int)))/\Below w.heap.size w w':=by
 obtain⟨i0,hi,hz0,hz1,hz2⟩:=info_parts Tryz.info3
 obtain⟨M,hM⟩:∃M,M=madeCells (Value.int .i64 0).cells (((n:Nat):Int).toNat*i0.size):=⟨_,rfl⟩
 have hMs:M.size=n:=by rw[hM,size_madeCells,hz1];simp
 have hmk:∀W:World,(Instr.makeSlice 22 (.int .i64 (n:Int)) (.int .i64 (n:Int))).run Tryz.prog W=.ok (.slice (some ⟨W.heap.size,0,none⟩) n n) (W.alloc (.cells M 3)):=fun W=>by
  have h:=run_make (P:=Tryz.prog) W 22 3 i0 (.int .i64 0) Tryz.underlying22 hi hz0 .i64 .i64 (n:Int) (n:Int) (by omega) (by omega) (by rw[hz2];omega) (by omega)
  rw[←hM] at h
  simpa using h
 have HS:Hid (GRow (fun j=>.int .i64 ((Um.lev s.data.toList / 2 ^ (wd*j) % 2 ^ wd:Nat):Int)) n w.heap.size w (w.alloc (.cells M 3)) 0):=GRow.start _ n 3 w M hMs
 have HF:Hid (wd*n<=8*s.size):=hfit
 clear hM hMs hi hz0 hz1 hz2 hfit
 have hmw:=mask_wrap hwd
 go_enter Tryz.func181,Tryz.ntmps181
 go_wp2
 clear hmk
 go_loopw [8,9,10,16] (fun r h nx x wr=>∃i q r' h':Nat,UO s wd n w r h nx x wr i q r' h'/\h'<8) (fun _ _ _ x _=>n-(intOf x).toNat)
 case atStart=>exact⟨0,0,0,0,⟨rfl,rfl,rfl,rfl,Nat.zero_le _,Nat.zero_le _,by omega,by simp[Um.lev],HS⟩,by omega⟩
 case round =>
  obtain⟨i,q,r,h,HU,hh⟩:=hrel
  obtain⟨rfl,rfl,rfl,rfl,hle,hq,hbal,hrest,hrow⟩:=HU
  have HR:Hid (GRow (fun j=>.int .i64 ((Um.lev s.data.toList / 2 ^ (wd*j) % 2 ^ wd:Nat):Int)) n w.heap.size w wr i):=hrow
  have HI:Hid (UI s wd i (.int .u64 r) (.int .i64 h) (.int .i64 q) q r h):=⟨rfl,rfl,rfl,hq,hbal,hrest,by omega⟩
  clear hbal hrest hrow
  by_cases hlt:i<n
  · go_wp2
    go_loop [8,9,10] (fun r h nx=>∃q r' h':Nat,Hid (UI s wd i r h nx q r' h')) (fun _ h _=>wd+8-(intOf h).toNat)
    case atStart=>exact⟨q,r,h,HI⟩
    case round =>
     clear HI hh hq
     obtain⟨q,r,h,HI⟩:=hrel
     obtain⟨rfl,rfl,rfl,hq,hbal,hrest,hsm⟩:=HI.out
     have hr64:=HI.out.lt64 hwd
     have hrl:=HI.out.lt
     by_cases hw:h<wd
     · have hqs : q < s.size := by
         have h1:wd*(i+1)<=wd*n:=Nat.mul_le_mul_left _ hlt
         have h2:=HF.out
         rw[Nat.mul_add,Nat.mul_one] at h1
         omega
       have HN:Hid (UI s wd i (.int .u64 ((r+(s[q]).toNat*2 ^ h:Nat):Int)) (.int .i64 ((h+8:Nat):Int)) (.int .i64 ((q+1:Nat):Int)) (q+1) (r+(s[q]).toNat*2 ^ h) (h+8)):=HI.out.step hqs hw
       have hb8:s[q].toNat<256:=s[q].toNat_lt
       have hor:=(or_shift32 hrl hb8 (by omega)).1
       clear hbal hrest hrl
       go_wp2
       go_round
       case rel=>exact⟨q+1,r+(s[q]).toNat*2 ^ h,h+8,⟨by simp,by go_num,by go_num,HN.out.hq,HN.out.bal,HN.out.rest,HN.out.small⟩⟩
       case measure=>simp[intOf];omega
     · have hand:=and_mask hr64 hwd
       have HV:Hid (r % 2 ^ wd=Um.lev s.data.toList / 2 ^ (wd*i) % 2 ^ wd):=by
        show _=_
        rw[hrest]
        exact Um.lev_cut _ q _ _ (by simpa using hq) (by omega)
       have HR2:Hid (r / 2 ^ wd=Um.lev (s.data.toList.take q) / 2 ^ (wd*(i+1))):=by
        show _=_
        rw[hrest,Nat.div_div_eq_div_mul,←Nat.pow_add,Nat.mul_add,Nat.mul_one]
       have HB2:Hid (wd*(i+1)+(h-wd)=8*q):=by show _=_;rw[Nat.mul_add,Nat.mul_one];omega
       have hmod:r % 2 ^ wd<4294967296:=Nat.lt_of_lt_of_le (Nat.mod_lt _ (Nat.two_pow_pos wd)) (Nat.le_trans (Nat.pow_le_pow_right (n:=2) (by omega) hwd) (by decide))
       obtain⟨v,hv⟩:=HR.out.any i hlt
       have hfz:=HR.out.froz i hlt
       clear hbal hrest hrl
       generalize r % 2 ^ wd=m at hand HV hmod
       go_wp2
       go_roundw
       case rel=>exact⟨i+1,q,r / 2 ^ wd,h-wd,⟨by go_num,by simp,by go_num,rfl,by omega,hq,HB2.out,HR2.out,HR.out.next (Nat.le_refl _) hlt (by rw[HV.out])⟩,by omega⟩
       case measure=>simp[intOf];omega
  · go_wp2
    go_ret
    exact⟨⟨rfl,fun j hj=>HR.out.done j (by omega)⟩,HR.out.old⟩
end Go.Proofs.YtoeiahdjamkdgaaGreatDoor
namespace Go.Proofs.YtoeiahdjamkdgaaGreatDoor
open Go.RowKit
def lows (xs:List Int):Int:=xs.foldl min (xs.getD 0 0)
def highs (xs:List Int):Int:=xs.foldl max (xs.getD 0 0)
def mins (x:Int)(xs:List Int)(i:Nat):Int:=(xs.take i).foldl min x
def maxs (x:Int)(xs:List Int)(i:Nat):Int:=(xs.take i).foldl max x
theorem mins_succ (x:Int)(xs:List Int)(i:Nat)(h:i<xs.length):mins x xs (i+1)=min (mins x xs i) xs[i]:=by
 unfold mins;rw[List.take_succ_eq_append_getElem h,List.foldl_append];rfl
theorem maxs_succ (x:Int)(xs:List Int)(i:Nat)(h:i<xs.length):maxs x xs (i+1)=max (maxs x xs i) xs[i]:=by
 unfold maxs;rw[List.take_succ_eq_append_getElem h,List.foldl_append];rfl
theorem min_any (a:Option Addr)(xs:List Int)(c:Nat)(w:World)(hl:Lies w a (i64s xs))(h1:0<xs.length)(hn:xs.length<=20000) :
    Calls Tryz.prog 155 #[.slice a xs.length c] w fun e w'=>e=.returned (.int .i64 (lows xs))/\w'=w:=by
 have HL:Hid _:=lies_ints hl
 obtain⟨b,o,rfl,h0⟩:=lies_ints hl 0 h1
 rw[Nat.add_zero] at h0
 obtain⟨x,hx⟩:∃x,x=xs[0]:=⟨_,rfl⟩
 rw[←hx] at h0
 have HE:Hid (lows xs=mins x xs xs.length):=by
  show _=_
  rw[hx];simp[lows,mins,List.getD,h1]
 have HS:Hid (x=mins x xs 1):=by
  show _=_
  rw[show 1=0+1 from rfl,mins_succ x xs 0 h1,←hx];simp[mins]
 clear hl hx
 go_enter Tryz.func155,Tryz.ntmps155
 go_wp2
 go_loop [3,4] (fun m y=>∃(i:Nat) (k:Int),i<=xs.length/\y=.int .i64 i/\m=.int .i64 k/\Hid (k=mins x xs i)) (fun _ y=>xs.length-(intOf y).toNat)
 case atStart=>exact⟨1,x,by omega,rfl,rfl,HS⟩
 case round =>
  clear HS
  obtain⟨i,k,hik,rfl,rfl,HK⟩:=hrel
  by_cases hlt:i<xs.length
  · obtain⟨b',o',e',hc⟩:=HL.out i hlt
    obtain⟨rfl,rfl⟩:b=b'/\o=o':=by simpa using e'
    clear e'
    have HN:Hid (mins x xs (i+1)=min k xs[i]):=by show _=_;rw[mins_succ x xs i hlt,HK.out]
    generalize xs[i]=z at *
    by_cases hz:z<k
    · have HN2:Hid (z=mins x xs (i+1)):=by show _=_;rw[HN.out];omega
      go_wp2
      go_round
      case rel=>exact⟨i+1,z,by omega,by go_num,rfl,HN2⟩
      case measure=>simp[intOf];omega
    · have HN2:Hid (k=mins x xs (i+1)):=by show _=_;rw[HN.out];omega
      go_wp2
      go_round
      case rel=>exact⟨i+1,k,by omega,by go_num,rfl,HN2⟩
      case measure=>simp[intOf];omega
  · obtain rfl:i=xs.length:=by omega
    go_wp2
    go_ret
    exact⟨by rw[HE.out,←HK.out];rfl,rfl⟩
theorem max_any (a:Option Addr)(xs:List Int)(c:Nat)(w:World)(hl:Lies w a (i64s xs))(h1:0<xs.length)(hn:xs.length<=20000) :
    Calls Tryz.prog 156 #[.slice a xs.length c] w fun e w'=>e=.returned (.int .i64 (highs xs))/\w'=w:=by
 have HL:Hid _:=lies_ints hl
 obtain⟨b,o,rfl,h0⟩:=lies_ints hl 0 h1
 rw[Nat.add_zero] at h0
 obtain⟨x,hx⟩:∃x,x=xs[0]:=⟨_,rfl⟩
 rw[←hx] at h0
 have HE:Hid (highs xs=maxs x xs xs.length):=by
  show _=_
  rw[hx];simp[highs,maxs,List.getD,h1]
 have HS:Hid (x=maxs x xs 1):=by
  show _=_
  rw[show 1=0+1 from rfl,maxs_succ x xs 0 h1,←hx];simp[maxs]
 clear hl hx
 go_enter Tryz.func156,Tryz.ntmps156
 go_wp2
 go_loop [3,4] (fun m y=>∃(i:Nat) (k:Int),i<=xs.length/\y=.int .i64 i/\m=.int .i64 k/\Hid (k=maxs x xs i)) (fun _ y=>xs.length-(intOf y).toNat)
 case atStart=>exact⟨1,x,by omega,rfl,rfl,HS⟩
 case round =>
  clear HS
  obtain⟨i,k,hik,rfl,rfl,HK⟩:=hrel
  by_cases hlt:i<xs.length
  · obtain⟨b',o',e',hc⟩:=HL.out i hlt
    obtain⟨rfl,rfl⟩:b=b'/\o=o':=by simpa using e'
    clear e'
    have HN:Hid (maxs x xs (i+1)=max k xs[i]):=by show _=_;rw[maxs_succ x xs i hlt,HK.out]
    generalize xs[i]=z at *
    by_cases hz:k<z
    · have HN2:Hid (z=maxs x xs (i+1)):=by show _=_;rw[HN.out];omega
      go_wp2
      go_round
      case rel=>exact⟨i+1,z,by omega,by go_num,rfl,HN2⟩
      case measure=>simp[intOf];omega
    · have HN2:Hid (k=maxs x xs (i+1)):=by show _=_;rw[HN.out];omega
      go_wp2
      go_round
      case rel=>exact⟨i+1,k,by omega,by go_num,rfl,HN2⟩
      case measure=>simp[intOf];omega
  · obtain rfl:i=xs.length:=by omega
    go_wp2
    go_ret
    exact⟨by rw[HE.out,←HK.out];rfl,rfl⟩
end Go.Proofs.YtoeiahdjamkdgaaGreatDoor
namespace Go.Proofs.YtoeiahdjamkdgaaGreatDoor
open Go.RowKit
theorem bit_shift {b k:Nat}(hb:b<2)(hk:k<8):IntKind.i64.wrap ((b:Int)*2 ^ k)=(b:Int)*2 ^ k/\b*2 ^ k<256:=by
 have h8:2 ^ k<=2 ^ 7:=Nat.pow_le_pow_right (by omega) (by omega)
 have hm:b*2 ^ k<=1*2 ^ 7:=Nat.mul_le_mul (by omega) h8
 have h7:2 ^ 7=128:=rfl
 have e:(b:Int)*2 ^ k=((b*2 ^ k:Nat):Int):=by simp
 exact⟨by rw[e,IntKind.wrap_i64];omega,by omega⟩
def POuter (N T:Nat)(w1:World)(s x:Value)(wr:World):Prop:=∃q:Nat,8*q<T+8/\x=.int .i64 ((8*q:Nat):Int)/\s=.string ⟨(Um.lit N q).toArray⟩/\Below w1.heap.size w1 wr
def PInner (N T q:Nat)(c y:Value):Prop:=∃k c':Nat,k<=8/\8*q+k<=T/\y=.int .i64 k/\c=.int .i64 c'/\c'=N / 2 ^ (8*q) % 2 ^ k
theorem packOf_any (a:Option Addr)(c:Nat)(ns:List Nat)(wd:Nat)(w:World)(hn:ns.length<=20000)(hwd:wd<=64)(hns:∀x∈ns,x<2 ^ wd)(h:Lies w a (u64s ns)) :
    Calls Tryz.prog 81 #[.slice a ns.length c,.int .i64 wd] w fun e w'=>e=.returned (.string ⟨(Um.lit (Um.num wd ns) ((wd*ns.length+7) / 8)).toArray⟩)/\Below w.heap.size w w':=by
 have HL:Hid (Lies w a (u64s ns)):=h
 have HNS:Hid (∀x∈ns,x<2 ^ wd):=hns
 have hmul:wd*ns.length<=64*20000:=Nat.mul_le_mul hwd hn
 have hN:=Um.num_lt wd ns hns
 clear h hns
 go_enter Tryz.func81,Tryz.ntmps81
 go_wp2_with fail
 refine (bitsOf_any a c ns wd w hn hwd HNS.out HL.out).mono ?_
 generalize hTe:wd*ns.length=T at hmul hN
 have HTe:Hid (wd*ns.length=T):=hTe
 generalize hNe:Um.num wd ns=N at hN
 have HNe:Hid (Um.num wd ns=N):=hNe
 clear hTe hNe
 rintro e w1 ⟨⟨ab,cb,rfl,hlb⟩,hb1⟩
 have HB:Hid (∀j,j<T->∃b o,ab=some ⟨b,o,none⟩/\w1.cell? ⟨b,o+j,none⟩=some (.int .u8 ((N / 2 ^ j % 2:Nat):Int))):=fun j hj=>by
  obtain⟨b,o,e,hc⟩:=hlb j (by simp[cellsOf,Um.bitl_len,hj])
  refine⟨b,o,e,?_⟩
  rw[hc]
  simp only[cellsOf,List.getElem_map]
  rw[Um.bitl_get N T j hj,Um.bt_int (by omega) (by omega)]
 have HN:Hid (N<2 ^ T):=hN
 clear hlb hN
 go_wp2_with fail
 go_loopw [6,7] (POuter N T w1) (fun _ x _=>T+8-(intOf x).toNat)
 case atStart=>exact⟨0,by omega,rfl,rfl,Below.refl _ _⟩
 case round =>
  obtain⟨q,hq,rfl,rfl,hb⟩:=hrel
  by_cases hlt:8*q<T
  · go_wp2_with fail
    go_loop [8,9] (PInner N T q) (fun _ y=>8-(intOf y).toNat)
    case atStart=>exact⟨0,0,by omega,by omega,rfl,rfl,by show _=_;simp[Nat.mod_one]⟩
    case round =>
     obtain⟨k,cc,hk,hkT,rfl,rfl,hcc⟩:=hrel
     have HCC:Hid (cc=N / 2 ^ (8*q) % 2 ^ k):=hcc
     clear hcc
     have hcl:cc<256:=by rw[HCC.out];exact Nat.lt_of_lt_of_le (Nat.mod_lt _ (Nat.two_pow_pos k)) (Nat.le_trans (Nat.pow_le_pow_right (n:=2) (by omega) hk) (by decide))
     by_cases hgo:k<8/\8*q+k<T
     · obtain⟨hk8,hkt⟩:=hgo
       obtain⟨b,o,rfl,hc⟩:=HB.out (8*q+k) hkt
       have hc:=(hb.cell (World.block_lt_of_cell? w1 _ hc)).trans hc
       have HS:Hid (N / 2 ^ (8*q) % 2 ^ (k+1)=cc+N / 2 ^ (8*q+k) % 2*2 ^ k):=by
        show _=_
        rw[HCC.out,Um.mod_step,Nat.div_div_eq_div_mul,←Nat.pow_add]
       have hbit:N / 2 ^ (8*q+k) % 2<2:=Nat.mod_lt _ (by omega)
       generalize N / 2 ^ (8*q+k) % 2=bit at hc HS hbit
       have hsh:=(bit_shift hbit hk8).1
       have hshl:=(bit_shift hbit hk8).2
       have hsum:((cc:Int)+(bit:Int)*2 ^ k)=((cc+bit*2 ^ k:Nat):Int):=by simp
       have hwr:wrap64 ((cc:Int)+(bit:Int)*2 ^ k)=(cc:Int)+(bit:Int)*2 ^ k:=by rw[hsum];unfold wrap64;omega
       clear hsum
       go_wp2_with fail
       go_round
       case rel=>exact⟨k+1,cc+bit*2 ^ k,by omega,by omega,by go_num,by simp,HS.out.symm⟩
       case measure=>simp[intOf];omega
     · have HC : Hid (cc = Um.by_ N q) := by
         show _=_
         rw[HCC.out]
         by_cases hk8:k<8
         · exact Um.by_end (by rw[show 8*q+k=T by omega];exact HN.out) hk
         · obtain rfl:k=8:=by omega
           rfl
       have hcase:(k<8/\¬ (8*(q:Int)+(k:Int)<(T:Int)))\/k=8:=by omega
       have hroom:(Um.lit N q).length<=1000000:=by rw[Um.lit_len];omega
       rcases hcase with ⟨hk8,hT8⟩|rfl
       all_goals
        go_wp2_with (go_at_call 46;refine (byte_any _ _ (by omega) (by omega)).mono ?_;rintro e w' ⟨rfl,hb'⟩)
        go_roundw
        case rel=>exact⟨q+1,by omega,by go_num,by rw[str_snoc,HC.out,←Um.lit_succ],hb.trans (hb'.mono hb.size)⟩
        case measure=>simp[intOf];omega
  · go_wp2_with fail
    go_ret
    exact⟨ret_str (by rw[HNe.out,HTe.out,show (T+7) / 8=q by omega]),hb1.trans (hb.mono hb1.size)⟩
end Go.Proofs.YtoeiahdjamkdgaaGreatDoor
namespace Go.Proofs.YtoeiahdjamkdgaaGreatDoor
open Go.RowKit
set_option linter.unusedVariables false
theorem lead_drop {xs:List Int}{i m:Nat}(hi:i<xs.length)(him:i<m)(hm:m<=xs.length)(h1:∀j (h:j<xs.length),i<j->j<m->xs[j]=xs[i])(h2:∀h:m<xs.length,xs[m]≠xs[i]):Um.lead (xs.drop i)=m-i:=by
 rw[List.drop_eq_getElem_cons hi]
 simp only[Um.lead]
 rw[Um.lead_of (k:=m-i-1) (x:=xs[i])]
 · omega
 · intro j h hj
   rw[List.getElem_drop]
   exact h1 _ _ (by omega) (by omega)
 · rw[List.length_drop];omega
 · intro h
   rw[List.getElem_drop]
   have e:i+1+(m-i-1)=m:=by omega
   have:=h2 (by rw[List.length_drop] at h;omega)
   simpa only[e] using this
theorem sameFrom_any (a:Option Addr)(c:Nat)(xs:List Int)(i:Nat)(w:World)(hn:xs.length<=20000)(hi:i<xs.length)(h:Lies w a (i64s xs)) :
    Calls Tryz.prog 98 #[.slice a xs.length c,.int .i64 i] w fun e w'=>e=.returned (.int .i64 (Um.lead (xs.drop i):Nat))/\Below w.heap.size w w':=by
 have HL:Hid (∀j (h:j<xs.length),∃b o,a=some ⟨b,o,none⟩/\w.cell? ⟨b,o+j,none⟩=some (.int .i64 xs[j])):=lies_ints h
 obtain⟨b,o,rfl,hci⟩:=HL.out i hi
 clear h
 have HLb:Hid (∀j (h:j<xs.length),w.cell? ⟨b,o+j,none⟩=some (.int .i64 xs[j])):=fun j hj=>by
  obtain⟨b2,o2,e2,hc2⟩:=HL.out j hj
  obtain⟨rfl,rfl⟩:b=b2/\o=o2:=by injection e2 with e2;injection e2 with x y;exact⟨x,y⟩
  exact hc2
 have HCi:Hid (w.cell? ⟨b,o+i,none⟩=some (.int .i64 xs[i])):=hci
 clear hci HL
 go_enter Tryz.func98,Tryz.ntmps98
 go_wp2
 go_loopw [5] (fun x wr=>∃m:Nat,i<m/\m<=xs.length/\x=.int .i64 m/\Hid (∀j (h:j<xs.length),i<j->j<m->xs[j]=xs[i])/\Below w.heap.size w wr) (fun x _=>xs.length-(intOf x).toNat)
 case atStart=>exact⟨i+1,by omega,by omega,by go_num,fun j _ h1 h2=>absurd h1 (by omega),Below.refl _ _⟩
 case round =>
  obtain⟨m,him,hm,rfl,HP,hb⟩:=hrel
  have hci:=(hb.cell (World.block_lt_of_cell? w _ HCi.out)).trans HCi.out
  by_cases hlt:m<xs.length
  · have hd:=HLb.out m hlt
    have hcm:=(hb.cell (World.block_lt_of_cell? w _ hd)).trans hd
    clear hd
    by_cases he:xs[m]=xs[i]
    · have HE:Hid (xs[m]=xs[i]):=he
      have hbe:(xs[m] == xs[i])=true:=by simpa using he
      clear he
      go_wp2
      go_region
      all_goals (try go_wp2)
      all_goals go_roundw
      all_goals first
       | (exact⟨m+1,by omega,by omega,by go_num,fun j h h1 h2=>if e:j=m then (by subst e;exact HE.out) else HP.out j h h1 (by omega),hb.drew⟩)
       | (simp[intOf];omega)
    · have HE:Hid (Um.lead (xs.drop i)=m-i):=lead_drop hi him hm HP.out (fun _=>he)
      have hbe:(xs[m] == xs[i])=false:=by simpa using he
      clear he
      go_wp2
      go_region
      all_goals (try go_wp2)
      all_goals go_ret
      all_goals exact⟨by rw[HE.out];go_num,hb.drew⟩
  · have HE:Hid (Um.lead (xs.drop i)=m-i):=lead_drop hi him hm HP.out (fun h=>absurd h hlt)
    go_wp2
    go_region
    all_goals (try go_wp2)
    all_goals go_ret
    all_goals exact⟨by rw[HE.out];go_num,hb.drew⟩
end Go.Proofs.YtoeiahdjamkdgaaGreatDoor
namespace Go.Proofs.YtoeiahdjamkdgaaGreatDoor
open Go.RowKit
def Unpd (s:ByteArray)(k n:Nat)(e:Ending)(w w':World)(tail:Array Value):Prop :=
 ∃g,w.heap.size<=g/\e=.returned (.tuple (#[.slice (some ⟨g,0,none⟩) n n]++tail))/\∀j,j<n->w'.cell? ⟨g,j,none⟩=some (.int .i64 ((Um.lev s.data.toList / 2 ^ (k*j) % 2 ^ k:Nat):Int))
theorem unpackF_ok (s:ByteArray)(k n:Nat)(w:World)(hs:s.size<=1000000)(hk:k<=32)(hn:n<=20000)(hsh:k*n<=8*s.size) :
    Calls Tryz.prog 182 #[.string s,.int .i64 k,.int .i64 n] w fun e w'=>Unpd s k n e w w' #[.nilIface]/\Below w.heap.size w w':=by
 have hd1:decide (0<=(k:Int)/\(k:Int)<=32)=true:=by simp;omega
 have hd2:decide (0<=(n:Int)/\(n:Int)<=20000)=true:=by simp;omega
 have hmul:k*n<=32*20000:=Nat.mul_le_mul hk hn
 have hmi:(n:Int)*(k:Int)=((k*n:Nat):Int):=by rw[Nat.mul_comm];simp
 obtain⟨z,HZ⟩:∃z,Hid (z=(k*n+7) / 8):=⟨_,rfl⟩
 have hz:¬ s.size<z:=by rw[HZ.out];omega
 have HF:Hid (k*n<=8*s.size):=hsh
 clear hsh
 go_enter Tryz.func182,Tryz.ntmps182
 go_wp2_with (first|(go_at_call 129;refine (isWidth_any _ _).mono ?_;rw[hd1];rintro e w1 ⟨rfl,hw⟩;obtain rfl:=hw.symm)|(go_at_call 130;refine (isCount_any _ _).mono ?_;rw[hd2];rintro e w1 ⟨rfl,hw⟩;obtain rfl:=hw.symm)|(go_at_call 96;refine (eights_any (k*n) _ (by omega)).mono ?_;rw[←HZ.out];rintro e w2 ⟨rfl,hw⟩;obtain rfl:=hw.symm)|(go_at_call 181;refine (unpack_any s k n w hs (by omega) hk HF.out).mono ?_;rintro e w3 ⟨⟨rfl,hc⟩,hb3⟩;have HC:Hid _:=hc;clear hc))
 go_ret2
 exact⟨⟨w.heap.size,Nat.le_refl _,rfl,HC.out⟩,hb3⟩
end Go.Proofs.YtoeiahdjamkdgaaGreatDoor
namespace Go.Proofs.YtoeiahdjamkdgaaGreatDoor
namespace Um
theorem runs_part {l:List UInt8}{w n:Nat}{p:List Nat}{u:Nat}{q:List Nat}{v:Nat}(hn:0<n)(hp:part l w n=some (p,u))(hq:runs (l.drop u) w (n-p.length)=some (q,v)):runs l w n=some (p++q,u+v):=by
 rw[runs_step l w n hn,hp]
 simp only[Option.bind_some]
 rw[hq]
 rfl
theorem part_odd {l:List UInt8}{w left g:Nat}{p:List Nat × Nat}(hg:2*g+1<18446744073709551616)(h:grps l w g left=some p):part (uv (2*g+1)++l) w left=some (p.1,(uv (2*g+1)).length+p.2):=by
 have hr:=rdv_whole (2*g+1) l hg
 have hpos:=uv_pos (2*g+1)
 unfold part
 rw[hr]
 simp only
 rw[if_neg (by omega),if_neg (by omega),List.drop_left,show (2*g+1) / 2=g by omega,h]
 rfl
theorem part_even {l:List UInt8}{w left c:Nat}{p:List Nat × Nat}(hc:2*c<18446744073709551616)(h:same l w c left=some p):part (uv (2*c)++l) w left=some (p.1,(uv (2*c)).length+p.2):=by
 have hr:=rdv_whole (2*c) l hc
 have hpos:=uv_pos (2*c)
 unfold part
 rw[hr]
 simp only
 rw[if_neg (by omega),if_pos (by omega),List.drop_left,show 2*c / 2=c by omega,h]
 rfl
theorem flush_read (k:Nat)(p:List Int)(left:Nat)(beh:List UInt8)(q:List Nat)(v:Nat)(hr:∀x∈nats p,x<2 ^ k)(hlen:p.length<=100000)(h0:0<p.length)(hl:p.length=left\/(p.length<left/\p.length % 8=0))(hq:runs beh k (left-p.length)=some (q,v)) :
    runs (flush k p++beh) k left=some (nats p++q,(flush k p).length+v):=by
 have hnl:=nats_len p
 obtain⟨g,hg⟩:∃g,g=(p.length+7) / 8:=⟨_,rfl⟩
 have hgr:=grps_read k (nats p) g left beh hr (by rw[hnl];exact hg) (by omega) (by rw[hnl];rcases hl with h|⟨h,h2⟩;exact Or.inl h;exact Or.inr ⟨h,by omega⟩)
 have hf:flush k p=uv (2*g+1)++lit (num k (nats p)) (g*k):=by unfold flush;rw[if_neg (by omega),←hg]
 have hpt:=part_odd (by omega) hgr
 rw[hf,List.append_assoc]
 have e:(uv (2*g+1)++lit (num k (nats p)) (g*k)).length=(uv (2*g+1)).length+g*k:=by rw[List.length_append,lit_len]
 rw[e]
 refine runs_part (by omega) hpt ?_
 have hd:(uv (2*g+1)++(lit (num k (nats p)) (g*k)++beh)).drop ((uv (2*g+1)).length+g*k)=beh:=by
  rw[←List.append_assoc,←e,List.drop_left]
 rw[hd,hnl]
 exact hq
theorem lead_same (r:List Int):r.take (lead r)=List.replicate (lead r) (r.headD 0):=by
 cases r with
 | nil=>rfl
 | cons x l =>
  simp only[lead,List.headD_cons]
  rw[Nat.add_comm,List.take_succ_cons,List.replicate_succ]
  congr 1
  induction l with
  | nil=>rfl
  | cons y l ih =>
   by_cases h:y=x
   · subst h
     simp[List.replicate_succ,ih]
   · simp[h]
theorem wrs_read (k:Nat):∀(m:Nat) (p r:List Int) (beh:List UInt8),r.length<=m->(r.length=0\/p.length % 8=0)->(∀x∈nats p,x<2 ^ k)->(∀x∈nats r,x<2 ^ k)->p.length+r.length<=50000 →
    runs (wrs k p r++beh) k (p.length+r.length)=some (nats (p++r),(wrs k p r).length):=by
 have base:∀(p:List Int) (beh:List UInt8),(∀x∈nats p,x<2 ^ k)->p.length<=50000->runs (flush k p++beh) k p.length=some (nats p,(flush k p).length):=by
  intro p beh hp hl
  by_cases h0:p.length=0
  · obtain rfl:p=[]:=List.eq_nil_of_length_eq_zero h0
    rfl
  · have:=flush_read k p p.length beh [] 0 hp (by omega) (by omega) (Or.inl rfl) (by rw[Nat.sub_self];rfl)
    simpa using this
 intro m
 induction m with
 | zero =>
  intro p r beh hm _ hp _ hl
  obtain rfl:r=[]:=List.eq_nil_of_length_eq_zero (by omega)
  rw[wrs_nil,List.append_nil,List.length_nil,Nat.add_zero]
  exact base p beh hp (by simpa using hl)
 | succ m ih =>
  intro p r beh hm hpr hp hr hl
  by_cases h0:r.length=0
  · obtain rfl:r=[]:=List.eq_nil_of_length_eq_zero h0
    rw[wrs_nil,List.append_nil,List.length_nil,Nat.add_zero]
    exact base p beh hp (by simpa using hl)
  · have hp8:p.length % 8=0:=by omega
    by_cases h8:lead r<8
    · rw[wrs_short k p r (by omega) h8]
      have hlen:(p++r.take 8).length+(r.drop 8).length=p.length+r.length:=by simp;omega
      have:=ih (p++r.take 8) (r.drop 8) beh (by rw[List.length_drop];omega) (by
       rw[List.length_drop,List.length_append,List.length_take]
       by_cases h:r.length<=8
       · left;omega
       · right;omega) (by
       intro x hx
       rw[show nats (p++r.take 8)=nats p++nats (r.take 8) by simp[nats]] at hx
       rcases List.mem_append.1 hx with h|h
       · exact hp x h
       · exact hr x (by unfold nats at h ⊢;rw[List.map_take] at h;exact List.mem_of_mem_take h)) (by
       intro x hx
       exact hr x (by unfold nats at hx ⊢;rw[List.map_drop] at hx;exact List.mem_of_mem_drop hx)) (by omega)
      rw[hlen,List.append_assoc,List.take_append_drop] at this
      exact this
    · have hlp:=lead_le r
      have hsr:=lead_same r
      obtain⟨c,hc⟩:∃c,c=lead r:=⟨_,rfl⟩
      rw[←hc] at h8 hlp hsr
      have hx:(r.headD 0).toNat<2 ^ k:=hr _ (by
       cases r with
       | nil=>simp at h0
       | cons y l=>simp[nats])
      have hih:=ih [] (r.drop c) beh (by rw[List.length_drop];omega) (Or.inr rfl) (by intro x hx;simp[nats] at hx) (by
       intro x hx
       exact hr x (by unfold nats at hx ⊢;rw[List.map_drop] at hx;exact List.mem_of_mem_drop hx)) (by rw[List.length_drop];simp;omega)
      rw[List.length_nil,Nat.zero_add,List.nil_append,List.length_drop] at hih
      have hrun:runs (uv (2*c)++lit (r.headD 0).toNat ((k+7) / 8)++(wrs k [] (r.drop c)++beh)) k r.length=some (List.replicate c (r.headD 0).toNat++nats (r.drop c),(uv (2*c)).length+(k+7) / 8+(wrs k [] (r.drop c)).length):=by
       have hpt:=part_even (w:=k) (left:=r.length) (by omega) (same_read k (r.headD 0).toNat c r.length (wrs k [] (r.drop c)++beh) hx (by omega) hlp)
       rw[List.append_assoc]
       refine runs_part (by omega) hpt ?_
       have hd:(uv (2*c)++(lit (r.headD 0).toNat ((k+7) / 8)++(wrs k [] (r.drop c)++beh))).drop ((uv (2*c)).length+(k+7) / 8)=wrs k [] (r.drop c)++beh:=by
        have e:(uv (2*c)++lit (r.headD 0).toNat ((k+7) / 8)).length=(uv (2*c)).length+(k+7) / 8:=by rw[List.length_append,lit_len]
        rw[←List.append_assoc,←e,List.drop_left]
       rw[hd,List.length_replicate]
       exact hih
      have hnr:nats r=List.replicate c (r.headD 0).toNat++nats (r.drop c):=by
       have h1:nats r=nats (r.take c)++nats (r.drop c):=by unfold nats;rw[←List.map_append,List.take_append_drop]
       rw[h1,hsr]
       have h2:nats (List.replicate c (r.headD 0))=List.replicate c (r.headD 0).toNat:=by unfold nats;rw[List.map_replicate]
       rw[h2]
      rw[←hnr] at hrun
      have happ:nats (p++r)=nats p++nats r:=by unfold nats;rw[List.map_append]
      rw[wrs_long k p r (by rw[←hc];exact h8),←hc,happ]
      have e2:(flush k p++(uv (2*c)++lit (r.headD 0).toNat ((k+7) / 8))++wrs k [] (r.drop c)).length=(flush k p).length+((uv (2*c)).length+(k+7) / 8+(wrs k [] (r.drop c)).length):=by
       rw[List.length_append,List.length_append,List.length_append,lit_len];omega
      rw[e2,List.append_assoc,List.append_assoc]
      by_cases hp0:p.length=0
      · obtain rfl:p=[]:=List.eq_nil_of_length_eq_zero hp0
        have hf:flush k []=[]:=rfl
        have e3:([]:List UInt8).length+((uv (2*c)).length+(k+7) / 8+(wrs k [] (r.drop c)).length)=(uv (2*c)).length+(k+7) / 8+(wrs k [] (r.drop c)).length:=by simp
        have e4:nats []++nats r=nats r:=rfl
        have e5:([]:List Int).length+r.length=r.length:=by simp
        rw[hf,e3,e4,e5,List.nil_append]
        exact hrun
      · exact flush_read k p (p.length+r.length) _ _ _ hp (by omega) (by omega) (Or.inr ⟨by omega,hp8⟩) (by rw[Nat.add_sub_cancel_left];exact hrun)
end Um
end Go.Proofs.YtoeiahdjamkdgaaGreatDoor
namespace Go.Proofs.YtoeiahdjamkdgaaGreatDoor
open Go.RowKit
set_option linter.unusedVariables false
def RetPart (r:Option (List Nat × Nat))(ev:Value)(e:Ending)(w':World):Prop :=
 match r with
 | none=>e=.returned (.tuple #[.slice none 0 0,.int .i64 0,ev])
 | some (p,u)=>∃a c,e=.returned (.tuple #[.slice a p.length c,.int .i64 u,.nilIface])/\Lies w' a (i64s (p.map fun n:Nat=>(n:Int)))
theorem readSame_bad (s:ByteArray)(wd m left:Nat)(w:World)(st:TypeId)(sp:Value)(hs:s.size<=1000000)(hwd:wd<=32)(hm:m<18446744073709551616)(hleft:left<=20000)(hg:w.cell? ⟨2,0,none⟩=some (.iface st sp))
    (hbad:m=0\/(m≠0/\left<m)\/(m≠0/\¬ left<m/\s.size<(wd+7) / 8)) :
    Calls Tryz.prog 171 #[.string s,.int .i64 wd,.int .u64 m,.int .i64 left] w fun e w'=>e=.returned (.tuple #[.slice none 0 0,.int .i64 0,.iface st sp])/\Below w.heap.size w w':=by
 obtain⟨z,HZ⟩:∃z,Hid (z=(wd+7) / 8):=⟨_,rfl⟩
 rw[←HZ.out] at hbad
 have hbad:((m:Int) == 0)=true\/(((m:Int) == 0)=false/\left<m)\/(((m:Int) == 0)=false/\¬ left<m/\s.size<z):=by
  rcases hbad with h|⟨h,h'⟩|⟨h,h',h''⟩
  · left;simp;omega
  · right;left;exact⟨by simp;omega,h'⟩
  · right;right;exact⟨by simp;omega,h',h''⟩
 rcases hbad with h|⟨h,h'⟩|⟨h,h',h''⟩
 · go_enter Tryz.func171,Tryz.ntmps171
   go_wp2_with fail
   refine (eights_any wd _ (by omega)).mono ?_
   rw[←HZ.out]
   rintro e w2 ⟨rfl,hw⟩
   obtain rfl:=hw.symm
   go_wp2_with fail
   go_region
   all_goals (try go_wp2)
   all_goals go_ret3
   all_goals exact⟨rfl,(Below.refl _ _).drew⟩
 · go_enter Tryz.func171,Tryz.ntmps171
   go_wp2_with fail
   refine (eights_any wd _ (by omega)).mono ?_
   rw[←HZ.out]
   rintro e w2 ⟨rfl,hw⟩
   obtain rfl:=hw.symm
   go_wp2_with fail
   go_region
   all_goals (try go_wp2)
   all_goals go_ret3
   all_goals exact⟨rfl,(Below.refl _ _).drew⟩
 · go_enter Tryz.func171,Tryz.ntmps171
   go_wp2_with fail
   refine (eights_any wd _ (by omega)).mono ?_
   rw[←HZ.out]
   rintro e w2 ⟨rfl,hw⟩
   obtain rfl:=hw.symm
   go_wp2_with fail
   go_region
   all_goals (try go_wp2)
   all_goals go_ret3
   all_goals exact⟨rfl,(Below.refl _ _).drew⟩
theorem lev_first (l:List UInt8)(z:Nat)(hz:z<=l.length):Um.lev l / 2 ^ (8*z*0) % 2 ^ (8*z)=Um.lev (l.take z):=by
 have h:=Um.lev_cut l z 0 (8*z) hz (by omega)
 simp only[Nat.mul_zero]
 rw[←h,Nat.pow_zero,Nat.div_one,Nat.mod_eq_of_lt (Um.lev_take_lt l z hz)]
theorem readSame_main (s:ByteArray)(wd m left:Nat)(w:World)(st:TypeId)(sp:Value)(hs:s.size<=1000000)(hwd:wd<=32)(hleft:left<=20000)(hg:w.cell? ⟨2,0,none⟩=some (.iface st sp))
    (h0:m≠0) (h1:¬ left<m) (h2:¬ s.size<(wd+7) / 8) :
    Calls Tryz.prog 171 #[.string s,.int .i64 wd,.int .u64 m,.int .i64 left] w fun e w'=>RetPart (Um.same s.data.toList wd m left) (.iface st sp) e w'/\Below w.heap.size w w':=by
 obtain⟨z,HZ⟩:∃z,Hid (z=(wd+7) / 8):=⟨_,rfl⟩
 rw[←HZ.out] at h2
 have hz4:z<=4:=by rw[HZ.out];omega
 obtain⟨y,HY⟩:∃y,Hid (y=8*z):=⟨_,rfl⟩
 have hy:(8:Int)*(z:Int)=(y:Int):=by rw[HY.out];simp
 have hm0:((m:Int) == 0)=false:=by simp;omega
 have HG:Hid (w.cell? ⟨2,0,none⟩=some (.iface st sp)):=hg
 have hx:Um.lev s.data.toList / 2 ^ (y*0) % 2 ^ y=Um.lev (s.data.toList.take z):=by rw[HY.out];exact lev_first _ _ (by simp;omega)
 have hxl:Um.lev (s.data.toList.take z)<4294967296:=Nat.lt_of_lt_of_le (Um.lev_take_lt _ z (by simp;omega)) (Nat.le_trans (Nat.pow_le_pow_right (n:=2) (by omega) (show 8*z<=32 by omega)) (by decide))
 have HSame:Hid (Um.same s.data.toList wd m left=if Um.lev (s.data.toList.take z)<2 ^ wd then some (List.replicate m (Um.lev (s.data.toList.take z)),z) else none):=by
  show _=_
  unfold Um.same
  rw[←HZ.out]
  by_cases hc:Um.lev (s.data.toList.take z)<2 ^ wd
  · rw[if_pos ⟨⟨by omega,by omega⟩,by simp;omega,hc⟩,if_pos hc]
  · rw[if_neg (fun h=>hc h.2.2),if_neg hc]
 have HX:Hid (Um.lev s.data.toList / 2 ^ (y*0) % 2 ^ y=Um.lev (s.data.toList.take z)):=hx
 clear hg hx
 go_enter Tryz.func171,Tryz.ntmps171
 go_wp2_with fail
 refine (eights_any wd _ (by omega)).mono ?_
 rw[←HZ.out]
 rintro e w2 ⟨rfl,hw⟩
 obtain rfl:=hw.symm
 go_wp2_with fail
 refine (unpack_any s y 1 w hs (by omega) (by rw[HY.out];omega) (by rw[HY.out];omega)).mono ?_
 rintro e w3 ⟨⟨rfl,hc⟩,hb3⟩
 have hc0:=hc 0 (by omega)
 rw[HX.out] at hc0
 have hg3:=(hb3.cell (World.block_lt_of_cell? w _ HG.out)).trans HG.out
 generalize Um.lev (s.data.toList.take z)=x at hc0 hxl HSame
 clear hc HX
 go_wp2_with fail
 refine (fits_any _ _ _ (by omega) (by omega) hwd).mono ?_
 by_cases hf:x<2 ^ wd
 · have hd : decide (0 ≤ (x : Int) ∧ (x : Int) < 2 ^ wd) = true := by
     have e:((2 ^ wd:Nat):Int)=(2:Int) ^ wd:=by simp
     rw[decide_eq_true_iff,←e];omega
   have HS2:=HSame.out
   rw[if_pos hf] at HS2
   have HS3:Hid (Um.same s.data.toList wd m left=some (List.replicate m x,z)):=HS2
   rw[hd]
   clear HS2 HSame hf hd
   rintro e w4 ⟨rfl,hw⟩
   obtain rfl:=hw.symm
   obtain⟨i0,hi,hz0,hz1,hz2⟩:=info_parts Tryz.info3
   obtain⟨M,hM⟩:∃M,M=madeCells (Value.int .i64 0).cells (((m:Nat):Int).toNat*i0.size):=⟨_,rfl⟩
   have hMs:M.size=m:=by rw[hM,size_madeCells,hz1];simp
   have hmk:∀W:World,(Instr.makeSlice 22 (.int .u64 (m:Int)) (.int .u64 (m:Int))).run Tryz.prog W=.ok (.slice (some ⟨W.heap.size,0,none⟩) m m) (W.alloc (.cells M 3)):=fun W=>by
    have h:=run_make (P:=Tryz.prog) W 22 3 i0 (.int .i64 0) Tryz.underlying22 hi hz0 .u64 .u64 (m:Int) (m:Int) (by omega) (by omega) (by rw[hz2];omega) (by omega)
    rw[←hM] at h
    simpa using h
   have HR0:Hid (GRow (fun _=>.int .i64 (x:Int)) m w3.heap.size w3 (w3.alloc (.cells M 3)) 0):=GRow.start _ m 3 w3 M hMs
   clear hM hMs hi hz0 hz1 hz2
   go_wp2_with fail
   clear hmk
   go_loopw [45] (fun c wr=>∃i:Nat,i<=m/\c=.int .i64 i/\Hid (GRow (fun _=>.int .i64 (x:Int)) m w3.heap.size w3 wr i)) (fun c _=>m-(intOf c).toNat)
   case atStart=>exact⟨0,Nat.zero_le _,rfl,HR0⟩
   case round =>
    obtain⟨i,him,rfl,HR⟩:=hrel
    by_cases hlt:i<m
    · obtain⟨v,hv⟩:=HR.out.any i hlt
      have hfz:=HR.out.froz i hlt
      go_wp2_with fail
      go_roundw
      case rel=>exact⟨i+1,by omega,by go_num,HR.out.next (Nat.le_refl _) hlt rfl⟩
      case measure=>simp[intOf];omega
    · obtain rfl:i=m:=by omega
      go_wp2_with fail
      go_ret3
      refine⟨?_,hb3.trans (HR.out.old.mono hb3.size)⟩
      rw[HS3.out]
      refine⟨some ⟨w3.heap.size,0,none⟩,i,by simp,fun j hj=>⟨w3.heap.size,0,rfl,?_⟩⟩
      have hj':j<i:=by simpa [i64s] using hj
      rw[Nat.zero_add,HR.out.done j hj']
      simp[i64s]
 · have hd : decide (0 ≤ (x : Int) ∧ (x : Int) < 2 ^ wd) = false := by
     have e:((2 ^ wd:Nat):Int)=(2:Int) ^ wd:=by simp
     rw[decide_eq_false_iff_not,←e];omega
   have HS2:=HSame.out
   rw[if_neg hf] at HS2
   have HS3:Hid (Um.same s.data.toList wd m left=none):=HS2
   rw[hd]
   clear HS2 HSame hf hd
   rintro e w4 ⟨rfl,hw⟩
   obtain rfl:=hw.symm
   go_wp2_with fail
   go_region
   all_goals (try go_wp2_with fail)
   all_goals go_ret3
   all_goals (refine⟨?_,hb3.drew⟩;rw[HS3.out];rfl)
theorem readSame_any (s:ByteArray)(wd m left:Nat)(w:World)(st:TypeId)(sp:Value)(hs:s.size<=1000000)(hwd:wd<=32)(hm:m<18446744073709551616)(hleft:left<=20000)(hg:w.cell? ⟨2,0,none⟩=some (.iface st sp)) :
    Calls Tryz.prog 171 #[.string s,.int .i64 wd,.int .u64 m,.int .i64 left] w fun e w'=>RetPart (Um.same s.data.toList wd m left) (.iface st sp) e w'/\Below w.heap.size w w':=by
 by_cases h:m=0\/(m≠0/\left<m)\/(m≠0/\¬ left<m/\s.size<(wd+7) / 8)
 · have e : Um.same s.data.toList wd m left = none := by
     unfold Um.same
     rw[if_neg]
     intro hc
     have:s.data.toList.length=s.size:=by simp
     omega
   rw[e]
   exact readSame_bad s wd m left w st sp hs hwd hm hleft hg h
 · exact readSame_main s wd m left w st sp hs hwd hleft hg (by omega) (by omega) (by omega)
end Go.Proofs.YtoeiahdjamkdgaaGreatDoor
namespace Go.Proofs.YtoeiahdjamkdgaaGreatDoor
open Go.RowKit
set_option linter.unusedVariables false
theorem readGroups_bad (s:ByteArray)(wd m left:Nat)(w:World)(st:TypeId)(sp:Value)(hs:s.size<=1000000)(hwd:wd<=32)(hm:m<18446744073709551616)(hleft:left<=20000)(hg:w.cell? ⟨2,0,none⟩=some (.iface st sp))
    (hbad:m=0\/(m≠0/\(left+7) / 8<m)\/(m≠0/\¬ (left+7) / 8<m/\s.size<m*wd)) :
    Calls Tryz.prog 172 #[.string s,.int .i64 wd,.int .u64 m,.int .i64 left] w fun e w'=>e=.returned (.tuple #[.slice none 0 0,.int .i64 0,.iface st sp])/\Below w.heap.size w w':=by
 obtain⟨z,HZ⟩:∃z,Hid (z=(left+7) / 8):=⟨_,rfl⟩
 have hz:z<=2500:=by rw[HZ.out];omega
 rw[←HZ.out] at hbad
 obtain⟨y,HY⟩:∃y,Hid (y=m*wd):=⟨_,rfl⟩
 have hy:(m:Int)*(wd:Int)=(y:Int):=by rw[HY.out];simp
 rw[←HY.out] at hbad
 have hbad:((m:Int) == 0)=true\/(((m:Int) == 0)=false/\z<m)\/(((m:Int) == 0)=false/\¬ z<m/\s.size<y):=by
  rcases hbad with h|⟨h,h'⟩|⟨h,h',h''⟩
  · left;simp;omega
  · right;left;exact⟨by simp;omega,h'⟩
  · right;right;exact⟨by simp;omega,h',h''⟩
 rcases hbad with h|⟨h,h'⟩|⟨h,h',h''⟩
 · go_enter Tryz.func172,Tryz.ntmps172
   go_wp2_with fail
   go_region
   all_goals (try go_wp2)
   all_goals go_ret3
   all_goals exact⟨rfl,(Below.refl _ _).drew⟩
 · go_enter Tryz.func172,Tryz.ntmps172
   go_wp2_with fail
   refine (eights_any left _ (by omega)).mono ?_
   rw[←HZ.out]
   rintro e w2 ⟨rfl,hw⟩
   obtain rfl:=hw.symm
   go_wp2_with fail
   go_region
   all_goals (try go_wp2)
   all_goals go_ret3
   all_goals exact⟨rfl,(Below.refl _ _).drew⟩
 · have hyb:y<=2500*32:=by rw[HY.out];exact Nat.mul_le_mul (by omega) hwd
   go_enter Tryz.func172,Tryz.ntmps172
   go_wp2_with fail
   refine (eights_any left _ (by omega)).mono ?_
   rw[←HZ.out]
   rintro e w2 ⟨rfl,hw⟩
   obtain rfl:=hw.symm
   go_wp2_with fail
   go_region
   all_goals (try go_wp2)
   all_goals go_ret3
   all_goals exact⟨rfl,(Below.refl _ _).drew⟩
theorem readGroups_main (s:ByteArray)(wd m left:Nat)(w:World)(st:TypeId)(sp:Value)(hs:s.size<=1000000)(hwd:wd<=32)(hleft:left<=20000)(hg:w.cell? ⟨2,0,none⟩=some (.iface st sp))
    (h0:m≠0) (h1:¬ (left+7) / 8<m) (h2:¬ s.size<m*wd) :
    Calls Tryz.prog 172 #[.string s,.int .i64 wd,.int .u64 m,.int .i64 left] w fun e w'=>RetPart (Um.grps s.data.toList wd m left) (.iface st sp) e w'/\Below w.heap.size w w':=by
 obtain⟨z,HZ⟩:∃z,Hid (z=(left+7) / 8):=⟨_,rfl⟩
 have hz:z<=2500:=by rw[HZ.out];omega
 have h81:8*m<left+8:=by omega
 rw[←HZ.out] at h1
 obtain⟨y,HY⟩:∃y,Hid (y=m*wd):=⟨_,rfl⟩
 have hy:(m:Int)*(wd:Int)=(y:Int):=by rw[HY.out];simp
 have hyb:y<=2500*32:=by rw[HY.out];exact Nat.mul_le_mul (by omega) hwd
 rw[←HY.out] at h2
 obtain⟨q,HQ⟩:∃q,Hid (q=8*m):=⟨_,rfl⟩
 have hq:(8:Int)*(m:Int)=(q:Int):=by rw[HQ.out];simp
 have hq8:q<left+8:=by rw[HQ.out];omega
 have hq0:0<q:=by rw[HQ.out];omega
 have hm0:((m:Int) == 0)=false:=by simp;omega
 have HG:Hid (w.cell? ⟨2,0,none⟩=some (.iface st sp)):=hg
 have HGr:Hid (Um.grps s.data.toList wd m left=if (∀x∈(Um.unp s.data.toList wd q).drop left,x=0) then some ((Um.unp s.data.toList wd q).take left,y) else none):=by
  show _=_
  unfold Um.grps
  rw[←HQ.out,←HY.out,←HZ.out]
  by_cases hc:∀x∈(Um.unp s.data.toList wd q).drop left,x=0
  · rw[if_pos ⟨⟨by omega,by omega⟩,by simp;omega,hc⟩,if_pos hc]
  · rw[if_neg (fun h=>hc h.2.2),if_neg hc]
 have HF:Hid (wd*q<=8*s.size):=by
  show _<=_
  have:wd*q=8*y:=by rw[HQ.out,HY.out,Nat.mul_left_comm,Nat.mul_comm wd]
  omega
 clear hg h81
 go_enter Tryz.func172,Tryz.ntmps172
 go_wp2_with fail
 refine (eights_any left _ (by omega)).mono ?_
 rw[←HZ.out]
 rintro e w2 ⟨rfl,hw⟩
 obtain rfl:=hw.symm
 go_wp2_with fail
 refine (unpack_any s wd q w hs (by omega) hwd HF.out).mono ?_
 rintro e w3 ⟨⟨rfl,hc⟩,hb3⟩
 have HC:Hid (∀j,j<q->w3.cell? ⟨w.heap.size,j,none⟩=some (.int .i64 ((Um.lev s.data.toList / 2 ^ (wd*j) % 2 ^ wd:Nat):Int))):=hc
 have hg3:=(hb3.cell (World.block_lt_of_cell? w _ HG.out)).trans HG.out
 clear hc
 by_cases hlq:left<q
 · have hne:¬ q=left:=by omega
   have HU:Hid (∀j,j<q-left->(j<((Um.unp s.data.toList wd q).drop left).length)/\∀h,((Um.unp s.data.toList wd q).drop left)[j]'h=Um.lev s.data.toList / 2 ^ (wd*(left+j)) % 2 ^ wd):=fun j hj=>⟨by simp[Um.unp_len];omega,fun h=>by
    rw[List.getElem_drop,Um.unp_get _ _ _ _ (by omega)]⟩
   go_wp2_with fail
   go_loopw [8,47] (fun p8 x wr=>∃j:Nat,p8=.slice (some ⟨w.heap.size,0,none⟩) q q/\j<=q-left/\x=.int .i64 j/\wr=w3/\Hid (∀i,i<j->Um.lev s.data.toList / 2 ^ (wd*(left+i)) % 2 ^ wd=0)) (fun _ x _=>q-left-(intOf x).toNat)
   case atStart=>exact⟨0,rfl,Nat.zero_le _,rfl,rfl,fun i h=>absurd h (Nat.not_lt_zero _)⟩
   case round =>
    obtain⟨j,rfl,hj,rfl,hwr,HP⟩:=hrel
    obtain rfl:=hwr.symm
    by_cases hlt:j<q-left
    · have hcj:=HC.out (left+j) (by omega)
      have HPJ:Hid (∀i,i<j+1->(i=j/\Um.lev s.data.toList / 2 ^ (wd*(left+i)) % 2 ^ wd=Um.lev s.data.toList / 2 ^ (wd*(left+j)) % 2 ^ wd)\/Um.lev s.data.toList / 2 ^ (wd*(left+i)) % 2 ^ wd=0):=fun i hi=>by
       by_cases e:i=j
       · subst e;exact Or.inl ⟨rfl,rfl⟩
       · exact Or.inr (HP.out i (by omega))
      have HV:Hid (∃h,((Um.unp s.data.toList wd q).drop left)[j]'h=Um.lev s.data.toList / 2 ^ (wd*(left+j)) % 2 ^ wd):=⟨(HU.out j hlt).1,(HU.out j hlt).2 _⟩
      generalize Um.lev s.data.toList / 2 ^ (wd*(left+j)) % 2 ^ wd=v at hcj HPJ HV
      by_cases hv:v=0
      · subst hv
        go_wp2_with fail
        go_roundw
        case rel=>exact⟨j+1,rfl,by omega,by go_num,trivial,fun i hi=>by rcases HPJ.out i hi with ⟨_,h⟩|h<;>exact h⟩
        case measure=>simp[intOf];omega
      · have hvb:((v:Int) != 0)=true:=by simp;omega
        have HN:Hid (Um.grps s.data.toList wd m left=none):=by
         show _=_
         rw[HGr.out,if_neg]
         intro hall
         obtain⟨h,e⟩:=HV.out
         exact hv (by rw[←e];exact hall _ (List.getElem_mem h))
        clear hv
        go_wp2_with fail
        go_region
        all_goals (try go_wp2_with fail)
        all_goals go_ret3
        all_goals (refine⟨?_,hb3.drew⟩;rw[HN.out];rfl)
    · obtain rfl:j=q-left:=by omega
      have HN:Hid (Um.grps s.data.toList wd m left=some ((Um.unp s.data.toList wd q).take left,y)):=by
       show _=_
       rw[HGr.out,if_pos]
       intro x hx
       obtain⟨i,hi,rfl⟩:=List.getElem_of_mem hx
       have hi':i<q-left:=by simpa [Um.unp_len] using hi
       rw[(HU.out i hi').2 hi]
       exact HP.out i hi'
      go_wp2_with fail
      go_ret3
      refine⟨?_,hb3⟩
      rw[HN.out]
      have hll:((Um.unp s.data.toList wd q).take left).length=left:=by simp[Um.unp_len];omega
      refine⟨some ⟨w.heap.size,0,none⟩,q,by rw[hll];rfl,fun j hj=>⟨w.heap.size,0,rfl,?_⟩⟩
      have hj':j<left:=by rw[i64s_len,List.length_map,hll] at hj;exact hj
      rw[Nat.zero_add,HC.out j (by omega)]
      simp only[i64s,List.getElem_map,List.getElem_take]
      rw[Um.unp_get _ _ _ _ (by omega)]
 · have HN : Hid (Um.grps s.data.toList wd m left = some (Um.unp s.data.toList wd q, y)) := by
     show _=_
     rw[HGr.out,List.drop_of_length_le (by rw[Um.unp_len];omega),List.take_of_length_le (by rw[Um.unp_len];omega),if_pos (fun x hx=>by cases hx)]
   have hle:q<=left:=by omega
   go_wp2_with fail
   all_goals
    refine wp_loop_rounds 1 ?_
    rw[rounds_succ]
    go_wp2_with fail
    go_ret3
    refine⟨?_,hb3⟩
    rw[HN.out]
    have hll:(Um.unp s.data.toList wd q).length=q:=Um.unp_len _ _ _
    refine⟨some ⟨w.heap.size,0,none⟩,q,by rw[hll];first|rfl|(congr 1;simp;omega),fun j hj=>⟨w.heap.size,0,rfl,?_⟩⟩
    have hj':j<q:=by rw[i64s_len,List.length_map,hll] at hj;exact hj
    rw[Nat.zero_add,HC.out j hj']
    simp only[i64s,List.getElem_map]
    rw[Um.unp_get _ _ _ _ hj']
theorem readGroups_any (s:ByteArray)(wd m left:Nat)(w:World)(st:TypeId)(sp:Value)(hs:s.size<=1000000)(hwd:wd<=32)(hm:m<18446744073709551616)(hleft:left<=20000)(hg:w.cell? ⟨2,0,none⟩=some (.iface st sp)) :
    Calls Tryz.prog 172 #[.string s,.int .i64 wd,.int .u64 m,.int .i64 left] w fun e w'=>RetPart (Um.grps s.data.toList wd m left) (.iface st sp) e w'/\Below w.heap.size w w':=by
 by_cases h:m=0\/(m≠0/\(left+7) / 8<m)\/(m≠0/\¬ (left+7) / 8<m/\s.size<m*wd)
 · have e : Um.grps s.data.toList wd m left = none := by
     unfold Um.grps
     rw[if_neg]
     intro hc
     have:s.data.toList.length=s.size:=by simp
     omega
   rw[e]
   exact readGroups_bad s wd m left w st sp hs hwd hm hleft hg h
 · exact readGroups_main s wd m left w st sp hs hwd hleft hg (by omega) (by omega) (by omega)
end Go.Proofs.YtoeiahdjamkdgaaGreatDoor
namespace Go.Proofs.YtoeiahdjamkdgaaGreatDoor
open Go.RowKit
set_option linter.unusedVariables false
theorem cut_list (s:ByteArray)(k:Nat):(s.extract k s.size).data.toList=s.data.toList.drop k:=by
 rw[ByteArray.data_extract,Array.toList_extract]
 simp only[List.extract_eq_take_drop]
 exact List.take_of_length_le (by simp)
theorem cut_size (s:ByteArray)(k:Nat):(s.extract k s.size).size<=s.size:=by rw[ByteArray.size_extract];omega
theorem retPart_map {r:Option (List Nat × Nat)}{ev:Value}{e:Ending}{w':World}(h:RetPart r ev e w'):(r=none/\e=.returned (.tuple #[.slice none 0 0,.int .i64 0,ev]))\/∃p u a c,r=some (p,u)/\e=.returned (.tuple #[.slice a (List.length p) c,.int .i64 (u:Nat),.nilIface])/\Lies w' a (i64s (p.map fun n:Nat=>(n:Int))):=by
 cases r with
 | none=>exact Or.inl ⟨rfl,h⟩
 | some x =>
  obtain⟨p,u⟩:=x
  obtain⟨a,c,he,hl⟩:=h
  exact Or.inr ⟨p,u,a,c,rfl,he,hl⟩
theorem readPart_any (s:ByteArray)(wd left:Nat)(w:World)(st:TypeId)(sp:Value)(hs:s.size<=1000000)(hwd:wd<=32)(hleft:left<=20000)(hl0:0<left)(hg:w.cell? ⟨2,0,none⟩=some (.iface st sp)) :
    Calls Tryz.prog 164 #[.string s,.int .i64 wd,.int .i64 left] w fun e w'=>RetPart (Um.part s.data.toList wd left) (.iface st sp) e w'/\Below w.heap.size w w':=by
 have HG:Hid (w.cell? ⟨2,0,none⟩=some (.iface st sp)):=hg
 obtain⟨hr1,hr2,hr3⟩:=Um.rdv_room s.data.toList 0 0 (by simp)
 have hr3:(Um.rdv s.data.toList 0 0).2<=s.size:=by simpa using hr3
 have HP:Hid (Um.part s.data.toList wd left=if (Um.rdv s.data.toList 0 0).2=0 then none else (if (Um.rdv s.data.toList 0 0).1 % 2=0 then Um.same (s.data.toList.drop (Um.rdv s.data.toList 0 0).2) wd ((Um.rdv s.data.toList 0 0).1 / 2) left else Um.grps (s.data.toList.drop (Um.rdv s.data.toList 0 0).2) wd ((Um.rdv s.data.toList 0 0).1 / 2) left).map fun p=>(p.1,(Um.rdv s.data.toList 0 0).2+p.2)):=rfl
 clear hg
 go_enter Tryz.func164,Tryz.ntmps164
 go_wp2_with fail
 refine (readUvarint_any s w _ (by unfold maxLen;omega) HG.out).mono ?_
 generalize (Um.rdv s.data.toList 0 0).1=h at hr1 HP
 generalize (Um.rdv s.data.toList 0 0).2=k at hr2 hr3 HP
 rintro e w1 ⟨rfl,hb1⟩
 by_cases hk:k=0
 · subst hk
   have HN:=HP.out
   rw[if_pos rfl] at HN
   have HN2:Hid (Um.part s.data.toList wd left=none):=HN
   clear HN
   have he:errOf (.iface st sp) 0=.iface st sp:=rfl
   rw[he]
   clear he
   go_wp2_with fail
   go_ret3
   refine⟨?_,hb1⟩
   rw[HN2.out]
   rfl
 · have HN:=HP.out
   rw[if_neg hk] at HN
   have he:errOf (.iface st sp) k=.nilIface:=by unfold errOf;rw[if_neg hk]
   rw[he]
   have hg1:=(hb1.cell (World.block_lt_of_cell? w _ HG.out)).trans HG.out
   have HG1:Hid (w1.cell? ⟨2,0,none⟩=some (.iface st sp)):=hg1
   clear hg1 he
   by_cases hpar:h % 2=0
   · have hd:(((h:Int) % 2) == 0)=true:=by simp;omega
     rw[if_pos hpar] at HN
     have HN2:Hid (Um.part s.data.toList wd left=(Um.same (s.data.toList.drop k) wd (h / 2) left).map fun p=>(p.1,k+p.2)):=HN
     clear HN
     obtain⟨m2,HM⟩:∃m2,Hid (m2=h / 2):=⟨_,rfl⟩
     have hm2:(h:Int) / 2=(m2:Int):=by rw[HM.out];omega
     have hm3:m2<18446744073709551616:=by rw[HM.out];omega
     have HS:Hid ((s.extract k s.size).size<=1000000):=Nat.le_trans (cut_size s k) hs
     go_wp2_with fail
     refine (readSame_any (s.extract k s.size) wd m2 left w1 st sp HS.out hwd hm3 hleft HG1.out).mono ?_
     rw[cut_list,HM.out]
     rintro e w2 ⟨hret,hb2⟩
     have hb12:=hb1.trans (hb2.mono hb1.size)
     rcases retPart_map hret with ⟨hn,rfl⟩|⟨p,u,a,c,hn,rfl,hl⟩
     · rw[hn] at HN2
       have HN3:Hid (Um.part s.data.toList wd left=none):=HN2
       clear hn HN2 hret
       go_wp2_with fail
       go_ret3
       refine⟨?_,hb12⟩
       rw[HN3.out]
       rfl
     · have hu : u ≤ s.size := by
         have:=(Um.same_len hn).2
         rw[List.length_drop] at this
         simp at this
         omega
       rw[hn] at HN2
       have HN3:Hid (Um.part s.data.toList wd left=some (p,k+u)):=HN2
       have HLs:Hid (Lies w2 a (i64s (p.map fun n:Nat=>(n:Int)))):=hl
       clear hn HN2 hret hl
       go_wp2_with fail
       go_ret3
       refine⟨?_,hb12⟩
       rw[HN3.out]
       exact⟨a,c,by simp,HLs.out⟩
   · have hd:(((h:Int) % 2) == 0)=false:=by simp;omega
     rw[if_neg hpar] at HN
     have HN2:Hid (Um.part s.data.toList wd left=(Um.grps (s.data.toList.drop k) wd (h / 2) left).map fun p=>(p.1,k+p.2)):=HN
     clear HN
     obtain⟨m2,HM⟩:∃m2,Hid (m2=h / 2):=⟨_,rfl⟩
     have hm2:(h:Int) / 2=(m2:Int):=by rw[HM.out];omega
     have hm3:m2<18446744073709551616:=by rw[HM.out];omega
     have HS:Hid ((s.extract k s.size).size<=1000000):=Nat.le_trans (cut_size s k) hs
     go_wp2_with fail
     refine (readGroups_any (s.extract k s.size) wd m2 left w1 st sp HS.out hwd hm3 hleft HG1.out).mono ?_
     rw[cut_list,HM.out]
     rintro e w2 ⟨hret,hb2⟩
     have hb12:=hb1.trans (hb2.mono hb1.size)
     rcases retPart_map hret with ⟨hn,rfl⟩|⟨p,u,a,c,hn,rfl,hl⟩
     · rw[hn] at HN2
       have HN3:Hid (Um.part s.data.toList wd left=none):=HN2
       clear hn HN2 hret
       go_wp2_with fail
       go_ret3
       refine⟨?_,hb12⟩
       rw[HN3.out]
       rfl
     · have hu : u ≤ s.size := by
         have:=(Um.grps_len hl0 hn).2
         rw[List.length_drop] at this
         simp at this
         omega
       rw[hn] at HN2
       have HN3:Hid (Um.part s.data.toList wd left=some (p,k+u)):=HN2
       have HLs:Hid (Lies w2 a (i64s (p.map fun n:Nat=>(n:Int)))):=hl
       clear hn HN2 hret hl
       go_wp2_with fail
       go_ret3
       refine⟨?_,hb12⟩
       rw[HN3.out]
       exact⟨a,c,by simp,HLs.out⟩
end Go.Proofs.YtoeiahdjamkdgaaGreatDoor
namespace Go.Proofs.YtoeiahdjamkdgaaGreatDoor
open Go.RowKit
set_option linter.unusedVariables false
def nvals (l:List Nat):List Value:=i64s (l.map fun n:Nat=>(n:Int))
theorem nvals_len (l:List Nat):(nvals l).length=l.length:=by simp[nvals,i64s]
theorem nvals_app (a b:List Nat):nvals (a++b)=nvals a++nvals b:=by simp[nvals,i64s]
theorem nvals_one (l:List Nat):∀u∈nvals l,u.oneCell'=true:=by
 intro u hu
 obtain⟨x,_,rfl⟩:=List.mem_map.1 hu
 rfl
theorem lies_src {w:World}{a:Option Addr}{cs:List Value}(h:Lies w a cs):∀ad,a=some ad->∀j u,cs[j]? = some u->w.cell? (ad.add j)=some u:=by
 intro ad had j u hu
 obtain⟨hj,rfl⟩:=List.getElem?_eq_some_iff.1 hu
 obtain⟨b,o,e,hc⟩:=h j hj
 obtain rfl:=Option.some.inj (had.symm.trans e)
 rw[addr_add];exact hc
theorem lies_none {w:World}{cs:List Value}(h:Lies w none cs):cs.length=0:=by
 by_cases h0:0<cs.length
 · obtain⟨b,o,e,_⟩:=h 0 h0
   cases e
 · omega
theorem own_below {w w':World}{base e size n:Nat}{v:Value}{xs:List Value}(h:w.ownsRow base e size v n xs)(hb:Below w.heap.size w w'):w'.ownsRow base e size v n xs:=by
 refine⟨h.1,?_⟩
 rcases h.2 with hn|⟨g,cap,cur,rfl,hbg,hgg,rest⟩
 · exact .inl hn
 · exact .inr ⟨g,cap,cur,rfl,hbg,(hb.block g (Array.getElem?_eq_some_iff.1 hgg).1).trans hgg,rest⟩
def rrLen:Value->Nat|.slice _ k _=>k|_=>0
structure RR (s:ByteArray) (wd n:Nat) (w:World) (l u:Value) (wr:World) (acc:List Nat) (at_:Nat):Prop where
 hl:l=.slice (some ⟨w.heap.size,0,none⟩) acc.length n
 hu:u=.int .i64 at_
 le:acc.length<=n
 hs:at_<=s.size
 so:Um.Sofar s.data.toList wd n acc at_
 own:wr.ownsRow w.heap.size 3 1 (.slice (some ⟨w.heap.size,0,none⟩) acc.length n) acc.length (nvals acc)
 old:Below w.heap.size w wr
def RetRunC (N:Nat)(r:Option (List Nat × Nat))(ev:Value)(e:Ending)(w':World):Prop :=
 match r with
 | none=>e=.returned (.tuple #[.slice none 0 0,.int .i64 0,ev])
 | some (p,u)=>∃a c,e=.returned (.tuple #[.slice a p.length c,.int .i64 u,.nilIface])/\Lies w' a (i64s (p.map fun n:Nat=>(n:Int)))/\p.length<=c/\∀q,a=some q->N<=q.block
theorem RetRunC.old {N:Nat}{r:Option (List Nat × Nat)}{ev:Value}{e:Ending}{w':World}(h:RetRunC N r ev e w'):RetPart r ev e w':=by
 match r,h with
 | none,h=>exact h
 | some (p,u),h =>
  obtain⟨a,c,h1,h2,_⟩:=h
  exact⟨a,c,h1,h2⟩
theorem readRuns_c (s:ByteArray)(wd n:Nat)(w:World)(st:TypeId)(sp:Value)(hs:s.size<=1000000)(hwd:wd<=32)(hn:n<=20000)(hg:w.cell? ⟨2,0,none⟩=some (.iface st sp)) :
    Calls Tryz.prog 149 #[.string s,.int .i64 wd,.int .i64 n] w fun e w'=>RetRunC w.heap.size (Um.runs s.data.toList wd n) (.iface st sp) e w'/\Below w.heap.size w w':=by
 have hd1:decide (0<=(wd:Int)/\(wd:Int)<=32)=true:=by simp;omega
 have hd2:decide (0<=(n:Int)/\(n:Int)<=20000)=true:=by simp;omega
 have HG:Hid (w.cell? ⟨2,0,none⟩=some (.iface st sp)):=hg
 obtain⟨i0,hi,hz0,hz1,hz2⟩:=info_parts Tryz.info3
 obtain⟨M,hM⟩:∃M,M=madeCells (Value.int .i64 0).cells (((n:Nat):Int).toNat*i0.size):=⟨_,rfl⟩
 have hMs:M.size=n:=by rw[hM,size_madeCells,hz1];simp
 have hmk:∀W:World,(Instr.makeSlice 22 (.int .i64 0) (.int .i64 (n:Int))).run Tryz.prog W=.ok (.slice (some ⟨W.heap.size,0,none⟩) 0 n) (W.alloc (.cells M 3)):=fun W=>by
  have h:=run_make (P:=Tryz.prog) W 22 3 i0 (.int .i64 0) Tryz.underlying22 hi hz0 .i64 .i64 0 (n:Int) (by omega) (by omega) (by rw[hz2];omega) (by omega)
  rw[←hM] at h
  simpa using h
 have HS:Hid ((w.alloc (.cells M 3)).ownsRow w.heap.size 3 1 (.slice (some ⟨w.heap.size,0,none⟩) 0 n) 0 []):=World.ownsRow_made w M n (Nat.le_refl _) (by unfold maxLen;omega) (by omega)
 clear hg hM hMs
 go_enter Tryz.func149,Tryz.ntmps149
 go_wp2_with (first|(go_at_call 129;refine (isWidth_any _ _).mono ?_;rw[hd1];rintro e w1 ⟨rfl,hw⟩;obtain rfl:=hw.symm)|(go_at_call 130;refine (isCount_any _ _).mono ?_;rw[hd2];rintro e w1 ⟨rfl,hw⟩;obtain rfl:=hw.symm))
 clear hmk
 go_loopw [6,7] (fun l u wr=>∃(acc:List Nat) (at_:Nat),Hid (RR s wd n w l u wr acc at_)) (fun l _ _=>n-rrLen l)
 case atStart=>exact⟨[],0,⟨rfl,rfl,Nat.zero_le _,Nat.zero_le _,Um.sofar_zero _ _ _,HS,(Below.refl _ _).alloc (Nat.le_refl _) _⟩⟩
 case round =>
  obtain⟨acc,at_,HR⟩:=hrel
  obtain⟨rfl,rfl,hle,has,hso,hown,hb⟩:=HR.out
  have HSo:Hid (Um.Sofar s.data.toList wd n acc at_):=hso
  clear hso
  by_cases hlt:acc.length<n
  · obtain⟨m,HM⟩:∃m,Hid (m=n-acc.length):=⟨_,rfl⟩
    have hm:(n:Int)-(acc.length:Int)=(m:Int):=by rw[HM.out];omega
    have hg1:=(hb.cell (World.block_lt_of_cell? w _ HG.out)).trans HG.out
    have HG1:Hid (wr.cell? ⟨2,0,none⟩=some (.iface st sp)):=hg1
    have HSz:Hid ((s.extract at_ s.size).size<=1000000):=Nat.le_trans (cut_size s at_) hs
    clear hg1
    go_wp2_with fail
    refine (readPart_any (s.extract at_ s.size) wd m wr st sp HSz.out hwd (by rw[HM.out];omega) (by rw[HM.out];omega) HG1.out).mono ?_
    rw[cut_list,HM.out]
    rintro e w2 ⟨hret,hb2⟩
    have hb12:=hb.trans (hb2.mono hb.size)
    rcases retPart_map hret with ⟨hpn,rfl⟩|⟨p,u,a,c,hpn,rfl,hl⟩
    · have HN:Hid (Um.runs s.data.toList wd n=none):=Um.sofar_none HSo.out hlt hpn
      clear hpn hret
      go_wp2_with fail
      go_ret3
      refine⟨?_,hb12⟩
      rw[HN.out]
      rfl
    · have hpl:=Um.part_len (by omega) hpn
      rw[List.length_drop] at hpl
      simp only at hpl
      have hsl:s.data.toList.length=s.size:=by simp
      have HN:Hid (Um.Sofar s.data.toList wd n (acc++p) (at_+u)):=Um.sofar_step HSo.out hlt hpn
      have hp1:0<p.length:=hpl.1.1
      have hp2:acc.length+p.length<=n:=by have:=hpl.1.2;omega
      have hu2:at_+u<=s.size:=by have:=hpl.2;omega
      have hown2:w2.ownsRow w.heap.size 3 1 (.slice (some ⟨w.heap.size,0,none⟩) acc.length n) acc.length (nvals acc):=own_below hown hb2
      have HL2:Hid (Lies w2 a (nvals p)):=hl
      clear hpn hret hpl hsl hl
      go_wp2_with (at_builtin;refine wpList_append_fits_any _ rfl _ _ 22 rfl w.heap.size 3 i0 1 Tryz.underlying22 hi hz1 w.heap.size acc.length n (nvals acc) rfl hown2 a p.length c (nvals p) rfl (by rw[nvals_len,Nat.mul_one]) (fun e=>by subst e;have:=lies_none HL2.out;rw[nvals_len] at this;omega) (lies_src HL2.out) (nvals_one p) hp2 ?_;intro w3 hown3 hgrow)
      have hb3:Below w.heap.size w w3:=hb12.grown hgrow hb12.size (fun k hk=>by simp at hk;omega)
      rw[←nvals_app] at hown3
      go_roundw
      case rel=>exact⟨acc++p,at_+u,⟨by simp,by go_num,by simp;omega,hu2,HN.out,by rw[List.length_append];exact hown3,hb3⟩⟩
      case measure=>simp[rrLen];omega
  · have HN:Hid (Um.runs s.data.toList wd n=some (acc,at_)):=Um.sofar_end HSo.out (by omega)
    go_wp2_with fail
    go_ret3
    refine⟨?_,hb⟩
    rw[HN.out]
    obtain⟨a',c',hav,hl⟩:=lies_own hown
    exact⟨some ⟨w.heap.size,0,none⟩,n,rfl,by injection hav with h1 _ _;subst h1;exact hl,hle,fun q e=>by injection e with e;subst e;exact Nat.le_refl _⟩
theorem readRuns_any (s:ByteArray)(wd n:Nat)(w:World)(st:TypeId)(sp:Value)(hs:s.size<=1000000)(hwd:wd<=32)(hn:n<=20000)(hg:w.cell? ⟨2,0,none⟩=some (.iface st sp)) :
    Calls Tryz.prog 149 #[.string s,.int .i64 wd,.int .i64 n] w fun e w'=>RetPart (Um.runs s.data.toList wd n) (.iface st sp) e w'/\Below w.heap.size w w' :=
 (readRuns_c s wd n w st sp hs hwd hn hg).mono fun _ _ h=>⟨h.1.old,h.2⟩
end Go.Proofs.YtoeiahdjamkdgaaGreatDoor
