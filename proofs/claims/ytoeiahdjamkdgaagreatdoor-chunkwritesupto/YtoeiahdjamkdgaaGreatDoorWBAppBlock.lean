/-
  enc.appendBlock: a block of differences.
  enc.unpackWide: numbers of up to 64 bits out of bytes.
-/
import Derived.Test.YtoeiahdjamkdgaaGreatDoorWMarked
import Derived.Test.YtoeiahdjamkdgaaGreatDoorWBWVarint
set_option maxRecDepth 100000
set_option maxHeartbeats 1600000
namespace Go.Proofs.YtoeiahdjamkdgaaGreatDoor
open Go.RowKit
theorem Tryz.infoU64:(Tryz.prog.info? 98).map (fun i=>(i.zero,i.size,i.bytes))=some (some (.int .u64 0),1,8):=by kernel_rfl
theorem Tryz.underlyingU64s:Tryz.prog.underlying 142=some (.slice 98):=by kernel_rfl
def abv (ds:List Int):List Nat:=ds.map fun d=>(d-lows ds).toNat
def wdt (ds:List Int):Nat:=Lib.bitLen (highs ds-lows ds).toNat
def blkB (ds:List Int):List UInt8:=Um.uv (zig (lows ds))++(Um.bt (wdt ds:Nat) :: Um.lit (Um.num (wdt ds) (abv ds)) ((ds.length*wdt ds+7) / 8))
theorem mins_le (xs:List Int):∀x:Int,xs.foldl min x<=x/\∀y∈xs,xs.foldl min x<=y:=by
 induction xs with
 | nil=>intro x;exact⟨Int.le_refl _,fun y h=>by simp at h⟩
 | cons z zs ih =>
  intro x
  obtain⟨h1,h2⟩:=ih (min x z)
  refine⟨by simp only[List.foldl_cons];omega,fun y hy=>?_⟩
  simp only[List.foldl_cons]
  rcases List.mem_cons.1 hy with rfl|hy
  · omega
  · exact h2 y hy
theorem maxs_ge (xs:List Int):∀x:Int,x<=xs.foldl max x/\∀y∈xs,y<=xs.foldl max x:=by
 induction xs with
 | nil=>intro x;exact⟨Int.le_refl _,fun y h=>by simp at h⟩
 | cons z zs ih =>
  intro x
  obtain⟨h1,h2⟩:=ih (max x z)
  refine⟨by simp only[List.foldl_cons];omega,fun y hy=>?_⟩
  simp only[List.foldl_cons]
  rcases List.mem_cons.1 hy with rfl|hy
  · omega
  · exact h2 y hy
theorem mins_in (xs:List Int):∀x:Int,xs.foldl min x=x\/xs.foldl min x∈xs:=by
 induction xs with
 | nil=>intro x;exact Or.inl rfl
 | cons z zs ih =>
  intro x
  simp only[List.foldl_cons]
  rcases ih (min x z) with h|h
  · by_cases hz:z<=x
    · exact Or.inr (by rw[h,Int.min_eq_right hz];simp)
    · exact Or.inl (by rw[h,Int.min_eq_left (by omega)])
  · exact Or.inr (List.mem_cons_of_mem _ h)
theorem maxs_in (xs:List Int):∀x:Int,xs.foldl max x=x\/xs.foldl max x∈xs:=by
 induction xs with
 | nil=>intro x;exact Or.inl rfl
 | cons z zs ih =>
  intro x
  simp only[List.foldl_cons]
  rcases ih (max x z) with h|h
  · by_cases hz:x<=z
    · exact Or.inr (by rw[h,Int.max_eq_right hz];simp)
    · exact Or.inl (by rw[h,Int.max_eq_left (by omega)])
  · exact Or.inr (List.mem_cons_of_mem _ h)
theorem lows_in {ds:List Int}(h:0<ds.length):lows ds∈ds:=by
 rcases mins_in ds (ds.getD 0 0) with e|e
 · unfold lows
   rw[e]
   simp[List.getD,h]
 · exact e
theorem highs_in {ds:List Int}(h:0<ds.length):highs ds∈ds:=by
 rcases maxs_in ds (ds.getD 0 0) with e|e
 · unfold highs
   rw[e]
   simp[List.getD,h]
 · exact e
theorem lows_le {ds:List Int}{d:Int}(h:d∈ds):lows ds<=d:=(mins_le ds _).2 d h
theorem highs_ge {ds:List Int}{d:Int}(h:d∈ds):d<=highs ds:=(maxs_ge ds _).2 d h
theorem bl_lt:∀(k x:Nat),k<=64->x<2 ^ k->x<2 ^ Lib.bitLen x/\Lib.bitLen x<=k
 | 0,x,_,h=>by
  have:x=0:=by simpa using h
  subst this
  decide
 | k+1,x,hk,h=>by
  by_cases h0:x=0
  · subst h0; exact ⟨by decide, by have : Lib.bitLen 0 = 0 := by decide
                                   omega⟩
  · have h64:x<2 ^ 64:=Nat.lt_of_lt_of_le h (Nat.pow_le_pow_right (by omega) hk)
    rw[Lib.bitLen_half x h0 h64]
    obtain⟨h1,h2⟩:=bl_lt k (x / 2) (by omega) (by rw[Nat.pow_succ] at h;omega)
    refine⟨?_,by omega⟩
    rw[Nat.add_comm,Nat.pow_succ]
    omega
theorem abv_len (ds:List Int):(abv ds).length=ds.length:=by simp[abv]
theorem abv_lt {ds:List Int}(h:∀d∈ds,-9223372036854775808<=d/\d<=9223372036854775807)(h0:0<ds.length):(∀x∈abv ds,x<2 ^ wdt ds)/\wdt ds<=64:=by
 have hl:=h _ (lows_in h0)
 have hh:=h _ (highs_in h0)
 obtain⟨h1,h2⟩:=bl_lt 64 (highs ds-lows ds).toNat (Nat.le_refl _) (by
  rw[show (2:Nat) ^ 64=18446744073709551616 by decide];omega)
 refine⟨fun x hx=>?_,h2⟩
 obtain⟨d,hd,rfl⟩:=List.mem_map.1 hx
 have:=highs_ge hd
 exact Nat.lt_of_le_of_lt (by omega) h1
def RetAB (B:Nat)(l:List UInt8)(w:World)(e:Ending)(w':World):Prop:=∃v',e=.returned v'/\OwnM w' B v' l/\Below B w w'/\Stand w w'
theorem appendBlock_any (B g0 o c:Nat)(v:Value)(l:List UInt8)(ds:List Int)(w:World)(hown:OwnM w B v l)(hB:B<=w.heap.size)(hl:Lies w (some ⟨g0,o,none⟩) (i64s ds))(h0:0<ds.length)(hn:ds.length<=200)(hx:∀d∈ds,-9223372036854775808<=d/\d<=9223372036854775807)(hll:l.length<=100000000) :
    Calls Tryz.prog 143 #[v,.slice (some ⟨g0,o,none⟩) ds.length c] w fun e w'=>RetAB B (l++blkB ds) w e w':=by
 have hlo:=hx _ (lows_in h0)
 have hhi:=hx _ (highs_in h0)
 have hlh:=lows_le (highs_in h0)
 obtain⟨ha1,ha2⟩:=abv_lt hx h0
 have HA1:Hid (∀x∈abv ds,x<2 ^ wdt ds):=ha1
 have HX:Hid (∀d∈ds,-9223372036854775808<=d/\d<=9223372036854775807):=hx
 have HO:Hid (OwnM w B v l):=hown
 have HL:Hid _:=hl
 have HMin:=fun W h=>min_any (some ⟨g0,o,none⟩) ds c W h h0 (by omega)
 have HMax:=fun W h=>max_any (some ⟨g0,o,none⟩) ds c W h h0 (by omega)
 have HLB:Hid (blkB ds=Um.uv (zig (lows ds))++(Um.bt (wdt ds:Nat) :: Um.lit (Um.num (wdt ds) (abv ds)) ((ds.length*wdt ds+7) / 8))):=rfl
 have HWD:Hid (wdt ds=Lib.bitLen (highs ds-lows ds).toNat):=rfl
 have HAB:Hid (∀j (h:j<ds.length),(abv ds).getD j 0=(ds[j]-lows ds).toNat):=fun j h=>by simp[abv,List.getD,h]
 have HLE:Hid (∀d∈ds,lows ds<=d):=fun d h=>lows_le h
 have hal:=abv_len ds
 clear ha1 hx hown hl
 generalize abv ds=us at *
 generalize wdt ds=wd at *
 generalize blkB ds=bb at *
 generalize lows ds=lo at *
 generalize highs ds=hi at *
 obtain⟨i0,hi0,hz0,hz1,hz2⟩:=info_parts Tryz.info5
 obtain⟨iv,hvi,hv0,hv1,hv2⟩:=info_parts Tryz.infoU64
 have hzl:=zig_lt hlo.1 hlo.2
 have huv:=Um.uv_ten hzl
 obtain⟨M,hM⟩:∃M,M=madeCells (Value.int .u64 0).cells (((ds.length:Nat):Int).toNat*iv.size):=⟨_,rfl⟩
 have hMs:M.size=ds.length:=by rw[hM,size_madeCells,hv1];simp
 have hmk:∀W:World,(Instr.makeSlice 142 (.int .i64 (ds.length:Int)) (.int .i64 (ds.length:Int))).run Tryz.prog W=.ok (.slice (some ⟨W.heap.size,0,none⟩) ds.length ds.length) (W.alloc (.cells M 98)):=fun W=>by
  have h:=run_make (P:=Tryz.prog) W 142 98 iv (.int .u64 0) Tryz.underlyingU64s hvi hv0 .i64 .i64 (ds.length:Int) (ds.length:Int) (by omega) (by omega) (by rw[hv2];omega) (by omega)
  rw[←hM] at h
  simpa using h
 have HS:Hid (GRow (fun j=>.int .u64 (us.getD j 0:Nat)) ds.length w.heap.size w (w.alloc (.cells M 98)) 0):=GRow.start _ _ _ _ _ hMs
 have HST:Hid (Typed w.heap.size 98 (w.alloc (.cells M 98))):=Typed.new _ _ _
 have HD:Hid (IntKind.u64.wrap (IntKind.u64.wrap hi-IntKind.u64.wrap lo)=((hi-lo).toNat:Int)):=by
  show _=_
  rw[IntKind.wrap_u64,IntKind.wrap_u64,IntKind.wrap_u64];omega
 have hd64:(hi-lo).toNat<18446744073709551616:=by omega
 have hal':Hid _:=hal
 clear hM hMs hal
 go_enter Tryz.func143,Tryz.ntmps143
 go_wp2_with fail
 refine (HMin w HL.out).mono ?_
 rintro e w1 ⟨rfl,hw⟩
 obtain rfl:=hw.symm
 go_wp2_with fail
 refine (HMax _ HL.out).mono ?_
 rintro e w1 ⟨rfl,hw⟩
 obtain rfl:=hw.symm
 clear HMin HMax
 go_wp2_with fail
 rw[HD.out]
 refine (len64_any _ _ hd64).mono ?_
 rintro e w1 ⟨rfl,hw⟩
 obtain rfl:=hw.symm
 rw[←HWD.out]
 clear hd64 HD HWD
 go_wp2
 clear hmk
 go_loopw [26] (fun x wr=>∃i:Nat,i<=ds.length/\x=.int .i64 i/\w.heap.size<wr.heap.size/\Hid (GRow (fun j=>.int .u64 (us.getD j 0:Nat)) ds.length w.heap.size w wr i)/\Hid (Typed w.heap.size 98 wr)) (fun x _=>ds.length-(intOf x).toNat)
 case atStart=>exact⟨0,Nat.zero_le _,rfl,by simp,HS,HST⟩
 case round =>
  clear HS HST
  obtain⟨i,hik,rfl,hsl,HV,HTy⟩:=hrel
  have hb:=HV.out.old
  by_cases hlt:i<ds.length
  · obtain⟨b',o',e',hc⟩:=lies_ints (Lies.keep HL.out hb) i hlt
    obtain⟨rfl,rfl⟩:g0=b'/\o=o':=by simpa using e'
    clear e'
    have hdr:=HX.out ds[i] (List.getElem_mem hlt)
    have hdl:=HLE.out ds[i] (List.getElem_mem hlt)
    have HE:Hid (IntKind.u64.wrap (IntKind.u64.wrap ds[i]-IntKind.u64.wrap lo)=(us.getD i 0:Nat)):=by
     show _=_
     rw[HAB.out i hlt,IntKind.wrap_u64,IntKind.wrap_u64,IntKind.wrap_u64];omega
    generalize ds[i]=d at *
    obtain⟨y0,q0⟩:=HV.out.any i hlt
    have f0:=HV.out.froz i hlt
    go_wp2
    rw[HE.out]
    go_roundw
    case rel =>
     exact⟨i+1,by omega,by go_num,by simpa using hsl,HV.out.next (Nat.le_refl _) hlt rfl,HTy.out.set _ _⟩
    case measure=>simp[intOf];omega
  · obtain rfl:i=ds.length:=by omega
    have HLU:Hid (Lies wr (some ⟨w.heap.size,0,none⟩) (u64s us)):=fun j hj=>by
     rw[u64s_len,hal'.out] at hj
     refine⟨w.heap.size,0,rfl,?_⟩
     have hj':j<us.length:=by rw[hal'.out];exact hj
     rw[Nat.zero_add,HV.out.done j hj]
     simp[u64s,List.getD,hj']
    have hown:=HO.out.keep hb
    go_wp2_with fail
    refine (varint_any lo _ hlo.1 hlo.2).mono ?_
    rintro e w1 ⟨rfl,hb1⟩
    have hown1:=hown.keep hb1
    have hbB1:Below B w w1:=(hb.mono hB).trans (hb1.mono (Nat.le_trans hB hb.size))
    have S1:Stand wr w1:=Stand.below hb1
    have T1:=S1.typed (by decide) HTy.out
    have L1:=S1.lies (by decide) HTy.out HLU.out
    obtain⟨m1,hm1⟩:∃m1:List UInt8,m1=Um.uv (zig lo):=⟨_,rfl⟩
    rw[←hm1] at huv
    have htb:(⟨m1.toArray⟩:ByteArray).data.toList=m1:=by simp
    have hts:(⟨m1.toArray⟩:ByteArray).size=m1.length:=by simp[ByteArray.size]
    rw[←hm1]
    generalize (⟨m1.toArray⟩:ByteArray)=t at *
    obtain⟨v2,w2,hr2,hown2,hgrow2⟩:=appM_string w1 B 58 v l m1 hown1 t htb (by omega) (Nat.le_trans hB hbB1.size)
    have hb2:=OwnM.below hbB1 hB hown1 hgrow2
    have S2:=hown1.stand hgrow2
    have T2:=S2.typed (by decide) T1
    have L2:=S2.lies (by decide) T1 L1
    have SS:Stand w w2:=((Stand.below hb).trans S1).trans S2
    have HL2:Hid _:=L2
    have HT2:Hid _:=T2
    have HSS:Hid _:=SS
    have hlm:(l++m1).length<=100000010:=by rw[List.length_append];omega
    have HLM:Hid (l++bb=l++m1++[Um.bt (wd:Nat)]++Um.lit (Um.num wd us) ((ds.length*wd+7) / 8)):=by
     show _=_
     rw[HLB.out,←hm1];simp
    clear hgrow2 hown1 hown S1 S2 SS T1 T2 L1 L2 HTy HLU HV HO htb hts huv hm1 hzl
    generalize l++m1=l2 at *
    have hba:Below w2.heap.size w2 (w2.alloc (.cells #[.int .u8 wd] 5)):=(Below.refl _ _).alloc (Nat.le_refl _) _
    have hwb:Um.bt (wd:Nat)=UInt8.ofNat wd:=by simp[Um.bt]
    have hnew:∀j u,(cellsOf [Um.bt (wd:Nat)])[j]? = some u->(w2.alloc (.cells #[.int .u8 wd] 5)).cell? ((⟨w2.heap.size,0,none⟩:Addr).add j)=some u:=fun j u hu=>by
     obtain⟨hj,e⟩:=List.getElem?_eq_some_iff.1 hu
     obtain rfl:j=0:=by simp[cellsOf] at hj;exact hj
     rw[addr_add,cell_of_row _ w2.heap.size _ _ _ (0,0) (heap_alloc_new w2 _),←e]
     simp[cellsOf,hwb]
     omega
    obtain⟨v3,w3,hr3',hown3,hgrow3⟩:=appM_slice (w2.alloc (.cells #[.int .u8 wd] 5)) B 58 v2 l2 [Um.bt (wd:Nat)] (hown2.keep hba) ⟨w2.heap.size,0,none⟩ 1 hnew (by simp;omega) (by have:=hb2.size;simp;omega)
    have hr3:(Builtin.append_ #[58,58] 58 #[v2,.slice (some ⟨w2.heap.size,0,none⟩) 1 1]).run Tryz.prog (w2.alloc (.cells #[.int .u8 wd] 5))=.ok v3 w3:=hr3'
    have hbA:Below B w (w2.alloc (.cells #[.int .u8 wd] 5)):=hb2.trans (hba.mono (Nat.le_trans hB hb2.size))
    have hb3:=OwnM.below hbA hB (hown2.keep hba) hgrow3
    have S3:Stand w2 w3:=(Stand.below hba).trans ((hown2.keep hba).stand hgrow3)
    clear hr3' hnew hgrow3 hbA hba hwb
    go_wp2_with (first|(at_builtin;refine Lib.wpList_append_run _ rfl _ _ 58 9 rfl _ _ rfl rfl _ _ hr2 ?_)|(at_builtin;refine Lib.wpList_append_run _ rfl _ _ 58 58 rfl _ _ rfl rfl _ _ hr3 ?_)|fail)
    have L3:=S3.lies (by decide) HT2.out HL2.out
    have HPW:=packWide_any (some ⟨w.heap.size,0,none⟩) us ds.length wd w3 L3 (by rw[hal'.out];omega) ha2 HA1.out
    rw[hal'.out] at HPW
    refine HPW.mono ?_
    rintro e w4 ⟨⟨g,rfl,hl4⟩,hb4⟩
    have hown4:=hown3.keep hb4
    have hbB4:Below B w w4:=hb3.trans (hb4.mono (Nat.le_trans hB hb3.size))
    have S4:Stand w w4:=(Stand.trans HSS.out S3).trans (Stand.below hb4)
    have hnb:(ds.length*wd+7) / 8<=2000:=by
     have:=Nat.mul_le_mul hn ha2
     omega
    have hll4:(Um.lit (Um.num wd us) ((ds.length*wd+7) / 8)).length=(ds.length*wd+7) / 8:=Um.lit_len _ _
    have hl2b:(l2++[Um.bt (wd:Nat)]).length<=100000020:=by rw[List.length_append];simp;omega
    have HLM2:Hid _:=HLM.out
    clear HLM HPW
    generalize (ds.length*wd+7) / 8=nb at *
    generalize Um.lit (Um.num wd us) nb=m4 at *
    generalize l2++[Um.bt (wd:Nat)]=l3 at *
    have hl4':∀j u,(cellsOf m4)[j]? = some u->w4.cell? ((⟨g,0,none⟩:Addr).add j)=some u:=fun j u hu=>by
     obtain⟨hj,e⟩:=List.getElem?_eq_some_iff.1 hu
     obtain⟨b',o',e',hc⟩:=hl4 j hj
     obtain⟨rfl,rfl⟩:g=b'/\0=o':=by simpa using e'
     rw[addr_add,hc,e]
    obtain⟨v5,w5,hr5,hown5,hgrow5⟩:=appM_slice w4 B 58 v3 l3 m4 hown4 ⟨g,0,none⟩ nb hl4' (by omega) (Nat.le_trans hB hbB4.size)
    rw[hll4] at hr5
    have hb5:=OwnM.below hbB4 hB hown4 hgrow5
    have S5:Stand w w5:=S4.trans (hown4.stand hgrow5)
    rw[←HLM2.out] at hown5
    have HR:Hid (RetAB B (l++bb) w (.returned v5) w5):=⟨v5,rfl,hown5,hb5,S5⟩
    clear hown5 hgrow5 S5 hb5 S4 hbB4 hown4 hl4 hl4' L3 S3 hb3 hown3
    go_wp2_with (at_builtin;refine Lib.wpList_append_run _ rfl _ _ 58 58 rfl _ _ rfl rfl _ _ hr5 ?_)
    go_ret
    exact HR.out
def unw (s:List UInt8)(wd n:Nat):List Nat:=(List.range n).map fun i=>Um.lev s / 2 ^ (wd*i) % 2 ^ wd
theorem unw_len (s:List UInt8)(wd n:Nat):(unw s wd n).length=n:=by simp[unw]
structure URow (F:Nat->Nat) (n g:Nat) (w wr:World):Prop where
 cell:∀j,j<n->wr.cell? ⟨g,j,none⟩=some (.int .u64 (F j:Nat))
 froz:∀j,j<n->wr.frozen? ⟨g,j,none⟩=false
 old:Below w.heap.size w wr
 ty:Typed g 98 wr
theorem URow.start (n:Nat)(w:World)(M:Array Value)(hM:M=madeCells #[.int .u64 0] n):URow (fun _=>0) n w.heap.size w (w.alloc (.cells M 98)):=by
 subst hM
 refine⟨fun j hj=>?_,fun j _=>frozen_of_row _ w.heap.size j _ _ (heap_alloc_new w _),(Below.refl _ _).alloc (Nat.le_refl _) _,Typed.new _ _ _⟩
 rw[cell_of_row _ w.heap.size j _ _ (0,0) (heap_alloc_new w _),Array.getElem?_eq_getElem (by rw[size_madeCells];exact hj)]
 simp[madeCells,Nat.mod_one]
theorem URow.put {F F':Nat->Nat}{n g i:Nat}{w wr:World}(h:URow F n g w wr)(hg:w.heap.size<=g)(hi:i<n)(ho:∀j,j≠i->F' j=F j):URow F' n g w (wr.setCell ⟨g,i,none⟩ (.int .u64 (F' i:Nat))):=by
 refine⟨fun j hj=>?_,fun j hj=>by simpa using h.froz j hj,h.old.setCell hg _,h.ty.set _ _⟩
 by_cases e:j=i
 · subst e;exact World.cell?_setCell_same _ _ _ (h.cell j hj)
 · rw[World.cell?_setCell_other _ _ _ _ (fun e'=>e (by injection e' with _ e';exact e'.symm)),h.cell j hj,ho j e]
theorem URow.keep {F:Nat->Nat}{n g:Nat}{w wr w':World}(h:URow F n g w wr)(hg:g<wr.heap.size)(hb:Below wr.heap.size wr w'):URow F n g w w' :=
 ⟨fun j hj=>(hb.cell hg).trans (h.cell j hj),fun j hj=>(hb.frozen hg).trans (h.froz j hj),h.old.trans (hb.mono h.old.size),h.ty.keep hb⟩
theorem URow.congr {F F':Nat->Nat}{n g:Nat}{w wr:World}(h:URow F n g w wr)(he:∀j,j<n->F j=F' j):URow F' n g w wr:=⟨fun j hj=>by rw[←he j hj];exact h.cell j hj,h.froz,h.old,h.ty⟩
theorem and_piece {a h t:Nat}(ha:a<256)(ht:t<=8):bits .and .u8 ((a:Int) / 2 ^ h) ((2 ^ t-1) % 256)=((a / 2 ^ h % 2 ^ t:Nat):Int):=by
 have hp:=Nat.two_pow_pos t
 have h8:2 ^ t<=2 ^ 8:=Nat.pow_le_pow_right (by omega) ht
 have h256:(2:Nat) ^ 8=256:=by decide
 have e1:(a:Int) / 2 ^ h=((a / 2 ^ h:Nat):Int):=by simp
 have e2:((2:Int) ^ t-1) % 256=((2 ^ t-1:Nat):Int):=by
  have e:(2:Int) ^ t=((2 ^ t:Nat):Int):=by simp
  rw[e];omega
 have hd:a / 2 ^ h<=a:=Nat.div_le_self _ _
 rw[e1,e2,u8_and_nat _ _ (by omega) (by omega),Nat.and_two_pow_sub_one_eq_mod]
theorem or_piece {x y d t:Nat}(hx:x<2 ^ d)(hy:y<2 ^ t)(h:d+t<=64):bits .or .u64 (x:Int) (IntKind.u64.wrap ((y:Int)*2 ^ d))=((x+y*2 ^ d:Nat):Int):=by
 have hp:y*2 ^ d<2 ^ 64:=by
  refine Nat.lt_of_lt_of_le (Nat.mul_lt_mul_of_pos_right hy (Nat.two_pow_pos d)) ?_
  rw[←Nat.pow_add]
  exact Nat.pow_le_pow_right (by omega) (by omega)
 have hx2:x<2 ^ 64:=Nat.lt_of_lt_of_le hx (Nat.pow_le_pow_right (by omega) (by omega))
 have e64:(2:Nat) ^ 64=18446744073709551616:=by decide
 have e:(y:Int)*2 ^ d=((y*2 ^ d:Nat):Int):=by simp
 rw[e,IntKind.wrap_u64,show (((y*2 ^ d:Nat):Int)) % 18446744073709551616=((y*2 ^ d:Nat):Int) by omega,u64_or_nat _ _ (by omega) (by omega),Um.or_above hx]
def uwF (L wd i d:Nat)(j:Nat):Nat:=if j<i then L / 2 ^ (wd*j) % 2 ^ wd else if j=i then L / 2 ^ (wd*i) % 2 ^ d else 0
theorem unpackWide_any (s:ByteArray)(wd n:Nat)(w:World)(hwd:wd<=64)(hn:n<=200)(hs:n*wd<=8*s.size)(hsz:s.size<=1000000) :
    Calls Tryz.prog 189 #[.string s,.int .i64 wd,.int .i64 n] w fun e w'=>RetT e w' n 98 (u64s (unw s.data.toList wd n))/\Below w.heap.size w w':=by
 obtain⟨iv,hvi,hv0,hv1,hv2⟩:=info_parts Tryz.infoU64
 obtain⟨M,hM⟩:∃M,M=madeCells (Value.int .u64 0).cells (((n:Nat):Int).toNat*iv.size):=⟨_,rfl⟩
 have hMs:M=madeCells #[.int .u64 0] n:=by rw[hM,hv1];simp[Value.cells]
 have hmk:∀W:World,(Instr.makeSlice 142 (.int .i64 (n:Int)) (.int .i64 (n:Int))).run Tryz.prog W=.ok (.slice (some ⟨W.heap.size,0,none⟩) n n) (W.alloc (.cells M 98)):=fun W=>by
  have h:=run_make (P:=Tryz.prog) W 142 98 iv (.int .u64 0) Tryz.underlyingU64s hvi hv0 .i64 .i64 (n:Int) (n:Int) (by omega) (by omega) (by rw[hv2];omega) (by omega)
  rw[←hM] at h
  simpa using h
 have HS:Hid (URow (uwF (Um.lev s.data.toList) wd 0 0) n w.heap.size w (w.alloc (.cells M 98))):=(URow.start _ _ _ hMs).congr fun j _=>by simp[uwF,Nat.mod_one]
 have HSZ:Hid (n*wd<=8*s.size):=hs
 clear hM hMs hs
 go_enter Tryz.func189,Tryz.ntmps189
 go_wp2
 clear hmk
 go_loopw [8,17] (fun p x wr=>∃i:Nat,i<=n/\x=.int .i64 i/\p=.int .i64 ((wd*i:Nat):Int)/\w.heap.size<wr.heap.size/\Hid (URow (uwF (Um.lev s.data.toList) wd i 0) n w.heap.size w wr)) (fun _ x _=>n-(intOf x).toNat)
 case atStart=>exact⟨0,Nat.zero_le _,rfl,rfl,by simp,HS⟩
 case round =>
  clear HS
  obtain⟨i,hik,rfl,rfl,hsl,HV⟩:=hrel
  have hb:=HV.out.old
  by_cases hlt:i<n
  · have HW : Hid (wd * i + wd ≤ 8 * s.size) := by
      have h1:wd*(i+1)<=wd*n:=Nat.mul_le_mul_left _ hlt
      have h2:=HSZ.out
      rw[Nat.mul_comm] at h2
      show _<=_
      rw[Nat.mul_add,Nat.mul_one] at h1
      omega
    generalize ha:wd*i=at0 at *
    have HA:Hid (wd*i=at0):=ha
    clear ha
    go_wp2
    go_loopw [8,10] (fun p h wr=>∃(d:Nat),d<=wd/\p=.int .i64 ((at0+d:Nat):Int)/\h=.int .i64 (d:Int)/\w.heap.size<wr.heap.size/\Hid (URow (uwF (Um.lev s.data.toList) wd i d) n w.heap.size w wr)) (fun _ h _=>wd-(intOf h).toNat)
    case atStart=>exact⟨0,Nat.zero_le _,rfl,rfl,hsl,HV⟩
    case round =>
     clear HV hsl hb
     obtain⟨d,hdw,rfl,rfl,hsl,HV⟩:=hrel
     by_cases hdl:d<wd
     · have hP:at0+d<8*s.size:=by have:=HW.out;omega
       generalize hPe:at0+d=P at *
       have HP:Hid (at0+d=P):=hPe
       clear hPe
       obtain⟨l,hle⟩:∃l,wd-d=l:=⟨_,rfl⟩
       have hli:(wd:Int)-(d:Int)=(l:Int):=by omega
       have hl0:0<l:=by omega
       have HLE:Hid (wd-d=l):=hle
       clear hle
       obtain⟨q,HQ⟩:∃q,Hid (P / 8=q):=⟨P / 8,rfl⟩
       obtain⟨h,HH⟩:∃h,Hid (P % 8=h):=⟨P % 8,rfl⟩
       have hq:q<s.size:=by rw[←HQ.out];omega
       have hh:h<8:=by rw[←HH.out];omega
       have hqi:(P:Int) / 8=(q:Int):=by rw[←HQ.out];omega
       have hhi:(P:Int) % 8=(h:Int):=by rw[←HH.out];omega
       have hcq:=HV.out.cell i hlt
       have hfq:=HV.out.froz i hlt
       obtain⟨t,ht⟩:∃t,t=min l (8-h):=⟨_,rfl⟩
       have hmin:min (l:Int) (8-(h:Int))=(t:Int):=by omega
       have ht1:0<t/\t<=8/\d+t<=wd/\h+t<=8:=by have:=HLE.out;omega
       clear ht
       have hbt:s[q].toNat<256:=s[q].toNat_lt
       have HAND:Hid _:=and_piece (a:=s[q].toNat) (h:=h) (t:=t) hbt ht1.2.1
       have HPI:Hid (s[q].toNat / 2 ^ h % 2 ^ t=Um.lev s.data.toList / 2 ^ at0 / 2 ^ d % 2 ^ t):=by
        show _=_
        have h1:=Um.lev_piece s.data.toList P t (by rw[HQ.out,Array.length_toList];exact hq) (by rw[HH.out];omega)
        rw[Nat.div_div_eq_div_mul,←Nat.pow_add,HP.out,←h1]
        simp only[HQ.out,HH.out]
        rfl
       have HF:Hid (uwF (Um.lev s.data.toList) wd i d i=Um.lev s.data.toList / 2 ^ at0 % 2 ^ d):=by
        show _=_
        simp[uwF,HA.out]
       have HF2:Hid (uwF (Um.lev s.data.toList) wd i (d+t) i=Um.lev s.data.toList / 2 ^ at0 % 2 ^ (d+t)):=by
        show _=_
        simp[uwF,HA.out]
       have HV2:Hid _:=HV.out.put (Nat.le_refl _) hlt (F':=uwF (Um.lev s.data.toList) wd i (d+t)) fun j hj=>by simp[uwF,hj]
       have hpl:s[q].toNat / 2 ^ h % 2 ^ t<2 ^ t:=Nat.mod_lt _ (Nat.two_pow_pos t)
       have HOR:Hid (bits .or .u64 (uwF (Um.lev s.data.toList) wd i d i:Nat) (IntKind.u64.wrap (((s[q].toNat / 2 ^ h % 2 ^ t:Nat):Int)*2 ^ d))=((uwF (Um.lev s.data.toList) wd i (d+t) i:Nat):Int)):=by
        show _=_
        rw[HF.out,or_piece (Nat.mod_lt _ (Nat.two_pow_pos d)) hpl (by omega),HF2.out,Um.low_more,HPI.out]
       have hp256:s[q].toNat / 2 ^ h % 2 ^ t<256:=Nat.lt_of_lt_of_le hpl (Nat.le_trans (Nat.pow_le_pow_right (by omega) ht1.2.1) (by decide))
       clear hpl
       go_wp2
       go_region
       rw[HAND.out]
       clear HAND
       generalize s[q].toNat / 2 ^ h % 2 ^ t=pc at *
       have HV3:Hid (URow (uwF (Um.lev s.data.toList) wd i (d+t)) n w.heap.size w ((wr.setCell ⟨w.heap.size,i,none⟩ (Value.int IntKind.u64 (bits BinOp.or IntKind.u64 (uwF (Um.lev s.data.toList) wd i d i:Nat) (IntKind.u64.wrap (↑pc*2 ^ d))))).drew.drew)):=by
        have h:=HV2.out
        rw[HOR.out]
        exact URow.keep h (by simpa using hsl) (Below.refl _ _).drew.drew
       go_wp2
       go_region
       go_wp2
       go_roundw
       case rel =>
        have hp:=HP.out
        refine⟨d+t,by omega,?_,?_,by simpa using hsl,HV3⟩
        · rw[show ((at0+(d+t):Nat):Int)=(P:Int)+(t:Int) by omega]
        · rw[show ((d+t:Nat):Int)=(d:Int)+(t:Int) by omega]
       case measure=>simp[intOf];omega
     · obtain rfl:d=wd:=by omega
       have HV3:Hid (URow (uwF (Um.lev s.data.toList) d (i+1) 0) n w.heap.size w wr):=HV.out.congr fun j hj=>by
        unfold uwF
        by_cases h1:j<i
        · rw[if_pos h1,if_pos (by omega)]
        · by_cases h2:j=i
          · subst h2;rw[if_neg h1,if_pos rfl,if_pos (by omega)]
          · rw[if_neg h1,if_neg h2,if_neg (by omega)];simp[Nat.mod_one]
       go_wp2
       refine⟨⟨i+1,by omega,by go_num,?_,hsl,HV3.out⟩,by simp[intOf];omega⟩
       rw[Nat.mul_add,Nat.mul_one,HA.out]
  · obtain rfl:i=n:=by omega
    have HLV:Hid (Lies wr (some ⟨w.heap.size,0,none⟩) (u64s (unw s.data.toList wd i))):=fun j hj=>by
     rw[u64s_len,unw_len] at hj
     refine⟨w.heap.size,0,rfl,?_⟩
     rw[Nat.zero_add,HV.out.cell j hj]
     simp[u64s,unw,uwF,hj]
    go_wp2
    go_ret
    exact⟨⟨_,rfl,HLV.out,HV.out.ty⟩,hb⟩
end Go.Proofs.YtoeiahdjamkdgaaGreatDoor
