/-
  wire.Uvarint answers the bytes that the mathematics names, for every number below 2^64.
  stats.countText.
  The reference's bytes of a number (Seven) are those that the mathematics names, for every number below 2^64.
  The reference's Little and ReadLittle: what they answer.
-/
import Derived.Test.YtoeiahdjamkdgaaGreatDoorRows
import Derived.Test.YtoeiahdjamkdgaaGreatDoorWBMath
import Derived.WalkSpells
import Derived.WalkLawsBesides
set_option maxRecDepth 100000
set_option maxHeartbeats 800000
namespace Go.Proofs.YtoeiahdjamkdgaaGreatDoor
open Go.RowKit
theorem ret_str {a b:ByteArray}(h:a=b):Ending.returned (.string a)=.returned (.string b):=by rw[h]
theorem Tryz.info5:(Tryz.prog.info? 5).map (fun i=>(i.zero,i.size,i.bytes))=some (some (.int .u8 0),1,1):=by kernel_rfl
def cellsOf (l:List UInt8):List Value:=l.map fun b=>.int .u8 b.toNat
theorem cells_snoc (l:List UInt8)(b:UInt8):cellsOf (l++[b])=cellsOf l++[.int .u8 b.toNat]:=by simp[cellsOf]
theorem or128:∀x:Fin 256,(x.val ||| 128)=x.val % 128+128:=by decide +kernel
theorem byte_or (m:Nat):bits .or .u8 ((m:Int) % 256) 128=(m:Int) % 128+128:=by
 have h:=u8_or_nat (m % 256) 128 (by omega) (by omega)
 have k:=or128 ⟨m % 256,by omega⟩
 simp only at k
 rw[k] at h
 have e1:((m % 256:Nat):Int)=(m:Int) % 256:=by omega
 have e2:((m % 256 % 128+128:Nat):Int)=(m:Int) % 128+128:=by omega
 rw[e1,e2] at h
 exact h
theorem own_conv {w:World}{base:Nat}{v:Value}{l:List UInt8}(hl:0<l.length)(h:w.ownsRow base 5 1 v l.length (cellsOf l)) :
    (convert 58 9 v).run Tryz.prog w=.ok (.string ⟨l.toArray⟩) w:=by
 rcases h.2 with ⟨_,hn⟩|⟨g,cap,cur,rfl,_,_⟩
 · omega
 · refine run_convert_bytes_back w 58 9 5 ⟨g,0,none⟩ cap l Tryz.underlying58 Tryz.underlying5 Tryz.underlying9 (fun j hj=>?_)
   exact h.cells rfl j _ (by simp[cellsOf,hj])
theorem own_snoc {w:World}{base e:Nat}{v:Value}{l:List UInt8}{n:Int}(h0:0<=n)(h1:n<256)(h:w.ownsRow base e 1 v (l.length+1) (cellsOf l++[.int .u8 n])):w.ownsRow base e 1 v (l++[Um.bt n]).length (cellsOf (l++[Um.bt n])):=by
 rw[cells_snoc,Um.bt_int h0 h1,List.length_append];exact h
theorem below_app {B:Nat}{w wr w1:World}{o:Obj}{v:Value}{e n:Nat}{xs:List Value}(hb:Below B w wr)(hB:B<=w.heap.size)(hown:wr.ownsRow B e 1 v n xs)(hg:(wr.alloc o).grownBy w1 v.ownBlock):Below B w w1 :=
 (hb.alloc (by have:=hb.size;omega) o).grown hg (by have:=hb.size;simp;omega) (fun k hk=>(hown.lt k hk).1)
theorem uvarint_any (n:Nat)(w:World)(h1:n<18446744073709551616) :
    Calls Tryz.prog 66 #[.int .u64 n] w fun e w'=>e=.returned (.string ⟨(Um.uv n).toArray⟩)/\Below w.heap.size w w':=by
 obtain⟨i0,hi,hz0,hz1,hz2⟩:=info_parts Tryz.info5
 have hmk:∀w,(Instr.makeSlice 58 (.int .i64 0) (.int .i64 10)).run Tryz.prog w=.ok (.slice (some ⟨w.heap.size,0,none⟩) 0 10) (w.alloc (.cells (Array.replicate 10 (.int .u8 0)) 5)):=fun _=>by kernel_rfl
 go_enter Tryz.func66,Tryz.ntmps66
 go_wp2
 clear hmk
 go_loopw [0,3] (fun x v wr=>∃(m:Nat) (l:List UInt8),m<18446744073709551616/\x=.int .u64 m/\wr.ownsRow w.heap.size 5 1 v l.length (cellsOf l)/\Hid (l++Um.uv m=Um.uv n)/\Below w.heap.size w wr)
  (fun x _ _=>(intOf x).toNat)
 case atStart=>exact⟨n,[],h1,rfl,World.ownsRow_made w _ 10 (Nat.le_refl _) (by decide) rfl,rfl,(Below.refl _ _).alloc (Nat.le_refl _) _⟩
 case round =>
  obtain⟨m,l,hm,rfl,hown,hl,hb⟩:=hrel
  have hroom:=Um.uv_room h1 hl.out
  have hbt:=byte_or m
  by_cases hlt:m<128
  · go_wp2_with (at_builtin;refine wpList_append_own _ rfl _ _ 58 rfl w.heap.size 5 i0 (.int .u8 0) 1 1 Tryz.underlying58 hi hz0 hz1 hz2 rfl (by decide) _ _ _ rfl (hown.alloc _) ⟨wr.heap.size,0,none⟩ 1 1 [.int .u8 m] rfl rfl (cell_one_new _ _ _) (by intro u hu;simp at hu;subst hu;rfl) (by unfold maxLen;omega) (by omega) (by have:=hb.size;simp;omega) ?_;intro v' w1 hown' hgrow _;have hcv:=own_conv (by simp) (own_snoc (by omega) (by omega) hown');have hb2:=below_app hb (Nat.le_refl _) hown hgrow;clear hown hown' hgrow)
    go_ret
    exact⟨ret_str (by rw[Um.uv_end hlt hl.out]),hb2⟩
  · go_wp2_with (at_builtin;refine wpList_append_own _ rfl _ _ 58 rfl w.heap.size 5 i0 (.int .u8 0) 1 1 Tryz.underlying58 hi hz0 hz1 hz2 rfl (by decide) _ _ _ rfl (hown.alloc _) ⟨wr.heap.size,0,none⟩ 1 1 [.int .u8 (m % 128+128)] rfl rfl (cell_one_new _ _ _) (by intro u hu;simp at hu;subst hu;rfl) (by unfold maxLen;omega) (by omega) (by have:=hb.size;simp;omega) ?_;intro v' w1 hown' hgrow _)
    have hown2:=own_snoc (by omega) (by omega) hown'
    have hb2:=below_app hb (Nat.le_refl _) hown hgrow
    go_roundw
    case rel=>exact⟨m / 128,l++[Um.bt (m % 128+128)],by omega,rfl,hown2,Um.uv_step hlt hl.out,hb2⟩
    case measure=>simp[intOf];omega
theorem countText_any (n:Nat)(W:World)(h1:n<=9223372036854775807):Calls Tryz.prog 107 #[.int .i64 n] W fun e w'=>e=.returned (.string ⟨(Um.uv n).toArray⟩)/\Below W.heap.size W w':=by
 have hcv:IntKind.u64.wrap (n:Int)=(n:Int):=by unfold IntKind.wrap IntKind.signed IntKind.bits;simp;omega
 have hmx:max (n:Int) 0=(n:Int):=by omega
 go_enter Tryz.func107,Tryz.ntmps107
 go_wp2_with (go_at_call 66;refine (uvarint_any n _ (by omega)).mono ?_;rintro e w1 ⟨rfl,hb1⟩)
 go_ret
 exact⟨rfl,hb1⟩
theorem byte_conv (w:World)(n:Int) :
    (convert 58 9 (.slice (some ⟨w.heap.size,0,none⟩) 1 1)).run Tryz.prog (w.alloc (.cells #[.int .u8 n] 5))=.ok (.string ⟨#[Um.bt n]⟩) (w.alloc (.cells #[.int .u8 n] 5)):=by
 refine run_convert_bytes_arg (w.alloc (.cells #[.int .u8 n] 5)) 58 5 Tryz.underlying58 Tryz.underlying5 w.heap.size 0 1 1 [n] rfl ?_ 9 Tryz.underlying9
 intro i hi
 obtain rfl:i=0:=by omega
 simp
theorem byte_any (n:Int)(w:World)(h0:0<=n)(h1:n<256) :
    Calls Tryz.prog 46 #[.int .i64 n] w fun e w'=>e=.returned (.string ⟨#[Um.bt n]⟩)/\Below w.heap.size w w':=by
 have hcv:=byte_conv w n
 go_enter Tryz.func46,Tryz.ntmps46
 go_wp2
 go_ret
 exact⟨rfl,(Below.refl _ _).alloc (Nat.le_refl _) _⟩
theorem seven_any (n:Nat)(w:World)(h1:n<18446744073709551616) :
    Calls Tryz.prog 47 #[.int .u64 n] w fun e w'=>e=.returned (.string ⟨(Um.uv n).toArray⟩)/\Below w.heap.size w w':=by
 go_enter Tryz.func47,Tryz.ntmps47
 go_wp2
 go_loopw [0,3] (fun x o wr=>∃(m:Nat) (l:List UInt8),m<18446744073709551616/\x=.int .u64 m/\o=.string ⟨l.toArray⟩/\Hid (l++Um.uv m=Um.uv n)/\Below w.heap.size w wr)
  (fun x _ _=>(intOf x).toNat)
 case atStart=>exact⟨n,[],h1,rfl,rfl,rfl,Below.refl _ _⟩
 case round =>
  obtain⟨m,l,hm,rfl,rfl,hl,hb⟩:=hrel
  have hroom:=Um.uv_room h1 hl.out
  by_cases hlt:m<128
  · go_wp2_with (go_at_call 46;refine (byte_any _ _ (by omega) (by omega)).mono ?_;rintro e w' ⟨rfl,hb'⟩)
    go_ret
    exact⟨ret_str (by rw[str_snoc,Um.uv_end hlt hl.out]),hb.trans (hb'.mono hb.size)⟩
  · go_wp2_with (go_at_call 46;refine (byte_any _ _ (by omega) (by omega)).mono ?_;rintro e w' ⟨rfl,hb'⟩)
    go_roundw
    case rel=>exact⟨m / 128,l++[Um.bt (m % 128+128)],by omega,rfl,by rw[str_snoc],Um.uv_step hlt hl.out,hb.trans (hb'.mono hb.size)⟩
    case measure=>simp[intOf];omega
theorem little_any (n k:Nat)(w:World)(hn:n<18446744073709551616)(h8:k<=8) :
    Calls Tryz.prog 48 #[.int .u64 n,.int .i64 k] w fun e w'=>e=.returned (.string ⟨(Um.lit n k).toArray⟩)/\Below w.heap.size w w':=by
 go_enter Tryz.func48,Tryz.ntmps48
 go_wp2
 go_loopw [0,5,6] (fun x o c wr=>∃(i m:Nat),i<=k/\m<18446744073709551616/\c=.int .i64 i/\x=.int .u64 m/\o=.string ⟨(Um.lit n i).toArray⟩/\Hid (m=n / 2 ^ (8*i))/\Below w.heap.size w wr) (fun _ _ c _=>k-(intOf c).toNat)
 case atStart=>exact⟨0,n,Nat.zero_le _,hn,rfl,rfl,rfl,by show n=n / 2 ^ 0;simp,Below.refl _ _⟩
 case round =>
  obtain⟨i,m,hik,hm,rfl,rfl,rfl,HM,hb⟩:=hrel
  have hll:=Um.lit_len n i
  by_cases hlt:i<k
  · have HN : Hid (Um.lit n (i + 1) = Um.lit n i ++ [Um.bt ((m : Int) % 256)]) := by
      show _=_
      rw[Um.lit_succ,HM.out]
      unfold Um.by_
      congr 3
    have HD:Hid (m / 256=n / 2 ^ (8*(i+1))):=by show _=_;rw[HM.out,Um.div_step]
    generalize Um.lit n i=l at *
    have hroom:l.length<=8:=by omega
    clear hll
    go_wp2_with (go_at_call 46;refine (byte_any _ _ (by omega) (by omega)).mono ?_;rintro e w' ⟨rfl,hb'⟩)
    go_roundw
    case rel=>exact⟨i+1,m / 256,by omega,by omega,by go_num,rfl,by rw[str_snoc,HN.out],HD,hb.trans (hb'.mono hb.size)⟩
    case measure=>simp[intOf];omega
  · obtain rfl:i=k:=by omega
    go_wp2
    go_ret
    exact⟨rfl,hb⟩
end Go.Proofs.YtoeiahdjamkdgaaGreatDoor
