/-
  wire.Varint answers the bytes of 2n, or of -2n - 1, for every number of 64 bits with a sign.
  The reference's Signed: a number with a sign in bytes.
  bitrun.Width, math/bits' Len and Len64, and the reference's WidthOf: how many bits a number takes.
-/
import Derived.OpenShut
import Derived.Test.YtoeiahdjamkdgaaGreatDoorWBPack
import Derived.Test.YtoeiahdjamkdgaaGreatDoorWLen
set_option maxRecDepth 100000
set_option maxHeartbeats 800000
namespace Go.Proofs.YtoeiahdjamkdgaaGreatDoor
open Go.RowKit
theorem wrap_u64 (n:Int):IntKind.u64.wrap n=n % 18446744073709551616:=by simp[IntKind.wrap,IntKind.bits,IntKind.signed]
theorem flip_u64 (a:Int)(h0:0<=a)(h1:a<18446744073709551616):bits .xor .u64 IntKind.u64.max a=18446744073709551615-a:=by
 obtain⟨k,rfl⟩:=Int.eq_ofNat_of_zero_le h0
 have e:IntKind.u64.max=((2 ^ 64-1:Nat):Int):=by decide
 rw[e,u64_xor_nat (2 ^ 64-1) k (by decide) (by omega)]
 have hx:(2 ^ 64-1) ^^^ k=2 ^ 64-1-k:=by
  rw[Nat.xor_comm]
  have hk:k<2 ^ 64:=by omega
  apply Nat.eq_of_testBit_eq
  intro i
  rw[Nat.testBit_xor,show 2 ^ 64-1-k=2 ^ 64-(k+1) from by omega,Nat.testBit_two_pow_sub_succ hk,Nat.testBit_two_pow_sub_one]
  by_cases hi:i<64
  · simp[hi]
  · have:k.testBit i=false:=Nat.testBit_lt_two_pow (Nat.lt_of_lt_of_le hk (Nat.pow_le_pow_right (by omega) (by omega)))
    simp[hi,this]
 rw[hx]
 omega
theorem zig_flip {n:Int}(h1:-9223372036854775808<=n)(h:n<0):bits .xor .u64 IntKind.u64.max (IntKind.u64.wrap (IntKind.u64.wrap n*2))=zig n:=by
 rw[zig_neg h,wrap_u64,wrap_u64,flip_u64 _ (by omega) (by omega)]
 omega
theorem varint_any (n:Int)(w:World)(h1:-9223372036854775808<=n)(h2:n<=9223372036854775807) :
    Calls Tryz.prog 141 #[.int .i64 n] w fun e w'=>e=.returned (.string ⟨(Um.uv (zig n)).toArray⟩)/\Below w.heap.size w w':=by
 have hz:=zig_lt h1 h2
 by_cases h:n<0
 · have HF:=(show Hid _ from zig_flip h1 h)
   go_enter Tryz.func141,Tryz.ntmps141
   go_wp2_with fail
   rw[HF.out]
   refine (uvarint_any _ _ hz).mono ?_
   rintro e w2 ⟨rfl,hb2⟩
   go_wp2
   go_ret
   exact⟨rfl,hb2⟩
 · have HF:Hid (n*2=(zig n:Int)):=(zig_pos h).symm
   go_enter Tryz.func141,Tryz.ntmps141
   go_wp2_with fail
   rw[HF.out]
   refine (uvarint_any _ _ hz).mono ?_
   rintro e w2 ⟨rfl,hb2⟩
   go_wp2
   go_ret
   exact⟨rfl,hb2⟩
theorem signedOf_any (n:Int)(w:World)(h1:-9223372036854775808<=n)(h2:n<=9223372036854775807) :
    Calls Tryz.prog 115 #[.int .i64 n] w fun e w'=>e=.returned (.string ⟨(Um.uv (zig n)).toArray⟩)/\Below w.heap.size w w':=by
 have hz:=zig_lt h1 h2
 by_cases h:n<0
 · have HF:Hid (-(n+1)*2+1=(zig n:Int)):=(zig_neg h).symm
   go_enter Tryz.func115,Tryz.ntmps115
   go_wp2_with fail
   rw[HF.out]
   refine (seven_any _ _ hz).mono ?_
   rintro e w2 ⟨rfl,hb2⟩
   go_wp2
   go_ret
   exact⟨rfl,hb2⟩
 · have HF:Hid (n*2=(zig n:Int)):=(zig_pos h).symm
   go_enter Tryz.func115,Tryz.ntmps115
   go_wp2_with fail
   rw[HF.out]
   refine (seven_any _ _ hz).mono ?_
   rintro e w2 ⟨rfl,hb2⟩
   go_wp2
   go_ret
   exact⟨rfl,hb2⟩
theorem widthOf_any (n:Nat)(w:World)(h1:n<18446744073709551616) :
    Calls Tryz.prog 45 #[.int .u64 n] w fun e w'=>e=.returned (.int .i64 (Lib.bitLen n:Nat))/\w'=w:=by
 have hw:=bitLen_64 n
 go_enter Tryz.func45,Tryz.ntmps45
 go_wp2
 go_loop [0,3] (fun x v=>∃m k:Nat,m<18446744073709551616/\x=.int .u64 m/\v=.int .i64 k/\Hid (k+Lib.bitLen m=Lib.bitLen n)) (fun x _=>(intOf x).toNat)
 case atStart=>exact⟨n,0,h1,rfl,rfl,Nat.zero_add _⟩
 case round =>
  obtain⟨m,k,hm,rfl,rfl,HK⟩:=hrel
  have hk:=HK.out
  by_cases h0:0<m
  · have hh:=Lib.bitLen_half m (by omega) (by omega)
    have hkl:k<64:=by omega
    have HK':Hid (k+1+Lib.bitLen (m / 2)=Lib.bitLen n):=by show _=_;omega
    clear hk hh
    go_wp2
    go_round
    case rel=>exact⟨m / 2,k+1,by omega,by go_num,by go_num,HK'⟩
    case measure=>simp[intOf];omega
  · obtain rfl:m=0:=by omega
    have e:Lib.bitLen 0=0:=rfl
    have HE:Hid (k=Lib.bitLen n):=by show _=_;omega
    clear hk e
    go_wp2
    go_ret
    exact⟨by rw[HE.out];rfl,rfl⟩
theorem len_any (n:Nat)(w:World)(h1:n<18446744073709551616) :
    Calls Tryz.prog 99 #[.int .u64 n] w fun e w'=>e=.returned (.int .i64 (Lib.bitLen n:Nat))/\w'=w:=by
 go_enter Tryz.func99,Tryz.ntmps99
 go_wp2_with (go_at_call 133;refine (len64_any n _ h1).mono ?_;rintro e w1 ⟨rfl,hw⟩;obtain rfl:=hw.symm)
 go_ret
 exact⟨rfl,rfl⟩
theorem width_any (n:Nat)(w:World)(h0:0<n)(h1:n<9223372036854775808) :
    Calls Tryz.prog 60 #[.int .i64 n] w fun e w'=>e=.returned (.int .i64 (Lib.bitLen n:Nat))/\w'=w:=by
 go_enter Tryz.func60,Tryz.ntmps60
 go_wp2_with (go_at_call 99;refine (len_any n _ (by omega)).mono ?_;rintro e w1 ⟨rfl,hw⟩;obtain rfl:=hw.symm)
 go_ret
 exact⟨rfl,rfl⟩
theorem width_none (n:Int)(w:World)(h0:n<=0) :
    Calls Tryz.prog 60 #[.int .i64 n] w fun e w'=>e=.returned (.int .i64 0)/\w'=w:=by
 go_enter Tryz.func60,Tryz.ntmps60
 go_wp2
 go_ret
 exact⟨rfl,rfl⟩
end Go.Proofs.YtoeiahdjamkdgaaGreatDoor
