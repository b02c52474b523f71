/-
  math/bits' Len64: how many bits a number takes.
-/
import Derived.Test.YtoeiahdjamkdgaaGreatDoorRows
import Derived.Lib.Strings
import Derived.Lib.Slices
import Derived.Lib.Small
import Derived.Lib.Walk
import Derived.Lib.BitFns
set_option maxRecDepth 100000
set_option maxHeartbeats 4000000
namespace Go.Proofs.YtoeiahdjamkdgaaGreatDoor
theorem bitLen_64 (n:Nat):Lib.bitLen n<=64:=by
 have aux:∀f x,Lib.bitLenAux f x<=f:=by
  intro f
  induction f with
  | zero=>intro x;simp[Lib.bitLenAux]
  | succ f ih=>intro x;simp only[Lib.bitLenAux];split;omega;have:=ih (x / 2);omega
 exact aux 64 n
theorem len_cut (n k:Nat)(b:Int)(hn:n<18446744073709551616)(hk:2 ^ k<=n)(hb:b=((n / 2 ^ k:Nat):Int)):(Lib.bitLen b.toNat:Int)=(Lib.bitLen n:Int)-(k:Int):=by
 rw[Lib.bitLen_shift k n hk (by omega),hb,Int.toNat_natCast]
 omega
theorem len64_int (x:Int)(w:World)(h0:0<=x)(h1:x<=18446744073709551615) :
    Calls Tryz.prog 133 #[.int .u64 x] w fun e w'=>e=.returned (.int .i64 (Lib.bitLen x.toNat))/\w'=w:=by
 go_enter Tryz.func133,Tryz.ntmps133
 go_wp2
 all_goals (go_ret;refine⟨congrArg Ending.returned (congrArg (Value.int IntKind.i64) ?_),rfl⟩;rw[Lib.len8_of _ (by omega) (by omega)])
 all_goals have hw:=bitLen_64 x.toNat
 all_goals first
  | (rw[len_cut x.toNat 56 _ (by omega) (by omega) (by omega)];omega)
  | (rw[len_cut x.toNat 48 _ (by omega) (by omega) (by omega)];omega)
  | (rw[len_cut x.toNat 40 _ (by omega) (by omega) (by omega)];omega)
  | (rw[len_cut x.toNat 32 _ (by omega) (by omega) (by omega)];omega)
  | (rw[len_cut x.toNat 24 _ (by omega) (by omega) (by omega)];omega)
  | (rw[len_cut x.toNat 16 _ (by omega) (by omega) (by omega)];omega)
  | (rw[len_cut x.toNat 8 _ (by omega) (by omega) (by omega)];omega)
  | (rw[show (x % 256).toNat=x.toNat by omega];omega)
theorem len64_any (n:Nat)(w:World)(h1:n<18446744073709551616) :
    Calls Tryz.prog 133 #[.int .u64 n] w fun e w'=>e=.returned (.int .i64 (Lib.bitLen n:Nat))/\w'=w:=len64_int n w (by omega) (by omega)
end Go.Proofs.YtoeiahdjamkdgaaGreatDoor
