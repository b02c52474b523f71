/-
  The plain mathematics of numbers in bytes, 7 bits a byte: no text of the program is named here.
  The remainder of 32 bits, in plain numbers: eight steps a byte; four steps at once by a table of sixteen.
  Numbers in so many bytes, the lowest first, and back: the mathematics, without the program.
  What number bytes begin with, 7 bits a byte: the mathematics, without the program.
  Numbers with a sign as numbers without one, and back: the mathematics, without the program.
  Values as bytes: the mathematics of Plain, without the program.
  Numbers, so many bits each, as one number, and its bytes: the mathematics, without the program.
  The bits of numbers, one by one: the mathematics, without the program.
  Numbers, so many bits each, out of bytes: the mathematics, without the program.
  Parts of runs, and runs, out of bytes: the mathematics, without the program.
  Texts by what they have in common with the one ahead: the mathematics, without the program.
  A number put in bits at a time: the mathematics, without the program.
  A number taken out of bytes bits at a time: the mathematics, without the program.
  Where bits are turned within 32 in a row, the remainder is another one: the mathematics, without the program.
-/
import Derived.WalkKit
namespace Go.Proofs.YtoeiahdjamkdgaaGreatDoor
namespace Um
def bt (n:Int):UInt8:=UInt8.ofNat n.toNat
theorem bt_nat {n:Nat}(h:n<256):(bt n).toNat=n:=by
 unfold bt
 simp only[Int.toNat_natCast,UInt8.toNat_ofNat']
 omega
theorem bt_int {n:Int}(h0:0<=n)(h:n<256):((bt n).toNat:Int)=n:=by
 obtain⟨k,rfl⟩:=Int.eq_ofNat_of_zero_le h0
 rw[bt_nat (by omega)]
def uvf:Nat->Nat->List UInt8
 | 0,n=>[bt n]
 | f+1,n=>if n<128 then [bt n] else bt ((n:Int) % 128+128) :: uvf f (n / 128)
theorem uvf_small (f:Nat){n:Nat}(h:n<128):uvf f n=[bt n]:=by
 cases f with
 | zero=>rfl
 | succ f=>rw[uvf,if_pos h]
theorem uvf_same (f:Nat):∀(g n:Nat),n<=f->n<=g->uvf f n=uvf g n:=by
 induction f with
 | zero=>intro g n h _;rw[uvf_small 0 (by omega),uvf_small g (by omega)]
 | succ f ih =>
  intro g n h1 h2
  by_cases h:n<128
  · rw[uvf_small _ h,uvf_small _ h]
  · cases g with
    | zero=>omega
    | succ g=>rw[uvf,uvf,if_neg h,if_neg h,ih g (n / 128) (by omega) (by omega)]
def uv (n:Nat):List UInt8:=uvf n n
theorem uv_small {n:Nat}(h:n<128):uv n=[bt n]:=uvf_small n h
theorem uv_big {n:Nat}(h:¬ n<128):uv n=bt ((n:Int) % 128+128) :: uv (n / 128):=by
 unfold uv
 cases n with
 | zero=>omega
 | succ m=>rw[uvf,if_neg h,uvf_same m ((m+1) / 128) ((m+1) / 128) (by omega) (Nat.le_refl _)]
theorem uv_len (k:Nat):∀n,n<128 ^ (k+1)->(uv n).length<=k+1:=by
 induction k with
 | zero=>intro n h;rw[uv_small (by simpa using h)];simp
 | succ k ih =>
  intro n h
  by_cases hs:n<128
  · rw[uv_small hs];simp
  · rw[uv_big hs]
    have hd:n / 128<128 ^ (k+1):=by
     apply Nat.div_lt_of_lt_mul
     rw[Nat.pow_succ,Nat.mul_comm] at h
     exact h
    have:=ih _ hd
    simp only[List.length_cons]
    omega
theorem uv_pos (n:Nat):0<(uv n).length:=by
 by_cases h:n<128
 · rw[uv_small h];simp
 · rw[uv_big h];simp
theorem uv_ten {n:Nat}(h:n<18446744073709551616):(uv n).length<=10:=by
 have e:(128:Nat) ^ (9+1)=1180591620717411303424:=by decide
 exact uv_len 9 n (by rw[e];omega)
theorem uv_room {n m:Nat}{l:List UInt8}(hn:n<18446744073709551616)(h:l++uv m=uv n):l.length<=9:=by
 have h1:=uv_ten hn
 have h2:=uv_pos m
 rw[←h,List.length_append] at h1
 omega
theorem uv_end {n m:Nat}{l:List UInt8}(hm:m<128)(h:l++uv m=uv n):l++[bt m]=uv n:=by rw[←h,uv_small hm]
theorem uv_step {n m:Nat}{l:List UInt8}(hm:¬ m<128)(h:l++uv m=uv n):(l++[bt ((m:Int) % 128+128)])++uv (m / 128)=uv n:=by
 rw[←h,uv_big hm];simp
end Um
theorem str_snoc (l:List UInt8)(b:UInt8):(⟨l.toArray⟩:ByteArray)++⟨#[b]⟩=⟨(l++[b]).toArray⟩:=by
 apply ByteArray.ext
 simp
end Go.Proofs.YtoeiahdjamkdgaaGreatDoor
namespace Go.Proofs.YtoeiahdjamkdgaaGreatDoor
namespace Crc
def st (c:Nat):Nat:=if c % 2=1 then c / 2 ^^^ 3988292384 else c / 2
def stn:Nat->Nat->Nat
 | 0,c=>c
 | k+1,c=>st (stn k c)
def byte (c:Nat)(b:UInt8):Nat:=stn 8 (c ^^^ b.toNat)
def bytes (c:Nat)(l:List UInt8):Nat:=l.foldl byte c
def rem (l:List UInt8):Nat:=bytes 4294967295 l ^^^ 4294967295
theorem xor_lt {a b:Nat}(ha:a<4294967296)(hb:b<4294967296):a ^^^ b<4294967296:=Nat.xor_lt_two_pow (n:=32) ha hb
theorem st_lt {c:Nat}(h:c<4294967296):st c<4294967296:=by
 unfold st
 split
 · exact xor_lt (by omega) (by omega)
 · omega
theorem stn_lt (k:Nat){c:Nat}(h:c<4294967296):stn k c<4294967296:=by
 induction k with
 | zero=>exact h
 | succ k ih=>exact st_lt ih
theorem byte_lt {c:Nat}(b:UInt8)(h:c<4294967296):byte c b<4294967296 :=
 stn_lt 8 (xor_lt h (by have:=b.toNat_lt;omega))
theorem bytes_lt (l:List UInt8):∀{c:Nat},c<4294967296->bytes c l<4294967296:=by
 induction l with
 | nil=>exact fun h=>h
 | cons b l ih=>exact fun h=>ih (byte_lt b h)
theorem bytes_snoc (c:Nat)(l:List UInt8)(b:UInt8):bytes c (l++[b])=byte (bytes c l) b:=by simp[bytes]
theorem xor_div2 (a b:Nat):(a ^^^ b) / 2=a / 2 ^^^ b / 2:=by
 simpa [Nat.shiftRight_eq_div_pow] using Nat.shiftRight_xor_distrib (a:=a) (b:=b) (i:=1)
theorem xor_mod2 (a b:Nat):(a ^^^ b) % 2=(a % 2+b % 2) % 2:=by
 have h:=Nat.xor_mod_two_pow (a:=a) (b:=b) (n:=1)
 rw[Nat.pow_one] at h
 rw[h]
 rcases Nat.mod_two_eq_zero_or_one a with h1|h1<;>rcases Nat.mod_two_eq_zero_or_one b with h2|h2<;>rw[h1,h2]<;>rfl
theorem st_xor (a b:Nat):st (a ^^^ b)=st a ^^^ st b:=by
 unfold st
 rw[xor_mod2,xor_div2]
 rcases Nat.mod_two_eq_zero_or_one a with h1|h1<;>rcases Nat.mod_two_eq_zero_or_one b with h2|h2<;>simp only[h1,h2]
 · simp
 · simp[Nat.xor_assoc]
 · simp only[if_true,Nat.zero_ne_one,if_false]
   rw[Nat.xor_assoc,Nat.xor_assoc,Nat.xor_comm (b / 2)]
 · simp only[Nat.reduceAdd,Nat.reduceMod]
   rw[if_neg (by omega),if_pos trivial,if_pos trivial]
   rw[Nat.xor_assoc,Nat.xor_comm 3988292384,Nat.xor_assoc,Nat.xor_self,Nat.xor_zero]
theorem stn_xor (k a b:Nat):stn k (a ^^^ b)=stn k a ^^^ stn k b:=by
 induction k with
 | zero=>rfl
 | succ k ih=>simp only[stn,ih,st_xor]
theorem stn_add (j k c:Nat):stn (j+k) c=stn j (stn k c):=by
 induction j with
 | zero=>simp[stn]
 | succ j ih=>rw[Nat.add_right_comm];simp only[stn,ih]
theorem st_even (c:Nat):st (2*c)=c:=by
 unfold st
 rw[if_neg (by omega)]
 omega
theorem stn_up (k:Nat):∀c,stn k (2 ^ k*c)=c:=by
 induction k with
 | zero=>simp[stn]
 | succ k ih =>
  intro c
  rw[Nat.add_comm,stn_add,show 2 ^ (1+k)*c=2 ^ k*(2*c) by rw[Nat.add_comm,Nat.pow_succ];simp[Nat.mul_assoc],ih]
  exact st_even c
theorem four (c:Nat):stn 4 c=c / 16 ^^^ stn 4 (c % 16):=by
 have h:c=(16*(c / 16)) ^^^ (c % 16):=by
  have h2:(16*(c / 16)) ^^^ (c % 16)=16*(c / 16)+c % 16:=by
   apply Nat.eq_of_testBit_eq
   intro i
   have e:=Nat.testBit_two_pow_mul_add (c / 16) (i:=4) (b:=c % 16) (by omega) i
   rw[show (2:Nat) ^ 4=16 by rfl] at e
   rw[e,Nat.testBit_xor]
   have e2:=Nat.testBit_two_pow_mul (i:=4) (a:=c / 16) (j:=i)
   rw[show (2:Nat) ^ 4=16 by rfl] at e2
   rw[e2]
   by_cases hi:i<4
   · simp[hi,Nat.not_le.2 hi]
   · have h3:(c % 16).testBit i=false:=Nat.testBit_lt_two_pow (Nat.lt_of_lt_of_le (show c % 16<2 ^ 4 by omega) (Nat.pow_le_pow_right (by omega) (by omega)))
     simp[hi,Nat.not_lt.1 hi,h3]
  omega
 have h4:=stn_up 4 (c / 16)
 rw[show (2:Nat) ^ 4=16 by rfl] at h4
 conv=>lhs;rw[h]
 rw[stn_xor,h4]
theorem byte_four (c:Nat)(b:UInt8):byte c b=stn 4 (stn 4 (c ^^^ b.toNat)):=by unfold byte;rw[←stn_add]
end Crc
end Go.Proofs.YtoeiahdjamkdgaaGreatDoor
namespace Go.Proofs.YtoeiahdjamkdgaaGreatDoor
namespace Um
def by_ (n j:Nat):Nat:=n / 2 ^ (8*j) % 256
theorem by_lt (n j:Nat):by_ n j<256:=Nat.mod_lt _ (by omega)
def lit (n k:Nat):List UInt8:=(List.range k).map fun j=>bt (by_ n j:Nat)
theorem lit_len (n k:Nat):(lit n k).length=k:=by simp[lit]
theorem lit_succ (n k:Nat):lit n (k+1)=lit n k++[bt (by_ n k:Nat)]:=by simp[lit,List.range_succ]
theorem lit_get (n k j:Nat)(h:j<k):(lit n k)[j]'(by rw[lit_len];exact h)=bt (by_ n j:Nat):=by simp[lit]
theorem pow_step (j:Nat):2 ^ (8*(j+1))=2 ^ (8*j)*256:=by rw[show 8*(j+1)=8*j+8 by omega,Nat.pow_add]
theorem div_step (n j:Nat):n / 2 ^ (8*j) / 256=n / 2 ^ (8*(j+1)):=by rw[pow_step,Nat.div_div_eq_div_mul]
def lev:List UInt8->Nat
 | []=>0
 | b :: l=>b.toNat+256*lev l
theorem lev_lt (l:List UInt8):lev l<2 ^ (8*l.length):=by
 induction l with
 | nil=>simp[lev]
 | cons b l ih =>
  have:=b.toNat_lt
  simp only[lev,List.length_cons,pow_step]
  omega
theorem lev_snoc (l:List UInt8)(b:UInt8):lev (l++[b])=lev l+b.toNat*2 ^ (8*l.length):=by
 induction l with
 | nil=>simp[lev]
 | cons c l ih =>
  simp only[List.cons_append,lev,ih,List.length_cons,pow_step]
  rw[Nat.mul_add,Nat.mul_comm 256 (b.toNat*_),Nat.mul_assoc]
  omega
theorem lev_eight {l:List UInt8}(h:l.length<=8):lev l<18446744073709551616 :=
 Nat.lt_of_lt_of_le (lev_lt l) (Nat.le_trans (Nat.pow_le_pow_right (by omega) (show 8*l.length<=64 by omega)) (by decide))
theorem or_high {n b i:Nat}(h:n<2 ^ (8*i)):n ||| (b*2 ^ (8*i))=n+b*2 ^ (8*i):=by
 rw[Nat.or_comm,Nat.mul_comm,←Nat.two_pow_add_eq_or_of_lt h,Nat.add_comm]
theorem high_lt {b i:Nat}(hb:b<256)(hi:i<8):b*2 ^ (8*i)<18446744073709551616 :=
 Nat.lt_of_le_of_lt (Nat.mul_le_mul (show b<=255 by omega) (Nat.pow_le_pow_right (by omega) (show 8*i<=56 by omega))) (by decide)
end Um
end Go.Proofs.YtoeiahdjamkdgaaGreatDoor
namespace Go.Proofs.YtoeiahdjamkdgaaGreatDoor
namespace Um
def rdv:List UInt8->Nat->Nat->Nat × Nat
 | [],_,_=>(0,0)
 | b :: r,i,n =>
  if 10<=i then (0,0)
  else if b.toNat<128 then (if (b.toNat=0/\0<i)\/(i=9/\1<b.toNat) then (0,0) else (n+b.toNat*2 ^ (7*i),i+1))
  else rdv r (i+1) (n+b.toNat % 128*2 ^ (7*i))
theorem rdv_ten (l:List UInt8){i:Nat}(n:Nat)(h:10<=i):rdv l i n=(0,0):=by
 cases l with
 | nil=>rfl
 | cons b r=>simp[rdv,h]
theorem rdv_end {b:UInt8}{r:List UInt8}{i n:Nat}(hi:i<10)(hb:b.toNat<128)(hw:¬ ((b.toNat=0/\0<i)\/(i=9/\1<b.toNat))):rdv (b :: r) i n=(n+b.toNat*2 ^ (7*i),i+1):=by
 rw[rdv,if_neg (by omega),if_pos hb,if_neg hw]
theorem rdv_bad {b:UInt8}{r:List UInt8}{i n:Nat}(hb:b.toNat<128)(hw:(b.toNat=0/\0<i)\/(i=9/\1<b.toNat)):rdv (b :: r) i n=(0,0):=by
 by_cases hi:10<=i
 · exact rdv_ten _ _ hi
 · rw[rdv,if_neg hi,if_pos hb,if_pos hw]
theorem rdv_more {b:UInt8}{r:List UInt8}{i n:Nat}(hi:i<10)(hb:¬ b.toNat<128):rdv (b :: r) i n=rdv r (i+1) (n+b.toNat % 128*2 ^ (7*i)):=by
 rw[rdv,if_neg (by omega),if_neg hb]
theorem rdv_room (l:List UInt8):∀(i n:Nat),n<2 ^ (7*i)->(rdv l i n).1<18446744073709551616/\(rdv l i n).2<=10/\(rdv l i n).2<=i+l.length:=by
 induction l with
 | nil=>intro i n _;simp[rdv]
 | cons b r ih =>
  intro i n hn
  by_cases hi:10<=i
  · rw[rdv_ten _ _ hi];simp
  · by_cases hb:b.toNat<128
    · by_cases hw:(b.toNat=0/\0<i)\/(i=9/\1<b.toNat)
      · rw[rdv_bad hb hw];simp
      · rw[rdv_end (by omega) hb hw]
        refine⟨?_,by show i+1<=10;omega,by show i+1<=i+(b :: r).length;simp⟩
        have h7:b.toNat*2 ^ (7*i)+2 ^ (7*i)<=18446744073709551616:=by
         have h8:(b.toNat+1)*2 ^ (7*i)<=18446744073709551616:=by
          by_cases h9:i=9
          · subst h9
            have:b.toNat<=1:=by omega
            exact Nat.le_trans (Nat.mul_le_mul_right _ (show b.toNat+1<=2 by omega)) (by decide)
          · exact Nat.le_trans (Nat.mul_le_mul (show b.toNat+1<=128 by omega) (Nat.pow_le_pow_right (by omega) (show 7*i<=56 by omega))) (by decide)
         rw[Nat.add_mul] at h8
         omega
        show n+b.toNat*2 ^ (7*i)<18446744073709551616
        omega
    · rw[rdv_more (by omega) hb]
      have hn':n+b.toNat % 128*2 ^ (7*i)<2 ^ (7*(i+1)):=by
       have e:2 ^ (7*(i+1))=128*2 ^ (7*i):=by rw[show 7*(i+1)=7+7*i by omega,Nat.pow_add]
       have h8:(b.toNat % 128+1)*2 ^ (7*i)<=128*2 ^ (7*i):=Nat.mul_le_mul_right _ (by omega)
       rw[Nat.add_mul] at h8
       omega
      have:=ih (i+1) _ hn'
      refine⟨this.1,this.2.1,?_⟩
      have h3:=this.2.2
      simp only[List.length_cons]
      omega
theorem rdv_uv (k:Nat):∀(n i m:Nat) (r:List UInt8),(uv n).length=k->n*2 ^ (7*i)<18446744073709551616->i<10->(0<i->0<n)->rdv (uv n++r) i m=(m+n*2 ^ (7*i),i+(uv n).length):=by
 induction k with
 | zero=>intro n i m r h;have:=uv_pos n;omega
 | succ k ih =>
  intro n i m r hk hn hi h0
  have hb0:0<2 ^ (7*i):=Nat.pos_of_ne_zero (by simp)
  by_cases hs:n<128
  · have e:(bt (n:Int)).toNat=n:=bt_nat (by omega)
    rw[uv_small hs,List.cons_append,rdv_end hi (by rw[e];exact hs),e]
    · rfl
    · rw[e]
      rintro (⟨h1,h2⟩|⟨h1,h2⟩)
      · have:=h0 h2;omega
      · subst h1
        have:2*2 ^ (7*9)<=n*2 ^ (7*9):=Nat.mul_le_mul_right _ (by omega)
        have h3:2*2 ^ (7*9)=18446744073709551616:=by decide
        omega
  · have e : (bt ((n : Int) % 128 + 128)).toNat = n % 128 + 128 := by
      have:=bt_nat (n:=n % 128+128) (by omega)
      rw[←this]
      congr 2
    rw[uv_big hs] at hk ⊢
    rw[List.cons_append,rdv_more hi (by rw[e];omega),e]
    have hp:2 ^ (7*(i+1))=128*2 ^ (7*i):=by rw[show 7*(i+1)=7+7*i by omega,Nat.pow_add]
    have hq:n / 128*(128*2 ^ (7*i))+n % 128*2 ^ (7*i)=n*2 ^ (7*i):=by
     rw[←Nat.mul_assoc,←Nat.add_mul]
     congr 1
     omega
    have hi2:i+1<10:=by
     by_cases h9:i=9
     · subst h9
       have:128*2 ^ (7*9)<=n*2 ^ (7*9):=Nat.mul_le_mul_right _ (by omega)
       have h3:128*2 ^ (7*9)=1180591620717411303424:=by decide
       omega
     · omega
    rw[ih (n / 128) (i+1) _ r (by simpa using hk) (by rw[hp];omega) hi2 (by omega),hp]
    refine Prod.ext ?_ ?_
    · show m+(n % 128+128) % 128*2 ^ (7*i)+n / 128*(128*2 ^ (7*i))=m+n*2 ^ (7*i)
      rw[show (n % 128+128) % 128=n % 128 by omega]
      omega
    · show i+1+(uv (n / 128)).length=i+((uv (n / 128)).length+1)
      omega
theorem rdv_whole (n:Nat)(r:List UInt8)(h:n<18446744073709551616):rdv (uv n++r) 0 0=(n,(uv n).length):=by
 rw[rdv_uv _ n 0 0 r rfl (by simpa using h) (by omega) (fun h=>absurd h (Nat.lt_irrefl _))]
 simp
end Um
end Go.Proofs.YtoeiahdjamkdgaaGreatDoor
namespace Go.Proofs.YtoeiahdjamkdgaaGreatDoor
def zig (n:Int):Nat:=if n<0 then (-(n+1)*2+1).toNat else (n*2).toNat
theorem zig_neg {n:Int}(h:n<0):((zig n:Nat):Int)=-(n+1)*2+1:=by unfold zig;rw[if_pos h];omega
theorem zig_pos {n:Int}(h:¬ n<0):((zig n:Nat):Int)=n*2:=by unfold zig;rw[if_neg h];omega
theorem zig_lt {n:Int}(h1:-9223372036854775808<=n)(h2:n<=9223372036854775807):zig n<18446744073709551616:=by
 unfold zig;split<;>omega
def unz (n:Nat):Int:=if n % 2=1 then -1-((n / 2:Nat):Int) else ((n / 2:Nat):Int)
theorem unz_zig (n:Int):unz (zig n)=n:=by
 unfold unz zig
 by_cases h:n<0
 · rw[if_pos h,if_pos (by omega)];omega
 · rw[if_neg h,if_neg (by omega)];omega
end Go.Proofs.YtoeiahdjamkdgaaGreatDoor
namespace Go.Proofs.YtoeiahdjamkdgaaGreatDoor
namespace Um
def u64 (n:Int):Nat:=(n % 18446744073709551616).toNat
theorem u64_lt (n:Int):u64 n<18446744073709551616:=by unfold u64;omega
theorem u64_int (n:Int):((u64 n:Nat):Int)=n % 18446744073709551616:=by unfold u64;omega
theorem by_u64 (n:Int)(j:Nat)(hj:j<8):n / 2 ^ (8*j) % 256=((by_ (u64 n) j:Nat):Int):=by
 unfold by_
 have h:j=0\/j=1\/j=2\/j=3\/j=4\/j=5\/j=6\/j=7:=by omega
 have hu:=u64_int n
 rcases h with rfl|rfl|rfl|rfl|rfl|rfl|rfl|rfl<;>simp<;>omega
def nums (k:Nat)(ns:List Int):List UInt8:=ns.flatMap fun n=>lit (u64 n) k
theorem nums_len (k:Nat)(ns:List Int):(nums k ns).length=k*ns.length:=by
 induction ns with
 | nil=>simp[nums]
 | cons n ns ih=>simp only[nums,List.flatMap_cons,List.length_append,lit_len,List.length_cons] at *;rw[ih,Nat.mul_add];omega
theorem nums_snoc (k:Nat)(ns:List Int)(n:Int):nums k (ns++[n])=nums k ns++lit (u64 n) k:=by simp[nums]
theorem nums_take (k:Nat)(ns:List Int)(i:Nat)(h:i<ns.length):nums k (ns.take (i+1))=nums k (ns.take i)++lit (u64 ns[i]) k:=by
 rw[List.take_succ_eq_append_getElem h,nums_snoc]
def txt (s:List UInt8):List UInt8:=uv s.length++s
def txts (ss:List (List UInt8)):List UInt8:=ss.flatMap txt
theorem txts_snoc (ss:List (List UInt8))(s:List UInt8):txts (ss++[s])=txts ss++txt s:=by simp[txts]
theorem txts_take (ss:List (List UInt8))(i:Nat)(h:i<ss.length):txts (ss.take (i+1))=txts (ss.take i)++txt ss[i]:=by
 rw[List.take_succ_eq_append_getElem h,txts_snoc]
theorem txt_len (s:List UInt8)(h:s.length<18446744073709551616):(txt s).length<=s.length+10:=by
 have:=uv_ten h
 simp[txt];omega
theorem txts_len (ss:List (List UInt8))(h:∀s∈ss,s.length<=100):(txts ss).length<=110*ss.length:=by
 induction ss with
 | nil=>simp[txts]
 | cons s ss ih =>
  have h1:=ih fun t ht=>h t (by simp[ht])
  have h2:=h s (by simp)
  have h3:=txt_len s (by omega)
  simp only[txts,List.flatMap_cons,List.length_append,List.length_cons] at *
  omega
end Um
end Go.Proofs.YtoeiahdjamkdgaaGreatDoor
namespace Go.Proofs.YtoeiahdjamkdgaaGreatDoor
namespace Um
def num (w:Nat):List Nat->Nat
 | []=>0
 | x :: l=>x+2 ^ w*num w l
theorem num_snoc (w:Nat)(l:List Nat)(x:Nat):num w (l++[x])=num w l+x*2 ^ (w*l.length):=by
 induction l with
 | nil=>simp[num]
 | cons y l ih =>
  simp only[List.cons_append,num,ih,List.length_cons,Nat.mul_add,Nat.mul_one,Nat.pow_add]
  rw[Nat.mul_left_comm (2 ^ w) x,Nat.mul_comm (2 ^ w) (2 ^ (w*l.length))]
  omega
theorem num_take (w:Nat)(l:List Nat)(k:Nat)(h:k<l.length):num w (l.take (k+1))=num w (l.take k)+l[k]*2 ^ (w*k):=by
 rw[List.take_succ_eq_append_getElem h,num_snoc,List.length_take,Nat.min_eq_left (by omega)]
theorem num_lt (w:Nat)(l:List Nat)(h:∀x∈l,x<2 ^ w):num w l<2 ^ (w*l.length):=by
 induction l with
 | nil=>simp[num]
 | cons y l ih =>
  have h1:=ih (fun x hx=>h x (List.mem_cons_of_mem _ hx))
  have h2:=h y (List.mem_cons_self ..)
  simp only[num,List.length_cons,Nat.mul_add,Nat.mul_one,Nat.pow_add]
  rw[Nat.mul_comm (2 ^ (w*l.length))]
  have:2 ^ w*(num w l+1)<=2 ^ w*2 ^ (w*l.length):=Nat.mul_le_mul_left _ h1
  rw[Nat.mul_add,Nat.mul_one] at this
  omega
theorem num_take_lt (w:Nat)(l:List Nat)(k:Nat)(h:∀x∈l,x<2 ^ w)(hk:k<=l.length):num w (l.take k)<2 ^ (w*k):=by
 have:=num_lt w (l.take k) (fun x hx=>h x (List.mem_of_mem_take hx))
 rwa [List.length_take,Nat.min_eq_left hk] at this
theorem above_add (n x b q:Nat)(h:8*q<=b):(n+x*2 ^ b) / 2 ^ (8*q)=n / 2 ^ (8*q)+x*2 ^ (b-8*q):=by
 have e:x*2 ^ b=x*2 ^ (b-8*q)*2 ^ (8*q):=by rw[Nat.mul_assoc,←Nat.pow_add,Nat.sub_add_cancel h]
 rw[e,Nat.add_mul_div_right _ _ (Nat.two_pow_pos _)]
theorem above_lt {n b q:Nat}(hn:n<2 ^ b)(h:8*q<=b):n / 2 ^ (8*q)<2 ^ (b-8*q):=by
 rw[Nat.div_lt_iff_lt_mul (Nat.two_pow_pos _),←Nat.pow_add,Nat.sub_add_cancel h]
 exact hn
theorem or_above {r x h:Nat}(hr:r<2 ^ h):r ||| (x*2 ^ h)=r+x*2 ^ h:=by
 rw[Nat.or_comm,Nat.mul_comm,←Nat.two_pow_add_eq_or_of_lt hr,Nat.add_comm]
theorem by_add (n x b j:Nat)(h:8*(j+1)<=b):by_ (n+x*2 ^ b) j=by_ n j:=by
 unfold by_
 rw[above_add n x b j (by omega)]
 have e:2 ^ (b-8*j)=2 ^ (b-8*(j+1))*256:=by
  rw[show (256:Nat)=2 ^ 8 by rfl,←Nat.pow_add];congr 1;omega
 rw[e,←Nat.mul_assoc,Nat.add_mul_mod_self_right]
theorem lit_add (n x b q:Nat)(h:8*q<=b):lit (n+x*2 ^ b) q=lit n q:=by
 unfold lit
 apply List.map_congr_left
 intro j hj
 have hj:=List.mem_range.1 hj
 rw[by_add n x b j (by omega)]
theorem lit_zeros (n q k:Nat)(h:n<2 ^ (8*q)):lit n (q+k)=lit n q++List.replicate k 0:=by
 induction k with
 | zero=>simp
 | succ k ih =>
  rw[←Nat.add_assoc,lit_succ,ih,List.replicate_succ',List.append_assoc]
  congr 1
  congr 1
  have:by_ n (q+k)=0:=by
   unfold by_
   rw[Nat.div_eq_of_lt (Nat.lt_of_lt_of_le h (Nat.pow_le_pow_right (by omega) (by omega)))]
  rw[this];rfl
end Um
end Go.Proofs.YtoeiahdjamkdgaaGreatDoor
namespace Go.Proofs.YtoeiahdjamkdgaaGreatDoor
namespace Um
theorem num_drop (w:Nat):∀(i:Nat) (l:List Nat),(∀x∈l,x<2 ^ w)->num w l / 2 ^ (w*i)=num w (l.drop i)
 | 0,l,_=>by simp
 | i+1,[],_=>by simp[num]
 | i+1,x :: l,h=>by
  have h1:=num_drop w i l (fun y hy=>h y (List.mem_cons_of_mem _ hy))
  have hx:=h x (List.mem_cons_self ..)
  rw[List.drop_succ_cons,←h1,num,Nat.mul_add,Nat.mul_one,Nat.add_comm (w*i),Nat.pow_add,←Nat.div_div_eq_div_mul,Nat.add_mul_div_left _ _ (Nat.two_pow_pos w),Nat.div_eq_of_lt hx,Nat.zero_add]
theorem num_at (w:Nat)(l:List Nat)(i:Nat)(hi:i<l.length)(h:∀x∈l,x<2 ^ w):∃M,num w l / 2 ^ (w*i)=l[i]+2 ^ w*M:=by
 rw[num_drop w i l h,List.drop_eq_getElem_cons hi]
 exact⟨_,rfl⟩
theorem bit_at (w:Nat)(l:List Nat)(i k:Nat)(hi:i<l.length)(hk:k<w)(h:∀x∈l,x<2 ^ w):num w l / 2 ^ (w*i+k) % 2=l[i] / 2 ^ k % 2:=by
 obtain⟨M,hM⟩:=num_at w l i hi h
 rw[Nat.pow_add,←Nat.div_div_eq_div_mul,hM]
 have e:2 ^ w*M=2 ^ k*(2*(2 ^ (w-k-1)*M)):=by
  rw[←Nat.mul_assoc,←Nat.mul_assoc,←Nat.pow_succ,←Nat.pow_add,show k+1+(w-k-1)=w by omega]
 rw[e,Nat.add_mul_div_left _ _ (Nat.two_pow_pos k),Nat.add_mul_mod_self_left]
theorem num_get (w:Nat)(l:List Nat)(i:Nat)(hi:i<l.length)(h:∀x∈l,x<2 ^ w):num w l / 2 ^ (w*i) % 2 ^ w=l[i]:=by
 obtain⟨M,hM⟩:=num_at w l i hi h
 rw[hM,Nat.add_mul_mod_self_left,Nat.mod_eq_of_lt (h _ (List.getElem_mem hi))]
def bitl (N m:Nat):List UInt8:=(List.range m).map fun j=>bt ((N / 2 ^ j % 2:Nat):Int)
theorem bitl_len (N m:Nat):(bitl N m).length=m:=by simp[bitl]
theorem bitl_succ (N m:Nat):bitl N (m+1)=bitl N m++[bt ((N / 2 ^ m % 2:Nat):Int)]:=by simp[bitl,List.range_succ]
theorem bitl_get (N m j:Nat)(h:j<m):(bitl N m)[j]'(by rw[bitl_len];exact h)=bt ((N / 2 ^ j % 2:Nat):Int):=by simp[bitl]
theorem mod_step (x k:Nat):x % 2 ^ (k+1)=x % 2 ^ k+x / 2 ^ k % 2*2 ^ k:=by
 rw[Nat.pow_succ,Nat.mod_mul,Nat.mul_comm (2 ^ k)]
theorem by_end {N q k:Nat}(h:N<2 ^ (8*q+k))(hk:k<=8):N / 2 ^ (8*q) % 2 ^ k=by_ N q:=by
 have h1:N / 2 ^ (8*q)<2 ^ k:=by
  rw[Nat.div_lt_iff_lt_mul (Nat.two_pow_pos _),←Nat.pow_add,Nat.add_comm k];exact h
 have h2:2 ^ k<=2 ^ 8:=Nat.pow_le_pow_right (by omega) hk
 unfold by_
 rw[Nat.mod_eq_of_lt h1,Nat.mod_eq_of_lt (show N / 2 ^ (8*q)<256 by have:2 ^ 8=256:=rfl;omega)]
end Um
end Go.Proofs.YtoeiahdjamkdgaaGreatDoor
namespace Go.Proofs.YtoeiahdjamkdgaaGreatDoor
namespace Um
theorem lev_num (l:List UInt8):lev l=num 8 (l.map UInt8.toNat):=by
 induction l with
 | nil=>rfl
 | cons b l ih=>simp only[lev,List.map_cons,num,ih]
theorem lev_take (l:List UInt8)(k:Nat)(h:k<l.length):lev (l.take (k+1))=lev (l.take k)+l[k].toNat*2 ^ (8*k):=by
 rw[List.take_succ_eq_append_getElem h,lev_snoc,List.length_take,Nat.min_eq_left (by omega)]
theorem lev_take_lt (l:List UInt8)(k:Nat)(h:k<=l.length):lev (l.take k)<2 ^ (8*k):=by
 have:=lev_lt (l.take k)
 rwa [List.length_take,Nat.min_eq_left h] at this
theorem lev_split (l:List UInt8)(k:Nat)(h:k<=l.length):∃M,lev l=lev (l.take k)+2 ^ (8*k)*M:=by
 induction l generalizing k with
 | nil=>exact⟨0,by simp[lev]⟩
 | cons b l ih =>
  cases k with
  | zero=>exact⟨lev (b :: l),by simp[lev]⟩
  | succ k =>
   obtain⟨M,hM⟩:=ih k (by simpa using h)
   refine⟨M,?_⟩
   rw[List.take_succ_cons,lev,lev,hM,pow_step,Nat.mul_add,Nat.mul_right_comm,Nat.mul_comm 256 (2 ^ (8*k)*M)]
   omega
theorem add_above (n x b c:Nat)(h:c<=b):(n+x*2 ^ b) / 2 ^ c=n / 2 ^ c+x*2 ^ (b-c):=by
 have e:x*2 ^ b=x*2 ^ (b-c)*2 ^ c:=by rw[Nat.mul_assoc,←Nat.pow_add,Nat.sub_add_cancel h]
 rw[e,Nat.add_mul_div_right _ _ (Nat.two_pow_pos _)]
theorem div_lt_pow {n b c:Nat}(hn:n<2 ^ b)(h:c<=b):n / 2 ^ c<2 ^ (b-c):=by
 rw[Nat.div_lt_iff_lt_mul (Nat.two_pow_pos _),←Nat.pow_add,Nat.sub_add_cancel h]
 exact hn
theorem lev_cut (l:List UInt8)(q c w:Nat)(hq:q<=l.length)(h:c+w<=8*q):lev (l.take q) / 2 ^ c % 2 ^ w=lev l / 2 ^ c % 2 ^ w:=by
 obtain⟨M,hM⟩:=lev_split l q hq
 have e:2 ^ (8*q)*M=2 ^ w*(2 ^ (8*q-c-w)*M)*2 ^ c:=by
  rw[←Nat.mul_assoc,←Nat.pow_add,Nat.mul_right_comm,←Nat.pow_add,show w+(8*q-c-w)+c=8*q by omega]
 rw[hM,e,Nat.add_mul_div_right _ _ (Nat.two_pow_pos _),Nat.add_mul_mod_self_left]
def unp (l:List UInt8)(w n:Nat):List Nat:=(List.range n).map fun i=>lev l / 2 ^ (w*i) % 2 ^ w
theorem unp_len (l:List UInt8)(w n:Nat):(unp l w n).length=n:=by simp[unp]
theorem unp_get (l:List UInt8)(w n i:Nat)(h:i<n):(unp l w n)[i]'(by rw[unp_len];exact h)=lev l / 2 ^ (w*i) % 2 ^ w:=by simp[unp]
theorem unp_succ (l:List UInt8)(w n:Nat):unp l w (n+1)=unp l w n++[lev l / 2 ^ (w*n) % 2 ^ w]:=by simp[unp,List.range_succ]
theorem unp_lt (l:List UInt8)(w n:Nat):∀x∈unp l w n,x<2 ^ w:=by
 intro x hx
 obtain⟨i,_,rfl⟩:=List.mem_map.1 hx
 exact Nat.mod_lt _ (Nat.two_pow_pos w)
theorem lev_lit (n k:Nat):lev (lit n k)=n % 2 ^ (8*k):=by
 induction k with
 | zero=>simp[lit,lev,Nat.mod_one]
 | succ k ih =>
  have hb:=by_lt n k
  rw[lit_succ,lev_snoc,ih,lit_len,pow_step,Nat.mod_mul,Nat.mul_comm (2 ^ (8*k))]
  rw[bt_nat hb];rfl
end Um
end Go.Proofs.YtoeiahdjamkdgaaGreatDoor
namespace Go.Proofs.YtoeiahdjamkdgaaGreatDoor
namespace Um
def same (l:List UInt8)(w c left:Nat):Option (List Nat × Nat) :=
 if (0<c/\c<=left)/\((w+7) / 8<=l.length/\lev (l.take ((w+7) / 8))<2 ^ w) then some (List.replicate c (lev (l.take ((w+7) / 8))),(w+7) / 8) else none
def grps (l:List UInt8)(w c left:Nat):Option (List Nat × Nat) :=
 if (0<c/\c<=(left+7) / 8)/\(c*w<=l.length/\∀x∈(unp l w (8*c)).drop left,x=0) then some ((unp l w (8*c)).take left,c*w) else none
def part (l:List UInt8)(w left:Nat):Option (List Nat × Nat) :=
 if (rdv l 0 0).2=0 then none
 else (if (rdv l 0 0).1 % 2=0 then same (l.drop (rdv l 0 0).2) w ((rdv l 0 0).1 / 2) left else grps (l.drop (rdv l 0 0).2) w ((rdv l 0 0).1 / 2) left).map fun p=>(p.1,(rdv l 0 0).2+p.2)
theorem same_len {l:List UInt8}{w c left:Nat}{p:List Nat × Nat}(h:same l w c left=some p):(0<p.1.length/\p.1.length<=left)/\p.2<=l.length:=by
 unfold same at h
 split at h
 · rename_i hc
   obtain rfl:=Option.some.inj h
   simp
   omega
 · cases h
theorem grps_len {l:List UInt8}{w c left:Nat}{p:List Nat × Nat}(hl:0<left)(h:grps l w c left=some p):(0<p.1.length/\p.1.length<=left)/\p.2<=l.length:=by
 unfold grps at h
 split at h
 · rename_i hc
   obtain rfl:=Option.some.inj h
   simp[unp_len]
   omega
 · cases h
theorem part_len {l:List UInt8}{w left:Nat}{p:List Nat × Nat}(hl:0<left)(h:part l w left=some p):(0<p.1.length/\p.1.length<=left)/\p.2<=l.length:=by
 have hr:=(rdv_room l 0 0 (by simp)).2.2
 unfold part at h
 split at h
 · cases h
 · obtain⟨q,hq,rfl⟩:=Option.map_eq_some_iff.1 h
   have:(0<q.1.length/\q.1.length<=left)/\q.2<=(l.drop (rdv l 0 0).2).length:=by
    split at hq
    · exact same_len hq
    · exact grps_len hl hq
   rw[List.length_drop] at this
   simp only
   omega
def rds:Nat->List UInt8->Nat->Nat->Option (List Nat × Nat)
 | 0,_,_,_=>some ([],0)
 | f+1,l,w,left=>if left=0 then some ([],0) else (part l w left).bind fun p=>(rds f (l.drop p.2) w (left-p.1.length)).map fun q=>(p.1++q.1,p.2+q.2)
theorem rds_fuel (w:Nat):∀(f g:Nat) (l:List UInt8) (left:Nat),left<=f->left<=g->rds f l w left=rds g l w left:=by
 intro f
 induction f with
 | zero =>
  intro g l left hf hg
  obtain rfl:left=0:=by omega
  cases g<;>simp[rds]
 | succ f ih =>
  intro g l left hf hg
  cases g with
  | zero =>
   obtain rfl:left=0:=by omega
   simp[rds]
  | succ g =>
   unfold rds
   split
   · rfl
   · rename_i h0
     cases hp:part l w left with
     | none=>rfl
     | some p =>
      have hl:=part_len (by omega) hp
      simp only[Option.bind_some]
      rw[ih g (l.drop p.2) (left-p.1.length) (by omega) (by omega)]
def runs (l:List UInt8)(w n:Nat):Option (List Nat × Nat):=rds n l w n
theorem runs_zero (l:List UInt8)(w:Nat):runs l w 0=some ([],0):=rfl
theorem runs_step (l:List UInt8)(w n:Nat)(hn:0<n):runs l w n=(part l w n).bind fun p=>(runs (l.drop p.2) w (n-p.1.length)).map fun q=>(p.1++q.1,p.2+q.2):=by
 obtain⟨m,rfl⟩:∃m,n=m+1:=⟨n-1,by omega⟩
 unfold runs
 rw[rds,if_neg (by omega)]
 cases hp:part l w (m+1) with
 | none=>rfl
 | some p =>
  have hl:=part_len (by omega) hp
  simp only[Option.bind_some]
  rw[rds_fuel w m (m+1-p.1.length) _ _ (by omega) (Nat.le_refl _)]
def Sofar (l:List UInt8)(w n:Nat)(acc:List Nat)(at_:Nat):Prop :=
 runs l w n=(runs (l.drop at_) w (n-acc.length)).map fun q=>(acc++q.1,at_+q.2)
theorem sofar_zero (l:List UInt8)(w n:Nat):Sofar l w n [] 0:=by
 unfold Sofar
 cases h:runs l w n<;>simp[h]
theorem sofar_step {l:List UInt8}{w n:Nat}{acc:List Nat}{at_:Nat}{p:List Nat × Nat}(h:Sofar l w n acc at_)(hn:acc.length<n)(hp:part (l.drop at_) w (n-acc.length)=some p):Sofar l w n (acc++p.1) (at_+p.2):=by
 unfold Sofar at h ⊢
 rw[h,runs_step _ _ _ (by omega),hp]
 simp only[Option.bind_some,List.drop_drop,List.length_append,Nat.sub_sub,Option.map_map]
 congr 1
 funext q
 simp[List.append_assoc,Nat.add_assoc]
theorem sofar_none {l:List UInt8}{w n:Nat}{acc:List Nat}{at_:Nat}(h:Sofar l w n acc at_)(hn:acc.length<n)(hp:part (l.drop at_) w (n-acc.length)=none):runs l w n=none:=by
 unfold Sofar at h
 rw[h,runs_step _ _ _ (by omega),hp]
 rfl
theorem sofar_end {l:List UInt8}{w n:Nat}{acc:List Nat}{at_:Nat}(h:Sofar l w n acc at_)(hn:acc.length=n):runs l w n=some (acc,at_):=by
 unfold Sofar at h
 rw[h,hn,Nat.sub_self,runs_zero]
 simp
end Um
end Go.Proofs.YtoeiahdjamkdgaaGreatDoor
namespace Go.Proofs.YtoeiahdjamkdgaaGreatDoor
namespace Um
def lcp:List UInt8->List UInt8->Nat
 | a :: x,b :: y=>if a=b then lcp x y+1 else 0
 | _,_=>0
theorem lcp_le:∀(x y:List UInt8),lcp x y<=x.length/\lcp x y<=y.length
 | [],_=>by simp[lcp]
 | _ :: _,[]=>by simp[lcp]
 | a :: x,b :: y=>by
  have:=lcp_le x y
  unfold lcp
  split<;>simp<;>omega
theorem lcp_eq:∀(x y:List UInt8) (k:Nat),k<=x.length->k<=y.length->x.take k=y.take k->(k=x.length\/k=y.length\/x[k]?≠y[k]?)->lcp x y=k
 | [], y, k, h1, _, _, _ => by have : k = 0 := by simpa using h1
                               subst this;unfold lcp;rfl
 | a :: x, [], k, _, h2, _, _ => by have : k = 0 := by simpa using h2
                                    subst this;unfold lcp;rfl
 | a :: x,b :: y,0,_,_,_,h=>by
  have hab:a≠b:=by
   rcases h with h|h|h
   · simp at h
   · simp at h
   · intro e;subst e;exact h (by simp)
  unfold lcp
  rw[if_neg hab]
 | a :: x,b :: y,k+1,h1,h2,ht,h=>by
  simp only[List.take_succ_cons,List.cons.injEq] at ht
  have ih:=lcp_eq x y k (by simpa using h1) (by simpa using h2) ht.2 (by simpa using h)
  unfold lcp
  rw[if_pos ht.1,ih]
theorem lcp_take:∀(x y:List UInt8),x.take (lcp x y)=y.take (lcp x y)
 | [],_=>by simp[lcp]
 | _ :: _,[]=>by simp[lcp]
 | a :: x,b :: y=>by
  unfold lcp
  split
  · rename_i h;subst h;simp[lcp_take x y]
  · simp
def one (ahead t:List UInt8):List UInt8:=uv (lcp ahead t)++txt (t.drop (lcp ahead t))
def prefs:List UInt8->List (List UInt8)->List UInt8
 | _,[]=>[]
 | a,t :: ts=>one a t++prefs t ts
theorem prefs_snoc (l:List (List UInt8))(t:List UInt8):∀a,prefs a (l++[t])=prefs a l++one (l.getLastD a) t:=by
 induction l with
 | nil=>intro a;simp[prefs]
 | cons x l ih=>intro a;simp only[List.cons_append,prefs,ih,List.append_assoc,List.getLastD_cons]
def ahd (ts:List (List UInt8))(i:Nat):List UInt8:=(ts.take i).getLastD []
theorem ahd_zero (ts:List (List UInt8)):ahd ts 0=[]:=by simp[ahd]
theorem ahd_succ (ts:List (List UInt8))(i:Nat)(h:i<ts.length):ahd ts (i+1)=ts[i]:=by
 unfold ahd
 rw[List.take_succ_eq_append_getElem h,List.getLastD_concat]
theorem prefs_take (ts:List (List UInt8))(i:Nat)(h:i<ts.length):prefs [] (ts.take (i+1))=prefs [] (ts.take i)++one (ahd ts i) ts[i]:=by
 rw[List.take_succ_eq_append_getElem h,prefs_snoc];rfl
theorem one_len (a t:List UInt8)(ha:a.length<=100)(ht:t.length<=100):(one a t).length<=120:=by
 have h1:=lcp_le a t
 have h2:=uv_ten (n:=lcp a t) (by omega)
 have h3:=txt_len (t.drop (lcp a t)) (by simp;omega)
 simp only[one,List.length_append] at *
 simp at h3
 omega
theorem prefs_len:∀(ts:List (List UInt8)) (a:List UInt8),a.length<=100->(∀t∈ts,t.length<=100)->(prefs a ts).length<=120*ts.length
 | [],a,_,_=>by simp[prefs]
 | t :: ts,a,ha,ht=>by
  have h1:=one_len a t ha (ht t (by simp))
  have h2:=prefs_len ts t (ht t (by simp)) (fun x hx=>ht x (by simp[hx]))
  simp only[prefs,List.length_append,List.length_cons] at *
  omega
end Um
end Go.Proofs.YtoeiahdjamkdgaaGreatDoor
namespace Go.Proofs.YtoeiahdjamkdgaaGreatDoor
namespace Um
def tk (at_ left:Nat):Nat:=min left (8-at_ % 8)
def putN (N at_ n left:Nat):Nat:=N+n % 2 ^ tk at_ left*2 ^ at_
theorem putN_lt {N at_ n left:Nat}(hN:N<2 ^ at_):putN N at_ n left<2 ^ (at_+tk at_ left):=by
 unfold putN
 have h:=Nat.mod_lt n (Nat.two_pow_pos (tk at_ left))
 have h2:(n % 2 ^ tk at_ left+1)*2 ^ at_<=2 ^ tk at_ left*2 ^ at_:=Nat.mul_le_mul_right _ h
 rw[Nat.add_mul] at h2
 rw[Nat.pow_add,Nat.mul_comm (2 ^ at_)]
 omega
theorem putN_at {N at_ n left:Nat}(hN:N<2 ^ at_)(hn:n<2 ^ left):by_ (putN N at_ n left) (at_ / 8)=by_ N (at_ / 8) ||| n*2 ^ (at_ % 8) % 256:=by
 obtain⟨q,hq⟩:∃q,q=at_ / 8:=⟨_,rfl⟩
 obtain⟨h,hh⟩:∃h,h=at_ % 8:=⟨_,rfl⟩
 have ha:at_=8*q+h:=by omega
 have hh8:h<8:=by omega
 obtain⟨t,ht⟩:∃t,t=tk at_ left:=⟨_,rfl⟩
 have ht2:t=min left (8-h):=by rw[ht,tk,hh]
 have hlt:=putN_lt (n:=n) (left:=left) hN
 unfold putN at hlt ⊢
 rw[←ht] at hlt ⊢
 rw[←hq,←hh]
 have hp:=Nat.two_pow_pos (8*q)
 have e1:(N+n % 2 ^ t*2 ^ at_) / 2 ^ (8*q)=N / 2 ^ (8*q)+n % 2 ^ t*2 ^ h:=by
  rw[ha,Nat.pow_add,Nat.mul_comm (2 ^ (8*q)),←Nat.mul_assoc,Nat.add_mul_div_right _ _ hp]
 have hs:N / 2 ^ (8*q)<2 ^ h:=by
  rw[Nat.div_lt_iff_lt_mul hp,Nat.mul_comm,←Nat.pow_add,←ha];exact hN
 have h256:(2:Nat) ^ 8=256:=by decide
 have hle:2 ^ h<=256:=by rw[←h256];exact Nat.pow_le_pow_right (by omega) (by omega)
 have hb:N / 2 ^ (8*q)+n % 2 ^ t*2 ^ h<256:=by
  rw[←e1,Nat.div_lt_iff_lt_mul hp,←h256,←Nat.pow_add]
  exact Nat.lt_of_lt_of_le hlt (Nat.pow_le_pow_right (by omega) (by omega))
 have e2:n*2 ^ h % 256=n % 2 ^ t*2 ^ h:=by
  by_cases hl:left<=8-h
  · have:t=left:=by omega
    rw[this,Nat.mod_eq_of_lt hn] at hb
    rw[this,Nat.mod_eq_of_lt hn]
    exact Nat.mod_eq_of_lt (Nat.lt_of_le_of_lt (Nat.le_add_left _ _) hb)
  · have:t=8-h:=by omega
    rw[this,show 256=2 ^ (8-h)*2 ^ h by rw[←Nat.pow_add,show 8-h+h=8 by omega],Nat.mul_mod_mul_right]
 unfold by_
 rw[e1,e2,Nat.mod_eq_of_lt hb,Nat.mod_eq_of_lt (Nat.lt_of_lt_of_le hs hle),or_above hs]
theorem putN_other {N at_ n left j:Nat}(hN:N<2 ^ at_)(hj:j≠at_ / 8):by_ (putN N at_ n left) j=by_ N j:=by
 have hlt:=putN_lt (n:=n) (left:=left) hN
 have ht:tk at_ left<=8-at_ % 8:=by unfold tk;omega
 unfold by_
 by_cases h:j<at_ / 8
 · unfold putN
   have e:2 ^ at_=2 ^ (at_-8*j-8)*256*2 ^ (8*j):=by
    rw[show (256:Nat)=2 ^ 8 by decide,←Nat.pow_add,←Nat.pow_add];congr 1;omega
   rw[e,←Nat.mul_assoc,Nat.add_mul_div_right _ _ (Nat.two_pow_pos _),←Nat.mul_assoc,Nat.add_mul_mod_self_right]
 · have h1:putN N at_ n left<2 ^ (8*j):=Nat.lt_of_lt_of_le hlt (Nat.pow_le_pow_right (by omega) (by omega))
   have h2:N<2 ^ (8*j):=Nat.lt_of_lt_of_le hN (Nat.pow_le_pow_right (by omega) (by omega))
   rw[Nat.div_eq_of_lt h1,Nat.div_eq_of_lt h2]
theorem low_more (x d t:Nat):x % 2 ^ (d+t)=x % 2 ^ d+x / 2 ^ d % 2 ^ t*2 ^ d:=by
 rw[Nat.pow_add,Nat.mod_mul,Nat.mul_comm (2 ^ d)]
end Um
end Go.Proofs.YtoeiahdjamkdgaaGreatDoor
namespace Go.Proofs.YtoeiahdjamkdgaaGreatDoor
namespace Um
theorem lev_byte (l:List UInt8)(q:Nat)(h:q<l.length):lev l / 2 ^ (8*q) % 256=l[q].toNat:=by
 have h1:=num_get 8 (l.map UInt8.toNat) q (by simpa using h) (fun x hx=>by
  obtain⟨b,_,rfl⟩:=List.mem_map.1 hx
  have:=b.toNat_lt
  simpa using this)
 rw[←lev_num] at h1
 simpa using h1
theorem lev_piece (l:List UInt8)(at_ t:Nat)(hq:at_ / 8<l.length)(ht:at_ % 8+t<=8):l[at_ / 8].toNat / 2 ^ (at_ % 8) % 2 ^ t=lev l / 2 ^ at_ % 2 ^ t:=by
 obtain⟨q,h1⟩:∃q,q=at_ / 8:=⟨_,rfl⟩
 obtain⟨h,h2⟩:∃h,h=at_ % 8:=⟨_,rfl⟩
 have ha:at_=8*q+h:=by omega
 have hb:=lev_byte l q (by omega)
 have hb':l[at_ / 8].toNat=lev l / 2 ^ (8*q) % 256:=by rw[hb];simp only[h1]
 rw[hb',←h2]
 have e:(256:Nat)=2 ^ h*2 ^ (8-h):=by rw[←Nat.pow_add,show h+(8-h)=8 by omega]
 rw[e,Nat.mod_mul_right_div_self,Nat.mod_mod_of_dvd _ (Nat.pow_dvd_pow 2 (by omega)),Nat.div_div_eq_div_mul,←Nat.pow_add,←ha]
end Um
end Go.Proofs.YtoeiahdjamkdgaaGreatDoor
namespace Go.Proofs.YtoeiahdjamkdgaaGreatDoor
namespace Crc
def le:List UInt8->Nat
 | []=>0
 | b :: l=>b.toNat+256*le l
theorem xor_low (k a b:Nat)(h:a<2 ^ k):a ^^^ (2 ^ k*b)=a+2 ^ k*b:=by
 apply Nat.eq_of_testBit_eq
 intro i
 rw[Nat.add_comm,Nat.testBit_two_pow_mul_add b h i,Nat.testBit_xor,Nat.testBit_two_pow_mul]
 by_cases hi:i<k
 · simp[hi,Nat.not_le.2 hi]
 · have h3:a.testBit i=false:=Nat.testBit_lt_two_pow (Nat.lt_of_lt_of_le h (Nat.pow_le_pow_right (by omega) (by omega)))
   simp[hi,Nat.not_lt.1 hi,h3]
theorem st_zero {c:Nat}(h:c<4294967296)(e:st c=0):c=0:=by
 unfold st at e
 split at e
 · have hx : (c / 2 ^^^ 3988292384).testBit 31 = true := by
     rw[Nat.testBit_xor,Nat.testBit_lt_two_pow (show c / 2<2 ^ 31 by omega)]
     decide
   rw[e] at hx
   simp at hx
 · omega
end Crc
end Go.Proofs.YtoeiahdjamkdgaaGreatDoor
