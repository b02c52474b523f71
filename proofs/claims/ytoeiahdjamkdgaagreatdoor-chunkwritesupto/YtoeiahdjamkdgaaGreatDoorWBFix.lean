/-
  wire.Fixed and the reference's Little; wire.ReadFixed and the reference's ReadLittle: what they answer.
  wire.ReadUvarint answers the number that the mathematics names, and its length, or the error that ErrText holds, for every text.
  The reference's Long: bytes behind their length.
  bitrun's isWidth, isCount, eights and fits: what they answer.
  wire.ReadFixed: what it answers.
  bitrun.check: which numbers are right for a width, and where one is not.
-/
import Derived.Test.YtoeiahdjamkdgaaGreatDoorWBBase
import Derived.Laws.MakeOwn
import Derived.RegionTactic
set_option maxRecDepth 100000
set_option maxHeartbeats 1000000
namespace Go.Proofs.YtoeiahdjamkdgaaGreatDoor
open Go.RowKit
structure FRow (n k g:Nat) (w wr:World) (i:Nat):Prop where
 done:∀j,j<i->wr.cell? ⟨g,j,none⟩=some (.int .u8 (Um.by_ n j:Nat))
 any:∀j,j<k->∃v,wr.cell? ⟨g,j,none⟩=some v
 froz:∀j,j<k->wr.frozen? ⟨g,j,none⟩=false
 old:Below w.heap.size w wr
theorem FRow.start (n k:Nat)(w:World)(M:Array Value)(hM:M.size=k):FRow n k w.heap.size w (w.alloc (.cells M 5)) 0:=by
 refine⟨fun j h=>absurd h (Nat.not_lt_zero _),fun j hj=>?_,fun j _=>?_,(Below.refl _ _).alloc (Nat.le_refl _) _⟩
 · rw[cell_of_row _ w.heap.size j M 5 (0,0) (heap_alloc_new w _)]
   exact⟨_,Array.getElem?_eq_getElem (by omega)⟩
 · exact frozen_of_row _ w.heap.size j M 5 (heap_alloc_new w _)
theorem FRow.next {n k g:Nat}{w wr:World}{i:Nat}(h:FRow n k g w wr i)(hg:w.heap.size<=g)(hi:i<k):FRow n k g w (wr.setCell ⟨g,i,none⟩ (.int .u8 (Um.by_ n i:Nat))) (i+1):=by
 obtain⟨v,hv⟩:=h.any i hi
 have hother:∀j,j≠i->(wr.setCell ⟨g,i,none⟩ (.int .u8 (Um.by_ n i:Nat))).cell? ⟨g,j,none⟩=wr.cell? ⟨g,j,none⟩:=fun j hj =>
  World.cell?_setCell_other _ _ _ _ (fun e=>hj (by injection e with _ e;exact e.symm))
 refine⟨fun j hj=>?_,fun j hj=>?_,fun j hj=>by simpa using h.froz j hj,h.old.setCell hg _⟩
 · by_cases e:j=i
   · subst e;exact World.cell?_setCell_same _ _ _ hv
   · rw[hother j e];exact h.done j (by omega)
 · by_cases e:j=i
   · subst e;exact⟨_,World.cell?_setCell_same _ _ _ hv⟩
   · rw[hother j e];exact h.any j hj
theorem FRow.conv {n k g:Nat}{w wr:World}(h:FRow n k g w wr k):(convert 58 9 (.slice (some ⟨g,0,none⟩) k k)).run Tryz.prog wr=.ok (.string ⟨(Um.lit n k).toArray⟩) wr:=by
 have:=run_convert_bytes_back (P:=Tryz.prog) wr 58 9 5 ⟨g,0,none⟩ k (Um.lit n k) Tryz.underlying58 Tryz.underlying5 Tryz.underlying9 (fun j hj=>by
  have e:(⟨g,0,none⟩:Addr).add j=⟨g,j,none⟩:=by unfold Addr.add;split<;>simp_all
  have hj':j<k:=by rw[Um.lit_len] at hj;exact hj
  rw[e,h.done j hj',Um.lit_get n k j hj',Um.bt_nat (Um.by_lt n j)])
 rw[Um.lit_len] at this
 exact this
theorem by_int (n j:Nat):(n:Int) / 2 ^ (8*j) % 256=((Um.by_ n j:Nat):Int):=by unfold Um.by_;simp
theorem fixed_ok (n k:Nat)(w:World)(_hn:n<18446744073709551616)(h1:1<=k)(h8:k<=8)(hf:n / 2 ^ (8*(k-1))<=255) :
    Calls Tryz.prog 64 #[.int .u64 n,.int .i64 k] w fun e w'=>e=.returned (.tuple #[.string ⟨(Um.lit n k).toArray⟩,.nilIface])/\Below w.heap.size w w':=by
 obtain⟨i0,hi,hz0,hz1,hz2⟩:=info_parts Tryz.info5
 obtain⟨M,hM⟩:∃M,M=madeCells (Value.int .u8 0).cells (((k:Nat):Int).toNat*i0.size):=⟨_,rfl⟩
 have hMs:M.size=k:=by rw[hM,size_madeCells,hz1];simp
 have hmk:∀W:World,(Instr.makeSlice 58 (.int .i64 (k:Int)) (.int .i64 (k:Int))).run Tryz.prog W=.ok (.slice (some ⟨W.heap.size,0,none⟩) k k) (W.alloc (.cells M 5)):=fun W=>by
  have h:=run_make (P:=Tryz.prog) W 58 5 i0 (.int .u8 0) Tryz.underlying58 hi hz0 .i64 .i64 (k:Int) (k:Int) (by omega) (by omega) (by rw[hz2];omega) (by omega)
  rw[←hM] at h
  simpa using h
 have HS:Hid (FRow n k w.heap.size w (w.alloc (.cells M 5)) 0):=FRow.start n k w M hMs
 clear hM hMs hi hz0 hz1 hz2
 have hd1:decide (1<=(k:Int))=true:=by simp;omega
 have hd2:decide ((k:Int)<=8)=true:=by simp;omega
 have hd3:decide (255<(n:Int) / 2 ^ (8*(k-1)))=false:=by
  have e:((n / 2 ^ (8*(k-1)):Nat):Int)=(n:Int) / 2 ^ (8*(k-1)):=by simp
  rw[←e]
  generalize n / 2 ^ (8*(k-1))=q at hf
  simp
  omega
 clear hf
 go_enter Tryz.func64,Tryz.ntmps64
 go_wp2
 clear hmk hd1 hd2 hd3
 go_loopw [24] (fun x wr=>∃i:Nat,i<=k/\x=.int .i64 i/\Hid (FRow n k w.heap.size w wr i)) (fun x _=>k-(intOf x).toNat)
 case atStart=>exact⟨0,Nat.zero_le _,rfl,HS⟩
 case round =>
  obtain⟨i,hik,rfl,HR⟩:=hrel
  by_cases hlt:i<k
  · obtain⟨v,hv⟩:=HR.out.any i hlt
    have hfz:=HR.out.froz i hlt
    have hby:=by_int n i
    go_wp2
    go_roundw
    case rel=>exact⟨i+1,by omega,by go_num,HR.out.next (Nat.le_refl _) hlt⟩
    case measure=>simp[intOf];omega
  · obtain rfl:i=k:=by omega
    have hcv:=HR.out.conv
    go_wp2
    go_ret2
    exact⟨rfl,HR.out.old⟩
theorem ret_bool {a b:Bool}(h:a=b):Ending.returned (.bool a)=.returned (.bool b):=by rw[h]
def endsB (i b:Nat):Bool:=!((b == 0 && decide (0<i)) || (i == 9 && decide (1<b)))
theorem ends_nine {i b:Nat}(hi:i<10)(h2:¬ i<9)(_h1:¬ b=0):((b:Int) == 1)=endsB i b:=by
 obtain rfl:i=9:=by omega
 rw[Bool.eq_iff_iff]
 simp[endsB]
 omega
theorem ends_yes {i b:Nat}(h:endsB i b=true):¬ ((b=0/\0<i)\/(i=9/\1<b)):=by
 simp[endsB] at h
 omega
theorem ends_no {i b:Nat}(h:endsB i b=false):(b=0/\0<i)\/(i=9/\1<b):=by
 simp[endsB] at h
 omega
theorem endsWell_any (i b:Nat)(w:World)(hi:i<10) :
    Calls Tryz.prog 146 #[.int .i64 i,.int .u8 b] w fun e w'=>e=.returned (.bool (endsB i b))/\w'=w:=by
 by_cases h0:i=0
 · subst h0
   go_enter Tryz.func146,Tryz.ntmps146
   go_wp2
   go_ret
   exact⟨by simp[endsB],rfl⟩
 · have h0':((i:Int) == 0)=false:=by simp;omega
   by_cases h1:b=0
   · subst h1
     go_enter Tryz.func146,Tryz.ntmps146
     go_wp2
     go_ret
     exact⟨by simp[endsB];omega,rfl⟩
   · have h1':((b:Int) != 0)=true:=by simp;omega
     by_cases h2:i<9
     · have h2':decide ((i:Int)<9)=true:=by simp;omega
       go_enter Tryz.func146,Tryz.ntmps146
       go_wp2
       go_ret
       exact⟨by simp[endsB,h1];omega,rfl⟩
     · have h2':decide ((i:Int)<9)=false:=by simp;omega
       go_enter Tryz.func146,Tryz.ntmps146
       go_wp2
       go_ret
       exact⟨ret_bool (ends_nine hi h2 h1),rfl⟩
theorem and127:∀x:Fin 256,(x.val &&& 127)=x.val % 128:=by decide +kernel
theorem and128:∀x:Fin 256,(x.val &&& 128)=if x.val<128 then 0 else 128:=by decide +kernel
theorem byte_and127 (b:Nat)(h:b<256):bits .and .u8 (b:Int) 127=((b % 128:Nat):Int):=by
 have:=u8_and_nat b 127 h (by omega)
 rw[and127 ⟨b,h⟩] at this
 exact this
theorem byte_lo (b:Nat)(h:b<128):bits .and .u8 (b:Int) 128=0:=by
 have:=u8_and_nat b 128 (by omega) (by omega)
 rw[and128 ⟨b,by omega⟩,if_pos h] at this
 exact this
theorem byte_hi (b:Nat)(h:b<256)(hb:¬ b<128):bits .and .u8 (b:Int) 128=128:=by
 have:=u8_and_nat b 128 h (by omega)
 rw[and128 ⟨b,h⟩,if_neg hb] at this
 exact this
def acc (n b k:Nat):Nat:=n ||| (b % 128*2 ^ (7*k) % 18446744073709551616)
theorem acc_lt {n b k:Nat}(h:n<18446744073709551616):acc n b k<18446744073709551616 :=
 Nat.or_lt_two_pow (n:=64) h (Nat.mod_lt _ (by omega))
theorem acc_eq {n b k:Nat}(h:n<2 ^ (7*k))(hr:b % 128*2 ^ (7*k)<18446744073709551616):acc n b k=n+b % 128*2 ^ (7*k):=by
 unfold acc
 rw[Nat.mod_eq_of_lt hr,Nat.or_comm,Nat.mul_comm,←Nat.two_pow_add_eq_or_of_lt h,Nat.add_comm]
theorem acc_room {b k:Nat}(hk:k<9):b % 128*2 ^ (7*k)<18446744073709551616 :=
 Nat.lt_of_le_of_lt (Nat.mul_le_mul (show b % 128<=127 by omega) (Nat.pow_le_pow_right (by omega) (show 7*k<=56 by omega))) (by decide)
theorem acc_bits {n b k:Nat}(h:n<18446744073709551616):bits .or .u64 (n:Int) (IntKind.u64.wrap ((b:Int) % 128*2 ^ (7*k)))=((acc n b k:Nat):Int):=by
 have e:IntKind.u64.wrap ((b:Int) % 128*2 ^ (7*k))=((b % 128*2 ^ (7*k) % 18446744073709551616:Nat):Int):=by
  have e1:((b % 128*2 ^ (7*k):Nat):Int)=(b:Int) % 128*2 ^ (7*k):=by simp
  rw[←e1]
  simp only[IntKind.wrap,IntKind.bits,IntKind.signed]
  generalize b % 128*2 ^ (7*k)=q
  simp
 rw[e]
 exact u64_or_nat n _ h (Nat.mod_lt _ (by omega))
def errOf (ev:Value)(k:Nat):Value:=if k=0 then ev else .nilIface
theorem drop_cons (s:ByteArray)(k:Nat)(h:k<s.size):s.data.toList.drop k=s[k] :: s.data.toList.drop (k+1):=by
 rw[List.drop_eq_getElem_cons (by simpa using h)];rfl
theorem rd_none {r:Nat × Nat}{ev:Value}(h:r=(0,0)):Ending.returned (.tuple #[.int .u64 0,.int .i64 0,ev])=.returned (.tuple #[.int .u64 r.1,.int .i64 r.2,errOf ev r.2]):=by rw[h];rfl
theorem rd_some {r:Nat × Nat}{ev:Value}{a k:Nat}{x:Int}(hx:x=(k:Int)+1)(h:r=(a,k+1)):Ending.returned (.tuple #[.int .u64 a,.int .i64 x,.nilIface])=.returned (.tuple #[.int .u64 r.1,.int .i64 r.2,errOf ev r.2]):=by
 rw[h,hx];rfl
theorem acc_next {n b k:Nat}(h:n<2 ^ (7*k)):n+b % 128*2 ^ (7*k)<2 ^ (7*(k+1)):=by
 have e:2 ^ (7*(k+1))=128*2 ^ (7*k):=by rw[show 7*(k+1)=7+7*k by omega,Nat.pow_add]
 have h8:(b % 128+1)*2 ^ (7*k)<=128*2 ^ (7*k):=Nat.mul_le_mul_right _ (by omega)
 rw[Nat.add_mul] at h8
 omega
theorem acc_last {n b k:Nat}(hk:k<10)(hb:b<128)(h:n<2 ^ (7*k))(he:endsB k b=true):acc n b k=n+b*2 ^ (7*k):=by
 have hw:=ends_yes he
 have hm:b % 128=b:=by omega
 by_cases h9:k=9
 · subst h9
   rw[acc_eq h ?_,hm]
   rw[hm]
   exact Nat.lt_of_le_of_lt (Nat.mul_le_mul_right _ (show b<=1 by omega)) (by decide)
 · rw[acc_eq h (acc_room (by omega)),hm]
theorem readUvarint_any (s:ByteArray)(w:World)(ev:Value)(hs:s.size<=maxLen)(hg:w.cell? ⟨2,0,none⟩=some ev) :
    Calls Tryz.prog 118 #[.string s] w fun e w'=>e=.returned (.tuple #[.int .u64 (Um.rdv s.data.toList 0 0).1,.int .i64 (Um.rdv s.data.toList 0 0).2,errOf ev (Um.rdv s.data.toList 0 0).2])/\Below w.heap.size w w':=by
 unfold maxLen at hs
 go_enter Tryz.func118,Tryz.ntmps118
 go_wp2
 go_loop [2,5] (fun x i=>∃(k n m:Nat),k<=10/\i=.int .i64 k/\x=.int .u64 n/\n<18446744073709551616/\k<=s.size/\Hid (k<=9->n=m/\n<2 ^ (7*k))/\Hid (Um.rdv s.data.toList 0 0=Um.rdv (s.data.toList.drop k) k m)) (fun _ i=>10-(intOf i).toNat)
 case atStart=>exact⟨0,0,0,by omega,rfl,rfl,by omega,by omega,fun _=>⟨rfl,by simp⟩,rfl⟩
 case round =>
  obtain⟨k,n,m,hk,rfl,rfl,hn,hks,hm,hr⟩:=hrel
  by_cases hlt:k<s.size
  · have hlt':decide ((k:Int)<(s.size:Int))=true:=by simp;omega
    by_cases hk10:k<10
    · have hk10':decide ((k:Int)<10)=true:=by simp;omega
      have hb8:s[k].toNat<256:=s[k].toNat_lt
      have ha:=byte_and127 _ hb8
      have hac:=acc_bits (b:=s[k].toNat) (k:=k) hn
      have hal:=acc_lt (b:=s[k].toNat) (k:=k) hn
      obtain⟨rfl,hn7⟩:=hm.out (by omega)
      have HN:Hid (n<2 ^ (7*k)):=hn7
      have HR:Hid (Um.rdv s.data.toList 0 0=Um.rdv (s[k] :: s.data.toList.drop (k+1)) k n):=by
       show _=_
       rw[hr.out,drop_cons s k hlt]
      clear hn7 hm hr
      by_cases hb:s[k].toNat<128
      · have ha2:=byte_lo _ hb
        cases he:endsB k s[k].toNat
        · have HE : Hid (Um.rdv s.data.toList 0 0 = (0, 0)) := by
            show _=_
            rw[HR.out,Um.rdv_bad hb (ends_no he)]
          go_wp2_with (go_at_call 146;refine (endsWell_any _ _ _ hk10).mono ?_;rw[he];rintro e w' ⟨rfl,rfl⟩)
          go_region
          all_goals (try go_wp2)
          all_goals go_ret3
          all_goals exact⟨rd_none HE.out,(Below.refl _ _).drew⟩
        · have HE : Hid (Um.rdv s.data.toList 0 0 = (n + s[k].toNat * 2 ^ (7 * k), k + 1)) := by
            show _=_
            rw[HR.out,Um.rdv_end hk10 hb (ends_yes he)]
          go_wp2_with (go_at_call 146;refine (endsWell_any _ _ _ hk10).mono ?_;rw[he];rintro e w' ⟨rfl,rfl⟩)
          go_ret3
          exact⟨by rw[acc_last hk10 hb HN.out he];exact rd_some rfl HE.out,Below.refl _ _⟩
      · have ha2:=byte_hi _ hb8 hb
        go_wp2_with fail
        go_round
        case rel=>exact⟨k+1,acc n s[k].toNat k,n+s[k].toNat % 128*2 ^ (7*k),by omega,by go_num,rfl,hal,by omega,fun h9=>⟨acc_eq HN.out (acc_room (by omega)),by rw[acc_eq HN.out (acc_room (by omega))];exact acc_next HN.out⟩,by show _=_;rw[HR.out,Um.rdv_more hk10 hb]⟩
        case measure=>simp[intOf];omega
    · have hk10':decide ((k:Int)<10)=false:=by simp;omega
      have HE:Hid (Um.rdv s.data.toList 0 0=(0,0)):=by
       show _=_
       rw[hr.out,Um.rdv_ten _ _ (by omega)]
      go_wp2
      go_region
      all_goals (try go_wp2)
      all_goals go_ret3
      all_goals exact⟨rd_none HE.out,(Below.refl _ _).drew⟩
  · have hlt':decide ((k:Int)<(s.size:Int))=false:=by simp;omega
    have HE:Hid (Um.rdv s.data.toList 0 0=(0,0)):=by
     show _=_
     rw[hr.out,List.drop_of_length_le (by simp;omega)];rfl
    go_wp2
    go_region
    all_goals (try go_wp2)
    all_goals go_ret3
    all_goals exact⟨rd_none HE.out,(Below.refl _ _).drew⟩
theorem long_any (s:ByteArray)(w:World)(hs:s.size<=140737488351232) :
    Calls Tryz.prog 43 #[.string s] w fun e w'=>e=.returned (.string (⟨(Um.uv s.size).toArray⟩++s))/\Below w.heap.size w w':=by
 have hl:=Um.uv_ten (n:=s.size) (by omega)
 go_enter Tryz.func43,Tryz.ntmps43
 go_wp2_with fail
 refine (seven_any s.size _ (by omega)).mono ?_
 rintro e w1 ⟨rfl,hb1⟩
 go_wp2
 go_ret
 exact⟨rfl,hb1⟩
theorem retb {a b:Bool}(h:a=b):Ending.returned (.bool a)=.returned (.bool b):=by rw[h]
theorem isWidth_any (k:Int)(w:World):Calls Tryz.prog 129 #[.int .i64 k] w fun e w'=>e=.returned (.bool (decide (0<=k/\k<=32)))/\w'=w:=by
 have hcase:decide (0<=k)=false\/(decide (0<=k)=true/\decide (k<=32)=false)\/(decide (0<=k)=true/\decide (k<=32)=true):=by
  by_cases h:0<=k<;>by_cases h':k<=32<;>simp[h,h']
 rcases hcase with h|⟨h,h'⟩|⟨h,h'⟩
 all_goals
  go_enter Tryz.func129,Tryz.ntmps129
  go_wp2
  all_goals go_ret
  all_goals exact⟨retb (by simp at *;omega),rfl⟩
theorem isCount_any (k:Int)(w:World):Calls Tryz.prog 130 #[.int .i64 k] w fun e w'=>e=.returned (.bool (decide (0<=k/\k<=20000)))/\w'=w:=by
 have hcase:decide (0<=k)=false\/(decide (0<=k)=true/\decide (k<=20000)=false)\/(decide (0<=k)=true/\decide (k<=20000)=true):=by
  by_cases h:0<=k<;>by_cases h':k<=20000<;>simp[h,h']
 rcases hcase with h|⟨h,h'⟩|⟨h,h'⟩
 all_goals
  go_enter Tryz.func130,Tryz.ntmps130
  go_wp2
  all_goals go_ret
  all_goals exact⟨retb (by simp at *;omega),rfl⟩
theorem eights_any (k:Nat)(w:World)(hk:k<9000000000000000000):Calls Tryz.prog 96 #[.int .i64 k] w fun e w'=>e=.returned (.int .i64 ((k+7) / 8:Nat))/\w'=w:=by
 go_enter Tryz.func96,Tryz.ntmps96
 go_wp2
 go_ret
 exact⟨by go_num,rfl⟩
theorem fits_iff (n:Int)(k:Nat)(h0:-9223372036854775808<=n)(h1:n<=9223372036854775807)(hk:k<=32):(n % 18446744073709551616 / 2 ^ k=0) ↔ (0<=n/\n<2 ^ k):=by
 have hp:(0:Int)<2 ^ k:=Int.pow_pos (by omega)
 have hp2:(2:Int) ^ k<=4294967296:=by
  have h:=Nat.pow_le_pow_right (n:=2) (by omega) hk
  have e:((2 ^ k:Nat):Int)=(2:Int) ^ k:=by simp
  have h32:(2:Nat) ^ 32=4294967296:=by decide
  rw[←e]
  omega
 generalize (2:Int) ^ k=p at hp hp2
 have hm:0<=n % 18446744073709551616:=Int.emod_nonneg _ (by omega)
 have hz:n % 18446744073709551616 / p=0 ↔ n % 18446744073709551616<p:=by
  have hd:=Int.emod_add_mul_ediv (n % 18446744073709551616) p
  have hl:=Int.emod_lt_of_pos (n % 18446744073709551616) hp
  have hn:=Int.emod_nonneg (n % 18446744073709551616) (show p≠0 by omega)
  constructor
  · intro h
    rw[h,Int.mul_zero] at hd
    omega
  · intro h
    exact Int.ediv_eq_zero_of_lt hm h
 rw[hz]
 omega
theorem fits_any (n:Int)(k:Nat)(w:World)(h0:-9223372036854775808<=n)(h1:n<=9223372036854775807)(hk:k<=32) :
    Calls Tryz.prog 131 #[.int .i64 n,.int .i64 k] w fun e w'=>e=.returned (.bool (decide (0<=n/\n<2 ^ k)))/\w'=w:=by
 have hf:=fits_iff n k h0 h1 hk
 go_enter Tryz.func131,Tryz.ntmps131
 go_wp2
 go_ret
 refine⟨retb ?_,rfl⟩
 rw[IntKind.wrap_u64,Bool.eq_iff_iff,decide_eq_true_iff,beq_iff_eq]
 exact hf
theorem readFixed_short (s:ByteArray)(k:Nat)(w:World)(ev:Value)(hg:w.cell? ⟨2,0,none⟩=some ev)(h1:1<=k)(h8:k<=8)(hs:s.size<k) :
    Calls Tryz.prog 119 #[.string s,.int .i64 k] w fun e w'=>e=.returned (.tuple #[.int .u64 0,ev])/\Below w.heap.size w w':=by
 have hd1:decide (1<=(k:Int))=true:=by simp;omega
 have hd2:decide ((k:Int)<=8)=true:=by simp;omega
 have hd3:decide ((s.size:Int)<(k:Int))=true:=by simp;omega
 go_enter Tryz.func119,Tryz.ntmps119
 go_wp2
 go_region
 all_goals (try go_wp2)
 all_goals go_ret2
 all_goals exact⟨rfl,(Below.refl _ _).drew⟩
theorem take_snoc8 (s:ByteArray)(k:Nat)(h:k<s.size):s.data.toList.take (k+1)=s.data.toList.take k++[s[k]]:=by
 rw[List.take_succ_eq_append_getElem (by simpa using h)];rfl
theorem or_bits {n b i:Nat}(hi:i<8)(hb:b<256)(hn:n<2 ^ (8*i))(hn2:n<18446744073709551616):bits .or .u64 (n:Int) (IntKind.u64.wrap ((b:Int)*2 ^ (8*i)))=((n+b*2 ^ (8*i):Nat):Int):=by
 have hr:=Um.high_lt hb hi
 have e:IntKind.u64.wrap ((b:Int)*2 ^ (8*i))=((b*2 ^ (8*i):Nat):Int):=by
  have e1:((b*2 ^ (8*i):Nat):Int)=(b:Int)*2 ^ (8*i):=by simp
  rw[←e1]
  generalize b*2 ^ (8*i)=q at hr
  simp only[IntKind.wrap,IntKind.bits,IntKind.signed]
  simp
  omega
 rw[e,u64_or_nat n _ hn2 hr,Um.or_high hn]
theorem readFixed_ok (s:ByteArray)(k:Nat)(w:World)(h1:1<=k)(h8:k<=8)(hs:k<=s.size)(hm:s.size<=1000000) :
    Calls Tryz.prog 119 #[.string s,.int .i64 k] w fun e w'=>e=.returned (.tuple #[.int .u64 (Um.lev (s.data.toList.take k)),.nilIface])/\w'=w:=by
 have hd1:decide (1<=(k:Int))=true:=by simp;omega
 have hd2:decide ((k:Int)<=8)=true:=by simp;omega
 have hd3:decide ((s.size:Int)<(k:Int))=false:=by simp;omega
 go_enter Tryz.func119,Tryz.ntmps119
 go_wp2
 go_loop [6,18] (fun x c=>∃(i n:Nat),i<=k/\c=.int .i64 i/\x=.int .u64 n/\n<18446744073709551616/\Hid (n=Um.lev (s.data.toList.take i))) (fun _ c=>k-(intOf c).toNat)
 case atStart=>exact⟨0,0,Nat.zero_le _,rfl,rfl,by omega,rfl⟩
 case round =>
  obtain⟨i,n,hik,rfl,rfl,hn,HN⟩:=hrel
  by_cases hlt:i<k
  · have hlt2:i<s.size:=by omega
    have hb8:s[i].toNat<256:=s[i].toNat_lt
    have hlen:(s.data.toList.take i).length=i:=by simp;omega
    have hn2:n<2 ^ (8*i):=by have:=Um.lev_lt (s.data.toList.take i);rw[hlen,←HN.out] at this;exact this
    have hor:=or_bits (b:=s[i].toNat) (show i<8 by omega) hb8 hn2 hn
    have HX:Hid (n+s[i].toNat*2 ^ (8*i)=Um.lev (s.data.toList.take (i+1))):=by
     show _=_
     rw[take_snoc8 s i hlt2,Um.lev_snoc,hlen,HN.out]
    have hx2:n+s[i].toNat*2 ^ (8*i)<18446744073709551616:=by
     rw[HX.out];exact Um.lev_eight (by simp;omega)
    generalize n+s[i].toNat*2 ^ (8*i)=q at *
    clear hn2 hlen
    go_wp2
    go_round
    case rel=>exact⟨i+1,q,by omega,by go_num,rfl,hx2,HX⟩
    case measure=>simp[intOf];omega
  · obtain rfl:i=k:=by omega
    go_wp2
    go_ret2
    exact⟨by rw[←HN.out];rfl,rfl⟩
def Room (k:Nat)(n:Int):Prop:=0<=n/\n<2 ^ k
theorem check_any (a:Option Addr)(xs:List Int)(c k:Nat)(w:World)(st:TypeId)(sp:Value)(hn:xs.length<=20000)(hk:k<=32)(hg:w.cell? ⟨0,0,none⟩=some (.iface st sp))
    (hx:∀j (h:j<xs.length),-9223372036854775808<=xs[j]/\xs[j]<=9223372036854775807)
    (ha:∀j (h:j<xs.length),∃b o,a=some ⟨b,o,none⟩/\w.cell? ⟨b,o+j,none⟩=some (.int .i64 xs[j])) :
    Calls Tryz.prog 94 #[.slice a xs.length c,.int .i64 k] w fun e w' =>
     ((e=.returned .nilIface/\∀j (h:j<xs.length),Room k xs[j]) ∨
      (∃i p,∃hi:i<xs.length,e=.returned (.iface 83 (.pointer (some ⟨p,0,none⟩)))/\(∀j (h:j<xs.length),j<i->Room k xs[j])/\¬ Room k xs[i]/\w'.cell? ⟨p,0,none⟩=some (.int .i64 i)/\w'.cell? ⟨p,1,none⟩=some (.iface st sp)))/\Below w.heap.size w w':=by
 have hd1:decide (0<=(k:Int)/\(k:Int)<=32)=true:=by simp;omega
 have hd2:decide (0<=(xs.length:Int)/\(xs.length:Int)<=20000)=true:=by simp;omega
 have HX:Hid (∀j (h:j<xs.length),-9223372036854775808<=xs[j]/\xs[j]<=9223372036854775807):=hx
 have HA:Hid (∀j (h:j<xs.length),∃b o,a=some ⟨b,o,none⟩/\w.cell? ⟨b,o+j,none⟩=some (.int .i64 xs[j])):=ha
 clear hx ha
 go_enter Tryz.func94,Tryz.ntmps94
 go_wp2_with (first|(go_at_call 129;refine (isWidth_any _ _).mono ?_;rw[hd1];rintro e w1 ⟨rfl,hw⟩;obtain rfl:=hw.symm)|(go_at_call 130;refine (isCount_any _ _).mono ?_;rw[hd2];rintro e w1 ⟨rfl,hw⟩;obtain rfl:=hw.symm))
 go_loopw [19] (fun x wr=>∃i:Nat,i<=xs.length/\x=.int .i64 i/\wr=w/\Hid (∀j (h:j<xs.length),j<i->Room k xs[j])) (fun x _=>xs.length-(intOf x).toNat)
 case atStart=>exact⟨0,Nat.zero_le _,rfl,rfl,fun j _ h=>absurd h (Nat.not_lt_zero _)⟩
 case round =>
  obtain⟨i,hi,rfl,hwr,HP⟩:=hrel
  obtain rfl:=hwr.symm
  by_cases hlt:i<xs.length
  · obtain⟨b,o,rfl,hc⟩:=HA.out i hlt
    have hr:=HX.out i hlt
    by_cases hf:Room k xs[i]
    · have HF:Hid (Room k xs[i]):=hf
      have hd:decide (0<=xs[i]/\xs[i]<2 ^ k)=true:=decide_eq_true hf
      clear hf
      go_wp2_with (go_at_call 131;refine (fits_any _ _ _ hr.1 hr.2 hk).mono ?_;rw[hd];rintro e w1 ⟨rfl,hw⟩;obtain rfl:=hw.symm)
      go_roundw
      case rel=>exact⟨i+1,by omega,by go_num,trivial,fun j h hj=>if e:j=i then (by subst e;exact HF.out) else HP.out j h (by omega)⟩
      case measure=>simp[intOf];omega
    · have HF:Hid (¬ Room k xs[i]):=hf
      have hd:decide (0<=xs[i]/\xs[i]<2 ^ k)=false:=decide_eq_false hf
      clear hf
      go_wp2_with (go_at_call 131;refine (fits_any _ _ _ hr.1 hr.2 hk).mono ?_;rw[hd];rintro e w1 ⟨rfl,hw⟩;obtain rfl:=hw.symm)
      go_ret
      refine⟨Or.inr ⟨i,w.heap.size,hlt,rfl,HP.out,HF.out,?_,?_⟩,(Below.refl _ _).alloc (Nat.le_refl _) _⟩
      · rw[cell_of_row _ w.heap.size 0 _ 87 (0,0) (heap_alloc_new w _)];rfl
      · rw[cell_of_row _ w.heap.size 1 _ 87 (0,0) (heap_alloc_new w _)];rfl
  · go_wp2
    go_ret
    exact⟨Or.inl ⟨rfl,fun j h=>HP.out j h (by omega)⟩,Below.refl _ _⟩
end Go.Proofs.YtoeiahdjamkdgaaGreatDoor
